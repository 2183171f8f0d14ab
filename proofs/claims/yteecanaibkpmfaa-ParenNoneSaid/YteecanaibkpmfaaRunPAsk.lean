/-
  THE LANDED PACKAGE paren: closing, beginning, enclosing.
-/
import Derived.Test.YteecanaibkpmfaaRunPTold
import Derived.Handy
namespace Go.Proofs.Yteecanaibkpmfaa
open Go.RowKit

theorem as_row (v : Value) (w : World) : (Instr.typeAssert (.iface 48 v) 82 48 false).run Try.prog w = .ok v w := by kernel_rfl
set_option maxHeartbeats 1000000 in
set_option maxRecDepth 100000 in
theorem rrow_any (p q P cap : Nat) (ba : Addr) (bv : Value) (hbv : bv = .pointer (some ba)) (w : World) (h0 : w.cell? ⟨p, 0, none⟩ = some (.slice (some ⟨q, 0, none⟩) P cap)) (h1 : w.cell? ⟨q, 0, none⟩ = some (.iface 48 (.agg #[bv]))) (hP : 1 ≤ P) :
    Calls Try.prog 43 #[.pointer (some ⟨p, 0, none⟩)] w fun e w' => e = .returned (.agg #[bv]) ∧ Below w.heap.size w w' := by
  subst hbv
  have hpb := World.block_lt_of_cell? w _ h0
  have hqb := World.block_lt_of_cell? w _ h1
  have HB := Lib.hid (fun c t => (Below.refl w.heap.size w).alloc (Nat.le_refl _) (.cells c t))
  have H0 := Lib.hid (fun c t => ((HB.out c t).cell (p := ⟨p, 0, none⟩) hpb).trans h0)
  have H1 := Lib.hid (fun c t => ((HB.out c t).cell (p := ⟨q, 0, none⟩) hqb).trans h1)
  have a1 := fun (w : World) => as_row (.agg #[.pointer (some ba)]) w
  go_enter Try.func43, Try.ntmps43
  go_wp2
  go_returns
  exact ⟨rfl, HB.out _ _⟩
theorem Mid.bits {B T p q P cap st sb s : Nat} {bv : Value} {bl : Nat → Nat} {xs : List Bool} {w : World} (h : Mid B T p q P cap st sb bv bl xs s w) : ∃ a, bv = .pointer (some a) := kept_ptr _ _ _ _ h.inp.kept.kept
section
variable {B T p q P cap st sb s : Nat} {bv : Value} {bl : Nat → Nat} {xs : List Bool}
theorem Mid.rowV {w : World} (h : Mid B T p q P cap st sb bv bl xs s w) : Calls Try.prog 43 #[.pointer (some ⟨p, 0, none⟩)] w fun e w' => e = .returned (.agg #[bv]) ∧ Below w.heap.size w w' := by
  obtain ⟨a, ha⟩ := h.bits
  exact rrow_any p q P cap a bv ha w h.parts h.row h.inp.top.one
theorem Mid.isAt {w : World} (h : Mid B T p q P cap st sb bv bl xs s w) (k : Int) (b : Bool) (hs : s ≤ 500000) (hk64 : In64 k) :
    Calls Try.prog 56 #[.agg #[bv], .int .i64 k, .bool b, .pointer (some ⟨sb, 0, none⟩)] w fun e w' => e = .returned (.bool (isB xs k b)) ∧ ∃ d, d ≤ 1 ∧ Went sb (s + d) w w' :=
  rpis_any B p sb s bv xs k b w h.inp.len hk64 (by omega) h.pT h.pW h.inp.kept h.sr
theorem Mid.excAt {w : World} (h : Mid B T p q P cap st sb bv bl xs s w) (k : Nat) (hs : s ≤ 500000) (hk : k ≤ xs.length) :
    Calls Try.prog 45 #[.agg #[bv], .int .i64 k, .pointer (some ⟨sb, 0, none⟩)] w fun e w' => e = .returned (.int .i64 (exc xs k)) ∧ ∃ d, d ≤ 3 ∧ Went sb (s + d) w w' :=
  rpexc_any B p sb s bv xs k w h.inp.len hk (by omega) h.pT h.pW h.inp.kept h.sr
set_option maxHeartbeats 2000000 in
set_option maxRecDepth 100000 in
theorem rclosing_any (k : Int) (w : World) (hs : s ≤ 90000) (hk64 : In64 k) (h : Mid B T p q P cap st sb bv bl xs s w) :
    Calls Try.prog 40 #[.pointer (some ⟨p, 0, none⟩), .int .i64 k, .pointer (some ⟨sb, 0, none⟩)] w fun o w' =>
      o = .returned (.int .i64 (closeL xs k)) ∧ ∃ d, d ≤ aftN xs.length + 4 ∧ Went sb (s + d) w w' := by
  have H0 := Lib.hid h
  have HK := Lib.hid hk64
  obtain ⟨ba, rfl⟩ := h.bits
  clear h hk64
  go_enter Try.func40, Try.ntmps40
  go_wp2_with fail
  refine H0.out.rowV.mono ?_
  rintro o w1 ⟨rfl, hb1⟩
  have hsb1 : w1.heap.size ≠ sb := by have := (H0.out.other hb1).sr.lt; omega
  have HBX := Lib.hid (new_box w1 (.pointer (some ba)) 48)
  have HB2 := Lib.hid (hb1.alloc hb1.size (.cells #[.pointer (some ba)] 48))
  have hc1 : (w1.alloc (.cells #[.pointer (some ba)] 48)).cell? ⟨w1.heap.size, 0, none⟩ = some (.pointer (some ba)) := HBX.out.cell (i := 0) Nat.one_pos
  have HM2 := Lib.hid (H0.out.other HB2.out)
  have HW2 := Lib.hid (Went.stay H0.out.sr HB2.out)
  clear hb1
  go_wp2_with fail
  refine (HM2.out.isAt k true (by omega) HK.out).mono ?_
  rintro o w3 ⟨rfl, d1, hd1, hw3⟩
  have hc3 := hw3.box HBX.out hsb1
  have HW3 := Lib.hid (HW2.out.trans hw3)
  have HM3 := Lib.hid (HM2.out.went hw3)
  have HD1 := Lib.hid hd1
  obtain ⟨u, hu⟩ : ∃ u, isB xs k true = u := ⟨_, rfl⟩
  have HU := Lib.hid hu
  rw [hu]
  clear hw3 hu hd1
  cases u
  · go_wp2
    go_ret
    refine ⟨by rw [show closeL xs k = -1 from by unfold closeL; rw [← isB_open, HU.out]; rfl]; rfl, d1, by have := HD1.out; omega, HW3.out⟩
  · obtain ⟨j, rfl, hj, hb⟩ := isB_at HU.out
    have HJ := Lib.hid hj
    have HB := Lib.hid hb
    have hd1 := HD1.out
    clear hj hb
    go_wp2_with fail
    refine (HM3.out.excAt j (by omega) (by have := HJ.out; omega)).mono ?_
    rintro o w4 ⟨rfl, d2, hd2, hw4⟩
    have HW4 := Lib.hid (HW3.out.trans hw4)
    have HM4 := Lib.hid (HM3.out.went hw4)
    clear hw4 hc3
    go_wp2_with fail
    refine (rafter_any j (exc xs j) w4 (s := s + d1 + d2) (by omega) HJ.out HM4.out).mono ?_
    rintro o w5 ⟨r, rfl, hr, d3, hd3, hw5⟩
    go_wp2
    go_ret
    refine ⟨by rw [← told_close H0.out.inp.may HJ.out HB.out hr]; rfl, d1 + d2 + d3, by omega, ?_⟩
    rw [show s + (d1 + d2 + d3) = s + d1 + d2 + d3 by omega]
    exact HW4.out.trans hw5
set_option maxHeartbeats 2000000 in
set_option maxRecDepth 100000 in
theorem rbeginning_any (k : Int) (w : World) (hs : s ≤ 90000) (hk64 : In64 k) (h : Mid B T p q P cap st sb bv bl xs s w) :
    Calls Try.prog 42 #[.pointer (some ⟨p, 0, none⟩), .int .i64 k, .pointer (some ⟨sb, 0, none⟩)] w fun o w' =>
      o = .returned (.int .i64 (beginL xs k)) ∧ ∃ d, d ≤ aftN xs.length + 4 ∧ Went sb (s + d) w w' := by
  have H0 := Lib.hid h
  have HK := Lib.hid hk64
  have hxl := h.inp.len
  obtain ⟨ba, rfl⟩ := h.bits
  clear h hk64
  go_enter Try.func42, Try.ntmps42
  go_wp2_with fail
  refine H0.out.rowV.mono ?_
  rintro o w1 ⟨rfl, hb1⟩
  have hsb1 : w1.heap.size ≠ sb := by have := (H0.out.other hb1).sr.lt; omega
  have HBX := Lib.hid (new_box w1 (.pointer (some ba)) 48)
  have HB2 := Lib.hid (hb1.alloc hb1.size (.cells #[.pointer (some ba)] 48))
  have hc1 : (w1.alloc (.cells #[.pointer (some ba)] 48)).cell? ⟨w1.heap.size, 0, none⟩ = some (.pointer (some ba)) := HBX.out.cell (i := 0) Nat.one_pos
  have HM2 := Lib.hid (H0.out.other HB2.out)
  have HW2 := Lib.hid (Went.stay H0.out.sr HB2.out)
  clear hb1
  go_wp2_with fail
  refine (HM2.out.isAt k false (by omega) HK.out).mono ?_
  rintro o w3 ⟨rfl, d1, hd1, hw3⟩
  have hc3 := hw3.box HBX.out hsb1
  have HW3 := Lib.hid (HW2.out.trans hw3)
  have HM3 := Lib.hid (HM2.out.went hw3)
  have HD1 := Lib.hid hd1
  obtain ⟨u, hu⟩ : ∃ u, isB xs k false = u := ⟨_, rfl⟩
  have HU := Lib.hid hu
  rw [hu]
  clear hw3 hu hd1
  cases u
  · go_wp2
    go_ret
    refine ⟨by rw [show beginL xs k = -1 from by unfold beginL; rw [← isB_shut, HU.out]; rfl]; rfl, d1, by have := HD1.out; omega, HW3.out⟩
  · obtain ⟨j, rfl, hj, hb⟩ := isB_at HU.out
    have HB := Lib.hid hb
    have hd1 := HD1.out
    obtain ⟨j1, hj1⟩ : ∃ j1, j + 1 = j1 := ⟨_, rfl⟩
    have ej : (j : Int) + 1 = (j1 : Int) := by omega
    have HJ1 := Lib.hid hj1
    clear hb hj1
    go_wp2_with fail
    refine (HM3.out.excAt j1 (by omega) (by have := HJ1.out; omega)).mono ?_
    rintro o w4 ⟨rfl, d2, hd2, hw4⟩
    have HW4 := Lib.hid (HW3.out.trans hw4)
    have HM4 := Lib.hid (HM3.out.went hw4)
    clear hw4 hc3
    go_wp2_with fail
    refine (rbefore_any j (exc xs j1) w4 (s := s + d1 + d2) (by omega) hj HM4.out).mono ?_
    rintro o w5 ⟨r, rfl, hr, d3, hd3, hw5⟩
    have hto := told_begin (r := r) H0.out.inp.may hj HB.out (by rw [HJ1.out]; exact hr)
    have hrb : -1 ≤ r ∧ r ≤ 4194304 := by
      rcases hr with ⟨x, rfl, hx, _⟩ | ⟨rfl, _⟩ <;> omega
    have HTO := Lib.hid hto
    have HW5 := Lib.hid (HW4.out.trans hw5)
    clear hr hto hw5
    go_wp2
    go_ret
    refine ⟨by rw [← HTO.out]; first | rfl | go_num, d1 + d2 + d3, by omega, ?_⟩
    rw [show s + (d1 + d2 + d3) = s + d1 + d2 + d3 by omega]
    exact HW5.out
end
end Go.Proofs.Yteecanaibkpmfaa
