/-
  THE LANDED PACKAGE paren: what its searches find is what closes, begins, encloses; the bound on steps.
  THE LANDED PACKAGE paren: closing, beginning, enclosing.
  THE LANDED PACKAGE paren: enclosing.
  THE LANDED PACKAGE paren: its questions.
  THE LANDED PACKAGE paren: Excess, Span, Steps; what nil tells.
-/
import Derived.Test.YteecanaibkpmfaaRunPBefore
import Derived.Test.YteecanaibkpmfaaParBal
import Derived.Test.YteecanaibkpmfaaParSaid
import Derived.Handy
import Derived.Test.YteecanaibkpmfaaRunBitC
namespace Go.Proofs.Yteecanaibkpmfaa

theorem told_close {xs : List Bool} (hm : mayL xs = true) {k : Nat} (hk : k < xs.length) (hb : xs.getD k false = true) {r : Int} (h : AftPost xs k (exc xs k) r) : r = closeL xs (k : Int) := by
  obtain ⟨c, g1, g2, g3, g4, g5, _⟩ := close_spec hm k hk hb
  rw [g3]
  rcases h with ⟨j, rfl, h1, h2, h3, h4⟩ | ⟨_, h4⟩
  · by_cases e1 : c < j
    · have := h4 c (by omega) e1 g2
      omega
    · by_cases e2 : j < c
      · have := g5 (j + 1) (by omega) (by omega)
        omega
      · omega
  · have := h4 c (by omega) g2 g2
    omega
theorem bef_is {xs : List Bool} {k b : Nat} {e : Int} (hk : k ≤ xs.length) (hbk : b ≤ k) (hb : exc xs b = e) (hx : ∀ x, b < x → x ≤ k → e < exc xs x) {r : Int} (h : BefPost xs k e r) : r + 1 = (b : Int) := by
  rcases h with ⟨j, rfl, h1, h2, h3⟩ | ⟨rfl, h3⟩
  · by_cases e1 : b < j + 1
    · have := hx (j + 1) e1 (by omega)
      omega
    · by_cases e2 : j + 1 < b
      · have := h3 (b - 1) (by omega) (by omega) (by omega)
        rw [show b - 1 + 1 = b by omega] at this
        omega
      · omega
  · by_cases e1 : b = 0
    · omega
    · have := h3 (b - 1) (by omega) (by omega) (by omega)
      rw [show b - 1 + 1 = b by omega] at this
      omega
theorem told_begin {xs : List Bool} (hm : mayL xs = true) {k : Nat} (hk : k < xs.length) (hb : xs.getD k false = false) {r : Int} (h : BefPost xs k (exc xs (k + 1)) r) : r + 1 = beginL xs (k : Int) := by
  obtain ⟨b, g1, g2, g3, g4, _⟩ := begin_spec hm k hk hb
  rw [g2]
  exact bef_is (by omega) (by omega) g3 (by rw [← g3]; exact g4) h
/-- levels up, said without them -/
theorem up_low {xs : List Bool} (hm : mayL xs = true) : ∀ (m k : Nat), k < xs.length → xs.getD k false = true → (m : Int) ≤ exc xs k →
    ∃ b : Nat, upGo xs m (k : Int) = (b : Int) ∧ b ≤ k ∧ exc xs b = exc xs k - m ∧ ∀ x, b < x → x ≤ k → exc xs k - m < exc xs x
  | 0, k, _, _, _ => ⟨k, rfl, Nat.le_refl _, by omega, fun x h1 h2 => by omega⟩
  | m + 1, k, hk, hb, hle => by
    obtain ⟨c, h1, h2, h3, h4, h5⟩ := enclose_spec hm k hk hb (by omega)
    obtain ⟨b, g1, g2, g3, g4⟩ := up_low hm m c (by omega) h5 (by omega)
    refine ⟨b, ?_, by omega, by omega, fun x hx hxk => ?_⟩
    · rw [upGo_step xs m (k : Int) (by omega), h2]
      exact g1
    · by_cases hc : x ≤ c
      · have := g4 x hx hc
        omega
      · have := h4 x (by omega) hxk
        omega
theorem told_up {xs : List Bool} (hm : mayL xs = true) {k m : Nat} (hk : k < xs.length) (hb : xs.getD k false = true) (hle : (m : Int) ≤ exc xs k) {r : Int} (h : BefPost xs k (exc xs k - (m : Int)) r) : r + 1 = upL xs (k : Int) (m : Int) := by
  obtain ⟨b, g1, g2, g3, g4⟩ := up_low hm m k hk hb hle
  rw [upL_nat (k : Int) m (open_nat hk hb).1, g1]
  exact bef_is (by omega) g2 g3 g4 h
theorem up_out {xs : List Bool} (hm : mayL xs = true) : ∀ (m k : Nat), k < xs.length → xs.getD k false = true → exc xs k < (m : Int) → upGo xs m (k : Int) = -1
  | 0, k, hk, _, h => by have := may_ge hm k (by omega); omega
  | m + 1, k, hk, hb, h => by
    rw [upGo_step xs m (k : Int) (by omega)]
    by_cases h0 : exc xs k = 0
    · rw [enclose_none hm k hk hb h0, upGo_neg xs m (-1) (by decide)]
    · obtain ⟨c, h1, h2, h3, _, h5⟩ := enclose_spec hm k hk hb h0
      rw [h2]
      exact up_out hm m c (by omega) h5 (by omega)
theorem told_out {xs : List Bool} (hm : mayL xs = true) {k m : Nat} (hk : k < xs.length) (hb : xs.getD k false = true) (hle : exc xs k < (m : Int)) : upL xs (k : Int) (m : Int) = -1 := by
  rw [upL_nat (k : Int) m (open_nat hk hb).1]
  exact up_out hm m k hk hb hle
theorem told_enclose (xs : List Bool) (k : Int) : upL xs k 1 = encloseL xs k := by
  cases h : openB xs k with
  | false =>
    rw [upL_none k 1 h]
    unfold encloseL
    rw [if_neg (by rw [h]; decide)]
  | true =>
    have h0 : ¬ k < 0 := by
      intro hk
      unfold openB at h
      rw [decide_eq_false (by omega : ¬ 0 ≤ k)] at h
      cases h
    rw [show (1 : Int) = ((1 : Nat) : Int) from rfl, upL_nat k 1 h, upGo_step xs 0 k h0]
    rfl
theorem isB_open (xs : List Bool) (k : Int) : isB xs k true = openB xs k := by
  unfold isB openB
  by_cases h : 0 ≤ k ∧ k < xs.length
  · rw [if_pos h, decide_eq_true h.1, decide_eq_true h.2]
    cases xs.getD k.toNat false <;> rfl
  · rw [if_neg h]
    by_cases h0 : 0 ≤ k
    · rw [decide_eq_false (fun h1 => h ⟨h0, h1⟩), Bool.false_and, Bool.and_false]
    · rw [decide_eq_false h0, Bool.false_and]
theorem isB_shut (xs : List Bool) (k : Int) : isB xs k false = shutB xs k := by
  unfold isB shutB
  by_cases h : 0 ≤ k ∧ k < xs.length
  · rw [if_pos h, decide_eq_true h.1, decide_eq_true h.2]
    cases xs.getD k.toNat false <;> rfl
  · rw [if_neg h]
    by_cases h0 : 0 ≤ k
    · rw [decide_eq_false (fun h1 => h ⟨h0, h1⟩), Bool.false_and, Bool.and_false]
    · rw [decide_eq_false h0, Bool.false_and]
/-- of what stands at k as it should, its place and sign -/
theorem isB_at {xs : List Bool} {k : Int} {b : Bool} (h : isB xs k b = true) : ∃ j : Nat, k = (j : Int) ∧ j < xs.length ∧ xs.getD j false = b := by
  unfold isB at h
  split at h
  · rename_i hk
    exact ⟨k.toNat, by omega, by omega, by simpa using h⟩
  · cases h
/-- THE BOUND ON STEPS. -/
theorem steps_few (n : Nat) (h : 1 ≤ n) : aftN n + 8 ≤ stepsN n := by
  have hw : widthN n = n.log2 + 1 := if_neg (by omega)
  unfold aftN stepsN
  rw [hw]
  have h5 : 64 ≤ n → 6 ≤ n.log2 := fun h => (Nat.le_log2 (by omega)).2 h
  have h7 : 128 ≤ n → 7 ≤ n.log2 := fun h => (Nat.le_log2 (by omega)).2 h
  split
  · by_cases h6 : 64 ≤ n
    · have := h5 h6
      omega
    · omega
  · have := h7 (by omega)
    omega
end Go.Proofs.Yteecanaibkpmfaa
namespace Go.Proofs.Yteecanaibkpmfaa
open Go.RowKit

theorem as_row (v : Value) (w : World) : (Instr.typeAssert (.iface 48 v) 82 48 false).run Try.prog w = .ok v w := by kernel_rfl
set_option maxHeartbeats 1000000 in
set_option maxRecDepth 100000 in
theorem rrow_any (p q P cap : Nat) (ba : Addr) (bv : Value) (hbv : bv = .pointer (some ba)) (w : World) (h0 : w.cell? ⟨p, 0, none⟩ = some (.slice (some ⟨q, 0, none⟩) P cap)) (h1 : w.cell? ⟨q, 0, none⟩ = some (.iface 48 (.agg #[bv]))) (hP : 1 ≤ P) :
    Calls Try.prog 43 #[.pointer (some ⟨p, 0, none⟩)] w fun e w' => e = .returned (.agg #[bv]) ∧ Below w.heap.size w w' := by
  subst hbv
  have hpb := World.block_lt_of_cell? w _ h0
  have hqb := World.block_lt_of_cell? w _ h1
  have HB := Lib.hid (fun c t => (Below.refl w.heap.size w).alloc (Nat.le_refl _) (.cells c t))
  have H0 := Lib.hid (fun c t => ((HB.out c t).cell (p := ⟨p, 0, none⟩) hpb).trans h0)
  have H1 := Lib.hid (fun c t => ((HB.out c t).cell (p := ⟨q, 0, none⟩) hqb).trans h1)
  have a1 := fun (w : World) => as_row (.agg #[.pointer (some ba)]) w
  go_enter Try.func43, Try.ntmps43
  go_wp2
  go_returns
  exact ⟨rfl, HB.out _ _⟩
theorem Mid.bits {B T p q P cap st sb s : Nat} {bv : Value} {bl : Nat → Nat} {xs : List Bool} {w : World} (h : Mid B T p q P cap st sb bv bl xs s w) : ∃ a, bv = .pointer (some a) := kept_ptr _ _ _ _ h.inp.kept.kept
section
variable {B T p q P cap st sb s : Nat} {bv : Value} {bl : Nat → Nat} {xs : List Bool}
theorem Mid.rowV {w : World} (h : Mid B T p q P cap st sb bv bl xs s w) : Calls Try.prog 43 #[.pointer (some ⟨p, 0, none⟩)] w fun e w' => e = .returned (.agg #[bv]) ∧ Below w.heap.size w w' := by
  obtain ⟨a, ha⟩ := h.bits
  exact rrow_any p q P cap a bv ha w h.parts h.row h.inp.top.one
theorem Mid.isAt {w : World} (h : Mid B T p q P cap st sb bv bl xs s w) (k : Int) (b : Bool) (hs : s ≤ 500000) (hk64 : In64 k) :
    Calls Try.prog 56 #[.agg #[bv], .int .i64 k, .bool b, .pointer (some ⟨sb, 0, none⟩)] w fun e w' => e = .returned (.bool (isB xs k b)) ∧ ∃ d, d ≤ 1 ∧ Went sb (s + d) w w' :=
  rpis_any B p sb s bv xs k b w h.inp.len hk64 (by omega) h.pT h.pW h.inp.kept h.sr
theorem Mid.excAt {w : World} (h : Mid B T p q P cap st sb bv bl xs s w) (k : Nat) (hs : s ≤ 500000) (hk : k ≤ xs.length) :
    Calls Try.prog 45 #[.agg #[bv], .int .i64 k, .pointer (some ⟨sb, 0, none⟩)] w fun e w' => e = .returned (.int .i64 (exc xs k)) ∧ ∃ d, d ≤ 3 ∧ Went sb (s + d) w w' :=
  rpexc_any B p sb s bv xs k w h.inp.len hk (by omega) h.pT h.pW h.inp.kept h.sr
set_option maxHeartbeats 2000000 in
set_option maxRecDepth 100000 in
theorem rclosing_any (k : Int) (w : World) (hs : s ≤ 90000) (hk64 : In64 k) (h : Mid B T p q P cap st sb bv bl xs s w) :
    Calls Try.prog 40 #[.pointer (some ⟨p, 0, none⟩), .int .i64 k, .pointer (some ⟨sb, 0, none⟩)] w fun o w' =>
      o = .returned (.int .i64 (closeL xs k)) ∧ ∃ d, d ≤ aftN xs.length + 4 ∧ Went sb (s + d) w w' := by
  have H0 := Lib.hid h
  have HK := Lib.hid hk64
  obtain ⟨ba, rfl⟩ := h.bits
  clear h hk64
  go_enter Try.func40, Try.ntmps40
  go_wp2_with fail
  refine H0.out.rowV.mono ?_
  rintro o w1 ⟨rfl, hb1⟩
  have hsb1 : w1.heap.size ≠ sb := by have := (H0.out.other hb1).sr.lt; omega
  have HBX := Lib.hid (new_box w1 (.pointer (some ba)) 48)
  have HB2 := Lib.hid (hb1.alloc hb1.size (.cells #[.pointer (some ba)] 48))
  have hc1 : (w1.alloc (.cells #[.pointer (some ba)] 48)).cell? ⟨w1.heap.size, 0, none⟩ = some (.pointer (some ba)) := HBX.out.cell (i := 0) Nat.one_pos
  have HM2 := Lib.hid (H0.out.other HB2.out)
  have HW2 := Lib.hid (Went.stay H0.out.sr HB2.out)
  clear hb1
  go_wp2_with fail
  refine (HM2.out.isAt k true (by omega) HK.out).mono ?_
  rintro o w3 ⟨rfl, d1, hd1, hw3⟩
  have hc3 := hw3.box HBX.out hsb1
  have HW3 := Lib.hid (HW2.out.trans hw3)
  have HM3 := Lib.hid (HM2.out.went hw3)
  have HD1 := Lib.hid hd1
  obtain ⟨u, hu⟩ : ∃ u, isB xs k true = u := ⟨_, rfl⟩
  have HU := Lib.hid hu
  rw [hu]
  clear hw3 hu hd1
  cases u
  · go_wp2
    go_ret
    refine ⟨by rw [show closeL xs k = -1 from by unfold closeL; rw [← isB_open, HU.out]; rfl]; rfl, d1, by have := HD1.out; omega, HW3.out⟩
  · obtain ⟨j, rfl, hj, hb⟩ := isB_at HU.out
    have HJ := Lib.hid hj
    have HB := Lib.hid hb
    have hd1 := HD1.out
    clear hj hb
    go_wp2_with fail
    refine (HM3.out.excAt j (by omega) (by have := HJ.out; omega)).mono ?_
    rintro o w4 ⟨rfl, d2, hd2, hw4⟩
    have HW4 := Lib.hid (HW3.out.trans hw4)
    have HM4 := Lib.hid (HM3.out.went hw4)
    clear hw4 hc3
    go_wp2_with fail
    refine (rafter_any j (exc xs j) w4 (s := s + d1 + d2) (by omega) HJ.out HM4.out).mono ?_
    rintro o w5 ⟨r, rfl, hr, d3, hd3, hw5⟩
    go_wp2
    go_ret
    refine ⟨by rw [← told_close H0.out.inp.may HJ.out HB.out hr]; rfl, d1 + d2 + d3, by omega, ?_⟩
    rw [show s + (d1 + d2 + d3) = s + d1 + d2 + d3 by omega]
    exact HW4.out.trans hw5
set_option maxHeartbeats 2000000 in
set_option maxRecDepth 100000 in
theorem rbeginning_any (k : Int) (w : World) (hs : s ≤ 90000) (hk64 : In64 k) (h : Mid B T p q P cap st sb bv bl xs s w) :
    Calls Try.prog 42 #[.pointer (some ⟨p, 0, none⟩), .int .i64 k, .pointer (some ⟨sb, 0, none⟩)] w fun o w' =>
      o = .returned (.int .i64 (beginL xs k)) ∧ ∃ d, d ≤ aftN xs.length + 4 ∧ Went sb (s + d) w w' := by
  have H0 := Lib.hid h
  have HK := Lib.hid hk64
  have hxl := h.inp.len
  obtain ⟨ba, rfl⟩ := h.bits
  clear h hk64
  go_enter Try.func42, Try.ntmps42
  go_wp2_with fail
  refine H0.out.rowV.mono ?_
  rintro o w1 ⟨rfl, hb1⟩
  have hsb1 : w1.heap.size ≠ sb := by have := (H0.out.other hb1).sr.lt; omega
  have HBX := Lib.hid (new_box w1 (.pointer (some ba)) 48)
  have HB2 := Lib.hid (hb1.alloc hb1.size (.cells #[.pointer (some ba)] 48))
  have hc1 : (w1.alloc (.cells #[.pointer (some ba)] 48)).cell? ⟨w1.heap.size, 0, none⟩ = some (.pointer (some ba)) := HBX.out.cell (i := 0) Nat.one_pos
  have HM2 := Lib.hid (H0.out.other HB2.out)
  have HW2 := Lib.hid (Went.stay H0.out.sr HB2.out)
  clear hb1
  go_wp2_with fail
  refine (HM2.out.isAt k false (by omega) HK.out).mono ?_
  rintro o w3 ⟨rfl, d1, hd1, hw3⟩
  have hc3 := hw3.box HBX.out hsb1
  have HW3 := Lib.hid (HW2.out.trans hw3)
  have HM3 := Lib.hid (HM2.out.went hw3)
  have HD1 := Lib.hid hd1
  obtain ⟨u, hu⟩ : ∃ u, isB xs k false = u := ⟨_, rfl⟩
  have HU := Lib.hid hu
  rw [hu]
  clear hw3 hu hd1
  cases u
  · go_wp2
    go_ret
    refine ⟨by rw [show beginL xs k = -1 from by unfold beginL; rw [← isB_shut, HU.out]; rfl]; rfl, d1, by have := HD1.out; omega, HW3.out⟩
  · obtain ⟨j, rfl, hj, hb⟩ := isB_at HU.out
    have HB := Lib.hid hb
    have hd1 := HD1.out
    obtain ⟨j1, hj1⟩ : ∃ j1, j + 1 = j1 := ⟨_, rfl⟩
    have ej : (j : Int) + 1 = (j1 : Int) := by omega
    have HJ1 := Lib.hid hj1
    clear hb hj1
    go_wp2_with fail
    refine (HM3.out.excAt j1 (by omega) (by have := HJ1.out; omega)).mono ?_
    rintro o w4 ⟨rfl, d2, hd2, hw4⟩
    have HW4 := Lib.hid (HW3.out.trans hw4)
    have HM4 := Lib.hid (HM3.out.went hw4)
    clear hw4 hc3
    go_wp2_with fail
    refine (rbefore_any j (exc xs j1) w4 (s := s + d1 + d2) (by omega) hj HM4.out).mono ?_
    rintro o w5 ⟨r, rfl, hr, d3, hd3, hw5⟩
    have hto := told_begin (r := r) H0.out.inp.may hj HB.out (by rw [HJ1.out]; exact hr)
    have hrb : -1 ≤ r ∧ r ≤ 4194304 := by
      rcases hr with ⟨x, rfl, hx, _⟩ | ⟨rfl, _⟩ <;> omega
    have HTO := Lib.hid hto
    have HW5 := Lib.hid (HW4.out.trans hw5)
    clear hr hto hw5
    go_wp2
    go_ret
    refine ⟨by rw [← HTO.out]; first | rfl | go_num, d1 + d2 + d3, by omega, ?_⟩
    rw [show s + (d1 + d2 + d3) = s + d1 + d2 + d3 by omega]
    exact HW5.out
end
end Go.Proofs.Yteecanaibkpmfaa
namespace Go.Proofs.Yteecanaibkpmfaa
open Go.RowKit

section
variable {B T p q P cap st sb s : Nat} {bv : Value} {bl : Nat → Nat} {xs : List Bool}
set_option maxHeartbeats 2000000 in
set_option maxRecDepth 100000 in
theorem renclosing_any (k n : Int) (w : World) (hs : s ≤ 90000) (hk64 : In64 k) (hn64 : In64 n) (h : Mid B T p q P cap st sb bv bl xs s w) :
    Calls Try.prog 46 #[.pointer (some ⟨p, 0, none⟩), .int .i64 k, .int .i64 n, .pointer (some ⟨sb, 0, none⟩)] w fun o w' =>
      o = .returned (.int .i64 (upL xs k n)) ∧ ∃ d, d ≤ aftN xs.length + 4 ∧ Went sb (s + d) w w' := by
  have H0 := Lib.hid h
  have HK := Lib.hid hk64
  have hxl := h.inp.len
  obtain ⟨hn1, hn2⟩ := hn64
  obtain ⟨ba, rfl⟩ := h.bits
  clear h hk64
  go_enter Try.func46, Try.ntmps46
  go_wp2_with fail
  refine H0.out.rowV.mono ?_
  rintro o w1 ⟨rfl, hb1⟩
  have hsb1 : w1.heap.size ≠ sb := by have := (H0.out.other hb1).sr.lt; omega
  have HBX := Lib.hid (new_box w1 (.pointer (some ba)) 48)
  have HB2 := Lib.hid (hb1.alloc hb1.size (.cells #[.pointer (some ba)] 48))
  have hc1 : (w1.alloc (.cells #[.pointer (some ba)] 48)).cell? ⟨w1.heap.size, 0, none⟩ = some (.pointer (some ba)) := HBX.out.cell (i := 0) Nat.one_pos
  have HM2 := Lib.hid (H0.out.other HB2.out)
  have HW2 := Lib.hid (Went.stay H0.out.sr HB2.out)
  clear hb1
  by_cases hn0 : n < 0
  · have gn : decide (n < 0) = true := decide_eq_true hn0
    go_wp2
    go_ret
    exact ⟨by rw [upL_neg k n hn0]; rfl, 0, by omega, HW2.out⟩
  have gn : decide (n < 0) = false := decide_eq_false hn0
  obtain ⟨m, rfl⟩ := Int.eq_ofNat_of_zero_le (show 0 ≤ n by omega)
  go_wp2_with fail
  refine (HM2.out.isAt k true (by omega) HK.out).mono ?_
  rintro o w3 ⟨rfl, d1, hd1, hw3⟩
  have hc3 := hw3.box HBX.out hsb1
  have HBX3 := Lib.hid (HBX.out.of_block (hw3.apart.block w1.heap.size HBX.out.lt (by omega)))
  have HW3 := Lib.hid (HW2.out.trans hw3)
  have HM3 := Lib.hid (HM2.out.went hw3)
  have HD1 := Lib.hid hd1
  obtain ⟨u, hu⟩ : ∃ u, isB xs k true = u := ⟨_, rfl⟩
  have HU := Lib.hid hu
  rw [hu]
  clear hw3 hu hd1
  cases u
  · go_wp2
    go_ret
    refine ⟨by rw [upL_none k (m : Int) (by rw [← isB_open]; exact HU.out)]; rfl, d1, by have := HD1.out; omega, HW3.out⟩
  · obtain ⟨j, rfl, hj, hb⟩ := isB_at HU.out
    have HB := Lib.hid hb
    have hd1 := HD1.out
    have hjl : j ≤ xs.length := by omega
    clear hb
    go_wp2_with fail
    refine (HM3.out.excAt j (by omega) hjl).mono ?_
    rintro o w4 ⟨rfl, d2, hd2, hw4⟩
    have HW4 := Lib.hid (HW3.out.trans hw4)
    have HM4 := Lib.hid (HM3.out.went hw4)
    clear hw4 hc3
    obtain ⟨x, hx⟩ : ∃ x, exc xs j = x := ⟨_, rfl⟩
    have hxb := exc_bound xs j
    rw [hx] at hxb
    have HX := Lib.hid hx
    rw [hx]
    clear hx
    by_cases hmx : x < (m : Int)
    · have gm : decide (x < (m : Int)) = true := decide_eq_true hmx
      go_wp2
      go_ret
      refine ⟨by rw [told_out H0.out.inp.may hj HB.out (by rw [HX.out]; exact hmx)]; rfl, d1 + d2, by omega, ?_⟩
      rw [show s + (d1 + d2) = s + d1 + d2 by omega]
      exact HW4.out
    · have gm : decide (x < (m : Int)) = false := decide_eq_false hmx
      go_wp2_with fail
      refine (rbefore_any j (x - (m : Int)) w4 (s := s + d1 + d2) (by omega) hj HM4.out).mono ?_
      rintro o w5 ⟨r, rfl, hr, d3, hd3, hw5⟩
      have hto := told_up (r := r) (m := m) H0.out.inp.may hj HB.out (by rw [HX.out]; omega) (by rw [HX.out]; exact hr)
      have hrb : -1 ≤ r ∧ r ≤ 4194304 := by
        rcases hr with ⟨y, rfl, hy, _⟩ | ⟨rfl, _⟩ <;> omega
      have HTO := Lib.hid hto
      have HW5 := Lib.hid (HW4.out.trans hw5)
      clear hr hto hw5
      go_wp2
      go_ret
      refine ⟨by rw [← HTO.out]; first | rfl | go_num, d1 + d2 + d3, by omega, ?_⟩
      rw [show s + (d1 + d2 + d3) = s + d1 + d2 + d3 by omega]
      exact HW5.out
end
end Go.Proofs.Yteecanaibkpmfaa
namespace Go.Proofs.Yteecanaibkpmfaa
open Go.RowKit

/-- v IS A Paren OF THE BALANCED ROW xs, in blocks from B to below T, and its steps are few. -/
def IsP (B T : Nat) (w : World) (v : Value) (xs : List Bool) : Prop :=
  ∃ (p q P cap st : Nat) (bv : Value) (bl : Nat → Nat), v = .pointer (some ⟨p, 0, none⟩) ∧ InP B T p q P bv bl xs w ∧ PaV p q P cap st w ∧ st ≤ stepsN xs.length
theorem isp_keep (B T : Nat) (w w' : World) (v : Value) (xs : List Bool) (h : IsP B T w v xs) (hs : w.heap.size ≤ w'.heap.size) (hk : ∀ k, B ≤ k → k < T → w'.heap[k]? = w.heap[k]?) : IsP B T w' v xs := by
  obtain ⟨p, q, P, cap, st, bv, bl, rfl, h1, h2, h3⟩ := h
  exact ⟨p, q, P, cap, st, bv, bl, rfl, h1.keep hs fun k a b _ => hk k a b, h2.of_block (hk p h1.pB h1.pT), h3⟩
theorem isp_below {B T : Nat} {w w' : World} {v : Value} {xs : List Bool} (h : IsP B T w v xs) (hb : Below w.heap.size w w') : IsP B T w' v xs := by
  have hT : T ≤ w.heap.size := by obtain ⟨_, _, _, _, _, _, _, _, h1, _⟩ := h; exact h1.size
  exact isp_keep B T w w' v xs h hb.size fun k _ h2 => hb.block k (by omega)
theorem isp_ptr (B T : Nat) (w : World) (v : Value) (xs : List Bool) (h : IsP B T w v xs) : ∃ a, v = .pointer (some a) := by
  obtain ⟨p, _, _, _, _, _, _, rfl, _⟩ := h
  exact ⟨_, rfl⟩
theorem isp_span (B T : Nat) (w : World) (v : Value) (xs : List Bool) (h : IsP B T w v xs) : B ≤ T ∧ T ≤ w.heap.size := by
  obtain ⟨p, _, _, _, _, _, _, rfl, h1, _⟩ := h
  exact ⟨by have := h1.pB; have := h1.pT; omega, h1.size⟩
set_option maxHeartbeats 1000000 in
set_option maxRecDepth 100000 in
/-- the count is put into the Paren -/
theorem rlooked_any (p q P cap st t : Nat) (w : World) (h : PaV p q P cap st w) :
    Calls Try.prog 41 #[.pointer (some ⟨p, 0, none⟩), .int .i64 t] w fun e w' => e = .returned (.tuple #[]) ∧ w' = w.setCell ⟨p, 1, none⟩ (.int .i64 t) := by
  have c1 := h.cell (i := 1) (by decide)
  have c2 := h.frozen 1
  clear h
  go_enter Try.func41, Try.ntmps41
  go_wp2
  go_end0
  exact ⟨rfl, rfl⟩
section
variable {B T p q P cap st : Nat} {bv : Value} {bl : Nat → Nat} {xs : List Bool} {w : World}
theorem isp_of (h1 : InP B T p q P bv bl xs w) (h2 : PaV p q P cap st w) (h3 : st ≤ stepsN xs.length) : IsP B T w (.pointer (some ⟨p, 0, none⟩)) xs := ⟨p, q, P, cap, st, bv, bl, rfl, h1, h2, h3⟩
/-- a question begins: a new count -/
theorem mid_start (h1 : InP B T p q P bv bl xs w) (h2 : PaV p q P cap st w) : Mid B T p q P cap st w.heap.size bv bl xs 0 (w.alloc (.cells #[.int .i64 0] 3)) := by
  have hb := (Below.refl w.heap.size w).alloc (Nat.le_refl _) (.cells #[.int .i64 0] 3)
  exact ⟨h1.keep hb.size fun k _ h _ => hb.block k (by have := h1.size; omega), h2.of_block (hb.block p (by have := h1.size; have := h1.pT; omega)), h1.size, new_box w (.int .i64 0) _⟩
theorem went_start {t : Nat} {w2 : World} (hw : Went w.heap.size t (w.alloc (.cells #[.int .i64 0] 3)) w2) : Below w.heap.size w w2 := by
  have hb := (Below.refl w.heap.size w).alloc (Nat.le_refl _) (.cells #[.int .i64 0] 3)
  exact hb.trans ⟨hw.apart.os, hw.apart.tape, hw.apart.output, hw.apart.size, fun k hk => hw.apart.block k (by have := hb.size; omega) (Or.inl hk)⟩
/-- a question ends: its count is kept -/
theorem ask_end {t : Nat} {w2 : World} (h1 : InP B T p q P bv bl xs w) (h2 : PaV p q P cap st w) (hw : Went w.heap.size t (w.alloc (.cells #[.int .i64 0] 3)) w2) (ht : t ≤ stepsN xs.length) :
    IsP B T (w2.setCell ⟨p, 1, none⟩ (.int .i64 t)) (.pointer (some ⟨p, 0, none⟩)) xs ∧ Apart B T w (w2.setCell ⟨p, 1, none⟩ (.int .i64 t)) := by
  have hb := went_start hw
  have hz := h1.size
  have hp := h1.pT
  have hpB := h1.pB
  have i2 : InP B T p q P bv bl xs w2 := h1.keep hb.size fun k _ h _ => hb.block k (by omega)
  have p2 : PaV p q P cap st w2 := h2.of_block (hb.block p (by omega))
  refine ⟨isp_of (st := t) (cap := cap) (i2.keep (by rw [Deep.nblk_setCell]; exact Nat.le_refl _) fun k _ _ hk => Below.heap_setCell _ _ _ _ hk) ?_ ht, ⟨hb.os, hb.tape, hb.output, by rw [Deep.nblk_setCell]; exact hb.size, fun k hk h => ?_⟩⟩
  · refine (World.rowIs.set p2 1 _).congr fun i hi => ?_
    rcases (show i = 0 ∨ i = 1 by omega) with rfl | rfl <;> rfl
  · rw [Below.heap_setCell _ _ _ _ (show k ≠ p by omega)]
    exact hb.block k hk
theorem row_of (h1 : InP B T p q P bv bl xs w) (h2 : PaV p q P cap st w) : Calls Try.prog 43 #[.pointer (some ⟨p, 0, none⟩)] w fun e w' => e = .returned (.agg #[bv]) ∧ Below w.heap.size w w' := by
  obtain ⟨a, ha⟩ := kept_ptr _ _ _ _ h1.kept.kept
  exact rrow_any p q P cap a bv ha w (h2.cell (i := 0) (by decide)) (h1.parts 0 h1.top.one) h1.top.one
theorem kept_of {w' : World} (h1 : InP B T p q P bv bl xs w) (hb : Below w.heap.size w w') : Kept B w' bv xs :=
  (h1.keep hb.size fun k _ h _ => hb.block k (by have := h1.size; omega)).kept.kept
end
theorem aft_few {xs : List Bool} {d : Nat} (h : d ≤ aftN xs.length + 4) : d ≤ stepsN xs.length := by
  by_cases h0 : xs.length = 0
  · rw [h0] at h ⊢
    have : aftN 0 = 3 := rfl
    have : 80 ≤ stepsN 0 := by unfold stepsN; omega
    omega
  · have := steps_few xs.length (by omega)
    omega
set_option maxHeartbeats 1000000 in
set_option maxRecDepth 100000 in
theorem rclose_any (B T : Nat) (v : Value) (xs : List Bool) (k : Int) (w : World) (hk : In64 k) (h : IsP B T w v xs) :
    Calls Try.prog 13 #[v, .int .i64 k] w (ParGave IsP B T v xs (.int .i64 (closeL xs k)) w) := by
  obtain ⟨p, q, P, cap, st, bv, bl, rfl, h1, h2, h3⟩ := h
  have HM := Lib.hid (mid_start h1 h2)
  have H1 := Lib.hid h1
  have H2 := Lib.hid h2
  clear h1 h2 h3
  go_enter Try.func13, Try.ntmps13
  go_wp2_with fail
  refine (rclosing_any k _ (by decide) hk HM.out).mono ?_
  rintro o w2 ⟨rfl, t, ht, hw⟩
  rw [Nat.zero_add] at hw
  have hc := hw.row.cell (i := 0) Nat.one_pos
  have HE := Lib.hid (ask_end H1.out H2.out hw (aft_few ht))
  have HPA := Lib.hid (HM.out.went hw).pa
  clear hw
  go_wp2_with fail
  refine (rlooked_any p q P cap st t w2 HPA.out).mono ?_
  rintro o w3 ⟨rfl, rfl⟩
  go_wp2
  go_ret
  exact ⟨rfl, HE.out.1, HE.out.2⟩
set_option maxHeartbeats 1000000 in
set_option maxRecDepth 100000 in
theorem rbegin_any (B T : Nat) (v : Value) (xs : List Bool) (k : Int) (w : World) (hk : In64 k) (h : IsP B T w v xs) :
    Calls Try.prog 14 #[v, .int .i64 k] w (ParGave IsP B T v xs (.int .i64 (beginL xs k)) w) := by
  obtain ⟨p, q, P, cap, st, bv, bl, rfl, h1, h2, h3⟩ := h
  have HM := Lib.hid (mid_start h1 h2)
  have H1 := Lib.hid h1
  have H2 := Lib.hid h2
  clear h1 h2 h3
  go_enter Try.func14, Try.ntmps14
  go_wp2_with fail
  refine (rbeginning_any k _ (by decide) hk HM.out).mono ?_
  rintro o w2 ⟨rfl, t, ht, hw⟩
  rw [Nat.zero_add] at hw
  have hc := hw.row.cell (i := 0) Nat.one_pos
  have HE := Lib.hid (ask_end H1.out H2.out hw (aft_few ht))
  have HPA := Lib.hid (HM.out.went hw).pa
  clear hw
  go_wp2_with fail
  refine (rlooked_any p q P cap st t w2 HPA.out).mono ?_
  rintro o w3 ⟨rfl, rfl⟩
  go_wp2
  go_ret
  exact ⟨rfl, HE.out.1, HE.out.2⟩
set_option maxHeartbeats 1000000 in
set_option maxRecDepth 100000 in
theorem rup_any (B T : Nat) (v : Value) (xs : List Bool) (k n : Int) (w : World) (hk : In64 k) (hn : In64 n) (h : IsP B T w v xs) :
    Calls Try.prog 18 #[v, .int .i64 k, .int .i64 n] w (ParGave IsP B T v xs (.int .i64 (upL xs k n)) w) := by
  obtain ⟨p, q, P, cap, st, bv, bl, rfl, h1, h2, h3⟩ := h
  have HM := Lib.hid (mid_start h1 h2)
  have H1 := Lib.hid h1
  have H2 := Lib.hid h2
  clear h1 h2 h3
  go_enter Try.func18, Try.ntmps18
  go_wp2_with fail
  refine (renclosing_any k n _ (by decide) hk hn HM.out).mono ?_
  rintro o w2 ⟨rfl, t, ht, hw⟩
  rw [Nat.zero_add] at hw
  have hc := hw.row.cell (i := 0) Nat.one_pos
  have HE := Lib.hid (ask_end H1.out H2.out hw (aft_few ht))
  have HPA := Lib.hid (HM.out.went hw).pa
  clear hw
  go_wp2_with fail
  refine (rlooked_any p q P cap st t w2 HPA.out).mono ?_
  rintro o w3 ⟨rfl, rfl⟩
  go_wp2
  go_ret
  exact ⟨rfl, HE.out.1, HE.out.2⟩
set_option maxHeartbeats 1000000 in
set_option maxRecDepth 100000 in
theorem renclose_any (B T : Nat) (v : Value) (xs : List Bool) (k : Int) (w : World) (hk : In64 k) (h : IsP B T w v xs) :
    Calls Try.prog 21 #[v, .int .i64 k] w (ParGave IsP B T v xs (.int .i64 (encloseL xs k)) w) := by
  have CU := Lib.hid (rup_any B T v xs k 1 w hk ⟨by decide, by decide⟩ h)
  obtain ⟨p, q, P, cap, st, bv, bl, rfl, h1, h2, h3⟩ := h
  clear h1 h2 h3
  go_enter Try.func21, Try.ntmps21
  go_wp2_with fail
  refine CU.out.mono ?_
  rintro o w2 ⟨rfl, hi, ha⟩
  go_wp2
  go_ret
  exact ⟨by rw [← told_enclose]; rfl, hi, ha⟩
/-! ### what looks at nothing but the row -/
theorem field_row (v : Value) (w : World) : (Instr.field 48 (.agg #[v]) 0).run Try.prog w = .ok v w := by kernel_rfl
theorem getB_open (xs : List Bool) (k : Int) : getB xs k = openB xs k := by
  unfold getB openB
  by_cases h : 0 ≤ k ∧ k < xs.length
  · rw [if_pos h, decide_eq_true h.1, decide_eq_true h.2, Bool.true_and, Bool.true_and]
  · rw [if_neg h]
    by_cases h0 : 0 ≤ k
    · rw [decide_eq_false (fun h1 => h ⟨h0, h1⟩), Bool.false_and, Bool.and_false]
    · rw [decide_eq_false h0, Bool.false_and]
set_option maxHeartbeats 1000000 in
set_option maxRecDepth 100000 in
theorem rplenP_any (B T : Nat) (v : Value) (xs : List Bool) (w : World) (h : IsP B T w v xs) :
    Calls Try.prog 23 #[v] w fun e w' => e = .returned (.int .i64 xs.length) ∧ Below w.heap.size w w' := by
  obtain ⟨p, q, P, cap, st, bv, bl, rfl, h1, h2, h3⟩ := h
  have CR := Lib.hid (row_of h1 h2)
  have H1 := Lib.hid h1
  clear h1 h2 h3
  go_enter Try.func23, Try.ntmps23
  go_wp2_with fail
  refine CR.out.mono ?_
  rintro o w1 ⟨rfl, hb1⟩
  have CL := Lib.hid (rplen_any B bv xs w1 (kept_of H1.out hb1))
  go_wp2_with fail
  refine CL.out.mono ?_
  rintro o w2 ⟨rfl, hb2⟩
  go_wp2
  go_ret
  exact ⟨rfl, hb1.trans (hb2.mono hb1.size)⟩
set_option maxHeartbeats 1000000 in
set_option maxRecDepth 100000 in
theorem ropen_any (B T : Nat) (v : Value) (xs : List Bool) (k : Int) (w : World) (hk : In64 k) (h : IsP B T w v xs) :
    Calls Try.prog 22 #[v, .int .i64 k] w fun e w' => e = .returned (.bool (openB xs k)) ∧ Below w.heap.size w w' := by
  obtain ⟨p, q, P, cap, st, bv, bl, rfl, h1, h2, h3⟩ := h
  have CR := Lib.hid (row_of h1 h2)
  have H1 := Lib.hid h1
  have f1 := fun w => field_row bv w
  clear h1 h2 h3
  go_enter Try.func22, Try.ntmps22
  go_wp2_with fail
  refine CR.out.mono ?_
  rintro o w1 ⟨rfl, hb1⟩
  have CL := Lib.hid (rget_any B bv xs k w1 (kept_of H1.out hb1) H1.out.len hk)
  rw [getB_open] at CL
  go_wp2_with fail
  refine CL.out.mono ?_
  rintro o w2 ⟨rfl, rfl⟩
  go_wp2
  go_ret
  exact ⟨rfl, hb1⟩
set_option maxHeartbeats 1000000 in
set_option maxRecDepth 100000 in
theorem rplace_any (B T : Nat) (v : Value) (xs : List Bool) (k : Int) (w : World) (h : IsP B T w v xs) :
    Calls Try.prog 19 #[v, .int .i64 k] w fun e w' => e = .returned (.int .i64 (selL xs k true)) ∧ Below w.heap.size w w' := by
  obtain ⟨p, q, P, cap, st, bv, bl, rfl, h1, h2, h3⟩ := h
  have CR := Lib.hid (row_of h1 h2)
  have H1 := Lib.hid h1
  have f1 := fun w => field_row bv w
  clear h1 h2 h3
  go_enter Try.func19, Try.ntmps19
  go_wp2_with fail
  refine CR.out.mono ?_
  rintro o w1 ⟨rfl, hb1⟩
  have CL := Lib.hid (rsel_any B bv xs k true w1 (kept_of H1.out hb1) H1.out.len)
  go_wp2_with fail
  refine CL.out.mono ?_
  rintro o w2 ⟨rfl, hb2⟩
  go_wp2
  go_ret
  exact ⟨rfl, hb1.trans (hb2.mono hb1.size)⟩
set_option maxHeartbeats 1000000 in
set_option maxRecDepth 100000 in
theorem rnumber_any (B T : Nat) (v : Value) (xs : List Bool) (k : Int) (w : World) (hk : In64 k) (h : IsP B T w v xs) :
    Calls Try.prog 16 #[v, .int .i64 k] w fun e w' => e = .returned (.int .i64 (numberL xs k)) ∧ Below w.heap.size w w' := by
  have CO := Lib.hid (ropen_any B T v xs k w hk h)
  have H := Lib.hid h
  obtain ⟨a, rfl⟩ := isp_ptr B T w v xs h
  clear h
  obtain ⟨u, hu⟩ : ∃ u, openB xs k = u := ⟨_, rfl⟩
  have HU := Lib.hid hu
  rw [hu] at CO
  clear hu
  cases u
  · rw [show numberL xs k = -1 from by unfold numberL; rw [HU.out]; rfl]
    go_enter Try.func16, Try.ntmps16
    go_wp2_with fail
    refine CO.out.mono ?_
    rintro o w1 ⟨rfl, hb1⟩
    go_wp2
    go_ret
    exact ⟨rfl, hb1⟩
  · rw [show numberL xs k = (rankL xs k true : Int) from by unfold numberL; rw [HU.out]; rfl]
    go_enter Try.func16, Try.ntmps16
    go_wp2_with fail
    refine CO.out.mono ?_
    rintro o w1 ⟨rfl, hb1⟩
    have HI := Lib.hid (isp_below H.out hb1)
    obtain ⟨p, q, P, cap, st, bv, bl, hv, h1, h2, h3⟩ := HI.out
    injection hv with hv
    injection hv with hv
    subst hv
    have CR := Lib.hid (row_of h1 h2)
    have H1 := Lib.hid h1
    have f1 := fun w => field_row bv w
    clear h1 h2 h3 HI
    go_wp2_with fail
    refine CR.out.mono ?_
    rintro o w2 ⟨rfl, hb2⟩
    have CL := Lib.hid (rrank_any B bv xs k true w2 (kept_of H1.out hb2) H1.out.len)
    go_wp2_with fail
    refine CL.out.mono ?_
    rintro o w3 ⟨rfl, n, rfl⟩
    go_wp2
    go_ret
    exact ⟨rfl, drewN_below (hb1.trans (hb2.mono hb1.size)) n⟩
end Go.Proofs.Yteecanaibkpmfaa
namespace Go.Proofs.Yteecanaibkpmfaa
open Go.RowKit

set_option maxHeartbeats 1000000 in
set_option maxRecDepth 100000 in
theorem rexcess_any (B T : Nat) (v : Value) (xs : List Bool) (k : Int) (w : World) (hk : In64 k) (h : IsP B T w v xs) :
    Calls Try.prog 17 #[v, .int .i64 k] w fun e w' => e = .returned (.int .i64 (excL xs k)) ∧ Below w.heap.size w w' := by
  have CL := Lib.hid (rplenP_any B T v xs w h)
  have H := Lib.hid h
  have hxl : xs.length ≤ 4194304 := by obtain ⟨_, _, _, _, _, _, _, _, h1, _⟩ := h; exact h1.len
  obtain ⟨a, rfl⟩ := isp_ptr B T w v xs h
  obtain ⟨hk1, hk2⟩ := hk
  clear h
  by_cases h0 : k < 0
  · rw [show excL xs k = -1 from by unfold excL; rw [if_neg (by omega)]]
    go_enter Try.func17, Try.ntmps17
    go_wp2
    go_ret
    exact ⟨rfl, Below.refl _ _⟩
  · obtain ⟨j, rfl⟩ := Int.eq_ofNat_of_zero_le (show 0 ≤ k by omega)
    by_cases h1 : j < xs.length
    · rw [show excL xs (j : Int) = exc xs (j + 1) from by unfold excL; rw [if_pos (by omega), Int.toNat_natCast]]
      have g1 : decide (xs.length ≤ j) = false := decide_eq_false (by omega)
      obtain ⟨j1, hj1⟩ : ∃ j1, j + 1 = j1 := ⟨_, rfl⟩
      have ej : (j : Int) + 1 = (j1 : Int) := by omega
      have hj1l : j1 ≤ xs.length := by omega
      rw [hj1]
      clear hj1
      go_enter Try.func17, Try.ntmps17
      go_wp2_with fail
      refine CL.out.mono ?_
      rintro o w1 ⟨rfl, hb1⟩
      have HI := Lib.hid (isp_below H.out hb1)
      obtain ⟨p, q, P, cap, st, bv, bl, hv, i1, i2, i3⟩ := HI.out
      injection hv with hv
      injection hv with hv
      subst hv
      have CR := Lib.hid (row_of i1 i2)
      have I1 := Lib.hid i1
      have I2 := Lib.hid i2
      have HB1 := Lib.hid hb1
      clear i1 i2 i3 HI hb1
      go_wp2_with fail
      refine CR.out.mono ?_
      rintro o w2 ⟨rfl, hb2⟩
      have HM := Lib.hid (mid_start (I1.out.keep hb2.size fun k _ h _ => hb2.block k (by have := I1.out.size; omega)) (I2.out.of_block (hb2.block p (by have := I1.out.size; have := I1.out.pT; omega))))
      have HB2 := Lib.hid (HB1.out.trans (hb2.mono HB1.out.size))
      clear hb2
      go_wp2_with fail
      refine (HM.out.excAt j1 (by decide) hj1l).mono ?_
      rintro o w3 ⟨rfl, d, hd, hw⟩
      have HE := Lib.hid (HB2.out.trans ((went_start hw).mono HB2.out.size))
      clear hw
      go_wp2
      go_ret
      exact ⟨rfl, HE.out⟩
    · rw [show excL xs (j : Int) = -1 from by unfold excL; rw [if_neg (by omega)]]
      have g1 : decide (xs.length ≤ j) = true := decide_eq_true (by omega)
      go_enter Try.func17, Try.ntmps17
      go_wp2_with fail
      refine CL.out.mono ?_
      rintro o w1 ⟨rfl, hb1⟩
      go_wp2
      go_ret
      exact ⟨rfl, hb1⟩
set_option maxHeartbeats 1000000 in
set_option maxRecDepth 100000 in
theorem rspan_any (B T : Nat) (v : Value) (xs : List Bool) (k : Int) (w : World) (hk : In64 k) (h : IsP B T w v xs) :
    Calls Try.prog 15 #[v, .int .i64 k] w fun e w' => e = .returned (.int .i64 (spanL xs k)) ∧ Below w.heap.size w w' := by
  obtain ⟨p, q, P, cap, st, bv, bl, rfl, h1, h2, h3⟩ := h
  have hm := h1.may
  have hxl := h1.len
  have HM := Lib.hid (mid_start h1 h2)
  clear h1 h2 h3
  obtain ⟨u, hu⟩ : ∃ u, openB xs k = u := ⟨_, rfl⟩
  have CC := Lib.hid (rclosing_any k _ (by decide) hk HM.out)
  cases u
  · rw [show closeL xs k = -1 from by unfold closeL; rw [hu]; rfl] at CC
    rw [show spanL xs k = 0 from by unfold spanL; rw [hu]; rfl]
    clear HM hu
    go_enter Try.func15, Try.ntmps15
    go_wp2_with fail
    refine CC.out.mono ?_
    rintro o w2 ⟨rfl, t, ht, hw⟩
    have HB := Lib.hid (went_start hw)
    clear hw
    go_wp2
    go_ret
    exact ⟨rfl, HB.out⟩
  · have hB : isB xs k true = true := by rw [isB_open]; exact hu
    obtain ⟨j, rfl, hj, hb⟩ := isB_at hB
    obtain ⟨c, c1, c2, c3, _⟩ := close_spec hm j hj hb
    rw [spanL_nat j c hj hb c3 c1]
    rw [c3] at CC
    obtain ⟨y, hy⟩ : ∃ y, c - j + 1 = y := ⟨_, rfl⟩
    have ey : (c : Int) - (j : Int) + 1 = (y : Int) := by omega
    rw [hy]
    have hyb : y ≤ 4194305 := by omega
    clear HM hu hB hb c3 hy hm
    go_enter Try.func15, Try.ntmps15
    go_wp2_with fail
    refine CC.out.mono ?_
    rintro o w2 ⟨rfl, t, ht, hw⟩
    have HB := Lib.hid (went_start hw)
    clear hw
    go_wp2
    go_ret
    exact ⟨by first | rfl | go_num, HB.out⟩
set_option maxHeartbeats 1000000 in
set_option maxRecDepth 100000 in
theorem rsteps_any (B T : Nat) (v : Value) (xs : List Bool) (w : World) (h : IsP B T w v xs) :
    Calls Try.prog 51 #[v] w fun e w' => ∃ s : Nat, s ≤ stepsN xs.length ∧ e = .returned (.int .i64 s) ∧ w = w' := by
  obtain ⟨p, q, P, cap, st, bv, bl, rfl, h1, h2, h3⟩ := h
  have c1 : w.cell? ⟨p, 1, none⟩ = some (.int .i64 st) := h2.cell (i := 1) (by decide)
  have H3 := Lib.hid h3
  clear h1 h2 h3
  go_enter Try.func51, Try.ntmps51
  go_wp2
  go_ret
  exact ⟨st, H3.out, rfl, rfl⟩
/-! ### nil -/
set_option maxHeartbeats 1000000 in
set_option maxRecDepth 100000 in
theorem rrowNil_any (w : World) : Calls Try.prog 43 #[.pointer none] w fun e w' => e = .returned (.agg #[.pointer none]) ∧ Below w.heap.size w w' := by
  have HB := Lib.hid (fun c t => (Below.refl w.heap.size w).alloc (Nat.le_refl _) (.cells c t))
  go_enter Try.func43, Try.ntmps43
  go_wp2
  go_returns
  exact ⟨rfl, HB.out _ _⟩
set_option maxHeartbeats 1000000 in
set_option maxRecDepth 100000 in
theorem rplenNil_any (w : World) : Calls Try.prog 49 #[.agg #[.pointer none]] w fun e w' => e = .returned (.int .i64 0) ∧ Below w.heap.size w w' := by
  have HB := Lib.hid (fun c t => (Below.refl w.heap.size w).alloc (Nat.le_refl _) (.cells c t))
  go_enter Try.func49, Try.ntmps49
  go_wp2_with fail
  refine (rlenNil_any _).mono ?_
  rintro e w' ⟨rfl, rfl⟩
  go_wp2
  go_ret
  exact ⟨rfl, HB.out _ _⟩
set_option maxHeartbeats 1000000 in
set_option maxRecDepth 100000 in
theorem rlenPNil_any (w : World) : Calls Try.prog 23 #[.pointer none] w fun e w' => e = .returned (.int .i64 0) ∧ Below w.heap.size w w' := by
  go_enter Try.func23, Try.ntmps23
  go_wp2_with fail
  refine (rrowNil_any w).mono ?_
  rintro o w1 ⟨rfl, hb1⟩
  go_wp2_with fail
  refine (rplenNil_any w1).mono ?_
  rintro o w2 ⟨rfl, hb2⟩
  go_wp2
  go_ret
  exact ⟨rfl, hb1.trans (hb2.mono hb1.size)⟩
set_option maxHeartbeats 1000000 in
set_option maxRecDepth 100000 in
theorem risNil_any (a : Addr) (w : World) : Calls Try.prog 56 #[.agg #[.pointer none], .int .i64 0, .bool true, .pointer (some a)] w fun e w' => e = .returned (.bool false) ∧ Below w.heap.size w w' := by
  have hb0 := (Below.refl w.heap.size w).alloc (Nat.le_refl _) (.cells #[.pointer none] 48)
  go_enter Try.func56, Try.ntmps56
  go_wp2_with fail
  refine (rplenNil_any _).mono ?_
  rintro o w1 ⟨rfl, hb1⟩
  have HB := Lib.hid (hb0.trans (hb1.mono hb0.size))
  clear hb0 hb1
  go_wp2
  go_ret
  exact ⟨rfl, HB.out⟩
set_option maxHeartbeats 1000000 in
set_option maxRecDepth 100000 in
theorem rclosingNil_any (a : Addr) (w : World) : Calls Try.prog 40 #[.pointer none, .int .i64 0, .pointer (some a)] w fun e w' => e = .returned (.int .i64 (-1)) ∧ Below w.heap.size w w' := by
  go_enter Try.func40, Try.ntmps40
  go_wp2_with fail
  refine (rrowNil_any w).mono ?_
  rintro o w1 ⟨rfl, hb1⟩
  have hb2 := hb1.alloc hb1.size (.cells #[.pointer none] 48)
  go_wp2_with fail
  refine (risNil_any a _).mono ?_
  rintro o w3 ⟨rfl, hb3⟩
  have HB := Lib.hid (hb2.trans (hb3.mono hb2.size))
  clear hb1 hb2 hb3
  go_wp2
  go_ret
  exact ⟨rfl, HB.out⟩
set_option maxHeartbeats 1000000 in
set_option maxRecDepth 100000 in
theorem rlookedNil_any (t : Int) (w : World) : Calls Try.prog 41 #[.pointer none, .int .i64 t] w fun e w' => e = .returned (.tuple #[]) ∧ w = w' := by
  go_enter Try.func41, Try.ntmps41
  go_wp2
  go_end0
  exact ⟨rfl, rfl⟩
set_option maxHeartbeats 1000000 in
set_option maxRecDepth 100000 in
theorem rcloseNil_any (w : World) : Calls Try.prog 13 #[.pointer none, .int .i64 0] w fun e w' => e = .returned (.int .i64 (-1)) ∧ Below w.heap.size w w' := by
  have hb0 := (Below.refl w.heap.size w).alloc (Nat.le_refl _) (.cells #[.int .i64 0] 3)
  have HX := Lib.hid (new_box w (.int .i64 0) 3)
  go_enter Try.func13, Try.ntmps13
  go_wp2_with fail
  refine (rclosingNil_any _ _).mono ?_
  rintro o w2 ⟨rfl, hb2⟩
  have hc : w2.cell? ⟨w.heap.size, 0, none⟩ = some (.int .i64 0) := (HX.out.of_block (hb2.block _ HX.out.lt)).cell (i := 0) Nat.one_pos
  have HB := Lib.hid (hb0.trans (hb2.mono hb0.size))
  clear hb0 hb2
  go_wp2_with fail
  refine (rlookedNil_any 0 w2).mono ?_
  rintro o w3 ⟨rfl, rfl⟩
  go_wp2
  go_ret
  exact ⟨rfl, HB.out⟩
end Go.Proofs.Yteecanaibkpmfaa
