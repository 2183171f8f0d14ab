/-
  THE LANDED PACKAGE paren: enclosing.
-/
import Derived.Test.YteecanaibkpmfaaRunPAsk
namespace Go.Proofs.Yteecanaibkpmfaa
open Go.RowKit

section
variable {B T p q P cap st sb s : Nat} {bv : Value} {bl : Nat → Nat} {xs : List Bool}
set_option maxHeartbeats 2000000 in
set_option maxRecDepth 100000 in
theorem renclosing_any (k n : Int) (w : World) (hs : s ≤ 90000) (hk64 : In64 k) (hn64 : In64 n) (h : Mid B T p q P cap st sb bv bl xs s w) :
    Calls Try.prog 46 #[.pointer (some ⟨p, 0, none⟩), .int .i64 k, .int .i64 n, .pointer (some ⟨sb, 0, none⟩)] w fun o w' =>
      o = .returned (.int .i64 (upL xs k n)) ∧ ∃ d, d ≤ aftN xs.length + 4 ∧ Went sb (s + d) w w' := by
  have H0 := Lib.hid h
  have HK := Lib.hid hk64
  have hxl := h.inp.len
  obtain ⟨hn1, hn2⟩ := hn64
  obtain ⟨ba, rfl⟩ := h.bits
  clear h hk64
  go_enter Try.func46, Try.ntmps46
  go_wp2_with fail
  refine H0.out.rowV.mono ?_
  rintro o w1 ⟨rfl, hb1⟩
  have hsb1 : w1.heap.size ≠ sb := by have := (H0.out.other hb1).sr.lt; omega
  have HBX := Lib.hid (new_box w1 (.pointer (some ba)) 48)
  have HB2 := Lib.hid (hb1.alloc hb1.size (.cells #[.pointer (some ba)] 48))
  have hc1 : (w1.alloc (.cells #[.pointer (some ba)] 48)).cell? ⟨w1.heap.size, 0, none⟩ = some (.pointer (some ba)) := HBX.out.cell (i := 0) Nat.one_pos
  have HM2 := Lib.hid (H0.out.other HB2.out)
  have HW2 := Lib.hid (Went.stay H0.out.sr HB2.out)
  clear hb1
  by_cases hn0 : n < 0
  · have gn : decide (n < 0) = true := decide_eq_true hn0
    go_wp2
    go_ret
    exact ⟨by rw [upL_neg k n hn0]; rfl, 0, by omega, HW2.out⟩
  have gn : decide (n < 0) = false := decide_eq_false hn0
  obtain ⟨m, rfl⟩ := Int.eq_ofNat_of_zero_le (show 0 ≤ n by omega)
  go_wp2_with fail
  refine (HM2.out.isAt k true (by omega) HK.out).mono ?_
  rintro o w3 ⟨rfl, d1, hd1, hw3⟩
  have hc3 := hw3.box HBX.out hsb1
  have HBX3 := Lib.hid (HBX.out.of_block (hw3.apart.block w1.heap.size HBX.out.lt (by omega)))
  have HW3 := Lib.hid (HW2.out.trans hw3)
  have HM3 := Lib.hid (HM2.out.went hw3)
  have HD1 := Lib.hid hd1
  obtain ⟨u, hu⟩ : ∃ u, isB xs k true = u := ⟨_, rfl⟩
  have HU := Lib.hid hu
  rw [hu]
  clear hw3 hu hd1
  cases u
  · go_wp2
    go_ret
    refine ⟨by rw [upL_none k (m : Int) (by rw [← isB_open]; exact HU.out)]; rfl, d1, by have := HD1.out; omega, HW3.out⟩
  · obtain ⟨j, rfl, hj, hb⟩ := isB_at HU.out
    have HB := Lib.hid hb
    have hd1 := HD1.out
    have hjl : j ≤ xs.length := by omega
    clear hb
    go_wp2_with fail
    refine (HM3.out.excAt j (by omega) hjl).mono ?_
    rintro o w4 ⟨rfl, d2, hd2, hw4⟩
    have HW4 := Lib.hid (HW3.out.trans hw4)
    have HM4 := Lib.hid (HM3.out.went hw4)
    clear hw4 hc3
    obtain ⟨x, hx⟩ : ∃ x, exc xs j = x := ⟨_, rfl⟩
    have hxb := exc_bound xs j
    rw [hx] at hxb
    have HX := Lib.hid hx
    rw [hx]
    clear hx
    by_cases hmx : x < (m : Int)
    · have gm : decide (x < (m : Int)) = true := decide_eq_true hmx
      go_wp2
      go_ret
      refine ⟨by rw [told_out H0.out.inp.may hj HB.out (by rw [HX.out]; exact hmx)]; rfl, d1 + d2, by omega, ?_⟩
      rw [show s + (d1 + d2) = s + d1 + d2 by omega]
      exact HW4.out
    · have gm : decide (x < (m : Int)) = false := decide_eq_false hmx
      go_wp2_with fail
      refine (rbefore_any j (x - (m : Int)) w4 (s := s + d1 + d2) (by omega) hj HM4.out).mono ?_
      rintro o w5 ⟨r, rfl, hr, d3, hd3, hw5⟩
      have hto := told_up (r := r) (m := m) H0.out.inp.may hj HB.out (by rw [HX.out]; omega) (by rw [HX.out]; exact hr)
      have hrb : -1 ≤ r ∧ r ≤ 4194304 := by
        rcases hr with ⟨y, rfl, hy, _⟩ | ⟨rfl, _⟩ <;> omega
      have HTO := Lib.hid hto
      have HW5 := Lib.hid (HW4.out.trans hw5)
      clear hr hto hw5
      go_wp2
      go_ret
      refine ⟨by rw [← HTO.out]; first | rfl | go_num, d1 + d2 + d3, by omega, ?_⟩
      rw [show s + (d1 + d2 + d3) = s + d1 + d2 + d3 by omega]
      exact HW5.out
end
end Go.Proofs.Yteecanaibkpmfaa
