/-
  THE LANDED PACKAGE paren: Excess, Span, Steps; what nil tells.
-/
import Derived.Test.YteecanaibkpmfaaRunPCall
namespace Go.Proofs.Yteecanaibkpmfaa
open Go.RowKit

set_option maxHeartbeats 1000000 in
set_option maxRecDepth 100000 in
theorem rexcess_any (B T : Nat) (v : Value) (xs : List Bool) (k : Int) (w : World) (hk : In64 k) (h : IsP B T w v xs) :
    Calls Try.prog 17 #[v, .int .i64 k] w fun e w' => e = .returned (.int .i64 (excL xs k)) ∧ Below w.heap.size w w' := by
  have CL := Lib.hid (rplenP_any B T v xs w h)
  have H := Lib.hid h
  have hxl : xs.length ≤ 4194304 := by obtain ⟨_, _, _, _, _, _, _, _, h1, _⟩ := h; exact h1.len
  obtain ⟨a, rfl⟩ := isp_ptr B T w v xs h
  obtain ⟨hk1, hk2⟩ := hk
  clear h
  by_cases h0 : k < 0
  · rw [show excL xs k = -1 from by unfold excL; rw [if_neg (by omega)]]
    go_enter Try.func17, Try.ntmps17
    go_wp2
    go_ret
    exact ⟨rfl, Below.refl _ _⟩
  · obtain ⟨j, rfl⟩ := Int.eq_ofNat_of_zero_le (show 0 ≤ k by omega)
    by_cases h1 : j < xs.length
    · rw [show excL xs (j : Int) = exc xs (j + 1) from by unfold excL; rw [if_pos (by omega), Int.toNat_natCast]]
      have g1 : decide (xs.length ≤ j) = false := decide_eq_false (by omega)
      obtain ⟨j1, hj1⟩ : ∃ j1, j + 1 = j1 := ⟨_, rfl⟩
      have ej : (j : Int) + 1 = (j1 : Int) := by omega
      have hj1l : j1 ≤ xs.length := by omega
      rw [hj1]
      clear hj1
      go_enter Try.func17, Try.ntmps17
      go_wp2_with fail
      refine CL.out.mono ?_
      rintro o w1 ⟨rfl, hb1⟩
      have HI := Lib.hid (isp_below H.out hb1)
      obtain ⟨p, q, P, cap, st, bv, bl, hv, i1, i2, i3⟩ := HI.out
      injection hv with hv
      injection hv with hv
      subst hv
      have CR := Lib.hid (row_of i1 i2)
      have I1 := Lib.hid i1
      have I2 := Lib.hid i2
      have HB1 := Lib.hid hb1
      clear i1 i2 i3 HI hb1
      go_wp2_with fail
      refine CR.out.mono ?_
      rintro o w2 ⟨rfl, hb2⟩
      have HM := Lib.hid (mid_start (I1.out.keep hb2.size fun k _ h _ => hb2.block k (by have := I1.out.size; omega)) (I2.out.of_block (hb2.block p (by have := I1.out.size; have := I1.out.pT; omega))))
      have HB2 := Lib.hid (HB1.out.trans (hb2.mono HB1.out.size))
      clear hb2
      go_wp2_with fail
      refine (HM.out.excAt j1 (by decide) hj1l).mono ?_
      rintro o w3 ⟨rfl, d, hd, hw⟩
      have HE := Lib.hid (HB2.out.trans ((went_start hw).mono HB2.out.size))
      clear hw
      go_wp2
      go_ret
      exact ⟨rfl, HE.out⟩
    · rw [show excL xs (j : Int) = -1 from by unfold excL; rw [if_neg (by omega)]]
      have g1 : decide (xs.length ≤ j) = true := decide_eq_true (by omega)
      go_enter Try.func17, Try.ntmps17
      go_wp2_with fail
      refine CL.out.mono ?_
      rintro o w1 ⟨rfl, hb1⟩
      go_wp2
      go_ret
      exact ⟨rfl, hb1⟩
set_option maxHeartbeats 1000000 in
set_option maxRecDepth 100000 in
theorem rspan_any (B T : Nat) (v : Value) (xs : List Bool) (k : Int) (w : World) (hk : In64 k) (h : IsP B T w v xs) :
    Calls Try.prog 15 #[v, .int .i64 k] w fun e w' => e = .returned (.int .i64 (spanL xs k)) ∧ Below w.heap.size w w' := by
  obtain ⟨p, q, P, cap, st, bv, bl, rfl, h1, h2, h3⟩ := h
  have hm := h1.may
  have hxl := h1.len
  have HM := Lib.hid (mid_start h1 h2)
  clear h1 h2 h3
  obtain ⟨u, hu⟩ : ∃ u, openB xs k = u := ⟨_, rfl⟩
  have CC := Lib.hid (rclosing_any k _ (by decide) hk HM.out)
  cases u
  · rw [show closeL xs k = -1 from by unfold closeL; rw [hu]; rfl] at CC
    rw [show spanL xs k = 0 from by unfold spanL; rw [hu]; rfl]
    clear HM hu
    go_enter Try.func15, Try.ntmps15
    go_wp2_with fail
    refine CC.out.mono ?_
    rintro o w2 ⟨rfl, t, ht, hw⟩
    have HB := Lib.hid (went_start hw)
    clear hw
    go_wp2
    go_ret
    exact ⟨rfl, HB.out⟩
  · have hB : isB xs k true = true := by rw [isB_open]; exact hu
    obtain ⟨j, rfl, hj, hb⟩ := isB_at hB
    obtain ⟨c, c1, c2, c3, _⟩ := close_spec hm j hj hb
    rw [spanL_nat j c hj hb c3 c1]
    rw [c3] at CC
    obtain ⟨y, hy⟩ : ∃ y, c - j + 1 = y := ⟨_, rfl⟩
    have ey : (c : Int) - (j : Int) + 1 = (y : Int) := by omega
    rw [hy]
    have hyb : y ≤ 4194305 := by omega
    clear HM hu hB hb c3 hy hm
    go_enter Try.func15, Try.ntmps15
    go_wp2_with fail
    refine CC.out.mono ?_
    rintro o w2 ⟨rfl, t, ht, hw⟩
    have HB := Lib.hid (went_start hw)
    clear hw
    go_wp2
    go_ret
    exact ⟨by first | rfl | go_num, HB.out⟩
set_option maxHeartbeats 1000000 in
set_option maxRecDepth 100000 in
theorem rsteps_any (B T : Nat) (v : Value) (xs : List Bool) (w : World) (h : IsP B T w v xs) :
    Calls Try.prog 51 #[v] w fun e w' => ∃ s : Nat, s ≤ stepsN xs.length ∧ e = .returned (.int .i64 s) ∧ w = w' := by
  obtain ⟨p, q, P, cap, st, bv, bl, rfl, h1, h2, h3⟩ := h
  have c1 : w.cell? ⟨p, 1, none⟩ = some (.int .i64 st) := h2.cell (i := 1) (by decide)
  have H3 := Lib.hid h3
  clear h1 h2 h3
  go_enter Try.func51, Try.ntmps51
  go_wp2
  go_ret
  exact ⟨st, H3.out, rfl, rfl⟩
/-! ### nil -/
set_option maxHeartbeats 1000000 in
set_option maxRecDepth 100000 in
theorem rrowNil_any (w : World) : Calls Try.prog 43 #[.pointer none] w fun e w' => e = .returned (.agg #[.pointer none]) ∧ Below w.heap.size w w' := by
  have HB := Lib.hid (fun c t => (Below.refl w.heap.size w).alloc (Nat.le_refl _) (.cells c t))
  go_enter Try.func43, Try.ntmps43
  go_wp2
  go_returns
  exact ⟨rfl, HB.out _ _⟩
set_option maxHeartbeats 1000000 in
set_option maxRecDepth 100000 in
theorem rplenNil_any (w : World) : Calls Try.prog 49 #[.agg #[.pointer none]] w fun e w' => e = .returned (.int .i64 0) ∧ Below w.heap.size w w' := by
  have HB := Lib.hid (fun c t => (Below.refl w.heap.size w).alloc (Nat.le_refl _) (.cells c t))
  go_enter Try.func49, Try.ntmps49
  go_wp2_with fail
  refine (rlenNil_any _).mono ?_
  rintro e w' ⟨rfl, rfl⟩
  go_wp2
  go_ret
  exact ⟨rfl, HB.out _ _⟩
set_option maxHeartbeats 1000000 in
set_option maxRecDepth 100000 in
theorem rlenPNil_any (w : World) : Calls Try.prog 23 #[.pointer none] w fun e w' => e = .returned (.int .i64 0) ∧ Below w.heap.size w w' := by
  go_enter Try.func23, Try.ntmps23
  go_wp2_with fail
  refine (rrowNil_any w).mono ?_
  rintro o w1 ⟨rfl, hb1⟩
  go_wp2_with fail
  refine (rplenNil_any w1).mono ?_
  rintro o w2 ⟨rfl, hb2⟩
  go_wp2
  go_ret
  exact ⟨rfl, hb1.trans (hb2.mono hb1.size)⟩
set_option maxHeartbeats 1000000 in
set_option maxRecDepth 100000 in
theorem risNil_any (a : Addr) (w : World) : Calls Try.prog 56 #[.agg #[.pointer none], .int .i64 0, .bool true, .pointer (some a)] w fun e w' => e = .returned (.bool false) ∧ Below w.heap.size w w' := by
  have hb0 := (Below.refl w.heap.size w).alloc (Nat.le_refl _) (.cells #[.pointer none] 48)
  go_enter Try.func56, Try.ntmps56
  go_wp2_with fail
  refine (rplenNil_any _).mono ?_
  rintro o w1 ⟨rfl, hb1⟩
  have HB := Lib.hid (hb0.trans (hb1.mono hb0.size))
  clear hb0 hb1
  go_wp2
  go_ret
  exact ⟨rfl, HB.out⟩
set_option maxHeartbeats 1000000 in
set_option maxRecDepth 100000 in
theorem rclosingNil_any (a : Addr) (w : World) : Calls Try.prog 40 #[.pointer none, .int .i64 0, .pointer (some a)] w fun e w' => e = .returned (.int .i64 (-1)) ∧ Below w.heap.size w w' := by
  go_enter Try.func40, Try.ntmps40
  go_wp2_with fail
  refine (rrowNil_any w).mono ?_
  rintro o w1 ⟨rfl, hb1⟩
  have hb2 := hb1.alloc hb1.size (.cells #[.pointer none] 48)
  go_wp2_with fail
  refine (risNil_any a _).mono ?_
  rintro o w3 ⟨rfl, hb3⟩
  have HB := Lib.hid (hb2.trans (hb3.mono hb2.size))
  clear hb1 hb2 hb3
  go_wp2
  go_ret
  exact ⟨rfl, HB.out⟩
set_option maxHeartbeats 1000000 in
set_option maxRecDepth 100000 in
theorem rlookedNil_any (t : Int) (w : World) : Calls Try.prog 41 #[.pointer none, .int .i64 t] w fun e w' => e = .returned (.tuple #[]) ∧ w = w' := by
  go_enter Try.func41, Try.ntmps41
  go_wp2
  go_end0
  exact ⟨rfl, rfl⟩
set_option maxHeartbeats 1000000 in
set_option maxRecDepth 100000 in
theorem rcloseNil_any (w : World) : Calls Try.prog 13 #[.pointer none, .int .i64 0] w fun e w' => e = .returned (.int .i64 (-1)) ∧ Below w.heap.size w w' := by
  have hb0 := (Below.refl w.heap.size w).alloc (Nat.le_refl _) (.cells #[.int .i64 0] 3)
  have HX := Lib.hid (new_box w (.int .i64 0) 3)
  go_enter Try.func13, Try.ntmps13
  go_wp2_with fail
  refine (rclosingNil_any _ _).mono ?_
  rintro o w2 ⟨rfl, hb2⟩
  have hc : w2.cell? ⟨w.heap.size, 0, none⟩ = some (.int .i64 0) := (HX.out.of_block (hb2.block _ HX.out.lt)).cell (i := 0) Nat.one_pos
  have HB := Lib.hid (hb0.trans (hb2.mono hb0.size))
  clear hb0 hb2
  go_wp2_with fail
  refine (rlookedNil_any 0 w2).mono ?_
  rintro o w3 ⟨rfl, rfl⟩
  go_wp2
  go_ret
  exact ⟨rfl, HB.out⟩
end Go.Proofs.Yteecanaibkpmfaa
