/-
  THE LAW BitsSizes, out of what is asked of package bits (BitSaid): it returns true.
-/
import Derived.Test.YtiofekpnjckpiaaBitTold
namespace Go.Proofs.Ytiofekpnjckpiaa
open Go.RowKit

theorem wrap_mod (a : Int) (m : Nat) (h0 : 0 < m) (hm : m ≤ 1000000) : ∃ u x : Nat, IntKind.u64.wrap a = (u : Int) ∧ Int.tmod (u : Int) (m : Int) = (x : Int) ∧ x < m ∧ IntKind.u64.wrap (x : Int) = (x : Int) ∧ IntKind.i64.wrap (x : Int) = (x : Int) := by
  have hu : 0 ≤ IntKind.u64.wrap a := by simp [IntKind.wrap, IntKind.bits, IntKind.signed]; omega
  refine ⟨(IntKind.u64.wrap a).toNat, (IntKind.u64.wrap a).toNat % m, by omega, ?_, Nat.mod_lt _ h0, ?_, ?_⟩
  · rw [Int.tmod_eq_emod_of_nonneg (by omega)]; omega
  · have := Nat.mod_lt (IntKind.u64.wrap a).toNat h0
    generalize (IntKind.u64.wrap a).toNat % m = t at *
    simp [IntKind.wrap, IntKind.bits, IntKind.signed]; omega
  · have := Nat.mod_lt (IntKind.u64.wrap a).toNat h0
    generalize (IntKind.u64.wrap a).toNat % m = t at *
    simp [IntKind.wrap, IntKind.bits, IntKind.signed]; omega
theorem made_cells (n : Nat) : (madeCells #[.bool false] n).toList = (List.replicate n false).map Value.bool := by
  have e : (madeCells #[.bool false] n) = Array.replicate n (.bool false) := by
    unfold madeCells
    apply Array.ext
    · simp
    · intro i h1 h2; simp [Nat.mod_one]
  rw [e]; simp
theorem row_made (w : World) (n : Nat) : RowOK (w.alloc (.cells (madeCells #[.bool false] n) 4)) (.slice (some ⟨w.heap.size, 0, none⟩) n n) (List.replicate n false) :=
  boolsAt_alloc w _ _ _ n n (made_cells n) (by simp) (Nat.le_refl _)

set_option maxHeartbeats 4000000 in
set_option maxRecDepth 100000 in
theorem bsizes_any {E : World → Prop} {Is : Nat → World → Value → List Bool → Prop} (T : BitSaid E Is) (a b : Int) (w : World) (hE : E w) :
    Calls Try.prog 5 #[.int .i64 a, .int .i64 b] w fun e w' => e = .returned (.bool true) ∧ Below w.heap.size w w' := by
  have HE := Lib.hid hE
  clear hE
  obtain ⟨u, x, hu1, hu2, hx, hx1, hx2⟩ := wrap_mod a 4001 (by decide) (by decide)
  obtain ⟨u', y, hv1, hv2, hy, hy1, hy2⟩ := wrap_mod b 4001 (by decide) (by decide)
  replace hu2 : Int.tmod (u : Int) 4001 = (x : Int) := hu2
  replace hv2 : Int.tmod (u' : Int) 4001 = (y : Int) := hv2
  go_enter Try.func5, Try.ntmps5
  by_cases hlt : y < x
  · have g1 : decide (y < x) = true := decide_eq_true hlt
    have g2 : decide ((y : Int) < (x : Int)) = true := decide_eq_true (by omega)
    have HPQ : Hid (y ≤ x) := Lib.hid (by omega)
    have hba := (Below.refl w.heap.size w).alloc (Nat.le_refl _) (.cells (madeCells #[.bool false] y) 4)
    have hmk := make_bools y (by omega) w
    have HN : Hid ((List.replicate y false).length = y) := Lib.hid (by simp)
    have HM : Hid ((List.replicate x false).length = x) := Lib.hid (by simp)
    go_wp2_with fail
    refine (T.new _ (List.replicate y false) _ (T.below _ _ HE.out hba) (by rw [HN.out]; omega) (row_made w y)).mono ?_
    rintro e w1 ⟨v, rfl, hI1, hb'⟩
    obtain ⟨a1, rfl⟩ := T.isPtr _ _ _ _ hI1
    have hb : Below w.heap.size w w1 := step_below3 hba hb'
    clear hba hb' hmk
    have hba := (Below.refl w1.heap.size w1).alloc (Nat.le_refl _) (.cells (madeCells #[.bool false] x) 4)
    have hmk := make_bools x (by omega) w1
    go_wp2_with fail
    refine (T.new _ (List.replicate x false) _ (T.below _ _ HE.out (step_below3 hb hba)) (by rw [HM.out]; omega) (row_made w1 x)).mono ?_
    rintro e w2 ⟨v, rfl, hL2, hb'⟩
    obtain ⟨a2, rfl⟩ := T.isPtr _ _ _ _ hL2
    replace hb' := step_below3 hba hb'
    have hI2 := T.isBelow hI1 hb'
    replace hb := step_below3 hb hb'
    clear hba hb' hmk hI1
    go_wp2_with fail
    refine (told3_any T _ (T.below _ _ HE.out hb)).mono ?_
    rintro e w3 ⟨rfl, hb'⟩
    have hI3 := T.isBelow hI2 hb'
    have hL3 := T.isBelow hL2 hb'
    replace hb := step_below3 hb hb'
    clear hb' hI2 hL2
    obtain ⟨s, HS⟩ : ∃ s, Hid (bitsN y = s) := ⟨_, Lib.hid rfl⟩
    obtain ⟨t, HT⟩ : ∃ t, Hid (bitsN x = t) := ⟨_, Lib.hid rfl⟩
    have h1 : s ≤ t := by rw [← HS.out, ← HT.out]; exact bitsN_mono _ _ HPQ.out
    have h2 : x ≤ t := by rw [← HT.out]; exact bitsN_ge _
    have h3 : 3 * t ≤ 4 * x + 400 := by rw [← HT.out]; exact bitsN_le _
    go_wp2_with fail
    refine (T.sizeIs s (by rw [HN.out]; exact HS.out) _ (T.below _ _ HE.out hb) (by rw [HN.out]; omega) hI3).mono ?_
    rintro e w4 ⟨rfl, hb'⟩
    have hL4 := T.isBelow hL3 hb'
    replace hb := step_below3 hb hb'
    clear hb' hI3 hL3
    go_wp2_with fail
    refine (T.sizeIs t (by rw [HM.out]; exact HT.out) _ (T.below _ _ HE.out hb) (by rw [HM.out]; omega) hL4).mono ?_
    rintro e w5 ⟨rfl, hb'⟩
    have hL5 := T.isBelow hL4 hb'
    replace hb := step_below3 hb hb'
    clear hb' hL4
    go_wp2_with fail
    refine (T.sizeIs t (by rw [HM.out]; exact HT.out) _ (T.below _ _ HE.out hb) (by rw [HM.out]; omega) hL5).mono ?_
    rintro e w6 ⟨rfl, hb'⟩
    have hL6 := T.isBelow hL5 hb'
    replace hb := step_below3 hb hb'
    clear hb' hL5
    go_wp2_with fail
    refine (T.sizeIs t (by rw [HM.out]; exact HT.out) _ (T.below _ _ HE.out hb) (by rw [HM.out]; omega) hL6).mono ?_
    rintro e w7 ⟨rfl, hb'⟩
    replace hb := step_below3 hb hb'
    clear hb' hL6
    have e4 : decide (3 * t ≤ 4 * x + 400) = true := decide_eq_true h3
    have e5 : decide (x ≤ t) = true := decide_eq_true h2
    have e6 : decide (s ≤ t) = true := decide_eq_true h1
    have e7 : decide (3 * (t : Int) ≤ 4 * (x : Int) + 400) = true := decide_eq_true (by omega)
    go_wp2
    go_ret
    exact ⟨rfl, hb⟩
  · have g1 : decide (y < x) = false := decide_eq_false hlt
    have g2 : decide ((y : Int) < (x : Int)) = false := decide_eq_false (by omega)
    have HPQ : Hid (x ≤ y) := Lib.hid (by omega)
    have hba := (Below.refl w.heap.size w).alloc (Nat.le_refl _) (.cells (madeCells #[.bool false] x) 4)
    have hmk := make_bools x (by omega) w
    have HN : Hid ((List.replicate x false).length = x) := Lib.hid (by simp)
    have HM : Hid ((List.replicate y false).length = y) := Lib.hid (by simp)
    go_wp2_with fail
    refine (T.new _ (List.replicate x false) _ (T.below _ _ HE.out hba) (by rw [HN.out]; omega) (row_made w x)).mono ?_
    rintro e w1 ⟨v, rfl, hI1, hb'⟩
    obtain ⟨a1, rfl⟩ := T.isPtr _ _ _ _ hI1
    have hb : Below w.heap.size w w1 := step_below3 hba hb'
    clear hba hb' hmk
    have hba := (Below.refl w1.heap.size w1).alloc (Nat.le_refl _) (.cells (madeCells #[.bool false] y) 4)
    have hmk := make_bools y (by omega) w1
    go_wp2_with fail
    refine (T.new _ (List.replicate y false) _ (T.below _ _ HE.out (step_below3 hb hba)) (by rw [HM.out]; omega) (row_made w1 y)).mono ?_
    rintro e w2 ⟨v, rfl, hL2, hb'⟩
    obtain ⟨a2, rfl⟩ := T.isPtr _ _ _ _ hL2
    replace hb' := step_below3 hba hb'
    have hI2 := T.isBelow hI1 hb'
    replace hb := step_below3 hb hb'
    clear hba hb' hmk hI1
    go_wp2_with fail
    refine (told3_any T _ (T.below _ _ HE.out hb)).mono ?_
    rintro e w3 ⟨rfl, hb'⟩
    have hI3 := T.isBelow hI2 hb'
    have hL3 := T.isBelow hL2 hb'
    replace hb := step_below3 hb hb'
    clear hb' hI2 hL2
    obtain ⟨s, HS⟩ : ∃ s, Hid (bitsN x = s) := ⟨_, Lib.hid rfl⟩
    obtain ⟨t, HT⟩ : ∃ t, Hid (bitsN y = t) := ⟨_, Lib.hid rfl⟩
    have h1 : s ≤ t := by rw [← HS.out, ← HT.out]; exact bitsN_mono _ _ HPQ.out
    have h2 : y ≤ t := by rw [← HT.out]; exact bitsN_ge _
    have h3 : 3 * t ≤ 4 * y + 400 := by rw [← HT.out]; exact bitsN_le _
    go_wp2_with fail
    refine (T.sizeIs s (by rw [HN.out]; exact HS.out) _ (T.below _ _ HE.out hb) (by rw [HN.out]; omega) hI3).mono ?_
    rintro e w4 ⟨rfl, hb'⟩
    have hL4 := T.isBelow hL3 hb'
    replace hb := step_below3 hb hb'
    clear hb' hI3 hL3
    go_wp2_with fail
    refine (T.sizeIs t (by rw [HM.out]; exact HT.out) _ (T.below _ _ HE.out hb) (by rw [HM.out]; omega) hL4).mono ?_
    rintro e w5 ⟨rfl, hb'⟩
    have hL5 := T.isBelow hL4 hb'
    replace hb := step_below3 hb hb'
    clear hb' hL4
    go_wp2_with fail
    refine (T.sizeIs t (by rw [HM.out]; exact HT.out) _ (T.below _ _ HE.out hb) (by rw [HM.out]; omega) hL5).mono ?_
    rintro e w6 ⟨rfl, hb'⟩
    have hL6 := T.isBelow hL5 hb'
    replace hb := step_below3 hb hb'
    clear hb' hL5
    go_wp2_with fail
    refine (T.sizeIs t (by rw [HM.out]; exact HT.out) _ (T.below _ _ HE.out hb) (by rw [HM.out]; omega) hL6).mono ?_
    rintro e w7 ⟨rfl, hb'⟩
    replace hb := step_below3 hb hb'
    clear hb' hL6
    have e4 : decide (3 * t ≤ 4 * y + 400) = true := decide_eq_true h3
    have e5 : decide (y ≤ t) = true := decide_eq_true h2
    have e6 : decide (s ≤ t) = true := decide_eq_true h1
    have e7 : decide (3 * (t : Int) ≤ 4 * (y : Int) + 400) = true := decide_eq_true (by omega)
    go_wp2
    go_ret
    exact ⟨rfl, hb⟩
end Go.Proofs.Ytiofekpnjckpiaa
