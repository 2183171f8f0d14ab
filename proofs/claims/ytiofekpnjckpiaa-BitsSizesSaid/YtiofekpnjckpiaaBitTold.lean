/-
  THE CONTRACT OF brackenlaw3.told, out of what is asked of package bits (BitSaid): it returns true.
-/
import Derived.Test.YtiofekpnjckpiaaBitSaid
import Derived.KernelRfl
import Derived.Deep.OwnRows
namespace Go.Proofs.Ytiofekpnjckpiaa
open Go.RowKit

def few3 : List Bool := [true, false, true]
def none65 : List Bool := List.replicate 65 false
theorem few3_get : getB few3 3 = false := by kernel_rfl
theorem few3_getC : getC few3 3 = 4 := by kernel_rfl
theorem few3_r1 : rankL few3 2 true = 1 := by kernel_rfl
theorem few3_r2 : rankL few3 9 false = 1 := by kernel_rfl
theorem few3_r3 : rankL few3 (-1) true = 0 := by kernel_rfl
theorem few3_s1 : selL few3 1 true = 2 := by kernel_rfl
theorem few3_s2 : selL few3 1 false = -1 := by kernel_rfl
theorem none65_size : bitsN none65.length = 192 := by kernel_rfl
theorem none65_len : none65.length = 65 := by kernel_rfl
theorem in64_small (k : Int) (h : -1000000000000 ≤ k ∧ k ≤ 1000000000000 := by decide) : In64 k := ⟨by omega, by omega⟩

theorem make_bools (n : Nat) (h : n ≤ 100000) (w : World) :
    (Instr.makeSlice 23 (.int .i64 (n : Int)) (.int .i64 (n : Int))).run Try.prog w = .ok (.slice (some ⟨w.heap.size, 0, none⟩) n n) (w.alloc (.cells (madeCells #[.bool false] n) 4)) :=
  run_make_row' 23 4 (.bool false) 1 Try.underlying23 info_bool rfl .i64 .i64 n (by omega) (by omega) w
theorem make_65 (w : World) :
    (Instr.makeSlice 23 (.int .i64 65) (.int .i64 65)).run Try.prog w = .ok (.slice (some ⟨w.heap.size, 0, none⟩) 65 65) (w.alloc (.cells (madeCells #[.bool false] 65) 4)) := make_bools 65 (by decide) w

set_option maxHeartbeats 4000000 in
set_option maxRecDepth 100000 in
theorem told3_any {E : World → Prop} {Is : Nat → World → Value → List Bool → Prop} (T : BitSaid E Is) (w : World) (hE : E w) :
    Calls Try.prog 10 #[] w fun e w' => e = .returned (.bool true) ∧ Below w.heap.size w w' := by
  have HE := Lib.hid hE
  clear hE
  have hba : Below w.heap.size w (w.alloc (.cells #[.bool true, .bool false, .bool true] 4)) := (Below.refl w.heap.size w).alloc (Nat.le_refl _) _
  have HR : Hid (RowOK (w.alloc (.cells #[.bool true, .bool false, .bool true] 4)) (.slice (some ⟨w.heap.size, 0, none⟩) 3 3) few3) := Lib.hid (boolsAt_alloc w _ _ few3 3 3 rfl rfl (Nat.le_refl _))
  go_enter Try.func10, Try.ntmps10
  go_wp2_with fail
  refine (T.new _ few3 _ (T.below _ _ HE.out hba) (by decide) HR.out).mono ?_
  rintro e w1 ⟨v, rfl, hIs, hb'⟩
  obtain ⟨a, rfl⟩ := T.isPtr _ _ _ _ hIs
  have hb : Below w.heap.size w w1 := step_below3 hba hb'
  clear hba hb' HR
  go_wp2_with fail
  refine (T.getIs 3 false 4 few3_get few3_getC _ (T.below _ _ HE.out hb) (by decide) (in64_small _) hIs).mono ?_
  rintro e w2 ⟨rfl, hb'⟩
  have hI2 := T.isBelow hIs hb'
  replace hb := step_below3 hb hb'
  clear hIs hb'
  have hba : Below w2.heap.size w2 (w2.alloc (.cells (madeCells #[.bool false] 65) 4)) := (Below.refl w2.heap.size w2).alloc (Nat.le_refl _) _
  have HR : Hid (RowOK (w2.alloc (.cells (madeCells #[.bool false] 65) 4)) (.slice (some ⟨w2.heap.size, 0, none⟩) 65 65) none65) := Lib.hid (boolsAt_alloc w2 _ _ none65 65 65 (by kernel_rfl) rfl (Nat.le_refl _))
  have hmk := make_65 w2
  go_wp2_with fail
  refine (T.new _ none65 _ (T.below _ _ HE.out (step_below3 hb hba)) (by decide) HR.out).mono ?_
  rintro e w3 ⟨v, rfl, hL3, hb'⟩
  obtain ⟨a2, rfl⟩ := T.isPtr _ _ _ _ hL3
  replace hb' := step_below3 hba hb'
  have hI3 := T.isBelow hI2 hb'
  replace hb := step_below3 hb hb'
  clear hba hb' HR hI2
  go_wp2_with fail
  refine (T.rankIs 2 true 1 few3_r1 _ (T.below _ _ HE.out hb) (by decide) (in64_small _) hI3).mono ?_
  rintro e w4 ⟨rfl, hb'⟩
  have hI4 := T.isBelow hI3 hb'
  have hL4 := T.isBelow hL3 hb'
  replace hb := step_below3 hb hb'
  clear hb' hI3 hL3
  go_wp2_with fail
  refine (T.rankIs 9 false 1 few3_r2 _ (T.below _ _ HE.out hb) (by decide) (in64_small _) hI4).mono ?_
  rintro e w5 ⟨rfl, hb'⟩
  have hI5 := T.isBelow hI4 hb'
  have hL5 := T.isBelow hL4 hb'
  replace hb := step_below3 hb hb'
  clear hb' hI4 hL4
  go_wp2_with fail
  refine (T.rankIs (-1) true 0 few3_r3 _ (T.below _ _ HE.out hb) (by decide) (in64_small _) hI5).mono ?_
  rintro e w6 ⟨rfl, hb'⟩
  have hI6 := T.isBelow hI5 hb'
  have hL6 := T.isBelow hL5 hb'
  replace hb := step_below3 hb hb'
  clear hb' hI5 hL5
  go_wp2_with fail
  refine (T.selIs 1 true 2 few3_s1 _ (T.below _ _ HE.out hb) (by decide) (in64_small _) hI6).mono ?_
  rintro e w7 ⟨rfl, hb'⟩
  have hI7 := T.isBelow hI6 hb'
  have hL7 := T.isBelow hL6 hb'
  replace hb := step_below3 hb hb'
  clear hb' hI6 hL6
  go_wp2_with fail
  refine (T.selIs 1 false (-1) few3_s2 _ (T.below _ _ HE.out hb) (by decide) (in64_small _) hI7).mono ?_
  rintro e w8 ⟨rfl, hb'⟩
  have hI8 := T.isBelow hI7 hb'
  have hL8 := T.isBelow hL7 hb'
  replace hb := step_below3 hb hb'
  clear hb' hI7 hL7
  go_wp2_with fail
  refine (T.sizeIs 192 none65_size _ (T.below _ _ HE.out hb) (by decide) hL8).mono ?_
  rintro e w9 ⟨rfl, hb'⟩
  have hI9 := T.isBelow hI8 hb'
  have hL9 := T.isBelow hL8 hb'
  replace hb := step_below3 hb hb'
  clear hb' hI8 hL8
  go_wp2_with fail
  refine (T.lenNil _ (T.below _ _ HE.out hb)).mono ?_
  rintro e w10 ⟨rfl, hb'⟩
  have hI10 := T.isBelow hI9 hb'
  have hL10 := T.isBelow hL9 hb'
  replace hb := step_below3 hb hb'
  clear hb' hI9 hL9
  go_wp2_with fail
  refine (T.selNil _ (T.below _ _ HE.out hb)).mono ?_
  rintro e w11 ⟨rfl, hb'⟩
  have hI11 := T.isBelow hI10 hb'
  have hL11 := T.isBelow hL10 hb'
  replace hb := step_below3 hb hb'
  clear hb' hI10 hL10
  go_wp2
  go_ret
  exact ⟨rfl, hb⟩
end Go.Proofs.Ytiofekpnjckpiaa
