/-
  THE CONTRACT OF brackenlaw4.told, out of what is asked of package ints (IntSaid): it returns true.
-/
import Derived.Test.YtkpklickfkfjcaaIntSaid
import Derived.KernelRfl
import Derived.Deep.OwnRows
namespace Go.Proofs.Ytkpklickfkfjcaa
open Go.RowKit

def few4 : List Nat := [5, 1, 0]
theorem few4_lt : ∀ z ∈ few4, z ≤ 18446744073709551615 := by
  intro z hz
  simp [few4] at hz
  omega
theorem few4_get : getZ few4 0 = 5 := by kernel_rfl
theorem few4_getE : getE few4 0 = 0 := by kernel_rfl
theorem few4_get3 : getZ few4 3 = 0 := by kernel_rfl
theorem few4_getE3 : getE few4 3 = 4 := by kernel_rfl
theorem few4_wid : widestN few4 = 3 := by kernel_rfl
theorem few4_size : intsN few4.length (widestN few4) = 64 := by kernel_rfl
theorem none4_size : intsN ([] : List Nat).length (widestN []) = 0 := by kernel_rfl
theorem width_5 : widthN 5 = 3 := by kernel_rfl
theorem width_0 : widthN 0 = 0 := by kernel_rfl
theorem width_top : widthN 18446744073709551615 = 64 := by kernel_rfl

set_option maxHeartbeats 4000000 in
set_option maxRecDepth 100000 in
theorem told4_any {E : World → Prop} {Is : Nat → World → Value → List Nat → Prop} (T : IntSaid E Is) (w : World) (hE : E w) :
    Calls Try.prog 9 #[] w fun e w' => e = .returned (.bool true) ∧ Below w.heap.size w w' := by
  have HE := Lib.hid hE
  clear hE
  have hba : Below w.heap.size w (w.alloc (.cells #[.int .u64 5, .int .u64 1, .int .u64 0] 22)) := (Below.refl w.heap.size w).alloc (Nat.le_refl _) _
  have HR : Hid (NumOK (w.alloc (.cells #[.int .u64 5, .int .u64 1, .int .u64 0] 22)) (.slice (some ⟨w.heap.size, 0, none⟩) 3 3) few4) := Lib.hid (numOK_alloc w _ _ few4 3 3 rfl rfl (Nat.le_refl _) few4_lt)
  go_enter Try.func9, Try.ntmps9
  go_wp2_with fail
  refine (T.new _ few4 _ (T.below _ _ HE.out hba) (by decide) HR.out).mono ?_
  rintro e w1 ⟨v, rfl, hIs, hb'⟩
  obtain ⟨a, rfl⟩ := T.isPtr _ _ _ _ hIs
  have hb : Below w.heap.size w w1 := step_below4 hba hb'
  clear hba hb' HR
  go_wp2_with fail
  refine (T.getIs 0 5 0 few4_get few4_getE _ (T.below _ _ HE.out hb) (by decide) (in64_small _) hIs).mono ?_
  rintro e w2 ⟨rfl, hb'⟩
  replace hIs := T.isBelow hIs hb'
  replace hb := step_below4 hb hb'
  clear hb'
  go_wp2_with fail
  refine (T.getIs 3 0 4 few4_get3 few4_getE3 _ (T.below _ _ HE.out hb) (by decide) (in64_small _) hIs).mono ?_
  rintro e w3 ⟨rfl, hb'⟩
  replace hIs := T.isBelow hIs hb'
  replace hb := step_below4 hb hb'
  clear hb'
  go_wp2_with fail
  refine (T.widthIs 5 3 width_5 _ (T.below _ _ HE.out hb) (by decide)).mono ?_
  rintro e w4 ⟨rfl, hb'⟩
  replace hIs := T.isBelow hIs hb'
  replace hb := step_below4 hb hb'
  clear hb'
  go_wp2_with fail
  refine (T.widthIs 0 0 width_0 _ (T.below _ _ HE.out hb) (by decide)).mono ?_
  rintro e w5 ⟨rfl, hb'⟩
  replace hIs := T.isBelow hIs hb'
  replace hb := step_below4 hb hb'
  clear hb'
  go_wp2_with fail
  refine (T.widthIs 18446744073709551615 64 width_top _ (T.below _ _ HE.out hb) (by decide)).mono ?_
  rintro e w6 ⟨rfl, hb'⟩
  replace hIs := T.isBelow hIs hb'
  replace hb := step_below4 hb hb'
  clear hb'
  go_wp2_with fail
  refine (T.widIs 3 few4_wid _ (T.below _ _ HE.out hb) (by decide) hIs).mono ?_
  rintro e w7 ⟨rfl, hb'⟩
  replace hIs := T.isBelow hIs hb'
  replace hb := step_below4 hb hb'
  clear hb'
  go_wp2_with fail
  refine (T.sizeIs 64 few4_size _ (T.below _ _ HE.out hb) (by decide) hIs).mono ?_
  rintro e w8 ⟨rfl, hb'⟩
  replace hb := step_below4 hb hb'
  clear hb' hIs
  go_wp2_with fail
  refine (T.lenNil _ (T.below _ _ HE.out hb)).mono ?_
  rintro e w9 ⟨rfl, hb'⟩
  replace hb := step_below4 hb hb'
  clear hb'
  go_wp2_with fail
  refine (T.new _ [] _ (T.below _ _ HE.out hb) (by decide) (numOK_none _)).mono ?_
  rintro e w10 ⟨v, rfl, hIs, hb'⟩
  obtain ⟨a2, rfl⟩ := T.isPtr _ _ _ _ hIs
  replace hb := step_below4 hb hb'
  clear hb'
  go_wp2_with fail
  refine (T.sizeIs 0 none4_size _ (T.below _ _ HE.out hb) (by decide) hIs).mono ?_
  rintro e w11 ⟨rfl, hb'⟩
  replace hb := step_below4 hb hb'
  clear hb' hIs
  go_wp2
  go_ret
  exact ⟨rfl, hb⟩
end Go.Proofs.Ytkpklickfkfjcaa
