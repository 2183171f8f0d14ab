/-
  THE CONTRACT OF brackenlaw8.told, out of what is asked of package pool (PoolSaid): it returns true. (Written by gen_told8.py.)
-/
import Derived.Test.YtibhhndiefhofaaPoolSaid
import Derived.KernelRfl
import Derived.Deep.OwnRows
namespace Go.Proofs.Ytibhhndiefhofaa
open Go.RowKit

def few8 : List ByteArray := [⟨#[97, 98]⟩, ⟨#[]⟩, ⟨#[99]⟩]
theorem few8_n : bytesN few8 = 3 := by kernel_rfl
theorem few8_g0 : getS few8 0 = ⟨#[97, 98]⟩ := by kernel_rfl
theorem few8_e0 : getSE few8 0 = 0 := by kernel_rfl
theorem few8_g1 : getS few8 1 = ⟨#[]⟩ := by kernel_rfl
theorem few8_e1 : getSE few8 1 = 0 := by kernel_rfl
theorem few8_g3 : getS few8 3 = ⟨#[]⟩ := by kernel_rfl
theorem few8_e3 : getSE few8 3 = 4 := by kernel_rfl

set_option maxHeartbeats 8000000 in
set_option maxRecDepth 100000 in
theorem told8_any {E : World → Prop} {Is : Nat → World → Value → List ByteArray → Prop} (S : PoolSaid E Is) (w : World) (hE : E w) :
    Calls Try.prog 7 #[] w fun e w' => e = .returned (.bool true) ∧ Below w.heap.size w w' := by
  have HE := Lib.hid hE
  clear hE
  have HB := Lib.hid ((Below.refl w.heap.size w).alloc (Nat.le_refl _) (.cells #[.string ⟨#[97, 98]⟩, .string ⟨#[]⟩, .string ⟨#[99]⟩] 9))
  have HR := Lib.hid (strOK_alloc w #[.string ⟨#[97, 98]⟩, .string ⟨#[]⟩, .string ⟨#[99]⟩] (0, 0) few8 3 3 rfl rfl (Nat.le_refl _))
  go_enter Try.func7, Try.ntmps7
  go_wp2_with fail
  refine (pnewAt S _ (S.below w _ HE.out HB.out) (by decide) (by rw [few8_n]; decide) HR.out HB.out).mono ?_
  rintro e wa ⟨a, rfl, h, _⟩
  have H := Lib.hid h
  clear HR h
  go_wp2_with fail
  refine (pgetAt S 0 _ _ few8_g0 few8_e0 (in64_small _) H.out).mono ?_
  rintro e wz ⟨rfl, hb'⟩
  replace H := Lib.hid (H.out.other S hb')
  clear hb'
  go_wp2_with fail
  refine (pgetAt S 1 _ _ few8_g1 few8_e1 (in64_small _) H.out).mono ?_
  rintro e wz ⟨rfl, hb'⟩
  replace H := Lib.hid (H.out.other S hb')
  clear hb'
  go_wp2_with fail
  refine (pgetAt S 3 _ _ few8_g3 few8_e3 (in64_small _) H.out).mono ?_
  rintro e wz ⟨rfl, hb'⟩
  replace H := Lib.hid (H.out.other S hb')
  clear hb'
  go_wp2_with fail
  try simp only [List.append_eq, List.cons_append, List.nil_append] at *
  refine (pbytesAt S 3 few8_n H.out).mono ?_
  rintro e wz ⟨rfl, hb'⟩
  replace H := Lib.hid (H.out.other S hb')
  clear hb'
  go_wp2_with fail
  try simp only [List.append_eq, List.cons_append, List.nil_append] at *
  refine (plenAt S 3 rfl H.out).mono ?_
  rintro e wz ⟨rfl, hb'⟩
  replace H := Lib.hid (H.out.other S hb')
  clear hb'
  go_wp2_with fail
  refine (S.lenNil _ H.out.e).mono ?_
  rintro e wz ⟨rfl, hb'⟩
  replace H := Lib.hid (H.out.other S hb')
  clear hb'
  go_wp2_with fail
  refine (S.bytesNil _ H.out.e).mono ?_
  rintro e wz ⟨rfl, hb'⟩
  replace H := Lib.hid (H.out.other S hb')
  clear hb'
  go_wp2
  go_ret
  exact ⟨rfl, H.out.since⟩
end Go.Proofs.Ytibhhndiefhofaa
