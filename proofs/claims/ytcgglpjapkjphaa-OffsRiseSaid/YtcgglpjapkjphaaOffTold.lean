/-
  THE CONTRACT OF brackenlaw7.told, out of what is asked of package offs (OffSaid): it returns true. (Written by gen_told7.py.)
-/
import Derived.Test.YtcgglpjapkjphaaOffSaid
import Derived.KernelRfl
import Derived.Deep.OwnRows
namespace Go.Proofs.Ytcgglpjapkjphaa
open Go.RowKit

def few7 : List Int := [0, 100]
theorem few7_may : mayOffs few7 = true := by kernel_rfl
theorem two7_may : mayOffs [5, 4] = false := by kernel_rfl
theorem none7_may : mayOffs [] = true := by kernel_rfl
theorem few7_g1 : getW few7 1 = 100 := by kernel_rfl
theorem few7_e1 : getWE few7 1 = 0 := by kernel_rfl
theorem few7_g2 : getW few7 2 = 0 := by kernel_rfl
theorem few7_e2 : getWE few7 2 = 4 := by kernel_rfl
theorem few7_low : lowN few7 = 5 := by kernel_rfl
theorem few7_size : offsN few7 = 176 := by kernel_rfl
theorem none7_low : lowN [] = 0 := by kernel_rfl
theorem none7_size : offsN [] = 112 := by kernel_rfl

set_option maxHeartbeats 8000000 in
set_option maxRecDepth 100000 in
theorem told7_any {E : World → Prop} {Is : Nat → World → Value → List Int → Prop} (S : OffSaid E Is) (w : World) (hE : E w) :
    Calls Try.prog 6 #[] w fun e w' => e = .returned (.bool true) ∧ Below w.heap.size w w' := by
  have HE := Lib.hid hE
  clear hE
  have HB := Lib.hid ((Below.refl w.heap.size w).alloc (Nat.le_refl _) (.cells #[.int .i64 0, .int .i64 100] 3))
  have HR := Lib.hid (symOK_alloc w #[.int .i64 0, .int .i64 100] (0, 0) few7 2 2 rfl rfl (Nat.le_refl _))
  go_enter Try.func6, Try.ntmps6
  go_wp2_with fail
  refine (onewAt S _ (S.below w _ HE.out HB.out) (by decide) HR.out few7_may HB.out).mono ?_
  rintro e wa ⟨a, rfl, h, _⟩
  have hbb : Below wa.heap.size wa (wa.alloc (.cells #[.int .i64 5, .int .i64 4] 3)) := (Below.refl wa.heap.size wa).alloc (Nat.le_refl _) _
  have HR2 := Lib.hid (symOK_alloc wa #[.int .i64 5, .int .i64 4] (0, 0) [5, 4] 2 2 rfl rfl (Nat.le_refl _))
  have H := Lib.hid (h.other S hbb)
  clear HR h hbb
  go_wp2_with fail
  refine (S.newNo _ [5, 4] _ H.out.e (by decide) (fun z hz => by simp at hz; rcases hz with rfl | rfl <;> exact in64_small _) HR2.out two7_may).mono ?_
  rintro e wb ⟨rfl, hb'⟩
  replace H := Lib.hid (H.out.other S hb')
  clear HR2 hb'
  go_wp2_with fail
  refine (onewAt S _ H.out.e (by decide) (symOK_none _) none7_may H.out.since).mono ?_
  rintro e wc ⟨z, rfl, hz, hb'⟩
  replace H := Lib.hid (H.out.other S hb')
  have Z := Lib.hid hz
  clear hz hb'
  go_wp2_with fail
  refine (S.get _ _ few7 1 _ H.out.e H.out.len H.out.may (in64_small _) H.out.is).mono ?_
  rw [few7_g1, few7_e1]
  rintro e wz ⟨rfl, hb'⟩
  replace H := Lib.hid (H.out.other S hb')
  replace Z := Lib.hid (Z.out.other S hb')
  clear hb'
  go_wp2_with fail
  refine (S.get _ _ few7 2 _ H.out.e H.out.len H.out.may (in64_small _) H.out.is).mono ?_
  rw [few7_g2, few7_e2]
  rintro e wz ⟨rfl, hb'⟩
  replace H := Lib.hid (H.out.other S hb')
  replace Z := Lib.hid (Z.out.other S hb')
  clear hb'
  go_wp2_with fail
  try simp only [List.append_eq, List.cons_append, List.nil_append] at *
  refine (S.low _ _ few7 _ H.out.e H.out.len H.out.may H.out.is).mono ?_
  rw [few7_low]
  rintro e wz ⟨rfl, hb'⟩
  replace H := Lib.hid (H.out.other S hb')
  replace Z := Lib.hid (Z.out.other S hb')
  clear hb'
  go_wp2_with fail
  try simp only [List.append_eq, List.cons_append, List.nil_append] at *
  refine (S.size _ _ few7 _ H.out.e H.out.len H.out.may H.out.is).mono ?_
  rw [few7_size]
  rintro e wz ⟨rfl, hb'⟩
  replace H := Lib.hid (H.out.other S hb')
  replace Z := Lib.hid (Z.out.other S hb')
  clear hb'
  go_wp2_with fail
  try simp only [List.append_eq, List.cons_append, List.nil_append] at *
  refine (S.low _ _ [] _ Z.out.e Z.out.len Z.out.may Z.out.is).mono ?_
  rw [none7_low]
  rintro e wz ⟨rfl, hb'⟩
  replace H := Lib.hid (H.out.other S hb')
  replace Z := Lib.hid (Z.out.other S hb')
  clear hb'
  go_wp2_with fail
  refine (S.size _ _ [] _ Z.out.e Z.out.len Z.out.may Z.out.is).mono ?_
  rw [none7_size]
  rintro e wz ⟨rfl, hb'⟩
  replace H := Lib.hid (H.out.other S hb')
  replace Z := Lib.hid (Z.out.other S hb')
  clear hb'
  go_wp2_with fail
  refine (S.lenNil _ H.out.e).mono ?_
  rintro e wz ⟨rfl, hb'⟩
  replace H := Lib.hid (H.out.other S hb')
  replace Z := Lib.hid (Z.out.other S hb')
  clear hb'
  go_wp2
  go_ret
  exact ⟨rfl, H.out.since⟩
end Go.Proofs.Ytcgglpjapkjphaa
