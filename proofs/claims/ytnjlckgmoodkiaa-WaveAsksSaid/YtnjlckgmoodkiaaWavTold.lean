/-
  THE CONTRACTS OF brackenlaw6.told AND steps, out of what is asked of package wave (WavSaid): they return true. (Written by gen_told6.py.)
-/
import Derived.Test.YtnjlckgmoodkiaaWavAt
import Derived.KernelRfl
import Derived.Deep.OwnRows
namespace Go.Proofs.Ytnjlckgmoodkiaa
open Go.RowKit

def few6 : List Int := [5, 6, 5]
theorem few6_may : maySyms few6 7 = true := by kernel_rfl
theorem one6_may : maySyms [5] 5 = false := by kernel_rfl
theorem few6_g1 : getW few6 1 = 6 := by kernel_rfl
theorem few6_e1 : getWE few6 1 = 0 := by kernel_rfl
theorem few6_g3 : getW few6 3 = 0 := by kernel_rfl
theorem few6_e3 : getWE few6 3 = 4 := by kernel_rfl
theorem few6_0 : countL few6 0 3 5 = 2 := by kernel_rfl
theorem few6_1 : countL few6 0 3 9 = 0 := by kernel_rfl
theorem few6_2 : nthL few6 0 few6.length 5 1 = 2 := by kernel_rfl
theorem few6_3 : nthL few6 0 few6.length 5 2 = -1 := by kernel_rfl
theorem few6_4 : countL few6 1 3 5 = 1 := by kernel_rfl
theorem few6_5 : nthL few6 1 3 5 0 = 2 := by kernel_rfl
theorem few6_6 : nthL few6 0 2 5 1 = -1 := by kernel_rfl
theorem few6_7 : waveN few6.length 7 = 336 := by kernel_rfl

set_option maxHeartbeats 8000000 in
set_option maxRecDepth 100000 in
theorem told6_any {E : Nat → World → Prop} {Is : Nat → Nat → World → Value → List Int → Int → Prop} (S : WavSaid E Is) (n : Nat) (w : World) (hE : E n w) (hn : n ≤ w.heap.size) :
    Calls Try.prog 21 #[] w fun e w' => e = .returned (.bool true) ∧ Below w.heap.size w w' := by
  have HE := Lib.hid hE
  clear hE
  have hba : Below w.heap.size w (w.alloc (.cells #[.int .i64 5, .int .i64 6, .int .i64 5] 3)) := (Below.refl w.heap.size w).alloc (Nat.le_refl _) _
  have HR := Lib.hid (symOK_alloc w #[.int .i64 5, .int .i64 6, .int .i64 5] (0, 0) few6 3 3 rfl rfl (Nat.le_refl _))
  have hn1 : n ≤ (w.alloc (.cells #[.int .i64 5, .int .i64 6, .int .i64 5] 3)).heap.size := Nat.le_trans hn hba.size
  have HB := Lib.hid hba
  have HN := Lib.hid hn1
  clear hba hn1
  go_enter Try.func21, Try.ntmps21
  go_wp2_with fail
  refine (newAt S _ (S.stay n w _ HE.out (HB.out.mono hn)) HN.out (by decide) HR.out few6_may).mono ?_
  rintro e wa ⟨a, T, rfl, h⟩
  have hbb : Below wa.heap.size wa (wa.alloc (.cells #[.int .i64 5] 3)) := (Below.refl wa.heap.size wa).alloc (Nat.le_refl _) _
  have HR2 := Lib.hid (symOK_alloc wa #[.int .i64 5] (0, 0) [5] 1 1 rfl rfl (Nat.le_refl _))
  have H := Lib.hid (h.other S hbb)
  clear HR h hbb
  go_wp2_with fail
  refine (S.newNo n _ [5] 5 _ (H.out.e S) (Nat.le_trans H.out.nb H.out.size) (by decide) (in64_small _) (fun z hz => by simp at hz; subst hz; exact in64_small _) HR2.out one6_may).mono ?_
  rintro e wb ⟨rfl, hb'⟩
  replace H := Lib.hid (H.out.other S hb')
  clear HR2 hb'
  go_wp2_with fail
  refine (getAt S 1 6 0 few6_g1 few6_e1 (in64_small _) H.out).mono ?_
  rintro e wz ⟨rfl, h⟩
  replace H := Lib.hid h
  clear h
  go_wp2_with fail
  refine (getAt S 3 0 4 few6_g3 few6_e3 (in64_small _) H.out).mono ?_
  rintro e wz ⟨rfl, h⟩
  replace H := Lib.hid h
  clear h
  go_wp2_with fail
  try simp only [List.append_eq, List.cons_append, List.nil_append] at *
  refine (rankAt S 3 5 2 few6_0 (in64_small _) (in64_small _) H.out).mono ?_
  rintro e wz ⟨rfl, h⟩
  replace H := Lib.hid h
  clear h
  go_wp2_with fail
  try simp only [List.append_eq, List.cons_append, List.nil_append] at *
  refine (rankAt S 3 9 0 few6_1 (in64_small _) (in64_small _) H.out).mono ?_
  rintro e wz ⟨rfl, h⟩
  replace H := Lib.hid h
  clear h
  go_wp2_with fail
  try simp only [List.append_eq, List.cons_append, List.nil_append] at *
  refine (selectAt S 1 5 2 few6_2 (in64_small _) (in64_small _) H.out).mono ?_
  rintro e wz ⟨rfl, h⟩
  replace H := Lib.hid h
  clear h
  go_wp2_with fail
  refine (selectAt S 2 5 (-1) few6_3 (in64_small _) (in64_small _) H.out).mono ?_
  rintro e wz ⟨rfl, h⟩
  replace H := Lib.hid h
  clear h
  go_wp2_with fail
  refine (countAt S 1 3 5 1 few6_4 (in64_small _) (in64_small _) (in64_small _) H.out).mono ?_
  rintro e wz ⟨rfl, h⟩
  replace H := Lib.hid h
  clear h
  go_wp2_with fail
  refine (nthAt S 1 3 5 0 2 few6_5 (in64_small _) (in64_small _) (in64_small _) (in64_small _) H.out).mono ?_
  rintro e wz ⟨rfl, h⟩
  replace H := Lib.hid h
  clear h
  go_wp2_with fail
  refine (nthAt S 0 2 5 1 (-1) few6_6 (in64_small _) (in64_small _) (in64_small _) (in64_small _) H.out).mono ?_
  rintro e wz ⟨rfl, h⟩
  replace H := Lib.hid h
  clear h
  go_wp2_with fail
  refine (sizeAt S 336 few6_7 H.out).mono ?_
  rintro e wz ⟨rfl, h⟩
  replace H := Lib.hid h
  clear h
  go_wp2_with fail
  refine (S.lenNil n _ (H.out.e S) (Nat.le_trans H.out.nb H.out.size)).mono ?_
  rintro e we ⟨rfl, hb'⟩
  replace H := Lib.hid (H.out.other S hb')
  clear hb'
  go_wp2_with fail
  refine (S.nthNil n _ (H.out.e S) (Nat.le_trans H.out.nb H.out.size)).mono ?_
  rintro e wf ⟨rfl, hb'⟩
  replace H := Lib.hid (H.out.other S hb')
  clear hb'
  go_wp2
  go_ret
  exact ⟨rfl, H.out.low HB.out (Nat.le_refl _)⟩

section
variable {E : Nat → World → Prop} {Is : Nat → Nat → World → Value → List Int → Int → Prop} {n B T : Nat} {w1 w : World} {v : Value} {xs : List Int}
set_option maxHeartbeats 1000000 in
set_option maxRecDepth 100000 in
theorem wsteps_any (S : WavSaid E Is) (sg : Nat) {sigma : Int} (hsg : sigma = (sg : Int)) (h1 : 1 ≤ sg) (h2 : sg ≤ 1048576) (h : At E Is n B T w1 v xs sigma w) :
    Calls Try.prog 14 #[v, .int .i64 sigma] w fun e w' => e = .returned (.bool true) ∧ At E Is n B T w1 v xs sigma w' := by
  subst hsg
  obtain ⟨m, rfl⟩ : ∃ m, sg = m + 1 := ⟨sg - 1, by omega⟩
  obtain ⟨a, rfl⟩ := S.isPtr _ _ _ _ _ _ h.is
  obtain ⟨y, hy⟩ : ∃ y, widthN m = y := ⟨_, rfl⟩
  have hy64 : y ≤ 64 := by rw [← hy]; exact widthN_64 _ (by omega)
  have HS : Hid (stepsW ((m + 1 : Nat) : Int) = 6 * (y + 1)) := Lib.hid (by
    unfold stepsW levelsN
    rw [show (((m + 1 : Nat) : Int) - 1).toNat = m by omega, hy])
  have HY := Lib.hid hy
  have H := Lib.hid h
  have HM := Lib.hid (show m ≤ 18446744073709551615 by omega)
  have e1 : ((m + 1 : Nat) : Int) - 1 = (m : Int) := by omega
  have e2 : IntKind.u64.wrap (m : Int) = (m : Int) := by simp [IntKind.wrap, IntKind.bits, IntKind.signed]; omega
  clear h hy
  go_enter Try.func14, Try.ntmps14
  go_wp2_with fail
  refine (stepsAt S H.out).mono ?_
  rintro e wa ⟨s1, hs1, rfl, h⟩
  replace H := Lib.hid h
  clear h hs1
  go_wp2_with fail
  refine (stepsAt S H.out).mono ?_
  rintro e wb ⟨s2, hs2, rfl, h⟩
  replace H := Lib.hid h
  rw [HS.out] at hs2
  clear h
  go_wp2_with fail
  try rw [e1, e2]
  refine (refWidth_any m _ HM.out).mono ?_
  rw [HY.out]
  rintro e wd ⟨rfl, rfl⟩
  have g1 : decide (s2 ≤ 6 * (y + 1)) = true := decide_eq_true hs2
  have g2 : decide ((s2 : Int) ≤ 6 * ((y : Int) + 1)) = true := decide_eq_true (by omega)
  go_wp2
  go_ret
  exact ⟨rfl, H.out⟩
end
end Go.Proofs.Ytnjlckgmoodkiaa
