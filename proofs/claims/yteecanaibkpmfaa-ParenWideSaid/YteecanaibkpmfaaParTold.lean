/-
  THE CONTRACT OF brackenlaw5.told, out of what is asked of package paren (ParSaid): it returns true.
-/
import Derived.Test.YteecanaibkpmfaaParSaid
import Derived.KernelRfl
import Derived.Deep.OwnRows
namespace Go.Proofs.Yteecanaibkpmfaa
open Go.RowKit

def few5 : List Bool := [true, true, false, true, true, false, false, false]
theorem few5_may : mayL few5 = true := by kernel_rfl
theorem one5_may : mayL [true] = false := by kernel_rfl
theorem none5_may : mayL [] = true := by kernel_rfl
theorem two5_may : mayL [false, true] = false := by kernel_rfl
theorem rowOK_none (w : World) : RowOK w (.slice none 0 0) [] := ⟨Or.inl ⟨none, 0, rfl, rfl⟩, none, 0, rfl, Nat.le_refl _⟩
theorem few5_0 : closeL few5 0 = 7 := by kernel_rfl
theorem few5_1 : closeL few5 1 = 2 := by kernel_rfl
theorem few5_2 : closeL few5 2 = -1 := by kernel_rfl
theorem few5_3 : beginL few5 6 = 3 := by kernel_rfl
theorem few5_4 : beginL few5 0 = -1 := by kernel_rfl
theorem few5_5 : encloseL few5 4 = 3 := by kernel_rfl
theorem few5_6 : encloseL few5 0 = -1 := by kernel_rfl
theorem few5_7 : upL few5 4 2 = 0 := by kernel_rfl
theorem few5_8 : upL few5 4 0 = 4 := by kernel_rfl
theorem few5_9 : upL few5 4 3 = -1 := by kernel_rfl
theorem few5_10 : selL few5 2 true = 3 := by kernel_rfl
theorem few5_11 : numberL few5 4 = 3 := by kernel_rfl
theorem few5_12 : spanL few5 3 = 2 := by kernel_rfl
theorem few5_13 : spanL few5 2 = 0 := by kernel_rfl
theorem few5_14 : excL few5 4 = 3 := by kernel_rfl
theorem few5_15 : excL few5 8 = -1 := by kernel_rfl
theorem few5_16 : openB few5 3 = true := by kernel_rfl
theorem few5_17 : openB few5 8 = false := by kernel_rfl

set_option maxHeartbeats 8000000 in
set_option maxRecDepth 100000 in
theorem told5_any {E : Nat → World → Prop} {Is : Nat → Nat → World → Value → List Bool → Prop} (S : ParSaid E Is) (n : Nat) (w : World) (hE : E n w) (hn : n ≤ w.heap.size) :
    Calls Try.prog 20 #[] w fun e w' => e = .returned (.bool true) ∧ Below w.heap.size w w' := by
  have HE := Lib.hid hE
  clear hE
  have hba : Below w.heap.size w (w.alloc (.cells #[.bool true, .bool true, .bool false, .bool true, .bool true, .bool false, .bool false, .bool false] 4)) := (Below.refl w.heap.size w).alloc (Nat.le_refl _) _
  have HR := Lib.hid (boolsAt_alloc w #[.bool true, .bool true, .bool false, .bool true, .bool true, .bool false, .bool false, .bool false] (0, 0) few5 8 8 rfl rfl (Nat.le_refl _))
  have hn1 : n ≤ (w.alloc (.cells #[.bool true, .bool true, .bool false, .bool true, .bool true, .bool false, .bool false, .bool false] 4)).heap.size := Nat.le_trans hn hba.size
  have HB := Lib.hid hba
  have HN := Lib.hid hn1
  clear hba hn1
  go_enter Try.func20, Try.ntmps20
  go_wp2_with fail
  refine (newAt S _ (S.stay n w _ HE.out (HB.out.mono hn)) HN.out (by decide) HR.out few5_may).mono ?_
  rintro e wa ⟨a, T, rfl, h⟩
  have HB0 := Lib.hid (h.low (n := n) HB.out (Nat.le_refl _))
  have hbb : Below wa.heap.size wa (wa.alloc (.cells #[.bool true] 4)) := (Below.refl wa.heap.size wa).alloc (Nat.le_refl _) _
  have HR2 := Lib.hid (boolsAt_alloc wa #[.bool true] (0, 0) [true] 1 1 rfl rfl (Nat.le_refl _))
  have H := Lib.hid (h.other S hbb)
  have HB2 := Lib.hid hbb
  clear HR h hbb
  go_wp2_with fail
  refine (S.newNo n _ [true] _ (H.out.e S) (Nat.le_trans H.out.nb H.out.size) (by decide) HR2.out one5_may).mono ?_
  rintro e wb ⟨rfl, hb'⟩
  replace H := Lib.hid (H.out.other S hb')
  have HBc := Lib.hid (H.out.low (n := n) HB.out (Nat.le_refl _))
  clear HR2 hb' HB2 HB0
  go_wp2_with fail
  refine (S.may n _ [] _ (H.out.e S) (Nat.le_trans H.out.nb H.out.size) (by decide) (rowOK_none _)).mono ?_
  rw [none5_may]
  rintro e wc ⟨rfl, hb'⟩
  have hbb : Below wc.heap.size wc (wc.alloc (.cells #[.bool false, .bool true] 4)) := (Below.refl wc.heap.size wc).alloc (Nat.le_refl _) _
  have HR2 := Lib.hid (boolsAt_alloc wc #[.bool false, .bool true] (0, 0) [false, true] 2 2 rfl rfl (Nat.le_refl _))
  replace H := Lib.hid ((H.out.other S hb').other S hbb)
  clear hb' hbb HBc
  go_wp2_with fail
  refine (S.may n _ [false, true] _ (H.out.e S) (Nat.le_trans H.out.nb H.out.size) (by decide) HR2.out).mono ?_
  rw [two5_may]
  rintro e wd ⟨rfl, hb'⟩
  replace H := Lib.hid (H.out.other S hb')
  clear hb' HR2
  go_wp2_with fail
  try simp only [List.append_eq, List.cons_append, List.nil_append] at *
  refine (closeAt S 0 7 few5_0 (in64_small _) H.out).mono ?_
  rintro e w0 ⟨rfl, h⟩
  replace H := Lib.hid h
  clear h
  go_wp2_with fail
  refine (closeAt S 1 2 few5_1 (in64_small _) H.out).mono ?_
  rintro e w1 ⟨rfl, h⟩
  replace H := Lib.hid h
  clear h
  go_wp2_with fail
  refine (closeAt S 2 (-1) few5_2 (in64_small _) H.out).mono ?_
  rintro e w2 ⟨rfl, h⟩
  replace H := Lib.hid h
  clear h
  go_wp2_with fail
  refine (beginAt S 6 3 few5_3 (in64_small _) H.out).mono ?_
  rintro e w3 ⟨rfl, h⟩
  replace H := Lib.hid h
  clear h
  go_wp2_with fail
  refine (beginAt S 0 (-1) few5_4 (in64_small _) H.out).mono ?_
  rintro e w4 ⟨rfl, h⟩
  replace H := Lib.hid h
  clear h
  go_wp2_with fail
  refine (encloseAt S 4 3 few5_5 (in64_small _) H.out).mono ?_
  rintro e w5 ⟨rfl, h⟩
  replace H := Lib.hid h
  clear h
  go_wp2_with fail
  refine (encloseAt S 0 (-1) few5_6 (in64_small _) H.out).mono ?_
  rintro e w6 ⟨rfl, h⟩
  replace H := Lib.hid h
  clear h
  go_wp2_with fail
  refine (upAt S 4 2 0 few5_7 (in64_small _) (in64_small _) H.out).mono ?_
  rintro e w7 ⟨rfl, h⟩
  replace H := Lib.hid h
  clear h
  go_wp2_with fail
  refine (upAt S 4 0 4 few5_8 (in64_small _) (in64_small _) H.out).mono ?_
  rintro e w8 ⟨rfl, h⟩
  replace H := Lib.hid h
  clear h
  go_wp2_with fail
  refine (upAt S 4 3 (-1) few5_9 (in64_small _) (in64_small _) H.out).mono ?_
  rintro e w9 ⟨rfl, h⟩
  replace H := Lib.hid h
  clear h
  go_wp2_with fail
  refine (placeAt S 2 3 few5_10 (in64_small _) H.out).mono ?_
  rintro e w10 ⟨rfl, h⟩
  replace H := Lib.hid h
  clear h
  go_wp2_with fail
  refine (numberAt S 4 3 few5_11 (in64_small _) H.out).mono ?_
  rintro e w11 ⟨rfl, h⟩
  replace H := Lib.hid h
  clear h
  go_wp2_with fail
  refine (spanAt S 3 2 few5_12 (in64_small _) H.out).mono ?_
  rintro e w12 ⟨rfl, h⟩
  replace H := Lib.hid h
  clear h
  go_wp2_with fail
  refine (spanAt S 2 0 few5_13 (in64_small _) H.out).mono ?_
  rintro e w13 ⟨rfl, h⟩
  replace H := Lib.hid h
  clear h
  go_wp2_with fail
  refine (excessAt S 4 3 few5_14 (in64_small _) H.out).mono ?_
  rintro e w14 ⟨rfl, h⟩
  replace H := Lib.hid h
  clear h
  go_wp2_with fail
  refine (excessAt S 8 (-1) few5_15 (in64_small _) H.out).mono ?_
  rintro e w15 ⟨rfl, h⟩
  replace H := Lib.hid h
  clear h
  go_wp2_with fail
  refine (openAt S 3 true few5_16 (in64_small _) H.out).mono ?_
  rintro e w16 ⟨rfl, h⟩
  replace H := Lib.hid h
  clear h
  go_wp2_with fail
  refine (openAt S 8 false few5_17 (in64_small _) H.out).mono ?_
  rintro e w17 ⟨rfl, h⟩
  replace H := Lib.hid h
  clear h
  go_wp2_with fail
  refine (S.closeNil n _ (H.out.e S) (Nat.le_trans H.out.nb H.out.size)).mono ?_
  rintro e we ⟨rfl, hb'⟩
  replace H := Lib.hid (H.out.other S hb')
  clear hb'
  go_wp2_with fail
  refine (S.lenNil n _ (H.out.e S) (Nat.le_trans H.out.nb H.out.size)).mono ?_
  rintro e wf ⟨rfl, hb'⟩
  replace H := Lib.hid (H.out.other S hb')
  clear hb'
  go_wp2
  go_ret
  exact ⟨rfl, H.out.low HB.out (Nat.le_refl _)⟩
end Go.Proofs.Yteecanaibkpmfaa
