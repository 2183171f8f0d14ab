/-
  LAYER 5: brackenlaw5.steps and ParenRaw, out of ParSaid.
-/
import Derived.Test.YteecanaibkpmfaaParTold
namespace Go.Proofs.Yteecanaibkpmfaa
open Go.RowKit

theorem RowOK.below {w w' : World} {v : Value} {xs : List Bool} (h : RowOK w v xs) (hb : Below w.heap.size w w') : RowOK w' v xs :=
  ⟨(h.1.below hb).mono hb.size, h.2⟩
theorem step_below5 {w a b : World} (h : Below w.heap.size w a) (h' : Below a.heap.size a b) : Below w.heap.size w b := h.trans (h'.mono h.size)
section
variable {E : Nat → World → Prop} {Is : Nat → Nat → World → Value → List Bool → Prop} {n B T : Nat} {w1 w : World} {v : Value} {xs : List Bool}
set_option maxHeartbeats 1000000 in
set_option maxRecDepth 100000 in
theorem psteps_any (S : ParSaid E Is) (h : At E Is n B T w1 v xs w) :
    Calls Try.prog 26 #[v] w fun e w' => e = .returned (.bool true) ∧ At E Is n B T w1 v xs w' := by
  obtain ⟨a, rfl⟩ := S.isPtr _ _ _ _ _ h.is
  have hl := h.len
  obtain ⟨y, hy⟩ : ∃ y, widthN xs.length = y := ⟨_, rfl⟩
  have hy64 : y ≤ 64 := by rw [← hy]; exact widthN_64 _ (by omega)
  have HS : Hid (stepsN xs.length = 40 * (y + 2)) := Lib.hid (by unfold stepsN; rw [hy])
  have HY := Lib.hid hy
  have H := Lib.hid h
  obtain ⟨len, hlen⟩ : ∃ len, xs.length = len := ⟨_, rfl⟩
  have HL := Lib.hid hlen
  have hlb : len ≤ 18446744073709551615 := by omega
  have hlb2 : len ≤ 4194304 := by omega
  clear h hy hlen hl
  go_enter Try.func26, Try.ntmps26
  go_wp2_with fail
  refine (stepsAt S H.out).mono ?_
  rintro e wa ⟨s1, hs1, rfl, h⟩
  replace H := Lib.hid h
  clear h hs1
  go_wp2_with fail
  refine (stepsAt S H.out).mono ?_
  rintro e wb ⟨s2, hs2, rfl, h⟩
  replace H := Lib.hid h
  rw [HS.out] at hs2
  clear h
  go_wp2_with fail
  refine (lenAt S len HL.out H.out).mono ?_
  rintro e wc ⟨rfl, h⟩
  replace H := Lib.hid h
  clear h
  go_wp2_with fail
  refine (refWidth_any len _ hlb).mono ?_
  rw [← HL.out, HY.out]
  rintro e wd ⟨rfl, rfl⟩
  have g : decide (s2 ≤ 40 * (y + 2)) = true := decide_eq_true hs2
  have g2 : decide ((s2 : Int) ≤ 40 * ((y : Int) + 2)) = true := decide_eq_true (by omega)
  go_wp2
  go_ret
  exact ⟨rfl, H.out⟩
end

set_option maxHeartbeats 1000000 in
set_option maxRecDepth 100000 in
theorem praw_long {E : Nat → World → Prop} {Is : Nat → Nat → World → Value → List Bool → Prop} (S : ParSaid E Is) (n : Nat) (a : Option Addr) (m cap : Nat) (w : World) (hE : E n w) (hn : n ≤ w.heap.size) (hm : 200 < m) :
    Calls Try.prog 5 #[.slice a m cap] w fun e w' => e = .returned (.bool true) ∧ Below w.heap.size w w' := by
  have C := Lib.hid (told5_any S n w hE hn)
  have g : decide ((200 : Int) < (m : Int)) = true := decide_eq_true (by omega)
  have g2 : decide (200 < m) = true := decide_eq_true hm
  clear hE hn
  go_enter Try.func5, Try.ntmps5
  go_wp2_with fail
  refine C.out.mono ?_
  rintro e w1 ⟨rfl, hb⟩
  go_wp2
  go_ret
  exact ⟨rfl, hb⟩
set_option maxHeartbeats 2000000 in
set_option maxRecDepth 100000 in
theorem praw_any {E : Nat → World → Prop} {Is : Nat → Nat → World → Value → List Bool → Prop} (S : ParSaid E Is) (n : Nat) (a : Option Addr) (cap : Nat) (xs : List Bool) (w : World) (hE : E n w) (hn : n ≤ w.heap.size) (hs : RowOK w (.slice a xs.length cap) xs) (hm : xs.length ≤ 200) :
    Calls Try.prog 5 #[.slice a xs.length cap] w fun e w' => e = .returned (.bool true) ∧ Below w.heap.size w w' := by
  have HE := Lib.hid hE
  have HR := Lib.hid hs
  have hl : xs.length ≤ 4194304 := by omega
  have hl2 : xs.length ≤ 4294967296 := by omega
  have HN := Lib.hid hn
  have g : decide ((200 : Int) < (xs.length : Int)) = false := decide_eq_false (by omega)
  have g2 : decide (200 < xs.length) = false := decide_eq_false (by omega)
  clear hE hs hn
  by_cases hmay : mayL xs = true
  · have HM := Lib.hid hmay
    clear hmay
    go_enter Try.func5, Try.ntmps5
    go_wp2_with fail
    refine (newAt S _ HE.out HN.out hl HR.out HM.out).mono ?_
    rintro e wa ⟨p, T, rfl, h⟩
    have HB := Lib.hid (show Below w.heap.size w wa from h.since)
    clear h
    go_wp2_with fail
    refine (refMay_any _ _ xs _ hl2 (HR.out.below HB.out).1).mono ?_
    rw [HM.out]
    rintro e wb ⟨rfl, rfl⟩
    go_wp2_with fail
    refine (told5_any S n _ (S.stay n w _ HE.out (HB.out.mono HN.out)) (Nat.le_trans HN.out HB.out.size)).mono ?_
    rintro e wc ⟨rfl, hb'⟩
    replace HB := Lib.hid (step_below5 HB.out hb')
    clear hb'
    go_wp2_with fail
    refine (S.may n _ xs _ (S.stay n w _ HE.out (HB.out.mono HN.out)) (Nat.le_trans HN.out HB.out.size) hl (HR.out.below HB.out)).mono ?_
    rw [HM.out]
    rintro e wd ⟨rfl, hb'⟩
    replace HB := Lib.hid (step_below5 HB.out hb')
    clear hb'
    go_wp2
    go_ret
    exact ⟨rfl, HB.out⟩
  · have HM := Lib.hid (show mayL xs = false by simpa using hmay)
    clear hmay
    go_enter Try.func5, Try.ntmps5
    go_wp2_with fail
    refine (S.newNo n _ xs _ HE.out HN.out hl HR.out HM.out).mono ?_
    rintro e wa ⟨rfl, hb'⟩
    have HB := Lib.hid hb'
    clear hb'
    go_wp2_with fail
    refine (refMay_any _ _ xs _ hl2 (HR.out.below HB.out).1).mono ?_
    rw [HM.out]
    rintro e wb ⟨rfl, rfl⟩
    go_wp2_with fail
    refine (told5_any S n _ (S.stay n w _ HE.out (HB.out.mono HN.out)) (Nat.le_trans HN.out HB.out.size)).mono ?_
    rintro e wc ⟨rfl, hb'⟩
    replace HB := Lib.hid (step_below5 HB.out hb')
    clear hb'
    go_wp2_with fail
    refine (S.may n _ xs _ (S.stay n w _ HE.out (HB.out.mono HN.out)) (Nat.le_trans HN.out HB.out.size) hl (HR.out.below HB.out)).mono ?_
    rw [HM.out]
    rintro e wd ⟨rfl, hb'⟩
    replace HB := Lib.hid (step_below5 HB.out hb')
    clear hb'
    go_wp2
    go_ret
    exact ⟨rfl, HB.out⟩
end Go.Proofs.Yteecanaibkpmfaa
