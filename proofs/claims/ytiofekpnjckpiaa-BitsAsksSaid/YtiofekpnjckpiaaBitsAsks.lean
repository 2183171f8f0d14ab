/-
  THE LAW BitsAsks, out of what is asked of package bits (BitSaid): it returns true.
-/
import Derived.Test.YtiofekpnjckpiaaBitArg
namespace Go.Proofs.Ytiofekpnjckpiaa
open Go.RowKit

theorem refRankIs (B : Nat) (v : Value) (xs : List Bool) (k : Int) (bit : Bool) (r : Nat) (hr : rankL xs k bit = r) (w : World) (hx : xs.length ≤ 4294967296) (hv : BoolsAt B w v xs) :
    Calls Try.prog 13 #[v, .int .i64 k, .bool bit] w fun e w' => e = .returned (.int .i64 r) ∧ w = w' := by
  subst hr; exact refRank_any B v xs k bit w hx hv
theorem refSelectIs (B : Nat) (v : Value) (xs : List Bool) (k : Int) (bit : Bool) (r : Int) (hr : selL xs k bit = r) (w : World) (hx : xs.length ≤ 4294967296) (hv : BoolsAt B w v xs) :
    Calls Try.prog 15 #[v, .int .i64 k, .bool bit] w fun e w' => e = .returned (.int .i64 r) ∧ w = w' := by
  subst hr; exact refSelect_any B v xs k bit w hx hv
theorem lenIs {E : World → Prop} {Is : Nat → World → Value → List Bool → Prop} (T : BitSaid E Is) {B : Nat} {v : Value} {xs : List Bool} (n : Nat) (hn : xs.length = n) (w : World) (hE : E w) (hl : xs.length ≤ 4194304) (h : Is B w v xs) :
    Calls Try.prog 11 #[v] w fun e w' => e = .returned (.int .i64 n) ∧ Below w.heap.size w w' := by
  subst hn; exact T.len B v xs w hE hl h
theorem refSizeIs (n s : Nat) (hs : bitsN n = s) (w : World) (h1 : n ≤ 4294967296) :
    Calls Try.prog 17 #[.int .i64 n] w fun e w' => e = .returned (.int .i64 s) ∧ w = w' := by
  subst hs; exact refBitsSize_any n w h1

set_option maxHeartbeats 8000000 in
set_option maxRecDepth 100000 in
theorem basks_any {E : World → Prop} {Is : Nat → World → Value → List Bool → Prop} (T : BitSaid E Is) (l : Value) (k : Int) (bit : Bool) (w : World) (hE : E w) (hk : In64 k) (hl : IntsArg w l) :
    Calls Try.prog 3 #[l, .int .i64 k, .bool bit] w fun e w' => e = .returned (.bool true) ∧ Below w.heap.size w w' := by
  have HL := Lib.hid hl
  clear hl
  go_enter Try.func3, Try.ntmps3
  go_wp2_with fail
  refine (bitRow_any l 1500 w HL.out (by decide)).mono ?_
  rintro e w1 ⟨v, xs, rfl, hx, hown, hbel⟩
  have HE1 := Lib.hid (T.below _ _ hE hbel)
  clear hE HL
  rcases row_shape hown with ⟨rfl, rfl⟩ | ⟨g, cap, rfl, hcap, _, hg, hc⟩
  · -- no bits
    obtain ⟨r, HRK⟩ : ∃ r, Hid (rankL ([] : List Bool) k bit = r) := ⟨_, Lib.hid rfl⟩
    obtain ⟨s, HSL⟩ : ∃ s, Hid (selL ([] : List Bool) k bit = s) := ⟨_, Lib.hid rfl⟩
    obtain ⟨z, HZ⟩ : ∃ z, Hid (bitsN ([] : List Bool).length = z) := ⟨_, Lib.hid rfl⟩
    have HR := Lib.hid (rowOK_of hown)
    have HAT := Lib.hid (ownS_at hown)
    clear hown
    have HX : Hid (getB [] k = false) := Lib.hid (by unfold getB; rw [if_neg (by first | (simp; done) | (simp; omega))])
    have HF : Hid (getC [] k = 4) := Lib.hid (by unfold getC; rw [if_neg (by first | (simp; done) | (simp; omega))])
    by_cases h0 : 0 ≤ k
    · have g0 : decide (0 ≤ k) = true := decide_eq_true h0
      have g1 : decide (k < 0) = false := decide_eq_false (by omega)
      go_wp2_with fail
      refine (T.new _ [] _ HE1.out (by first | omega | (simp; done)) HR.out).mono ?_
      rintro e w2 ⟨p, rfl, hI, hb⟩
      obtain ⟨pa, rfl⟩ := T.isPtr _ _ _ _ hI
      go_wp2_with fail
      refine (T.getIs k false 4 HX.out HF.out _ (T.below _ _ HE1.out hb) (by first | omega | (simp; done)) hk hI).mono ?_
      rintro e w3 ⟨rfl, hb'⟩
      replace hI := T.isBelow hI hb'
      replace hb := step_below3 hb hb'
      clear hb'
      go_wp2_with fail
      refine (told3_any T _ (T.below _ _ HE1.out hb)).mono ?_
      rintro e w4 ⟨rfl, hb'⟩
      replace hI := T.isBelow hI hb'
      replace hb := step_below3 hb hb'
      clear hb'
      simp only [List.append_eq, List.cons_append, List.nil_append] at *
      go_wp2_with fail
      refine (lenIs T 0 rfl _ (T.below _ _ HE1.out hb) (by first | omega | (simp; done)) hI).mono ?_
      rintro e w5 ⟨rfl, hb'⟩
      replace hI := T.isBelow hI hb'
      replace hb := step_below3 hb hb'
      clear hb'
      go_wp2_with fail
      refine (T.rankIs k bit r HRK.out _ (T.below _ _ HE1.out hb) (by first | omega | (simp; done)) hk hI).mono ?_
      rintro e w6 ⟨rfl, hb'⟩
      replace hI := T.isBelow hI hb'
      replace hb := step_below3 hb hb'
      clear hb'
      go_wp2_with fail
      refine (refRankIs _ _ [] k bit r HRK.out _ (by first | omega | (simp; done)) (BoolsAt.below HAT.out hb)).mono ?_
      rintro e w' ⟨rfl, rfl⟩
      go_wp2_with fail
      refine (T.selIs k bit s HSL.out _ (T.below _ _ HE1.out hb) (by first | omega | (simp; done)) hk hI).mono ?_
      rintro e w7 ⟨rfl, hb'⟩
      replace hI := T.isBelow hI hb'
      replace hb := step_below3 hb hb'
      clear hb'
      go_wp2_with fail
      refine (refSelectIs _ _ [] k bit s HSL.out _ (by first | omega | (simp; done)) (BoolsAt.below HAT.out hb)).mono ?_
      rintro e w' ⟨rfl, rfl⟩
      go_wp2_with fail
      refine (T.sizeIs z HZ.out _ (T.below _ _ HE1.out hb) (by first | omega | (simp; done)) hI).mono ?_
      rintro e w8 ⟨rfl, hb'⟩
      replace hI := T.isBelow hI hb'
      replace hb := step_below3 hb hb'
      clear hb'
      go_wp2_with fail
      refine (refSizeIs 0 z HZ.out _ (by first | omega | (simp; done))).mono ?_
      rintro e w' ⟨rfl, rfl⟩
      go_wp2
      go_ret
      exact ⟨rfl, step_below3 hbel hb⟩
    · have g0 : decide (0 ≤ k) = false := decide_eq_false h0
      go_wp2_with fail
      refine (T.new _ [] _ HE1.out (by first | omega | (simp; done)) HR.out).mono ?_
      rintro e w2 ⟨p, rfl, hI, hb⟩
      obtain ⟨pa, rfl⟩ := T.isPtr _ _ _ _ hI
      go_wp2_with fail
      refine (T.getIs k false 4 HX.out HF.out _ (T.below _ _ HE1.out hb) (by first | omega | (simp; done)) hk hI).mono ?_
      rintro e w3 ⟨rfl, hb'⟩
      replace hI := T.isBelow hI hb'
      replace hb := step_below3 hb hb'
      clear hb'
      go_wp2_with fail
      refine (told3_any T _ (T.below _ _ HE1.out hb)).mono ?_
      rintro e w4 ⟨rfl, hb'⟩
      replace hI := T.isBelow hI hb'
      replace hb := step_below3 hb hb'
      clear hb'
      simp only [List.append_eq, List.cons_append, List.nil_append] at *
      go_wp2_with fail
      refine (lenIs T 0 rfl _ (T.below _ _ HE1.out hb) (by first | omega | (simp; done)) hI).mono ?_
      rintro e w5 ⟨rfl, hb'⟩
      replace hI := T.isBelow hI hb'
      replace hb := step_below3 hb hb'
      clear hb'
      go_wp2_with fail
      refine (T.rankIs k bit r HRK.out _ (T.below _ _ HE1.out hb) (by first | omega | (simp; done)) hk hI).mono ?_
      rintro e w6 ⟨rfl, hb'⟩
      replace hI := T.isBelow hI hb'
      replace hb := step_below3 hb hb'
      clear hb'
      go_wp2_with fail
      refine (refRankIs _ _ [] k bit r HRK.out _ (by first | omega | (simp; done)) (BoolsAt.below HAT.out hb)).mono ?_
      rintro e w' ⟨rfl, rfl⟩
      go_wp2_with fail
      refine (T.selIs k bit s HSL.out _ (T.below _ _ HE1.out hb) (by first | omega | (simp; done)) hk hI).mono ?_
      rintro e w7 ⟨rfl, hb'⟩
      replace hI := T.isBelow hI hb'
      replace hb := step_below3 hb hb'
      clear hb'
      go_wp2_with fail
      refine (refSelectIs _ _ [] k bit s HSL.out _ (by first | omega | (simp; done)) (BoolsAt.below HAT.out hb)).mono ?_
      rintro e w' ⟨rfl, rfl⟩
      go_wp2_with fail
      refine (T.sizeIs z HZ.out _ (T.below _ _ HE1.out hb) (by first | omega | (simp; done)) hI).mono ?_
      rintro e w8 ⟨rfl, hb'⟩
      replace hI := T.isBelow hI hb'
      replace hb := step_below3 hb hb'
      clear hb'
      go_wp2_with fail
      refine (refSizeIs 0 z HZ.out _ (by first | omega | (simp; done))).mono ?_
      rintro e w' ⟨rfl, rfl⟩
      go_wp2
      go_ret
      exact ⟨rfl, step_below3 hbel hb⟩
  · -- bits in a block
    have HC := Lib.hid hc
    clear hc
    obtain ⟨r, HRK⟩ : ∃ r, Hid (rankL xs k bit = r) := ⟨_, Lib.hid rfl⟩
    obtain ⟨s, HSL⟩ : ∃ s, Hid (selL xs k bit = s) := ⟨_, Lib.hid rfl⟩
    obtain ⟨z, HZ⟩ : ∃ z, Hid (bitsN xs.length = z) := ⟨_, Lib.hid rfl⟩
    have HR := Lib.hid (rowOK_of hown)
    have HAT := Lib.hid (ownS_at hown)
    clear hown
    by_cases h0 : 0 ≤ k
    · have g0 : decide (0 ≤ k) = true := decide_eq_true h0
      by_cases h1 : k < xs.length
      · obtain ⟨kn, rfl⟩ : ∃ kn : Nat, k = (kn : Int) := ⟨k.toNat, by omega⟩
        have h2 : kn < xs.length := by omega
        have g1 : decide ((kn : Int) < (xs.length : Int)) = true := decide_eq_true h1
        have g2 : decide (kn < xs.length) = true := decide_eq_true h2
        obtain ⟨x, hxx⟩ : ∃ x, xs.getD kn false = x := ⟨_, rfl⟩
        have HX : Hid (getB xs (kn : Int) = x) := Lib.hid (by unfold getB; rw [if_pos ⟨h0, h1⟩]; simpa using hxx)
        have HF : Hid (getC xs (kn : Int) = 0) := Lib.hid (by unfold getC; rw [if_pos ⟨h0, h1⟩])
        have HCK : Hid (w1.cell? ⟨g, kn, none⟩ = some (.bool x)) := Lib.hid (by rw [HC.out kn h2, hxx])
        clear hxx
        go_wp2_with fail
        refine (T.new _ xs _ HE1.out (by first | omega | (simp; done)) HR.out).mono ?_
        rintro e w2 ⟨p, rfl, hI, hb⟩
        obtain ⟨pa, rfl⟩ := T.isPtr _ _ _ _ hI
        go_wp2_with fail
        refine (T.getIs (kn : Int) x 0 HX.out HF.out _ (T.below _ _ HE1.out hb) (by first | omega | (simp; done)) hk hI).mono ?_
        rintro e w3 ⟨rfl, hb'⟩
        replace hI := T.isBelow hI hb'
        replace hb := step_below3 hb hb'
        clear hb'
        go_wp2_with fail
        refine (told3_any T _ (T.below _ _ HE1.out hb)).mono ?_
        rintro e w4 ⟨rfl, hb'⟩
        replace hI := T.isBelow hI hb'
        replace hb := step_below3 hb hb'
        clear hb'
        simp only [List.append_eq, List.cons_append, List.nil_append] at *
        go_wp2_with fail
        refine (lenIs T xs.length rfl _ (T.below _ _ HE1.out hb) (by first | omega | (simp; done)) hI).mono ?_
        rintro e w5 ⟨rfl, hb'⟩
        replace hI := T.isBelow hI hb'
        replace hb := step_below3 hb hb'
        clear hb'
        have hcell : ∀ {wq : World}, Below w1.heap.size w1 wq → wq.cell? ⟨g, kn, none⟩ = some (.bool x) := fun h => by rw [h.cell (p := ⟨g, kn, none⟩) hg]; exact HCK.out
        replace hcell := hcell hb
        go_wp2_with fail
        refine (T.rankIs (kn : Int) bit r HRK.out _ (T.below _ _ HE1.out hb) (by first | omega | (simp; done)) hk hI).mono ?_
        rintro e w6 ⟨rfl, hb'⟩
        replace hI := T.isBelow hI hb'
        replace hb := step_below3 hb hb'
        clear hb'
        go_wp2_with fail
        refine (refRankIs _ _ xs (kn : Int) bit r HRK.out _ (by first | omega | (simp; done)) (BoolsAt.below HAT.out hb)).mono ?_
        rintro e w' ⟨rfl, rfl⟩
        go_wp2_with fail
        refine (T.selIs (kn : Int) bit s HSL.out _ (T.below _ _ HE1.out hb) (by first | omega | (simp; done)) hk hI).mono ?_
        rintro e w7 ⟨rfl, hb'⟩
        replace hI := T.isBelow hI hb'
        replace hb := step_below3 hb hb'
        clear hb'
        go_wp2_with fail
        refine (refSelectIs _ _ xs (kn : Int) bit s HSL.out _ (by first | omega | (simp; done)) (BoolsAt.below HAT.out hb)).mono ?_
        rintro e w' ⟨rfl, rfl⟩
        go_wp2_with fail
        refine (T.sizeIs z HZ.out _ (T.below _ _ HE1.out hb) (by first | omega | (simp; done)) hI).mono ?_
        rintro e w8 ⟨rfl, hb'⟩
        replace hI := T.isBelow hI hb'
        replace hb := step_below3 hb hb'
        clear hb'
        go_wp2_with fail
        refine (refSizeIs xs.length z HZ.out _ (by first | omega | (simp; done))).mono ?_
        rintro e w' ⟨rfl, rfl⟩
        go_wp2
        go_ret
        exact ⟨rfl, step_below3 hbel hb⟩
      · have g1 : decide (k < (xs.length : Int)) = false := decide_eq_false h1
        have HX : Hid (getB xs k = false) := Lib.hid (by unfold getB; rw [if_neg (by omega)])
        have HF : Hid (getC xs k = 4) := Lib.hid (by unfold getC; rw [if_neg (by omega)])
        go_wp2_with fail
        refine (T.new _ xs _ HE1.out (by first | omega | (simp; done)) HR.out).mono ?_
        rintro e w2 ⟨p, rfl, hI, hb⟩
        obtain ⟨pa, rfl⟩ := T.isPtr _ _ _ _ hI
        go_wp2_with fail
        refine (T.getIs k false 4 HX.out HF.out _ (T.below _ _ HE1.out hb) (by first | omega | (simp; done)) hk hI).mono ?_
        rintro e w3 ⟨rfl, hb'⟩
        replace hI := T.isBelow hI hb'
        replace hb := step_below3 hb hb'
        clear hb'
        go_wp2_with fail
        refine (told3_any T _ (T.below _ _ HE1.out hb)).mono ?_
        rintro e w4 ⟨rfl, hb'⟩
        replace hI := T.isBelow hI hb'
        replace hb := step_below3 hb hb'
        clear hb'
        simp only [List.append_eq, List.cons_append, List.nil_append] at *
        go_wp2_with fail
        refine (lenIs T xs.length rfl _ (T.below _ _ HE1.out hb) (by first | omega | (simp; done)) hI).mono ?_
        rintro e w5 ⟨rfl, hb'⟩
        replace hI := T.isBelow hI hb'
        replace hb := step_below3 hb hb'
        clear hb'
        go_wp2_with fail
        refine (T.rankIs k bit r HRK.out _ (T.below _ _ HE1.out hb) (by first | omega | (simp; done)) hk hI).mono ?_
        rintro e w6 ⟨rfl, hb'⟩
        replace hI := T.isBelow hI hb'
        replace hb := step_below3 hb hb'
        clear hb'
        go_wp2_with fail
        refine (refRankIs _ _ xs k bit r HRK.out _ (by first | omega | (simp; done)) (BoolsAt.below HAT.out hb)).mono ?_
        rintro e w' ⟨rfl, rfl⟩
        go_wp2_with fail
        refine (T.selIs k bit s HSL.out _ (T.below _ _ HE1.out hb) (by first | omega | (simp; done)) hk hI).mono ?_
        rintro e w7 ⟨rfl, hb'⟩
        replace hI := T.isBelow hI hb'
        replace hb := step_below3 hb hb'
        clear hb'
        go_wp2_with fail
        refine (refSelectIs _ _ xs k bit s HSL.out _ (by first | omega | (simp; done)) (BoolsAt.below HAT.out hb)).mono ?_
        rintro e w' ⟨rfl, rfl⟩
        go_wp2_with fail
        refine (T.sizeIs z HZ.out _ (T.below _ _ HE1.out hb) (by first | omega | (simp; done)) hI).mono ?_
        rintro e w8 ⟨rfl, hb'⟩
        replace hI := T.isBelow hI hb'
        replace hb := step_below3 hb hb'
        clear hb'
        go_wp2_with fail
        refine (refSizeIs xs.length z HZ.out _ (by first | omega | (simp; done))).mono ?_
        rintro e w' ⟨rfl, rfl⟩
        go_wp2
        go_ret
        exact ⟨rfl, step_below3 hbel hb⟩
    · have g0 : decide (0 ≤ k) = false := decide_eq_false h0
      have HX : Hid (getB xs k = false) := Lib.hid (by unfold getB; rw [if_neg (by omega)])
      have HF : Hid (getC xs k = 4) := Lib.hid (by unfold getC; rw [if_neg (by omega)])
      go_wp2_with fail
      refine (T.new _ xs _ HE1.out (by first | omega | (simp; done)) HR.out).mono ?_
      rintro e w2 ⟨p, rfl, hI, hb⟩
      obtain ⟨pa, rfl⟩ := T.isPtr _ _ _ _ hI
      go_wp2_with fail
      refine (T.getIs k false 4 HX.out HF.out _ (T.below _ _ HE1.out hb) (by first | omega | (simp; done)) hk hI).mono ?_
      rintro e w3 ⟨rfl, hb'⟩
      replace hI := T.isBelow hI hb'
      replace hb := step_below3 hb hb'
      clear hb'
      go_wp2_with fail
      refine (told3_any T _ (T.below _ _ HE1.out hb)).mono ?_
      rintro e w4 ⟨rfl, hb'⟩
      replace hI := T.isBelow hI hb'
      replace hb := step_below3 hb hb'
      clear hb'
      simp only [List.append_eq, List.cons_append, List.nil_append] at *
      go_wp2_with fail
      refine (lenIs T xs.length rfl _ (T.below _ _ HE1.out hb) (by first | omega | (simp; done)) hI).mono ?_
      rintro e w5 ⟨rfl, hb'⟩
      replace hI := T.isBelow hI hb'
      replace hb := step_below3 hb hb'
      clear hb'
      go_wp2_with fail
      refine (T.rankIs k bit r HRK.out _ (T.below _ _ HE1.out hb) (by first | omega | (simp; done)) hk hI).mono ?_
      rintro e w6 ⟨rfl, hb'⟩
      replace hI := T.isBelow hI hb'
      replace hb := step_below3 hb hb'
      clear hb'
      go_wp2_with fail
      refine (refRankIs _ _ xs k bit r HRK.out _ (by first | omega | (simp; done)) (BoolsAt.below HAT.out hb)).mono ?_
      rintro e w' ⟨rfl, rfl⟩
      go_wp2_with fail
      refine (T.selIs k bit s HSL.out _ (T.below _ _ HE1.out hb) (by first | omega | (simp; done)) hk hI).mono ?_
      rintro e w7 ⟨rfl, hb'⟩
      replace hI := T.isBelow hI hb'
      replace hb := step_below3 hb hb'
      clear hb'
      go_wp2_with fail
      refine (refSelectIs _ _ xs k bit s HSL.out _ (by first | omega | (simp; done)) (BoolsAt.below HAT.out hb)).mono ?_
      rintro e w' ⟨rfl, rfl⟩
      go_wp2_with fail
      refine (T.sizeIs z HZ.out _ (T.below _ _ HE1.out hb) (by first | omega | (simp; done)) hI).mono ?_
      rintro e w8 ⟨rfl, hb'⟩
      replace hI := T.isBelow hI hb'
      replace hb := step_below3 hb hb'
      clear hb'
      go_wp2_with fail
      refine (refSizeIs xs.length z HZ.out _ (by first | omega | (simp; done))).mono ?_
      rintro e w' ⟨rfl, rfl⟩
      go_wp2
      go_ret
      exact ⟨rfl, step_below3 hbel hb⟩
end Go.Proofs.Ytiofekpnjckpiaa
