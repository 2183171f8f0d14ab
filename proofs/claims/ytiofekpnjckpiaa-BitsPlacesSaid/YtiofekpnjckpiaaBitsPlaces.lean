/-
  THE LAW BitsPlaces, out of what is asked of package bits (BitSaid): it returns true.
-/
import Derived.Test.YtiofekpnjckpiaaBitArg
import Derived.Test.YtiofekpnjckpiaaBitsSizes
namespace Go.Proofs.Ytiofekpnjckpiaa
open Go.RowKit

theorem rankL_all (xs : List Bool) (k : Int) (h : k = xs.length) (t : Nat) (ht : rankN xs xs.length true = t) : rankL xs k true = t := by
  subst h; exact ht
theorem sel_end1 (xs : List Bool) (t : Nat) (ht : rankN xs xs.length true = t) : selL xs (t : Int) true = -1 := select_many xs _ true (by rw [ht]; exact Int.le_refl _)
theorem sel_end2 (xs : List Bool) (t : Nat) (ht : rankN xs xs.length true = t) : selL xs ((xs.length : Int) - (t : Int)) false = -1 := by
  have h := rank_both xs xs.length (Nat.le_refl _)
  exact select_many xs _ false (by omega)
theorem sel_neg1 (xs : List Bool) : selL xs (-1) true = -1 := select_neg xs (-1) true (by decide)

set_option maxHeartbeats 8000000 in
set_option maxRecDepth 100000 in
theorem bplaces_any {E : World → Prop} {Is : Nat → World → Value → List Bool → Prop} (T : BitSaid E Is) (l : Value) (fr : Int) (w : World) (hE : E w) (hl : IntsArg w l) :
    Calls Try.prog 4 #[l, .int .i64 fr] w fun e w' => e = .returned (.bool true) ∧ Below w.heap.size w w' := by
  have HL := Lib.hid hl
  clear hl
  go_enter Try.func4, Try.ntmps4
  go_wp2_with fail
  refine (bitRow_any l 1500 w HL.out (by decide)).mono ?_
  rintro e w1 ⟨v, xs, rfl, hx, hown, hbel⟩
  have HE1 := Lib.hid (T.below _ _ hE hbel)
  clear hE HL
  have HBEL := Lib.hid hbel
  clear hbel
  obtain ⟨t, HT⟩ : ∃ t, Hid (rankN xs xs.length true = t) := ⟨_, Lib.hid rfl⟩
  have htl : t ≤ xs.length := by rw [← HT.out]; exact rankN_le _ _ _
  have H1 := Lib.hid (sel_end1 xs t HT.out)
  have H2 := Lib.hid (sel_end2 xs t HT.out)
  have H3 := Lib.hid (sel_neg1 xs)
  have HR := Lib.hid (rowOK_of hown)
  rcases row_shape hown with ⟨rfl, rfl⟩ | ⟨g, cap, rfl, hcap, _, hg, hc⟩
  · clear hown
    obtain rfl : t = 0 := by simpa using htl
    go_wp2_with fail
    refine (T.new _ [] _ HE1.out (by first | omega | (simp; done)) HR.out).mono ?_
    rintro e w2 ⟨p, rfl, hI, hb⟩
    obtain ⟨pa, rfl⟩ := T.isPtr _ _ _ _ hI
    go_wp2
    go_loopw [8] (fun i wr => i = .int .i64 0 ∧ Is w1.heap.size wr (.pointer (some pa)) [] ∧ Below w1.heap.size w1 wr) (fun _ _ => 0)
    case atStart => exact ⟨rfl, hI, hb⟩
    case round =>
      clear hI hb
      obtain ⟨rfl, hI, hb⟩ := hrel
      go_wp2_with fail
      refine (T.rankIs 0 true 0 (rankL_all [] _ (by simp) 0 HT.out) _ (T.below _ _ HE1.out hb) (by first | omega | (simp; done)) (in64_of (by omega) (by omega)) hI).mono ?_
      rintro e wa ⟨rfl, hb'⟩
      replace hI := T.isBelow hI hb'
      replace hb := step_below3 hb hb'
      clear hb'
      go_wp2_with fail
      refine (told3_any T _ (T.below _ _ HE1.out hb)).mono ?_
      rintro e wb ⟨rfl, hb'⟩
      replace hI := T.isBelow hI hb'
      replace hb := step_below3 hb hb'
      clear hb'
      go_wp2_with fail
      refine (T.selIs 0 true (-1) H1.out _ (T.below _ _ HE1.out hb) (by first | omega | (simp; done)) (in64_of (by omega) (by omega)) hI).mono ?_
      rintro e wc ⟨rfl, hb'⟩
      replace hI := T.isBelow hI hb'
      replace hb := step_below3 hb hb'
      clear hb'
      go_wp2_with fail
      refine (T.selIs 0 false (-1) H2.out _ (T.below _ _ HE1.out hb) (by first | omega | (simp; done)) (in64_of (by omega) (by omega)) hI).mono ?_
      rintro e wd ⟨rfl, hb'⟩
      replace hI := T.isBelow hI hb'
      replace hb := step_below3 hb hb'
      clear hb'
      go_wp2_with fail
      refine (T.selIs (-1) true (-1) H3.out _ (T.below _ _ HE1.out hb) (by first | omega | (simp; done)) (in64_of (by omega) (by omega)) hI).mono ?_
      rintro e we ⟨rfl, hb'⟩
      replace hI := T.isBelow hI hb'
      replace hb := step_below3 hb hb'
      clear hb'
      go_wp2
      go_ret
      exact ⟨rfl, step_below3 HBEL.out hb⟩
  · have HC := Lib.hid hc
    clear hc hown
    go_wp2_with fail
    refine (T.new _ xs _ HE1.out (by first | omega | (simp; done)) HR.out).mono ?_
    rintro e w2 ⟨p, rfl, hI, hb⟩
    obtain ⟨pa, rfl⟩ := T.isPtr _ _ _ _ hI
    obtain ⟨u, f, hu1, hu2, hf, hf1, hf2⟩ := wrap_mod fr 1500 (by decide) (by decide)
    replace hu2 : Int.tmod (u : Int) 1500 = (f : Int) := hu2
    go_wp2
    go_loopw [8] (fun i wr => ∃ j : Nat, j ≤ xs.length ∧ j ≤ 60 ∧ i = .int .i64 j ∧ Is w1.heap.size wr (.pointer (some pa)) xs ∧ Below w1.heap.size w1 wr) (fun i _ => xs.length - (intOf i).toNat)
    case atStart => exact ⟨0, by omega, by omega, rfl, hI, hb⟩
    case round =>
      clear hI hb
      obtain ⟨j, hj, hj60, rfl, hI, hb⟩ := hrel
      by_cases h1 : j < xs.length
      · have g1 : decide ((j : Int) < (xs.length : Int)) = true := decide_eq_true (by omega)
        by_cases h2 : j < 60
        · have g2 : decide ((j : Int) < 60) = true := decide_eq_true (by omega)
          obtain ⟨kn, hk, hkl⟩ : ∃ kn : Nat, Int.tmod ((f : Int) + (j : Int) * 23) (xs.length : Int) = (kn : Int) ∧ kn < xs.length := ⟨(f + j * 23) % xs.length, by rw [Int.tmod_eq_emod_of_nonneg (by omega), show ((f : Int) + (j : Int) * 23) = ((f + j * 23 : Nat) : Int) by omega]; rfl, Nat.mod_lt _ (by omega)⟩
          obtain ⟨x, hxx⟩ : ∃ x, xs.getD kn false = x := ⟨_, rfl⟩
          obtain ⟨r, HRK⟩ : ∃ r, Hid (rankN xs kn x = r) := ⟨_, Lib.hid rfl⟩
          have hrk : r ≤ kn := by rw [← HRK.out]; exact rankN_le _ _ _
          have HS1 : Hid (selL xs (r : Int) x = (kn : Int)) := Lib.hid (by rw [← HRK.out]; exact select_rank xs kn x hkl hxx)
          have HS2 : Hid (rankL xs ((kn : Int) + 1) x = r + 1) := Lib.hid (by unfold rankL; rw [show ((kn : Int) + 1).toNat = kn + 1 by omega, rankN_succ xs kn x x hkl hxx, HRK.out]; simp)
          obtain ⟨a1, HA1⟩ : ∃ a, Hid (rankN xs kn true = a) := ⟨_, Lib.hid rfl⟩
          obtain ⟨a0, HA0⟩ : ∃ a, Hid (rankN xs kn false = a) := ⟨_, Lib.hid rfl⟩
          have hsum : a1 + a0 = kn := by rw [← HA1.out, ← HA0.out]; exact rank_both xs kn (by omega)
          have HCK : Hid (w1.cell? ⟨g, kn, none⟩ = some (.bool x)) := Lib.hid (by rw [HC.out kn hkl, hxx])
          have HCELL : Hid (∀ {wq : World}, Below w1.heap.size w1 wq → wq.cell? ⟨g, kn, none⟩ = some (.bool x)) := Lib.hid (fun h => by rw [h.cell (p := ⟨g, kn, none⟩) hg]; exact HCK.out)
          have hcell := HCELL.out hb
          clear hxx
          go_wp2_with fail
          refine (T.rankIs (kn : Int) x r HRK.out _ (T.below _ _ HE1.out hb) (by first | omega | (simp; done)) (in64_of (by omega) (by omega)) hI).mono ?_
          rintro e wa ⟨rfl, hb'⟩
          replace hI := T.isBelow hI hb'
          replace hb := step_below3 hb hb'
          clear hb'
          have hcell := HCELL.out hb
          go_wp2_with fail
          refine (T.selIs (r : Int) x (kn : Int) HS1.out _ (T.below _ _ HE1.out hb) (by first | omega | (simp; done)) (in64_of (by omega) (by omega)) hI).mono ?_
          rintro e wb ⟨rfl, hb'⟩
          replace hI := T.isBelow hI hb'
          replace hb := step_below3 hb hb'
          clear hb'
          have hcell := HCELL.out hb
          go_wp2_with fail
          refine (T.rankIs ((kn : Int) + 1) x (r + 1) HS2.out _ (T.below _ _ HE1.out hb) (by first | omega | (simp; done)) (in64_of (by omega) (by omega)) hI).mono ?_
          rintro e wc ⟨rfl, hb'⟩
          replace hI := T.isBelow hI hb'
          replace hb := step_below3 hb hb'
          clear hb'
          go_wp2_with fail
          refine (T.rankIs (kn : Int) true a1 HA1.out _ (T.below _ _ HE1.out hb) (by first | omega | (simp; done)) (in64_of (by omega) (by omega)) hI).mono ?_
          rintro e wd ⟨rfl, hb'⟩
          replace hI := T.isBelow hI hb'
          replace hb := step_below3 hb hb'
          clear hb'
          go_wp2_with fail
          refine (T.rankIs (kn : Int) false a0 HA0.out _ (T.below _ _ HE1.out hb) (by first | omega | (simp; done)) (in64_of (by omega) (by omega)) hI).mono ?_
          rintro e we ⟨rfl, hb'⟩
          replace hI := T.isBelow hI hb'
          replace hb := step_below3 hb hb'
          clear hb'
          go_wp2
          go_roundw
          case rel => exact ⟨j + 1, by omega, by omega, by go_num, hI, hb⟩
          case measure => simp [intOf]; omega
        · have g2 : decide ((j : Int) < 60) = false := decide_eq_false (by omega)
          go_wp2_with fail
          refine (T.rankIs (xs.length : Int) true t (rankL_all xs _ (by simp) t HT.out) _ (T.below _ _ HE1.out hb) (by first | omega | (simp; done)) (in64_of (by omega) (by omega)) hI).mono ?_
          rintro e wa ⟨rfl, hb'⟩
          replace hI := T.isBelow hI hb'
          replace hb := step_below3 hb hb'
          clear hb'
          go_wp2_with fail
          refine (told3_any T _ (T.below _ _ HE1.out hb)).mono ?_
          rintro e wb ⟨rfl, hb'⟩
          replace hI := T.isBelow hI hb'
          replace hb := step_below3 hb hb'
          clear hb'
          go_wp2_with fail
          refine (T.selIs (t : Int) true (-1) H1.out _ (T.below _ _ HE1.out hb) (by first | omega | (simp; done)) (in64_of (by omega) (by omega)) hI).mono ?_
          rintro e wc ⟨rfl, hb'⟩
          replace hI := T.isBelow hI hb'
          replace hb := step_below3 hb hb'
          clear hb'
          go_wp2_with fail
          refine (T.selIs ((xs.length : Int) - (t : Int)) false (-1) H2.out _ (T.below _ _ HE1.out hb) (by first | omega | (simp; done)) (in64_of (by omega) (by omega)) hI).mono ?_
          rintro e wd ⟨rfl, hb'⟩
          replace hI := T.isBelow hI hb'
          replace hb := step_below3 hb hb'
          clear hb'
          go_wp2_with fail
          refine (T.selIs (-1) true (-1) H3.out _ (T.below _ _ HE1.out hb) (by first | omega | (simp; done)) (in64_of (by omega) (by omega)) hI).mono ?_
          rintro e we ⟨rfl, hb'⟩
          replace hI := T.isBelow hI hb'
          replace hb := step_below3 hb hb'
          clear hb'
          go_wp2
          go_ret
          exact ⟨rfl, step_below3 HBEL.out hb⟩
      · have g1 : decide ((j : Int) < (xs.length : Int)) = false := decide_eq_false (by omega)
        have g0 : decide (j < xs.length) = false := decide_eq_false h1
        go_wp2_with fail
        refine (T.rankIs (xs.length : Int) true t (rankL_all xs _ (by simp) t HT.out) _ (T.below _ _ HE1.out hb) (by first | omega | (simp; done)) (in64_of (by omega) (by omega)) hI).mono ?_
        rintro e wa ⟨rfl, hb'⟩
        replace hI := T.isBelow hI hb'
        replace hb := step_below3 hb hb'
        clear hb'
        go_wp2_with fail
        refine (told3_any T _ (T.below _ _ HE1.out hb)).mono ?_
        rintro e wb ⟨rfl, hb'⟩
        replace hI := T.isBelow hI hb'
        replace hb := step_below3 hb hb'
        clear hb'
        go_wp2_with fail
        refine (T.selIs (t : Int) true (-1) H1.out _ (T.below _ _ HE1.out hb) (by first | omega | (simp; done)) (in64_of (by omega) (by omega)) hI).mono ?_
        rintro e wc ⟨rfl, hb'⟩
        replace hI := T.isBelow hI hb'
        replace hb := step_below3 hb hb'
        clear hb'
        go_wp2_with fail
        refine (T.selIs ((xs.length : Int) - (t : Int)) false (-1) H2.out _ (T.below _ _ HE1.out hb) (by first | omega | (simp; done)) (in64_of (by omega) (by omega)) hI).mono ?_
        rintro e wd ⟨rfl, hb'⟩
        replace hI := T.isBelow hI hb'
        replace hb := step_below3 hb hb'
        clear hb'
        go_wp2_with fail
        refine (T.selIs (-1) true (-1) H3.out _ (T.below _ _ HE1.out hb) (by first | omega | (simp; done)) (in64_of (by omega) (by omega)) hI).mono ?_
        rintro e we ⟨rfl, hb'⟩
        replace hI := T.isBelow hI hb'
        replace hb := step_below3 hb hb'
        clear hb'
        go_wp2
        go_ret
        exact ⟨rfl, step_below3 HBEL.out hb⟩
end Go.Proofs.Ytiofekpnjckpiaa
