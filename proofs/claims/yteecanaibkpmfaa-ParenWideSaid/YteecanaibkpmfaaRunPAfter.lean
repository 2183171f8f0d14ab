/-
  THE LANDED PACKAGE paren: the first place behind one that comes down to an excess. (Written by gen_pafter.py.)
-/
import Derived.Test.YteecanaibkpmfaaRunPDown
namespace Go.Proofs.Yteecanaibkpmfaa
open Go.RowKit

/-- how many steps the way to the first place takes -/
def aftN (n : Nat) : Nat := if n ≤ 128 then n + 3 else 334
/-- what is found behind k -/
def AftPost (xs : List Bool) (k : Nat) (e : Int) (r : Int) : Prop :=
  (∃ j : Nat, r = (j : Int) ∧ j < xs.length ∧ k + 1 ≤ j ∧ exc xs (j + 1) ≤ e ∧ HighP xs e (k + 1) j) ∨ (r = -1 ∧ HighP xs e (k + 1) xs.length)
/-- how many steps have been taken when level l is come to -/
def upN (l : Nat) : Nat := if l = 0 then 0 else 123 + 8 * l
theorem down_le (l : Nat) : downN l ≤ 8 * l + 123 := by unfold downN; split <;> omega
theorem high_end {xs : List Bool} {e : Int} {l a : Nat} (h : HighP xs e a (widP l * cntP xs.length l)) : HighP xs e a xs.length := fun p h1 h2 h3 => by
  refine h p h1 ?_ h3
  by_cases hq : p < widP l * cntP xs.length l
  · exact hq
  · exact absurd ((lt_cnt xs.length l (cntP xs.length l)).2 (by omega)) (Nat.lt_irrefl _)
section
variable {B T p q P cap st sb s : Nat} {bv : Value} {bl : Nat → Nat} {xs : List Bool}
set_option maxHeartbeats 4000000 in
set_option maxRecDepth 100000 in
theorem rafter_any (k : Nat) (e : Int) (w : World) (hs : s ≤ 100000) (hk : k < xs.length) (h : Mid B T p q P cap st sb bv bl xs s w) :
    Calls Try.prog 57 #[.pointer (some ⟨p, 0, none⟩), .int .i64 k, .int .i64 e, .pointer (some ⟨sb, 0, none⟩)] w fun o w' =>
      ∃ r : Int, o = .returned (.int .i64 r) ∧ AftPost xs k e r ∧ ∃ d, d ≤ aftN xs.length ∧ Went sb (s + d) w w' := by
  have H0 := Lib.hid h
  have HTOP := Lib.hid h.inp.top
  have hP6 := h.few
  have hP1 := h.inp.top.one
  have hxl := h.inp.len
  have hp0 := h.parts
  clear h
  go_enter Try.func57, Try.ntmps57
  go_wp2
  go_loopw [9, 21] (fun fv lv wr => ∃ l f d : Nat, l < P ∧ lv = .int .i64 l ∧ fv = .int .i64 f ∧ (l = 0 → f ≤ xs.length) ∧ (1 ≤ l → widP l * f < xs.length ∧ 128 < xs.length) ∧ k + 1 ≤ widP l * f ∧ HighP xs e (k + 1) (widP l * f) ∧ d ≤ upN l ∧ Went sb (s + d) w wr) (fun _ lv _ => P - (intOf lv).toNat)
  case atStart => exact ⟨0, k + 1, 0, hP1, rfl, by go_num, fun _ => hk, fun h => absurd h (by decide), by show k + 1 ≤ 1 * (k + 1); omega, fun i h1 h2 _ => absurd (show i < 1 * (k + 1) from h2) (by omega), Nat.le_refl _, Went.stay H0.out.sr (Below.refl _ _)⟩
  case round =>
    clear hp0
    obtain ⟨l, f, d, hl, rfl, rfl, hf0, hf1, hkf, hhi, hd, hw⟩ := hrel
    have HF0 := Lib.hid hf0
    have HF1 := Lib.hid hf1
    have HKF := Lib.hid hkf
    have HHI := Lib.hid hhi
    have HD := Lib.hid hd
    have HW := Lib.hid hw
    have HM := Lib.hid (H0.out.went hw)
    have hsb2 : s + d ≤ 200000 := by have : upN l ≤ 123 + 8 * l := by unfold upN; split <;> omega
                                     omega
    obtain ⟨t, ht⟩ : ∃ t, s + d = t := ⟨_, rfl⟩
    rw [ht] at HW HM hsb2
    have HT := Lib.hid ht
    obtain ⟨c, hc⟩ : ∃ c, cntP xs.length l = c := ⟨_, rfl⟩
    have hcb : c ≤ 4194304 := by have := cntP_le xs.length l; omega
    have hfc : f ≤ c := by
      by_cases h0 : l = 0
      · subst h0
        rw [← hc]; exact hf0 rfl
      · have := (lt_cnt xs.length l f).2 (hf1 (by omega)).1
        omega
    have hfc1 : 1 ≤ l → f < c := fun h1 => by rw [← hc]; exact (lt_cnt xs.length l f).2 (hf1 h1).1
    have HC := Lib.hid hc
    have HFC1 := Lib.hid hfc1
    clear hf0 hf1 hkf hhi hd hw ht hc hfc1
    have il : (l : Int) < (P : Int) := by omega
    have il0 : (0 : Int) ≤ (l : Int) := by omega
    by_cases hl0 : l = 0
    · subst hl0
      obtain ⟨j, hj⟩ : ∃ j, f / 128 = j := ⟨_, rfl⟩
      have HJ := Lib.hid hj
      have q1 : Int.tdiv (f : Int) 128 = (j : Int) := by rw [Int.tdiv_eq_ediv_of_nonneg (by omega)]; omega
      have hjb : j ≤ 4194304 := by omega
      obtain ⟨fz, hfz⟩ : ∃ fz, (j + 1) * 128 = fz := ⟨_, rfl⟩
      have HFZ := Lib.hid hfz
      have q4 : ((j : Int) + 1) * 128 = (fz : Int) := by omega
      have hfzb : fz ≤ 600000000 := by omega
      have hffz : f < fz := by omega
      obtain ⟨z, hz⟩ : ∃ z, min fz c = z := ⟨_, rfl⟩
      have HZ : Hid ((if c < fz then (c : Int) else (fz : Int)) = (z : Int)) := Lib.hid (by split <;> omega)
      have HZN := Lib.hid hz
      have hfz2 : f ≤ z := by omega
      have hzc : z ≤ c := by omega
      have hzd : z - f ≤ 128 := by omega
      have q2 : IntKind.i64.wrap (j : Int) = (j : Int) := IntWalk.i64_in _ (by clear q1; omega)
      have q3 : IntKind.i64.wrap ((j : Int) + 1) = (j : Int) + 1 := IntWalk.i64_in _ (by clear q1 q2; omega)
      have q5 : IntKind.i64.wrap (fz : Int) = (fz : Int) := IntWalk.i64_in _ (by clear q1 q2 q3; omega)
      clear hj hz hfz
      have hMd := HM.out.other (Below.refl _ _).drew
      have hr := HM.out.row
      have m1 := fun n W => meth_row_len n (.agg #[bv]) W
      have m2 := fun n W => meth_row_first n (.agg #[bv]) W
      go_wp2_with fail
      go_region_held3 (fun W => W.cell? ⟨p, 0, none⟩ = some (.slice (some ⟨q, 0, none⟩) P cap))
        (first | exact (‹Mid B T p q P cap st sb bv bl xs _ _›).parts | assumption)
        (first | ((go_at_call 69; refine (rgroup0_any _).mono ?_; rintro o u ⟨rfl, rfl⟩)) | ((go_at_call 49; refine (Mid.lenRow (s := t) ‹Mid B T p q P cap st sb bv bl xs _ _›).mono ?_; rw [HC.out]; rintro o u ⟨rfl, hM2, hW2⟩)))
      clear q1 q2 q3 q5
      have HW2 := Lib.hid ((HW.out.other (Below.refl _ _).drew).trans hW2)
      rw [HZ.out]
      go_wp2_with fail
      refine (hM2.firstRow f z e (by omega) hfz2 (by rw [HC.out]; exact hzc) hzd).mono ?_
      rintro o w3 ⟨r, rfl, hfp, d2, hd2, hW3⟩
      have HFP := Lib.hid hfp
      have HW3 := Lib.hid (HW2.out.trans hW3)
      have HM3 := Lib.hid (hM2.went hW3)
      have hrz := hfp.hi
      have hd4 : d2 ≤ 131 := by omega
      have HD2 := Lib.hid hd2
      clear hfp hW3 hd2
      by_cases hrl : r < z
      · go_wp2_with fail
        refine (rfirstIn_any 0 r e w3 (s := t + d2) (by omega) hl (by rw [HC.out]; omega) (HFP.out.found hrl) HM3.out).mono ?_
        rintro o w4 ⟨r2, rfl, hr2, hre, hrlo, hrhi, d3, hd3, hW4⟩
        go_wp2
        go_ret
        refine ⟨r2, rfl, Or.inl ⟨r2, rfl, hr2, ?_, hre, ?_⟩, d + d2 + d3, ?_, ?_⟩
        · have h1 := Nat.mul_le_mul_left (widP 0) HFP.out.lo
          have := HKF.out
          omega
        · exact (HHI.out.join (high_of xs e 0 f r HFP.out.none)).join hrhi
        · have h1 := HD.out
          have h2 := HD2.out
          have h3 := down_le 0
          unfold aftN
          rw [show upN 0 = 0 from rfl] at h1
          rw [show downN 0 = 0 from rfl] at hd3
          have hcx : c ≤ xs.length := by rw [← HC.out]; exact Nat.le_refl _
          split <;> omega
        · rw [show s + (d + d2 + d3) = t + d2 + d3 by have := HT.out; omega]
          exact HW3.out.trans hW4
      · have hre : r = z := by omega
        subst hre
        have g1 : decide (r < r) = false := decide_eq_false (Nat.lt_irrefl _)
        have HHJ := Lib.hid (HHI.out.join (high_of xs e 0 f r HFP.out.none))
        by_cases hzc2 : r = c
        · have g2 : ((r : Int) == (c : Int)) = true := beq_iff_eq.2 (by omega)
          have g3 : (r == c) = true := beq_iff_eq.2 hzc2
          go_wp2_with fail
          refine (rgroup0_any w3).mono ?_
          rintro o w4 ⟨rfl, rfl⟩
          go_wp2_with fail
          refine (HM3.out.lenRow).mono ?_
          rw [HC.out]
          rintro o w5 ⟨rfl, hM5, hW5⟩
          go_wp2
          go_ret
          refine ⟨-1, rfl, Or.inr ⟨rfl, high_end (l := 0) (by rw [HC.out, ← hzc2]; exact HHJ.out)⟩, d + d2, ?_, ?_⟩
          · have h1 := HD.out
            have h2 := HD2.out
            unfold aftN
            rw [show upN 0 = 0 from rfl] at h1
            have hcx : c ≤ xs.length := by rw [← HC.out]; exact Nat.le_refl _
            split <;> omega
          · rw [show s + (d + d2) = t + d2 by have := HT.out; omega]
            exact HW3.out.trans hW5
        · have g2 : ((r : Int) == (c : Int)) = false := beq_eq_false_iff_ne.2 (by omega)
          have g3 : (r == c) = false := beq_eq_false_iff_ne.2 hzc2
          have hrfz : r = fz := by have := HZN.out; omega
          have hdv : r / 128 = j + 1 := by have := HFZ.out; omega
          have hdv2 : (r : Int) / 128 = ((j + 1 : Nat) : Int) := by rw [← hdv]; rfl
          go_wp2_with fail
          refine (rgroup0_any w3).mono ?_
          rintro o w4 ⟨rfl, rfl⟩
          go_wp2_with fail
          refine (HM3.out.lenRow).mono ?_
          rw [HC.out]
          rintro o w5 ⟨rfl, hM5, hW5⟩
          go_wp2
          go_roundw
          case rel =>
            have hlow : widP 0 * r < xs.length := (lt_cnt _ _ _).1 (by rw [HC.out]; omega)
            have hew : widP (0 + 1) * (j + 1) = widP 0 * r := by
              show widP 0 * grpP 0 * (j + 1) = _
              rw [Nat.mul_assoc, show grpP 0 = 128 from rfl, Nat.mul_comm 128, HFZ.out, hrfz]
            have hkk : k + 1 ≤ widP 0 * r := Nat.le_trans HKF.out (Nat.mul_le_mul_left _ (by omega))
            refine ⟨0 + 1, j + 1, d + d2, ?_, by first | rfl | go_num, by first | (rw [hdv2]; done) | (rw [hdv]; done) | go_num, fun h => absurd h (Nat.succ_ne_zero _), fun _ => ⟨by rw [hew]; exact hlow, ?_⟩, by rw [hew]; exact hkk, by rw [hew]; exact HHJ.out, ?_, ?_⟩
            · have := HTOP.out.some (by omega); omega
            · have hcx : c = xs.length := HC.out.symm
              have := HFZ.out
              omega
            · have h1 := HD.out
              have h2 := HD2.out
              rw [show upN 0 = 0 from rfl] at h1
              rw [show upN (0 + 1) = 131 from rfl]
              omega
            · rw [show s + (d + d2) = t + d2 by have := HT.out; omega]
              exact HW3.out.trans hW5
          case measure => first | (simp [intOf]; done) | (simp [intOf]; omega)
    · have hl1 : 1 ≤ l := by omega
      obtain ⟨j, hj⟩ : ∃ j, f / 8 = j := ⟨_, rfl⟩
      have HJ := Lib.hid hj
      have q1 : Int.tdiv (f : Int) 8 = (j : Int) := by rw [Int.tdiv_eq_ediv_of_nonneg (by omega)]; omega
      have hjb : j ≤ 4194304 := by omega
      obtain ⟨fz, hfz⟩ : ∃ fz, (j + 1) * 8 = fz := ⟨_, rfl⟩
      have HFZ := Lib.hid hfz
      have q4 : ((j : Int) + 1) * 8 = (fz : Int) := by omega
      have hfzb : fz ≤ 600000000 := by omega
      have hffz : f < fz := by omega
      obtain ⟨z, hz⟩ : ∃ z, min fz c = z := ⟨_, rfl⟩
      have HZ : Hid ((if c < fz then (c : Int) else (fz : Int)) = (z : Int)) := Lib.hid (by split <;> omega)
      have HZN := Lib.hid hz
      have hfz2 : f ≤ z := by omega
      have hzc : z ≤ c := by omega
      have hzd : z - f ≤ 8 := by omega
      have q2 : IntKind.i64.wrap (j : Int) = (j : Int) := IntWalk.i64_in _ (by clear q1; omega)
      have q3 : IntKind.i64.wrap ((j : Int) + 1) = (j : Int) + 1 := IntWalk.i64_in _ (by clear q1 q2; omega)
      have q5 : IntKind.i64.wrap (fz : Int) = (fz : Int) := IntWalk.i64_in _ (by clear q1 q2 q3; omega)
      clear hj hz hfz
      have hMd := HM.out.other (Below.refl _ _).drew
      have hr := HM.out.leastsAt hl1 hl HC.out
      have m1 := fun n W => meth_leasts_len n (.slice (some ⟨bl l, 0, none⟩) c c) W
      have m2 := fun n W => meth_leasts_first n (.slice (some ⟨bl l, 0, none⟩) c c) W
      go_wp2_with fail
      go_region_held3 (fun W => W.cell? ⟨p, 0, none⟩ = some (.slice (some ⟨q, 0, none⟩) P cap))
        (first | exact (‹Mid B T p q P cap st sb bv bl xs _ _›).parts | assumption)
        (first | ((go_at_call 69; refine (rgroup8_any l hl1 _).mono ?_; rintro o u ⟨rfl, rfl⟩)) | ((go_at_call 38; refine (rllen_any _ _ _ _).mono ?_; rintro o u ⟨rfl, rfl⟩)))
      clear q1 q2 q3 q5
      have HW2 := Lib.hid (HW.out.other (Below.refl _ _).drew)
      have hM2 := hMd
      rw [HZ.out]
      go_wp2_with fail
      refine (hM2.firstAt hl1 hl HC.out f z e (by omega) hfz2 hzc).mono ?_
      rintro o w3 ⟨r, rfl, hfp, d2, hd2, hW3⟩
      have HFP := Lib.hid hfp
      have HW3 := Lib.hid (HW2.out.trans hW3)
      have HM3 := Lib.hid (hM2.went hW3)
      have hrz := hfp.hi
      have hd4 : d2 ≤ 131 := by omega
      have HD2 := Lib.hid hd2
      clear hfp hW3 hd2
      by_cases hrl : r < z
      · go_wp2_with fail
        refine (rfirstIn_any l r e w3 (s := t + d2) (by omega) hl (by rw [HC.out]; omega) (HFP.out.found hrl) HM3.out).mono ?_
        rintro o w4 ⟨r2, rfl, hr2, hre, hrlo, hrhi, d3, hd3, hW4⟩
        go_wp2
        go_ret
        refine ⟨r2, rfl, Or.inl ⟨r2, rfl, hr2, ?_, hre, ?_⟩, d + d2 + d3, ?_, ?_⟩
        · have h1 := Nat.mul_le_mul_left (widP l) HFP.out.lo
          have := HKF.out
          omega
        · exact (HHI.out.join (high_of xs e l f r HFP.out.none)).join hrhi
        · have h1 := HD.out
          have h2 := HD2.out
          have h3 := down_le l
          unfold aftN
          rw [show upN l = 123 + 8 * l from if_neg (by omega)] at h1
          have := (HF1.out hl1).2
          rw [if_neg (by omega)]
          omega
        · rw [show s + (d + d2 + d3) = t + d2 + d3 by have := HT.out; omega]
          exact HW3.out.trans hW4
      · have hre : r = z := by omega
        subst hre
        have g1 : decide (r < r) = false := decide_eq_false (Nat.lt_irrefl _)
        have HHJ := Lib.hid (HHI.out.join (high_of xs e l f r HFP.out.none))
        by_cases hzc2 : r = c
        · have g2 : ((r : Int) == (c : Int)) = true := beq_iff_eq.2 (by omega)
          have g3 : (r == c) = true := beq_iff_eq.2 hzc2
          go_wp2_with fail
          refine (rgroup8_any l hl1 w3).mono ?_
          rintro o w4 ⟨rfl, rfl⟩
          go_wp2_with fail
          refine (rllen_any (some ⟨bl l, 0, none⟩) c c w3).mono ?_
          rintro o w5 ⟨rfl, rfl⟩
          go_wp2
          go_ret
          refine ⟨-1, rfl, Or.inr ⟨rfl, high_end (l := l) (by rw [HC.out, ← hzc2]; exact HHJ.out)⟩, d + d2, ?_, ?_⟩
          · have h1 := HD.out
            have h2 := HD2.out
            unfold aftN
            rw [show upN l = 123 + 8 * l from if_neg (by omega)] at h1
            have := (HF1.out hl1).2
            rw [if_neg (by omega)]
            omega
          · rw [show s + (d + d2) = t + d2 by have := HT.out; omega]
            exact HW3.out
        · have g2 : ((r : Int) == (c : Int)) = false := beq_eq_false_iff_ne.2 (by omega)
          have g3 : (r == c) = false := beq_eq_false_iff_ne.2 hzc2
          have hrfz : r = fz := by have := HZN.out; omega
          have hdv : r / 8 = j + 1 := by have := HFZ.out; omega
          have hdv2 : (r : Int) / 8 = ((j + 1 : Nat) : Int) := by rw [← hdv]; rfl
          go_wp2_with fail
          refine (rgroup8_any l hl1 w3).mono ?_
          rintro o w4 ⟨rfl, rfl⟩
          go_wp2_with fail
          refine (rllen_any (some ⟨bl l, 0, none⟩) c c w3).mono ?_
          rintro o w5 ⟨rfl, rfl⟩
          go_wp2
          go_roundw
          case rel =>
            have hlow : widP l * r < xs.length := (lt_cnt _ _ _).1 (by rw [HC.out]; omega)
            have hew : widP (l + 1) * (j + 1) = widP l * r := by
              show widP l * grpP l * (j + 1) = _
              rw [Nat.mul_assoc, show grpP l = 8 from if_neg (by omega), Nat.mul_comm 8, HFZ.out, hrfz]
            have hkk : k + 1 ≤ widP l * r := Nat.le_trans HKF.out (Nat.mul_le_mul_left _ (by omega))
            refine ⟨l + 1, j + 1, d + d2, ?_, by first | rfl | go_num, by first | (rw [hdv2]; done) | (rw [hdv]; done) | go_num, fun h => absurd h (Nat.succ_ne_zero _), fun _ => ⟨by rw [hew]; exact hlow, ?_⟩, by rw [hew]; exact hkk, by rw [hew]; exact HHJ.out, ?_, ?_⟩
            · by_cases hlP : l + 1 < P
              · exact hlP
              · have htp := HTOP.out.top (by omega)
                rw [show P - 1 = l by omega, HC.out] at htp
                have := HFZ.out
                omega
            · exact (HF1.out hl1).2
            · have h1 := HD.out
              have h2 := HD2.out
              rw [show upN l = 123 + 8 * l from if_neg (by omega)] at h1
              rw [show upN (l + 1) = 123 + 8 * (l + 1) from if_neg (by omega)]
              omega
            · rw [show s + (d + d2) = t + d2 by have := HT.out; omega]
              exact HW3.out
          case measure => first | (simp [intOf]; done) | (simp [intOf]; omega)
end
end Go.Proofs.Yteecanaibkpmfaa
