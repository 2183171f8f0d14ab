/-
  THE LANDED PACKAGE paren: the last place ahead of one that comes down to an excess. (Written by gen_pbefore.py.)
-/
import Derived.Test.YteecanaibkpmfaaRunPDown2
import Derived.Test.YteecanaibkpmfaaRunPAfter
namespace Go.Proofs.Yteecanaibkpmfaa
open Go.RowKit

/-- what is found ahead of k -/
def BefPost (xs : List Bool) (k : Nat) (e : Int) (r : Int) : Prop :=
  (∃ j : Nat, r = (j : Int) ∧ j < k ∧ exc xs (j + 1) ≤ e ∧ HighP xs e (j + 1) k) ∨ (r = -1 ∧ HighP xs e 0 k)
/-- how many steps have been taken when level l is come to -/
def upB (n l : Nat) : Nat := if l = 0 then 0 else if n ≤ 128 then n + 3 else 123 + 8 * l
theorem upB_le (n l : Nat) (h : l ≤ 6) : upB n l ≤ 171 := by unfold upB; split <;> (try split) <;> omega
section
variable {B T p q P cap st sb s : Nat} {bv : Value} {bl : Nat → Nat} {xs : List Bool}
set_option maxHeartbeats 4000000 in
set_option maxRecDepth 100000 in
theorem rbefore_any (k : Nat) (e : Int) (w : World) (hs : s ≤ 100000) (hk : k < xs.length) (h : Mid B T p q P cap st sb bv bl xs s w) :
    Calls Try.prog 58 #[.pointer (some ⟨p, 0, none⟩), .int .i64 k, .int .i64 e, .pointer (some ⟨sb, 0, none⟩)] w fun o w' =>
      ∃ r : Int, o = .returned (.int .i64 r) ∧ BefPost xs k e r ∧ ∃ d, d ≤ aftN xs.length ∧ Went sb (s + d) w w' := by
  have H0 := Lib.hid h
  have HTOP := Lib.hid h.inp.top
  have hP6 := h.few
  have hP1 := h.inp.top.some (by omega)
  have hxl := h.inp.len
  have hp0 := h.parts
  clear h
  go_enter Try.func58, Try.ntmps58
  go_wp2
  go_loopw [9, 20] (fun fv lv wr => ∃ l f d : Nat, l ≤ P ∧ lv = .int .i64 l ∧ fv = .int .i64 f ∧ (l = P → f = 0) ∧ (1 ≤ l → f = 0 ∨ 128 < xs.length) ∧ widP l * f ≤ k ∧ HighP xs e (widP l * f) k ∧ d ≤ upB xs.length l ∧ Went sb (s + d) w wr) (fun _ lv _ => P - (intOf lv).toNat)
  case atStart => exact ⟨0, k, 0, by omega, rfl, rfl, fun h => absurd h (by omega), fun h => absurd h (by decide), by show 1 * k ≤ k; omega, fun i h1 h2 _ => absurd (show 1 * k ≤ i from h1) (by omega), Nat.le_refl _, Went.stay H0.out.sr (Below.refl _ _)⟩
  case round =>
    clear hp0
    obtain ⟨l, f, d, hl, rfl, rfl, hf0, hf1, hkf, hhi, hd, hw⟩ := hrel
    have hfb : f ≤ 4194304 := by
      have h1 := Nat.mul_le_mul_right f (wid_pos l)
      omega
    have HF1 := Lib.hid hf1
    have HF0 := Lib.hid hf0
    have HKF := Lib.hid hkf
    have HHI := Lib.hid hhi
    have HD := Lib.hid hd
    have HW := Lib.hid hw
    have HM := Lib.hid (H0.out.went hw)
    have hsb2 : s + d ≤ 200000 := by have := upB_le xs.length l (by omega); omega
    have hda : d ≤ aftN xs.length := by
      refine Nat.le_trans hd ?_
      unfold upB aftN
      split
      · omega
      · split <;> omega
    obtain ⟨t, ht⟩ : ∃ t, s + d = t := ⟨_, rfl⟩
    rw [ht] at HW HM hsb2
    have HT := Lib.hid ht
    have HDA := Lib.hid hda
    clear hf0 hf1 hkf hhi hd hw ht hda
    by_cases hf00 : f = 0
    · subst hf00
      by_cases hlP : l < P
      · by_cases hl0 : l = 0
        · subst hl0
          have hr := HM.out.row
          go_wp2
          go_ret
          exact ⟨-1, rfl, Or.inr ⟨rfl, by have := HHI.out; rw [Nat.mul_zero] at this; exact this⟩, d, HDA.out, by rw [HT.out]; exact HW.out⟩
        · have hr := HM.out.leastsAt (by omega) hlP rfl
          have il : (l : Int) < (P : Int) := by omega
          have il0 : (0 : Int) ≤ (l : Int) := by omega
          go_wp2
          go_ret
          exact ⟨-1, rfl, Or.inr ⟨rfl, by have := HHI.out; rw [Nat.mul_zero] at this; exact this⟩, d, HDA.out, by rw [HT.out]; exact HW.out⟩
      · have hlP2 : l = P := by omega
        subst hlP2
        go_wp2
        go_ret
        exact ⟨-1, rfl, Or.inr ⟨rfl, by have := HHI.out; rw [Nat.mul_zero] at this; exact this⟩, d, HDA.out, by rw [HT.out]; exact HW.out⟩
    have hlP : l < P := by
      by_cases h : l < P
      · exact h
      · exact absurd (HF0.out (by omega)) hf00
    obtain ⟨c, hc⟩ : ∃ c, cntP xs.length l = c := ⟨_, rfl⟩
    have hcb : c ≤ 4194304 := by have := cntP_le xs.length l; omega
    obtain ⟨f1, hf1⟩ : ∃ f1, f - 1 = f1 := ⟨_, rfl⟩
    have hfc : f ≤ c := by
      have h1 : f1 < c := by
        rw [← hc]
        refine (lt_cnt xs.length l f1).2 ?_
        have h2 := Nat.mul_le_mul_left (widP l) (show f1 ≤ f by omega)
        have := HKF.out
        omega
      omega
    have HC := Lib.hid hc
    have q0 : (f : Int) - 1 = (f1 : Int) := by omega
    have gf0 : ((f : Int) == 0) = false := beq_eq_false_iff_ne.2 (by omega)
    have gf1 : (f == 0) = false := beq_eq_false_iff_ne.2 hf00
    clear hc
    have il : (l : Int) < (P : Int) := by omega
    have il0 : (0 : Int) ≤ (l : Int) := by omega
    by_cases hl0 : l = 0
    · subst hl0
      obtain ⟨j, hj⟩ : ∃ j, f1 / 128 = j := ⟨_, rfl⟩
      have q1 : Int.tdiv (f1 : Int) 128 = (j : Int) := by rw [Int.tdiv_eq_ediv_of_nonneg (by omega)]; omega
      have hjb : j ≤ 4194304 := by omega
      obtain ⟨a, ha⟩ : ∃ a, j * 128 = a := ⟨_, rfl⟩
      have HA := Lib.hid ha
      have q4 : (j : Int) * 128 = (a : Int) := by omega
      have hab : a ≤ f1 := by omega
      have haf : a < f := by omega
      have hzd : f - a ≤ 128 := by omega
      have HJ := Lib.hid (show f1 / 128 = j from hj)
      have q6 : IntKind.i64.wrap (f1 : Int) = (f1 : Int) := IntWalk.i64_in _ (by clear q1; omega)
      have q2 : IntKind.i64.wrap (j : Int) = (j : Int) := IntWalk.i64_in _ (by clear q1 q6; omega)
      have q5 : IntKind.i64.wrap (a : Int) = (a : Int) := IntWalk.i64_in _ (by clear q1 q2 q6; omega)
      clear hj ha hf1
      have hMd := HM.out.other (Below.refl _ _).drew
      have hr := HM.out.row
      have m2 := fun n W => meth_row_last n (.agg #[bv]) W
      go_wp2_with fail
      go_region_held3 (fun W => W.cell? ⟨p, 0, none⟩ = some (.slice (some ⟨q, 0, none⟩) P cap))
        (first | exact (‹Mid B T p q P cap st sb bv bl xs _ _›).parts | assumption)
        (first | ((go_at_call 69; refine (rgroup0_any _).mono ?_; rintro o u ⟨rfl, rfl⟩)))
      clear q1 q2 q5 q6
      have HW2 := Lib.hid (HW.out.other (Below.refl _ _).drew)
      have hM2 := hMd
      go_wp2_with fail
      refine (hM2.lastRow a f e (by omega) (by omega) (by rw [HC.out]; exact hfc) hzd).mono ?_
      rintro o w3 ⟨r, rfl, hfp, d2, hd2, hW3⟩
      have HFP := Lib.hid hfp
      have HW3 := Lib.hid (HW2.out.trans hW3)
      have HM3 := Lib.hid (hM2.went hW3)
      have hrz := hfp.hi
      have hrlo := hfp.lo
      have hd4 : d2 ≤ 131 := by omega
      have HD2 := Lib.hid hd2
      clear hfp hW3 hd2
      by_cases hrl : a < r
      · obtain ⟨r1, hr1⟩ : ∃ r1, r - 1 = r1 := ⟨_, rfl⟩
        rw [show ((r : Int) - 1) = (r1 : Int) by omega]
        have hr1b : r1 ≤ 4194304 := by omega
        have g1 : decide (a ≤ r1) = true := decide_eq_true (by omega)
        have HR1 : Hid (r1 + 1 = r) := Lib.hid (by omega)
        go_wp2_with fail
        refine (rlastIn_any 0 r1 e w3 (s := t + d2) (by omega) hlP (by rw [HC.out]; omega) (by have := HFP.out.found hrl; rw [hr1] at this; exact this) HM3.out).mono ?_
        rintro o w4 ⟨r2, rfl, hr2, hre, hrb, hrhi, d3, hd3, hW4⟩
        rw [HR1.out] at hrb hrhi
        go_wp2
        go_ret
        refine ⟨r2, rfl, Or.inl ⟨r2, rfl, ?_, hre, ?_⟩, d + d2 + d3, ?_, ?_⟩
        · have h1 := Nat.mul_le_mul_left (widP 0) hrz
          have := HKF.out
          omega
        · exact (hrhi.join (high_of xs e 0 r f HFP.out.none)).join HHI.out
        · have h1 := HD.out
          have h2 := HD2.out
          have h3 := down_le 0
          rw [show upB xs.length 0 = 0 from if_pos rfl] at h1
          rw [show downN 0 = 0 from rfl] at hd3
          have hkx : f ≤ k := by have : 1 * f ≤ k := HKF.out
                                 omega
          unfold aftN
          split <;> omega
        · rw [show s + (d + d2 + d3) = t + d2 + d3 by have := HT.out; omega]
          exact HW3.out.trans hW4
      · have hre : r = a := by omega
        subst hre
        have g1 : decide ((r : Int) ≤ (r : Int) - 1) = false := decide_eq_false (by omega)
        have HHJ := Lib.hid (HighP.join (high_of xs e 0 r f HFP.out.none) HHI.out)
        have hdv : r / 128 = j := by have := HA.out; omega
        have hdv2 : (r : Int) / 128 = (j : Int) := by rw [← hdv]; rfl
        go_wp2_with fail
        refine (rgroup0_any w3).mono ?_
        rintro o w4 ⟨rfl, rfl⟩
        go_wp2
        go_roundw
        case rel =>
          have hew : widP (0 + 1) * j = widP 0 * r := by
            show widP 0 * grpP 0 * j = _
            rw [Nat.mul_assoc, show grpP 0 = 128 from rfl, Nat.mul_comm 128, HA.out]
          have hkk : widP 0 * r ≤ k := Nat.le_trans (Nat.mul_le_mul_left _ (by omega)) HKF.out
          refine ⟨0 + 1, j, d + d2, by omega, by first | rfl | go_num, by first | (rw [hdv2]; done) | (rw [hdv]; done) | rfl, ?_, fun _ => ?_, by rw [hew]; exact hkk, by rw [hew]; exact HHJ.out, ?_, ?_⟩
          · intro h
            omega
          · have : 1 * f ≤ k := HKF.out
            have := HA.out
            omega
          · have h1 := HD.out
            have h2 := HD2.out
            rw [show upB xs.length 0 = 0 from if_pos rfl] at h1
            have hkx : f ≤ k := by have : 1 * f ≤ k := HKF.out
                                   omega
            rw [show upB xs.length (0 + 1) = if xs.length ≤ 128 then xs.length + 3 else 131 from rfl]
            split <;> omega
          · rw [show s + (d + d2) = t + d2 by have := HT.out; omega]
            exact HW3.out
        case measure => first | (simp [intOf]; done) | (simp [intOf]; omega)
    · have hl1 : 1 ≤ l := by omega
      obtain ⟨j, hj⟩ : ∃ j, f1 / 8 = j := ⟨_, rfl⟩
      have q1 : Int.tdiv (f1 : Int) 8 = (j : Int) := by rw [Int.tdiv_eq_ediv_of_nonneg (by omega)]; omega
      have hjb : j ≤ 4194304 := by omega
      obtain ⟨a, ha⟩ : ∃ a, j * 8 = a := ⟨_, rfl⟩
      have HA := Lib.hid ha
      have q4 : (j : Int) * 8 = (a : Int) := by omega
      have hab : a ≤ f1 := by omega
      have haf : a < f := by omega
      have hzd : f - a ≤ 8 := by omega
      have HJ := Lib.hid (show f1 / 8 = j from hj)
      have q6 : IntKind.i64.wrap (f1 : Int) = (f1 : Int) := IntWalk.i64_in _ (by clear q1; omega)
      have q2 : IntKind.i64.wrap (j : Int) = (j : Int) := IntWalk.i64_in _ (by clear q1 q6; omega)
      have q5 : IntKind.i64.wrap (a : Int) = (a : Int) := IntWalk.i64_in _ (by clear q1 q2 q6; omega)
      clear hj ha hf1
      have hMd := HM.out.other (Below.refl _ _).drew
      have hr := HM.out.leastsAt hl1 hlP HC.out
      have m2 := fun n W => meth_leasts_last n (.slice (some ⟨bl l, 0, none⟩) c c) W
      go_wp2_with fail
      go_region_held3 (fun W => W.cell? ⟨p, 0, none⟩ = some (.slice (some ⟨q, 0, none⟩) P cap))
        (first | exact (‹Mid B T p q P cap st sb bv bl xs _ _›).parts | assumption)
        (first | ((go_at_call 69; refine (rgroup8_any l hl1 _).mono ?_; rintro o u ⟨rfl, rfl⟩)))
      clear q1 q2 q5 q6
      have HW2 := Lib.hid (HW.out.other (Below.refl _ _).drew)
      have hM2 := hMd
      go_wp2_with fail
      refine (hM2.lastAt hl1 hlP HC.out a f e (by omega) (by omega) hfc).mono ?_
      rintro o w3 ⟨r, rfl, hfp, d2, hd2, hW3⟩
      have HFP := Lib.hid hfp
      have HW3 := Lib.hid (HW2.out.trans hW3)
      have HM3 := Lib.hid (hM2.went hW3)
      have hrz := hfp.hi
      have hrlo := hfp.lo
      have hd4 : d2 ≤ 131 := by omega
      have HD2 := Lib.hid hd2
      clear hfp hW3 hd2
      by_cases hrl : a < r
      · obtain ⟨r1, hr1⟩ : ∃ r1, r - 1 = r1 := ⟨_, rfl⟩
        rw [show ((r : Int) - 1) = (r1 : Int) by omega]
        have hr1b : r1 ≤ 4194304 := by omega
        have g1 : decide (a ≤ r1) = true := decide_eq_true (by omega)
        have HR1 : Hid (r1 + 1 = r) := Lib.hid (by omega)
        go_wp2_with fail
        refine (rlastIn_any l r1 e w3 (s := t + d2) (by omega) hlP (by rw [HC.out]; omega) (by have := HFP.out.found hrl; rw [hr1] at this; exact this) HM3.out).mono ?_
        rintro o w4 ⟨r2, rfl, hr2, hre, hrb, hrhi, d3, hd3, hW4⟩
        rw [HR1.out] at hrb hrhi
        go_wp2
        go_ret
        refine ⟨r2, rfl, Or.inl ⟨r2, rfl, ?_, hre, ?_⟩, d + d2 + d3, ?_, ?_⟩
        · have h1 := Nat.mul_le_mul_left (widP l) hrz
          have := HKF.out
          omega
        · exact (hrhi.join (high_of xs e l r f HFP.out.none)).join HHI.out
        · have h1 := HD.out
          have h2 := HD2.out
          have h3 := down_le l
          have h5 := HF1.out hl1
          unfold upB at h1
          rw [if_neg (by omega), if_neg (by omega)] at h1
          unfold aftN
          rw [if_neg (by omega)]
          omega
        · rw [show s + (d + d2 + d3) = t + d2 + d3 by have := HT.out; omega]
          exact HW3.out.trans hW4
      · have hre : r = a := by omega
        subst hre
        have g1 : decide ((r : Int) ≤ (r : Int) - 1) = false := decide_eq_false (by omega)
        have HHJ := Lib.hid (HighP.join (high_of xs e l r f HFP.out.none) HHI.out)
        have hdv : r / 8 = j := by have := HA.out; omega
        have hdv2 : (r : Int) / 8 = (j : Int) := by rw [← hdv]; rfl
        go_wp2_with fail
        refine (rgroup8_any l hl1 w3).mono ?_
        rintro o w4 ⟨rfl, rfl⟩
        go_wp2
        go_roundw
        case rel =>
          have hew : widP (l + 1) * j = widP l * r := by
            show widP l * grpP l * j = _
            rw [Nat.mul_assoc, show grpP l = 8 from if_neg (by omega), Nat.mul_comm 8, HA.out]
          have hkk : widP l * r ≤ k := Nat.le_trans (Nat.mul_le_mul_left _ (by omega)) HKF.out
          refine ⟨l + 1, j, d + d2, by omega, by first | rfl | go_num, by first | (rw [hdv2]; done) | (rw [hdv]; done) | rfl, ?_, fun _ => ?_, by rw [hew]; exact hkk, by rw [hew]; exact HHJ.out, ?_, ?_⟩
          · intro h
            have htp := HTOP.out.top (by omega)
            rw [show P - 1 = l by omega, HC.out] at htp
            have := HJ.out
            omega
          · have h5 := HF1.out hl1
            omega
          · have h1 := HD.out
            have h2 := HD2.out
            have h5 := HF1.out hl1
            unfold upB at h1 ⊢
            rw [if_neg (by omega), if_neg (by omega)] at h1
            rw [if_neg (by omega), if_neg (by omega)]
            omega
          · rw [show s + (d + d2) = t + d2 by have := HT.out; omega]
            exact HW3.out
        case measure => first | (simp [intOf]; done) | (simp [intOf]; omega)
end
end Go.Proofs.Yteecanaibkpmfaa
