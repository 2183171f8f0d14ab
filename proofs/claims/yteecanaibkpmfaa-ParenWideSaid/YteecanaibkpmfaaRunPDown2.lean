/-
  THE LANDED PACKAGE paren: from a thing down to the last of its places.
-/
import Derived.Test.YteecanaibkpmfaaRunPDown
namespace Go.Proofs.Yteecanaibkpmfaa
open Go.RowKit

section
variable {B T p q P cap st sb s : Nat} {bv : Value} {bl : Nat → Nat} {xs : List Bool}
set_option maxHeartbeats 4000000 in
set_option maxRecDepth 100000 in
theorem rlastIn_any (l i : Nat) (e : Int) (w : World) (hs : s ≤ 400000) (hl : l < P) (hi : i < cntP xs.length l) (hle : leastP xs l i ≤ e) (h : Mid B T p q P cap st sb bv bl xs s w) :
    Calls Try.prog 71 #[.pointer (some ⟨p, 0, none⟩), .int .i64 l, .int .i64 i, .int .i64 e, .pointer (some ⟨sb, 0, none⟩)] w fun o w' =>
      ∃ r : Nat, o = .returned (.int .i64 r) ∧ r < xs.length ∧ exc xs (r + 1) ≤ e ∧ r < widP l * (i + 1) ∧ HighP xs e (r + 1) (widP l * (i + 1)) ∧ ∃ d, d ≤ downN l ∧ Went sb (s + d) w w' := by
  have H0 := Lib.hid h
  have HI := Lib.hid hi
  have HLE := Lib.hid hle
  have hP6 := h.few
  have hxl := h.inp.len
  clear h hi hle
  go_enter Try.func71, Try.ntmps71
  go_wp2
  go_loopw [1, 2] (fun lv iv wr => ∃ m j d : Nat, m ≤ l ∧ lv = .int .i64 m ∧ iv = .int .i64 j ∧ j < cntP xs.length m ∧ leastP xs m j ≤ e ∧ widP m * (j + 1) ≤ widP l * (i + 1) ∧ HighP xs e (widP m * (j + 1)) (widP l * (i + 1)) ∧ d + downN m ≤ downN l ∧ Went sb (s + d) w wr) (fun lv _ _ => (intOf lv).toNat)
  case atStart => exact ⟨l, i, 0, Nat.le_refl _, rfl, rfl, HI.out, HLE.out, Nat.le_refl _, fun p h1 h2 => by omega, by omega, Went.stay H0.out.sr (Below.refl _ _)⟩
  case round =>
    obtain ⟨m, j, d, hm, rfl, rfl, hj, hjle, hlow, hhi, hd, hw⟩ := hrel
    have HLO := Lib.hid hlow
    have HJ := Lib.hid hj
    have HJL := Lib.hid hjle
    have HHI := Lib.hid hhi
    have HD := Lib.hid hd
    have HW := Lib.hid hw
    have HM := Lib.hid (H0.out.went hw)
    have hjb : j ≤ 4194304 := by have := cntP_le xs.length m; omega
    have hsb2 : s + d ≤ 450000 := by have : downN l ≤ 8 * l + 123 := by unfold downN; split <;> omega
                                     omega
    clear hj hjle hlow hhi hd hw
    obtain ⟨t, ht⟩ : ∃ t, s + d = t := ⟨_, rfl⟩
    rw [ht] at HW HM hsb2
    have HT := Lib.hid ht
    clear ht
    by_cases hm0 : m = 0
    · subst hm0
      go_wp2
      go_ret
      refine ⟨j, rfl, HJ.out, HJL.out, ?_, ?_, d, by have := HD.out; unfold downN at this ⊢; simp at this ⊢; omega, by rw [HT.out]; exact HW.out⟩
      · have := HLO.out
        rw [show widP 0 * (j + 1) = j + 1 from Nat.one_mul _] at this
        exact this
      · have := HHI.out
        rw [show widP 0 * (j + 1) = j + 1 from Nat.one_mul _] at this
        exact this
    obtain ⟨m, rfl⟩ : ∃ n, m = n + 1 := ⟨m - 1, by omega⟩
    by_cases hm1 : m = 0
    · subst hm1
      obtain ⟨f, hf⟩ : ∃ f, 128 * j = f := ⟨_, rfl⟩
      have ef : (j : Int) * 128 = (f : Int) := by omega
      have hfb : f ≤ 600000000 := by omega
      have HF := Lib.hid hf
      clear hf
      have e1 : ((0 + 1 : Nat) : Int) = 1 := rfl
      have hr := HM.out.row
      have hp0 := HM.out.parts
      have hMd := HM.out.other (Below.refl _ _).drew
      have hcn : cntP xs.length 0 = xs.length := rfl
      obtain ⟨z, hz⟩ : ∃ z, min (f + 128) xs.length = z := ⟨_, rfl⟩
      have HZ : Hid ((if (xs.length : Int) < (f : Int) + 128 then (xs.length : Int) else (f : Int) + 128) = (z : Int)) := Lib.hid (by split <;> omega)
      have HZN := Lib.hid hz
      have HFX : Hid (f < xs.length) := Lib.hid (by have := (lt_cnt xs.length 1 j).1 HJ.out; simp only [widP, grpP, Nat.one_mul, if_true] at this; have := HF.out; omega)
      have hzf : f ≤ z := by have := HFX.out; omega
      have hzn : z ≤ xs.length := by omega
      have hzd : z - f ≤ 128 := by omega
      clear hz
      go_wp2_with fail
      refine (rgroup0_any wr).mono ?_
      rintro o w2 ⟨rfl, rfl⟩
      go_wp2_with fail
      have ip : (0 : Int) < (P : Int) := by have := H0.out.inp.top.one; omega
      have ipn : 0 < P := by omega
      have ipd : ¬ P = 0 := by omega
      have m1 := fun n W => meth_row_len n (.agg #[bv]) W
      have m2 := fun n W => meth_row_last n (.agg #[bv]) W
      have wf : IntKind.i64.wrap ((f : Int) + 128) = (f : Int) + 128 := by simp [IntKind.wrap, IntKind.bits, IntKind.signed]; omega
      go_region_held3 (fun W => W.cell? ⟨p, 0, none⟩ = some (.slice (some ⟨q, 0, none⟩) P cap) ∧ W.cell? ⟨q, 0, none⟩ = some (.iface 48 (.agg #[bv])))
        (first | exact ⟨(‹Mid B T p q P cap st sb bv bl xs _ _›).parts, (‹Mid B T p q P cap st sb bv bl xs _ _›).row⟩ | assumption)
        (first | ((go_at_call 69; refine (rgroup0_any _).mono ?_; rintro o u ⟨rfl, rfl⟩)) | ((go_at_call 49; refine (Mid.lenRow (s := t) ‹Mid B T p q P cap st sb bv bl xs _ _›).mono ?_; rintro o u ⟨rfl, hM2, hW2⟩)) | ((go_at_call 88; show Calls _ _ #[_, _, .int .i64 (if (xs.length : Int) < (f : Int) + 128 then (xs.length : Int) else (f : Int) + 128), _, _] _ _; rw [HZ.out]; refine (Mid.lastRow (s := t) ‹Mid B T p q P cap st sb bv bl xs t _› f z e (by omega) hzf hzn hzd).mono ?_; rintro o u ⟨r, rfl, hfp, d2, hd2, hW3⟩; have hM3 := Mid.went ‹Mid B T p q P cap st sb bv bl xs t _› hW3)))
      go_wp2
      go_roundw
      case rel =>
        have hfd := last_down HJ.out HJL.out (r := r) (by
          show LastP (leastP xs 0) e (128 * j) (min (128 * j + 128) xs.length) r
          rw [HF.out, HZN.out]
          exact hfp)
        have hr0 := hfd.1
        refine ⟨0, r - 1, d + d2, by omega, rfl, by congr 1; omega, hfd.2.1, hfd.2.2.1, by rw [show r - 1 + 1 = r by omega]; exact Nat.le_trans hfd.2.2.2.1 HLO.out, by rw [show r - 1 + 1 = r by omega]; exact hfd.2.2.2.2.join HHI.out, by have := HD.out; rw [down_zero] at this; omega, ?_⟩
        rw [show s + (d + d2) = t + d2 by have := HT.out; omega]
        exact ((HW.out.other (Below.refl _ _).drew).trans hW2).trans hW3
      case measure => simp [intOf]
    · obtain ⟨f, hf⟩ : ∃ f, 8 * j = f := ⟨_, rfl⟩
      have ef : (j : Int) * 8 = (f : Int) := by omega
      have hfb : f ≤ 600000000 := by omega
      have HF := Lib.hid hf
      clear hf
      have hml : 1 ≤ m := by omega
      have hmP : m < P := by omega
      obtain ⟨c, hc⟩ : ∃ c, cntP xs.length m = c := ⟨_, rfl⟩
      have hcb : c ≤ 4194304 := by have := cntP_le xs.length m; omega
      have HC := Lib.hid hc
      have hr := HM.out.leastsAt hml hmP hc
      have hp0 := HM.out.parts
      have hMd := HM.out.other (Below.refl _ _).drew
      obtain ⟨z, hz⟩ : ∃ z, min (f + 8) c = z := ⟨_, rfl⟩
      have HZ : Hid ((if (c : Int) < (f : Int) + 8 then (c : Int) else (f : Int) + 8) = (z : Int)) := Lib.hid (by split <;> omega)
      have HZN := Lib.hid hz
      have hgm : grpP m = 8 := if_neg (by omega)
      have HGM := Lib.hid hgm
      have HFX : Hid (f < c) := Lib.hid (by
        have := HJ.out
        rw [cnt_next, lt_begun (grp_pos m), hc, hgm] at this
        have := HF.out; omega)
      have hzf : f ≤ z := by have := HFX.out; omega
      have hzn : z ≤ c := by omega
      have hzd : z - f ≤ 8 := by omega
      clear hz hc hgm
      go_wp2_with fail
      refine (rgroup8_any m hml wr).mono ?_
      rintro o w2 ⟨rfl, rfl⟩
      go_wp2_with fail
      have ip : (m : Int) < (P : Int) := by omega
      have ip0 : (0 : Int) ≤ (m : Int) := by omega
      have m1 := fun n W => meth_leasts_len n (.slice (some ⟨bl m, 0, none⟩) c c) W
      have m2 := fun n W => meth_leasts_last n (.slice (some ⟨bl m, 0, none⟩) c c) W
      have wf : IntKind.i64.wrap ((f : Int) + 8) = (f : Int) + 8 := by simp [IntKind.wrap, IntKind.bits, IntKind.signed]; omega
      go_region_held3 (fun W => W.cell? ⟨p, 0, none⟩ = some (.slice (some ⟨q, 0, none⟩) P cap) ∧ W.cell? ⟨q, m, none⟩ = some (.iface 53 (.slice (some ⟨bl m, 0, none⟩) c c)))
        (first | exact ⟨(‹Mid B T p q P cap st sb bv bl xs _ _›).parts, (‹Mid B T p q P cap st sb bv bl xs _ _›).leastsAt hml hmP HC.out⟩ | assumption)
        (first | ((go_at_call 69; refine (rgroup8_any m hml _).mono ?_; rintro o u ⟨rfl, rfl⟩)) | ((go_at_call 38; refine (rllen_any _ _ _ _).mono ?_; rintro o u ⟨rfl, rfl⟩)) | ((go_at_call 90; show Calls _ _ #[_, _, .int .i64 (if (c : Int) < (f : Int) + 8 then (c : Int) else (f : Int) + 8), _, _] _ _; rw [HZ.out]; refine (Mid.lastAt (s := t) ‹Mid B T p q P cap st sb bv bl xs t _› hml hmP HC.out f z e (by omega) hzf hzn).mono ?_; rintro o u ⟨r, rfl, hfp, d2, hd2, hW3⟩; have hM3 := Mid.went ‹Mid B T p q P cap st sb bv bl xs t _› hW3)))
      go_wp2
      go_roundw
      case rel =>
        have hfd := last_down HJ.out HJL.out (r := r) (by
          rw [HGM.out, HF.out, HC.out, HZN.out]
          exact hfp)
        have hr0 := hfd.1
        refine ⟨m, r - 1, d + d2, by omega, by first | rfl | go_num, by congr 1; omega, hfd.2.1, hfd.2.2.1, by rw [show r - 1 + 1 = r by omega]; exact Nat.le_trans hfd.2.2.2.1 HLO.out, by rw [show r - 1 + 1 = r by omega]; exact hfd.2.2.2.2.join HHI.out, by have := HD.out; rw [down_succ m hml] at this; omega, ?_⟩
        rw [show s + (d + d2) = t + d2 by have := HT.out; omega]
        exact (HW.out.other (Below.refl _ _).drew).trans hW3
      case measure => first | (simp [intOf]; done) | (simp [intOf]; omega)
end
end Go.Proofs.Yteecanaibkpmfaa
