/-
  LAYER 5: brackenlaw5.ParenSpans, out of ParSaid: true for any row. (Written by gen_pspans.py.)
-/
import Derived.Test.YteecanaibkpmfaaParArg
import Derived.Test.YteecanaibkpmfaaParSpanLaws
import Derived.Deep.RegionHeld3
namespace Go.Proofs.Yteecanaibkpmfaa
open Go.RowKit

set_option maxHeartbeats 20000000 in
set_option maxRecDepth 100000 in
theorem pspans_any {E : Nat → World → Prop} {Is : Nat → Nat → World → Value → List Bool → Prop} (S : ParSaid E Is) (n : Nat) (l : Value) (w : World) (hE : E n w) (hn : n ≤ w.heap.size) (hl : IntsArg w l) :
    Calls Try.prog 10 #[l] w fun e w' => e = .returned (.bool true) ∧ Below w.heap.size w w' := by
  have HE0 := Lib.hid hE
  have HN0 := Lib.hid hn
  have HL := Lib.hid hl
  clear hE hn hl
  go_enter Try.func10, Try.ntmps10
  go_wp2_with fail
  refine (parRow_any l 200 w HL.out (by decide)).mono ?_
  rintro e w1 ⟨a, cap, xs, rfl, hm⟩
  have hlb : xs.length ≤ 4194304 := by have := hm.few; omega
  have hl3 : xs.length ≤ 400 := hm.few
  have HB := Lib.hid hm.since
  have HM := Lib.hid hm.may
  have HR := Lib.hid hm.row
  have HMD := Lib.hid hm
  have HE := Lib.hid (S.stay n w w1 HE0.out (hm.since.mono HN0.out))
  have HN := Lib.hid (Nat.le_trans HN0.out hm.since.size)
  clear HL HE0 HN0 hm
  go_wp2_with fail
  refine (newAt S _ HE.out HN.out hlb HR.out HM.out).mono ?_
  rintro e wa ⟨p, T, rfl, h⟩
  have H := Lib.hid h
  clear h
  go_wp2
  go_loopw [6, 7, 8] (fun sv hv kv wr => ∃ k : Nat, k ≤ xs.length ∧ sv = .int .i64 (sumTo (spN xs) k : Nat) ∧ hv = .int .i64 (sumTo (hiN xs) k : Nat) ∧ kv = .int .i64 k ∧ At E Is n w1.heap.size T w1 (.pointer (some p)) xs wr) (fun _ _ kv _ => xs.length - (intOf kv).toNat)
  case atStart => exact ⟨0, by omega, rfl, rfl, rfl, H.out⟩
  case round =>
    obtain ⟨k, hk, rfl, rfl, rfl, hA⟩ := hrel
    replace H := Lib.hid hA
    by_cases hlt : k < xs.length
    · obtain ⟨g, rfl, hg, hcell⟩ := HMD.out.cell k hlt
      have HC := Lib.hid hcell
      have HK := Lib.hid (⟨by omega, by omega⟩ : In64 (k : Int))
      have hs1 := sumTo_le (spN xs) 400 (sp_le xs HM.out 400 hl3) k
      have hs2 := sumTo_le (hiN xs) 400 (hi_le xs 400 hl3) k
      have HS1 : Hid (sumTo (spN xs) (k + 1) = sumTo (spN xs) k + spN xs k) := Lib.hid rfl
      have HS2 : Hid (sumTo (hiN xs) (k + 1) = sumTo (hiN xs) k + hiN xs k) := Lib.hid rfl
      generalize sumTo (spN xs) k = s1 at *
      generalize sumTo (hiN xs) k = s2 at *
      have hb1 : s1 ≤ 160000 := by omega
      have hb2 : s2 ≤ 160000 := by omega
      obtain ⟨x, hx⟩ : ∃ x, xs.getD k false = x := ⟨_, rfl⟩
      have HCW : Hid (∀ W, At E Is n w1.heap.size T w1 (.pointer (some p)) xs W → W.cell? ⟨g, k, none⟩ = some (.bool x)) := Lib.hid (fun W h => by rw [h.since.cell (p := ⟨g, k, none⟩) hg, ← hx]; exact hcell k hlt)
      have HDW : Hid (∀ W, At E Is n w1.heap.size T w1 (.pointer (some p)) xs W → At E Is n w1.heap.size T w1 (.pointer (some p)) xs W.drew) := Lib.hid (fun W h => h.other S (Below.refl _ _).drew)
      have HRT : Hid (∀ W, At E Is n w1.heap.size T w1 (.pointer (some p)) xs W → BoolsAt w1.heap.size W (.slice (some ⟨g, 0, none⟩) xs.length cap) xs) := Lib.hid (fun W h => HR.out.1.below h.since)
      have HO : Hid (openB xs (k : Int) = x) := Lib.hid (by
        cases x
        · exact (shut_nat hlt hx).1
        · exact (open_nat hlt hx).1)
      obtain ⟨r1, hr1⟩ : ∃ r, rankN xs (k + 1) true = r := ⟨_, rfl⟩
      obtain ⟨r2, hr2⟩ : ∃ r, rankN xs (k + 1) false = r := ⟨_, rfl⟩
      have HR1 : Hid (rankL xs ((k : Int) + 1) true = r1) := Lib.hid (by unfold rankL; rw [show ((k : Int) + 1).toNat = k + 1 by omega, hr1])
      have HR2 : Hid (rankL xs ((k : Int) + 1) false = r2) := Lib.hid (by unfold rankL; rw [show ((k : Int) + 1).toNat = k + 1 by omega, hr2])
      have hr1b : r1 ≤ 401 := by have := rankN_le xs (k + 1) true; omega
      have hr2b : r2 ≤ 401 := by have := rankN_le xs (k + 1) false; omega
      have HEX : Hid (excL xs (k : Int) = (r1 : Int) - (r2 : Int)) := Lib.hid (by rw [excL_nat k hlt, exc_rank xs (k + 1) (by omega), hr1, hr2])
      have hlen2 : xs.length ≤ 4294967296 := by omega
      have wk : IntKind.i64.wrap ((k : Int) + 1) = (k : Int) + 1 := by simp [IntKind.wrap, IntKind.bits, IntKind.signed]; omega
      have wr12 : IntKind.i64.wrap ((r1 : Int) - (r2 : Int)) = (r1 : Int) - (r2 : Int) := by simp [IntKind.wrap, IntKind.bits, IntKind.signed]; omega
      have ik0 : (0 : Int) ≤ (k : Int) := by omega
      have ik1 : (k : Int) < (xs.length : Int) := by omega
      have hc1 : wr.cell? ⟨g, k, none⟩ = some (.bool x) := HCW.out _ hA
      clear hcell hr1 hr2 hs1 hs2
      cases x
      · have HSP : Hid (spN xs k = 0) := Lib.hid (by unfold spN; exact if_neg (by rw [hx]; decide))
        have HHI : Hid (hiN xs k = 0) := Lib.hid (by unfold hiN; exact if_neg (by rw [hx]; decide))
        clear hx
        go_wp2_with fail
        go_region_held3 (fun W => At E Is n w1.heap.size T w1 (.pointer (some p)) xs W ∧ W.cell? ⟨g, k, none⟩ = some (.bool false))
          (first | exact ⟨HDW.out _ H.out, HCW.out _ (HDW.out _ H.out)⟩ | exact ⟨H.out, HCW.out _ H.out⟩ | exact ⟨by assumption, HCW.out _ (by assumption)⟩ | assumption)
          (first | ((go_at_call 22; refine (openAt S (k : Int) false HO.out HK.out (And.left ‹_ ∧ World.cell? _ _ = _›)).mono ?_; rintro e u ⟨rfl, hb'⟩)) | ((go_at_call 17; refine (excessAt S (k : Int) _ HEX.out HK.out (And.left ‹_ ∧ World.cell? _ _ = _›)).mono ?_; rintro e u ⟨rfl, hb'⟩)) | ((go_at_call 35; refine (refRank_any w1.heap.size (.slice (some ⟨g, 0, none⟩) xs.length cap) xs ((k : Int) + 1) _ _ hlen2 (HRT.out _ (And.left ‹_ ∧ World.cell? _ _ = _›))).mono ?_; (first | rw [HR1.out] | rw [HR2.out]); rintro e u ⟨rfl, rfl⟩)))
        all_goals (rename_i hh; replace H := Lib.hid hh.1; clear hh)
        all_goals go_wp2
        all_goals go_roundw
        all_goals first
          | (case rel => exact ⟨k + 1, by omega, by rw [HS1.out, HSP.out]; go_num, by rw [HS2.out, HHI.out]; go_num, by go_num, H.out⟩)
          | skip
        all_goals (simp [intOf]; omega)
      · obtain ⟨σ, hσ⟩ : ∃ σ, spN xs k = σ := ⟨_, rfl⟩
        obtain ⟨η, hη⟩ : ∃ η, hiN xs k = η := ⟨_, rfl⟩
        have HSP := Lib.hid hσ
        have HHI := Lib.hid hη
        have hσb : σ ≤ 400 := by rw [← hσ]; exact sp_le xs HM.out 400 hl3 k
        have hηb : η ≤ 400 := by rw [← hη]; exact hi_le xs 400 hl3 k
        have HSV : Hid (spanL xs (k : Int) = (σ : Int)) := Lib.hid (by
          obtain ⟨c, q1, _, q3, _⟩ := close_spec HM.out k hlt hx
          rw [← hσ]
          unfold spN
          rw [if_pos hx, spanL_nat k c hlt hx q3 q1, Int.toNat_natCast])
        have HEV : Hid (excL xs (k : Int) = (η : Int)) := Lib.hid (by
          have := may_ge HM.out (k + 1) (by omega)
          rw [excL_nat k hlt, ← hη]
          unfold hiN
          rw [if_pos hx]
          omega)
        clear hx hσ hη hA
        go_wp2_with fail
        refine (spanAt S (k : Int) (σ : Int) HSV.out HK.out H.out).mono ?_
        rintro e wz ⟨rfl, h⟩
        replace H := Lib.hid h
        clear h
        go_wp2_with fail
        refine (excessAt S (k : Int) (η : Int) HEV.out HK.out H.out).mono ?_
        rintro e wz ⟨rfl, h⟩
        replace H := Lib.hid h
        clear h
        go_wp2_with fail
        go_region_held3 (fun W => At E Is n w1.heap.size T w1 (.pointer (some p)) xs W ∧ W.cell? ⟨g, k, none⟩ = some (.bool true))
          (first | exact ⟨HDW.out _ H.out, HCW.out _ (HDW.out _ H.out)⟩ | exact ⟨H.out, HCW.out _ H.out⟩ | exact ⟨by assumption, HCW.out _ (by assumption)⟩ | assumption)
          (first | ((go_at_call 22; refine (openAt S (k : Int) true HO.out HK.out (And.left ‹_ ∧ World.cell? _ _ = _›)).mono ?_; rintro e u ⟨rfl, hb'⟩)) | ((go_at_call 17; refine (excessAt S (k : Int) _ HEX.out HK.out (And.left ‹_ ∧ World.cell? _ _ = _›)).mono ?_; rintro e u ⟨rfl, hb'⟩)) | ((go_at_call 35; refine (refRank_any w1.heap.size (.slice (some ⟨g, 0, none⟩) xs.length cap) xs ((k : Int) + 1) _ _ hlen2 (HRT.out _ (And.left ‹_ ∧ World.cell? _ _ = _›))).mono ?_; (first | rw [HR1.out] | rw [HR2.out]); rintro e u ⟨rfl, rfl⟩)))
        all_goals (rename_i hh; replace H := Lib.hid hh.1; clear hh)
        all_goals go_wp2
        all_goals go_roundw
        all_goals first
          | (case rel => exact ⟨k + 1, by omega, by rw [HS1.out, HSP.out]; go_num, by rw [HS2.out, HHI.out]; go_num, by go_num, H.out⟩)
          | skip
        all_goals (simp [intOf]; omega)
    · have hke : k = xs.length := by omega
      subst hke
      have hs2 := sumTo_le (hiN xs) 400 (hi_le xs 400 hl3) xs.length
      rw [spans_high HM.out]
      generalize sumTo (hiN xs) xs.length = t at *
      have htb : t ≤ 160000 := by omega
      clear hA hs2
      go_wp2
      go_loopw [9, 10, 11] (fun av nv iv wr => ∃ b m i : Nat, b ≤ xs.length ∧ exc xs b = 0 ∧ 2 * m = b ∧ 2 * i ≤ b ∧ av = .int .i64 b ∧ nv = .int .i64 m ∧ iv = .int .i64 i ∧ At E Is n w1.heap.size T w1 (.pointer (some p)) xs wr) (fun av _ _ _ => xs.length - (intOf av).toNat)
      case atStart => exact ⟨0, 0, 0, by omega, rfl, rfl, by omega, rfl, rfl, rfl, H.out⟩
      case round =>
        obtain ⟨b, m, i, hb, hb0, hm2, hi2, rfl, rfl, rfl, hA⟩ := hrel
        replace H := Lib.hid hA
        clear hA
        by_cases hblt : b < xs.length
        · obtain ⟨c, c1, c2, c3, c4, s, c5, c6⟩ := top_step HM.out b hblt hb0
          have HCL := Lib.hid c3
          have HSP := Lib.hid c5
          have HE0 := Lib.hid c4
          have HK := Lib.hid (⟨by omega, by omega⟩ : In64 (b : Int))
          have d1 : decide (b < xs.length) = true := decide_eq_true hblt
          have d2 : decide (i ≤ xs.length) = true := decide_eq_true (by omega)
          have d3 : decide (c < b) = false := decide_eq_false (by omega)
          have hsb : s ≤ 400 := by omega
          have hmb : m ≤ 400 := by omega
          clear c3 c4 c5 hb0
          go_wp2_with fail
          refine (closeAt S (b : Int) (c : Int) HCL.out HK.out H.out).mono ?_
          rintro e wz ⟨rfl, h⟩
          replace H := Lib.hid h
          clear h
          go_wp2_with fail
          refine (spanAt S (b : Int) (s : Int) HSP.out HK.out H.out).mono ?_
          rintro e wz ⟨rfl, h⟩
          replace H := Lib.hid h
          clear h
          go_wp2
          go_roundw
          case rel => exact ⟨c + 1, m + s, i + 1, by omega, HE0.out, by omega, by omega, by go_num, by go_num, by go_num, H.out⟩
          case measure => simp [intOf]; omega
        · have d1 : decide (b < xs.length) = false := decide_eq_false hblt
          have d2 : decide ((b : Int) < (xs.length : Int)) = false := decide_eq_false (by omega)
          have q1 : (2 * (m : Int) == (xs.length : Int)) = true := beq_iff_eq.2 (by omega)
          have q2 : (2 * m == xs.length) = true := beq_iff_eq.2 (by omega)
          clear hb0
          go_wp2_with fail
          refine (told5_any S n _ (H.out.e S) (Nat.le_trans H.out.nb H.out.size)).mono ?_
          rintro e wz ⟨rfl, hb'⟩
          replace H := Lib.hid (H.out.other S hb')
          clear hb'
          go_wp2
          go_ret
          exact ⟨rfl, H.out.low HB.out (Nat.le_refl _)⟩
end Go.Proofs.Yteecanaibkpmfaa
