/-
  LAYER 5: brackenlaw5.ParenPairs, out of ParSaid: true for any row. (Written by gen_ppairs.py.)
-/
import Derived.Test.YteecanaibkpmfaaParArg
import Derived.Test.YteecanaibkpmfaaParPairLaws
namespace Go.Proofs.Yteecanaibkpmfaa
open Go.RowKit

theorem Made.room {most : Nat} {w w' : World} {a : Option Addr} {m cap : Nat} {xs : List Bool} (h : Made most w (.slice a m cap) xs w') : xs.length ≤ cap := by
  obtain ⟨a', cap', e, hc⟩ := h.row.2
  injection e with e1 e2 e3
  omega
theorem row_sub {w : World} {g cap s m : Nat} {xs : List Bool} (hg : g < w.heap.size) (hc : ∀ i, i < xs.length → w.cell? ⟨g, i, none⟩ = some (.bool (xs.getD i false))) (h : s + m ≤ xs.length) (hcap : xs.length ≤ cap) :
    RowOK w (.slice (some ⟨g, s, none⟩) m (cap - s)) (subL xs s m) := by
  have hl := subL_len xs s m h
  refine ⟨Or.inr ⟨g, s, cap - s, by rw [hl], hg, fun i hi => ?_⟩, _, cap - s, by rw [hl], by omega⟩
  rw [hl] at hi
  rw [hc (s + i) (by omega), subL_get xs s m i hi]

set_option maxHeartbeats 20000000 in
set_option maxRecDepth 100000 in
theorem ppairs_any {E : Nat → World → Prop} {Is : Nat → Nat → World → Value → List Bool → Prop} (S : ParSaid E Is) (n : Nat) (l : Value) (w : World) (hE : E n w) (hn : n ≤ w.heap.size) (hl : IntsArg w l) :
    Calls Try.prog 6 #[l] w fun e w' => e = .returned (.bool true) ∧ Below w.heap.size w w' := by
  have HE0 := Lib.hid hE
  have HN0 := Lib.hid hn
  have HL := Lib.hid hl
  clear hE hn hl
  go_enter Try.func6, Try.ntmps6
  go_wp2_with fail
  refine (parRow_any l 300 w HL.out (by decide)).mono ?_
  rintro e w1 ⟨a, cap, xs, rfl, hm⟩
  have hlb : xs.length ≤ 4194304 := by have := hm.few; omega
  have hl3 : xs.length ≤ 600 := hm.few
  have hcap := hm.room
  have HB := Lib.hid hm.since
  have HM := Lib.hid hm.may
  have HR := Lib.hid hm.row
  have HMD := Lib.hid hm
  have HE := Lib.hid (S.stay n w w1 HE0.out (hm.since.mono HN0.out))
  have HN := Lib.hid (Nat.le_trans HN0.out hm.since.size)
  clear HL HE0 HN0 hm
  go_wp2_with fail
  refine (newAt S _ HE.out HN.out hlb HR.out HM.out).mono ?_
  rintro e wa ⟨p, T, rfl, h⟩
  have H := Lib.hid h
  clear h
  go_wp2
  go_loopw [6] (fun kv wr => ∃ k : Nat, k ≤ 2000 ∧ kv = .int .i64 k ∧ At E Is n w1.heap.size T w1 (.pointer (some p)) xs wr) (fun kv _ => xs.length - (intOf kv).toNat)
  case atStart => exact ⟨0, by omega, rfl, H.out⟩
  case round =>
    obtain ⟨k, hk, rfl, hA⟩ := hrel
    replace H := Lib.hid hA
    by_cases hlt : k < xs.length
    · obtain ⟨g, rfl, hg, hcell⟩ := HMD.out.cell k hlt
      have HC := Lib.hid hcell
      have HK := Lib.hid (⟨by omega, by omega⟩ : In64 (k : Int))
      obtain ⟨x, hx⟩ : ∃ x, xs.getD k false = x := ⟨_, rfl⟩
      have hc1 : wr.cell? ⟨g, k, none⟩ = some (.bool x) := by rw [hA.since.cell (p := ⟨g, k, none⟩) hg, ← hx]; exact hcell k hlt
      clear hA hcell
      cases x
      · obtain ⟨b, hb1, hb2, _, _, _⟩ := begin_spec HM.out k hlt hx
        have HBE := Lib.hid hb2
        have HCB := Lib.hid (close_begin HM.out k b hlt hx hb2)
        have HKb := Lib.hid (⟨by omega, by omega⟩ : In64 (b : Int))
        have b1 : decide (k ≤ b) = false := decide_eq_false (by omega)
        clear hb2 hx
        go_wp2_with fail
        refine (beginAt S (k : Int) (b : Int) HBE.out HK.out H.out).mono ?_
        rintro e wz ⟨rfl, h⟩
        replace H := Lib.hid h
        clear h
        go_wp2_with fail
        refine (closeAt S (b : Int) (k : Int) HCB.out HKb.out H.out).mono ?_
        rintro e wz ⟨rfl, h⟩
        replace H := Lib.hid h
        clear h
        go_wp2
        go_roundw
        case rel => exact ⟨k + 1 + xs.length / 60, by omega, by go_num, H.out⟩
        case measure => simp [intOf]; omega
      · obtain ⟨c, hc1', hc2', hc3, _, _, _⟩ := close_spec HM.out k hlt hx
        obtain ⟨_, _, hbm⟩ := between_may HM.out k c hlt hx hc3
        have HCL := Lib.hid hc3
        have HBM := Lib.hid hbm
        have HBE := Lib.hid (begin_close HM.out k c hlt hx hc3)
        have HSP := Lib.hid (spanL_int k c hlt hx hc3 hc1')
        have HKc := Lib.hid (⟨by omega, by omega⟩ : In64 (c : Int))
        obtain ⟨nu, hnu⟩ : ∃ nu, rankN xs k true = nu := ⟨_, rfl⟩
        have HNU : Hid (numberL xs (k : Int) = (nu : Int)) := Lib.hid (by rw [numberL_nat k hlt hx, hnu])
        have HPL : Hid (selL xs (nu : Int) true = (k : Int)) := Lib.hid (by rw [← hnu]; exact select_rank xs k true hlt hx)
        have hnub : nu ≤ k := by rw [← hnu]; exact rankN_le xs k true
        have HKn := Lib.hid (⟨by omega, by omega⟩ : In64 (nu : Int))
        have HEX := Lib.hid (excL_open k hlt hx)
        have HX := Lib.hid hx
        obtain ⟨d, hd⟩ : ∃ d : Nat, exc xs k = (d : Int) := ⟨(exc xs k).toNat, by have := may_ge HM.out k (by omega); omega⟩
        have hdk : d ≤ k := by have := exc_le_len xs k; omega
        rw [hd] at HEX
        have HD := Lib.hid hd
        clear hc3 hbm hnu hx hd
        by_cases h0 : d = 0
        · subst h0
          have HEN : Hid (encloseL xs (k : Int) = -1) := Lib.hid (enclose_none HM.out k hlt HX.out HD.out)
          replace HEX : Hid (excL xs (k : Int) = 1) := Lib.hid HEX.out
          have hcc : c < xs.length := hc2'
          go_wp2_with fail
          refine (closeAt S (k : Int) (c : Int) HCL.out HK.out H.out).mono ?_
          rintro e wz ⟨rfl, h⟩
          replace H := Lib.hid h
          clear h
          go_wp2_with fail
          refine (encloseAt S (k : Int) (-1) HEN.out HK.out H.out).mono ?_
          rintro e wz ⟨rfl, h⟩
          replace H := Lib.hid h
          clear h
          go_wp2_with fail
          refine (beginAt S (c : Int) (k : Int) HBE.out HKc.out H.out).mono ?_
          rintro e wz ⟨rfl, h⟩
          replace H := Lib.hid h
          clear h
          go_wp2_with fail
          have hrow := row_sub (s := k + 1) (m := c - (k + 1)) (xs := xs) (Nat.lt_of_lt_of_le hg H.out.size) (fun i hi => (H.out.since.cell (p := ⟨g, i, none⟩) hg).trans (HC.out i hi)) (by omega) hcap
          refine (S.may n _ (subL xs (k + 1) (c - (k + 1))) _ (H.out.e S) (Nat.le_trans H.out.nb H.out.size) (by rw [subL_len xs (k + 1) (c - (k + 1)) (by omega)]; omega) hrow).mono ?_
          rw [HBM.out]
          rintro e wz ⟨rfl, hb'⟩
          replace H := Lib.hid (H.out.other S hb')
          clear hb' hrow
          go_wp2_with fail
          refine (spanAt S (k : Int) (((c : Int) - (k : Int) + 1) / 2) HSP.out HK.out H.out).mono ?_
          rintro e wz ⟨rfl, h⟩
          replace H := Lib.hid h
          clear h
          go_wp2_with fail
          refine (numberAt S (k : Int) (nu : Int) HNU.out HK.out H.out).mono ?_
          rintro e wz ⟨rfl, h⟩
          replace H := Lib.hid h
          clear h
          go_wp2_with fail
          refine (placeAt S (nu : Int) (k : Int) HPL.out HKn.out H.out).mono ?_
          rintro e wz ⟨rfl, h⟩
          replace H := Lib.hid h
          clear h
          go_wp2_with fail
          refine (excessAt S (k : Int) 1 HEX.out HK.out H.out).mono ?_
          rintro e wz ⟨rfl, h⟩
          replace H := Lib.hid h
          clear h
          go_wp2
          go_roundw
          case rel => exact ⟨k + 1 + xs.length / 60, by omega, by go_num, H.out⟩
          case measure => simp [intOf]; omega
        · have hne : exc xs k ≠ 0 := by rw [HD.out]; omega
          obtain ⟨b, hb1, hb2, _, _, _⟩ := enclose_spec HM.out k hlt HX.out hne
          obtain ⟨_, hbo, hbe, c2, hc2, hcc2⟩ := around HM.out k c b hlt HX.out HCL.out hb2
          have HEN := Lib.hid hb2
          have HC2 := Lib.hid hc2
          have hc2l : c2 < xs.length := by
            rcases close_range xs b (by omega) with h | h
            · omega
            · omega
          have HEB : Hid (excL xs (b : Int) = (d : Int)) := Lib.hid (by rw [excL_open b (by omega) hbo, hbe, HD.out]; omega)
          have HKb := Lib.hid (⟨by omega, by omega⟩ : In64 (b : Int))
          have HU1 : Hid (upL xs (k : Int) 1 = (b : Int)) := Lib.hid (by
            rw [show (1 : Int) = ((1 : Nat) : Int) from rfl, upL_nat _ 1 (open_nat hlt HX.out).1, upGo_step xs 0 (k : Int) (by omega), hb2]
            rfl)
          have hcc : c < xs.length := hc2'
          have e1 : decide (1 < (d : Int) + 1) = true := decide_eq_true (by omega)
          have e2 : decide (k ≤ b) = false := decide_eq_false (by omega)
          have e3 : decide (c2 ≤ c) = false := decide_eq_false (by omega)
          clear hne hb2 hc2 hbe hbo
          go_wp2_with fail
          refine (closeAt S (k : Int) (c : Int) HCL.out HK.out H.out).mono ?_
          rintro e wz ⟨rfl, h⟩
          replace H := Lib.hid h
          clear h
          go_wp2_with fail
          refine (encloseAt S (k : Int) (b : Int) HEN.out HK.out H.out).mono ?_
          rintro e wz ⟨rfl, h⟩
          replace H := Lib.hid h
          clear h
          go_wp2_with fail
          refine (beginAt S (c : Int) (k : Int) HBE.out HKc.out H.out).mono ?_
          rintro e wz ⟨rfl, h⟩
          replace H := Lib.hid h
          clear h
          go_wp2_with fail
          have hrow := row_sub (s := k + 1) (m := c - (k + 1)) (xs := xs) (Nat.lt_of_lt_of_le hg H.out.size) (fun i hi => (H.out.since.cell (p := ⟨g, i, none⟩) hg).trans (HC.out i hi)) (by omega) hcap
          refine (S.may n _ (subL xs (k + 1) (c - (k + 1))) _ (H.out.e S) (Nat.le_trans H.out.nb H.out.size) (by rw [subL_len xs (k + 1) (c - (k + 1)) (by omega)]; omega) hrow).mono ?_
          rw [HBM.out]
          rintro e wz ⟨rfl, hb'⟩
          replace H := Lib.hid (H.out.other S hb')
          clear hb' hrow
          go_wp2_with fail
          refine (spanAt S (k : Int) (((c : Int) - (k : Int) + 1) / 2) HSP.out HK.out H.out).mono ?_
          rintro e wz ⟨rfl, h⟩
          replace H := Lib.hid h
          clear h
          go_wp2_with fail
          refine (numberAt S (k : Int) (nu : Int) HNU.out HK.out H.out).mono ?_
          rintro e wz ⟨rfl, h⟩
          replace H := Lib.hid h
          clear h
          go_wp2_with fail
          refine (placeAt S (nu : Int) (k : Int) HPL.out HKn.out H.out).mono ?_
          rintro e wz ⟨rfl, h⟩
          replace H := Lib.hid h
          clear h
          go_wp2_with fail
          refine (excessAt S (k : Int) ((d : Int) + 1) HEX.out HK.out H.out).mono ?_
          rintro e wz ⟨rfl, h⟩
          replace H := Lib.hid h
          clear h
          go_wp2_with fail
          refine (closeAt S (b : Int) (c2 : Int) HC2.out HKb.out H.out).mono ?_
          rintro e wz ⟨rfl, h⟩
          replace H := Lib.hid h
          clear h
          go_wp2_with fail
          refine (excessAt S (b : Int) (d : Int) HEB.out HKb.out H.out).mono ?_
          rintro e wz ⟨rfl, h⟩
          replace H := Lib.hid h
          clear h
          go_wp2_with fail
          refine (excessAt S (k : Int) ((d : Int) + 1) HEX.out HK.out H.out).mono ?_
          rintro e wz ⟨rfl, h⟩
          replace H := Lib.hid h
          clear h
          go_wp2_with fail
          refine (upAt S (k : Int) 1 (b : Int) HU1.out HK.out (in64_small _) H.out).mono ?_
          rintro e wz ⟨rfl, h⟩
          replace H := Lib.hid h
          clear h
          go_wp2
          go_roundw
          case rel => exact ⟨k + 1 + xs.length / 60, by omega, by go_num, H.out⟩
          case measure => simp [intOf]; omega
    · have k1 : decide (k < xs.length) = false := decide_eq_false hlt
      have k2 : decide ((k : Int) < (xs.length : Int)) = false := decide_eq_false (by omega)
      clear hA
      go_wp2_with fail
      refine (told5_any S n _ (H.out.e S) (Nat.le_trans H.out.nb H.out.size)).mono ?_
      rintro e wz ⟨rfl, hb'⟩
      replace H := Lib.hid (H.out.other S hb')
      clear hb'
      go_wp2
      go_ret
      exact ⟨rfl, H.out.low HB.out (Nat.le_refl _)⟩
end Go.Proofs.Yteecanaibkpmfaa
