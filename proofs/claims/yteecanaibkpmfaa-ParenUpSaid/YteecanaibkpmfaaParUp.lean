/-
  LAYER 5: brackenlaw5.ParenUp, out of ParSaid: true for any row, any place. (Written by gen_pup.py.)
-/
import Derived.Test.YteecanaibkpmfaaParArg
import Derived.Test.YteecanaibkpmfaaParUpLaws
namespace Go.Proofs.Yteecanaibkpmfaa
open Go.RowKit

set_option maxHeartbeats 20000000 in
set_option maxRecDepth 100000 in
theorem pup_any {E : Nat → World → Prop} {Is : Nat → Nat → World → Value → List Bool → Prop} (S : ParSaid E Is) (n : Nat) (l : Value) (k0 : Int) (w : World) (hE : E n w) (hn : n ≤ w.heap.size) (hl : IntsArg w l) :
    Calls Try.prog 9 #[l, .int .i64 k0] w fun e w' => e = .returned (.bool true) ∧ Below w.heap.size w w' := by
  have HE0 := Lib.hid hE
  have HN0 := Lib.hid hn
  have HL := Lib.hid hl
  clear hE hn hl
  go_enter Try.func9, Try.ntmps9
  go_wp2_with fail
  refine (parRow_any l 400 w HL.out (by decide)).mono ?_
  rintro e w1 ⟨a, cap, xs, rfl, hm⟩
  have hlb : xs.length ≤ 4194304 := by have := hm.few; omega
  have hl3 : xs.length ≤ 800 := hm.few
  have HB := Lib.hid hm.since
  have HM := Lib.hid hm.may
  have HR := Lib.hid hm.row
  have HE := Lib.hid (S.stay n w w1 HE0.out (hm.since.mono HN0.out))
  have HN := Lib.hid (Nat.le_trans HN0.out hm.since.size)
  clear HL HE0 HN0 hm
  go_wp2_with fail
  refine (newAt S _ HE.out HN.out hlb HR.out HM.out).mono ?_
  rintro e wa ⟨p, T, rfl, h⟩
  have H := Lib.hid h
  clear h
  by_cases h0 : xs.length = 0
  · have z1 : ((xs.length : Int) == 0) = true := beq_iff_eq.2 (by omega)
    have z2 : (xs.length == 0) = true := beq_iff_eq.2 h0
    have HZ := Lib.hid h0
    generalize hlen : xs.length = len at *
    clear h0
    obtain rfl : len = 0 := HZ.out
    clear z1 z2 HZ
    go_wp2_with fail
    refine (told5_any S n _ (H.out.e S) (Nat.le_trans H.out.nb H.out.size)).mono ?_
    rintro e wz ⟨rfl, hb'⟩
    replace H := Lib.hid (H.out.other S hb')
    clear hb'
    go_wp2
    go_ret
    exact ⟨rfl, H.out.low HB.out (Nat.le_refl _)⟩
  · have z1 : ((xs.length : Int) == 0) = false := beq_eq_false_iff_ne.2 (by omega)
    have z2 : (xs.length == 0) = false := beq_eq_false_iff_ne.2 h0
    have hhalf := opens_half HM.out
    obtain ⟨hf, hhf⟩ : ∃ hf, rankN xs xs.length true = hf := ⟨_, rfl⟩
    rw [hhf] at hhalf
    obtain ⟨u, x, hu1, hu2, hu3, hx, hx1, hx2⟩ := wrap_mod2 k0 hf (by omega) (by omega)
    obtain ⟨at', ha1, ha2, _, ha4⟩ := sel_found xs x true (by rw [hhf]; exact hx)
    have HPL := Lib.hid ha4
    have HO := Lib.hid (open_nat ha1 ha2).1
    have HX := Lib.hid (⟨by clear hu2 hu3 hu1 hx1 hx2; omega, by clear hu2 hu3 hu1 hx1 hx2; omega⟩ : In64 (x : Int))
    have HA := Lib.hid (⟨by clear hu2 hu3 hu1 hx1 hx2; omega, by clear hu2 hu3 hu1 hx1 hx2; omega⟩ : In64 (at' : Int))
    have hge := may_ge HM.out at' (by clear hu2 hu3 hu1 hx1 hx2; omega)
    have hle := exc_le_len xs at'
    obtain ⟨d, hd⟩ : ∃ d : Nat, exc xs at' = (d : Int) := ⟨(exc xs at').toNat, by omega⟩
    have HUP := Lib.hid fun m => up_spec HM.out m at' ha1 ha2
    rw [hd] at HUP
    have HEX : Hid (excL xs (at' : Int) = (d : Int) + 1) := Lib.hid (by
      rw [excL_nat at' ha1]
      rcases exc_one xs at' ha1 with h | h
      · rw [h.1, hd]
      · rw [ha2] at h; exact absurd h.2 (by decide))
    have hdl : d ≤ xs.length := by clear hu2 hu3 hu1 hx1 hx2; omega
    have e1 : (xs.length : Int) / 2 = (hf : Int) := by clear hu2 hu3 hu1 hx1 hx2; omega
    clear hd hge hle hhf ha4
    go_wp2_with fail
    refine (placeAt S (x : Int) (at' : Int) HPL.out HX.out H.out).mono ?_
    rintro e wb ⟨rfl, h⟩
    replace H := Lib.hid h
    clear h e1 hu1 hu2 hu3 hx1 hx2
    go_wp2
    go_loopw [9, 10] (fun xv iv wr => ∃ i : Nat, i ≤ d + 1 ∧ iv = .int .i64 i ∧ xv = .int .i64 (upGo xs i (at' : Int)) ∧ At E Is n w1.heap.size T w1 (.pointer (some p)) xs wr) (fun _ iv _ => d + 1 - (intOf iv).toNat)
    case atStart => exact ⟨0, by omega, rfl, rfl, H.out⟩
    case round =>
      obtain ⟨i, hi, rfl, rfl, hA⟩ := hrel
      replace H := Lib.hid hA
      clear hA
      rcases HUP.out i with ⟨hid, b, hb1, hb2, hb3, hb4⟩ | ⟨hid, hb3⟩
      · have i1 : decide (i ≤ xs.length) = true := decide_eq_true (by omega)
        have i2 : decide ((i : Int) ≤ (xs.length : Int)) = true := decide_eq_true (by omega)
        have HI := Lib.hid (⟨by omega, by omega⟩ : In64 (i : Int))
        have HBk := Lib.hid (⟨by omega, by omega⟩ : In64 (b : Int))
        have HU : Hid (upL xs (at' : Int) (i : Int) = (b : Int)) := Lib.hid ((upL_nat _ i HO.out).trans hb3)
        have HEB : Hid (excL xs (b : Int) = (d : Int) + 1 - (i : Int)) := Lib.hid (by
          rw [excL_nat b hb1]
          rcases exc_one xs b hb1 with h | h
          · rw [h.1, hb4]; omega
          · rw [hb2] at h; exact absurd h.2 (by decide))
        have HEN : Hid (encloseL xs (b : Int) = upGo xs (i + 1) (at' : Int)) := Lib.hid (by rw [upGo_succ xs i (at' : Int) (by rw [hb3]; omega), hb3])
        rw [hb3]
        obtain ⟨nx, hnx⟩ : ∃ nx, upGo xs (i + 1) (at' : Int) = nx := ⟨_, rfl⟩
        have HNX := Lib.hid hnx
        rw [hnx] at HEN
        clear hb3 hb4 hnx
        go_wp2_with fail
        refine (upAt S (at' : Int) (i : Int) (b : Int) HU.out HA.out HI.out H.out).mono ?_
        rintro e wz ⟨rfl, h⟩
        replace H := Lib.hid h
        clear h
        go_wp2_with fail
        refine (excessAt S (b : Int) ((d : Int) + 1 - (i : Int)) HEB.out HBk.out H.out).mono ?_
        rintro e wz ⟨rfl, h⟩
        replace H := Lib.hid h
        clear h
        go_wp2_with fail
        refine (excessAt S (at' : Int) ((d : Int) + 1) HEX.out HA.out H.out).mono ?_
        rintro e wz ⟨rfl, h⟩
        replace H := Lib.hid h
        clear h
        go_wp2_with fail
        refine (psteps_any S H.out).mono ?_
        rintro e wz ⟨rfl, h⟩
        replace H := Lib.hid h
        clear h
        go_wp2_with fail
        refine (encloseAt S (b : Int) nx HEN.out HBk.out H.out).mono ?_
        rintro e wz ⟨rfl, h⟩
        replace H := Lib.hid h
        clear h
        go_wp2
        go_roundw
        case rel => exact ⟨i + 1, by omega, by go_num, by rw [HNX.out], H.out⟩
        case measure => simp [intOf]; omega
      · have HUE : Hid (upL xs (at' : Int) ((d : Int) + 1) = -1) := Lib.hid (by
          rw [show (d : Int) + 1 = ((d + 1 : Nat) : Int) by omega, upL_nat _ _ HO.out]
          rcases HUP.out (d + 1) with ⟨h, _⟩ | ⟨_, h⟩
          · omega
          · exact h)
        have HUM : Hid (upL xs (at' : Int) (-1) = -1) := Lib.hid (upL_neg _ _ (by decide))
        have HD := Lib.hid (⟨by omega, by omega⟩ : In64 ((d : Int) + 1))
        rw [hb3]
        clear hb3
        go_wp2_with fail
        refine (told5_any S n _ (H.out.e S) (Nat.le_trans H.out.nb H.out.size)).mono ?_
        rintro e wz ⟨rfl, hb'⟩
        replace H := Lib.hid (H.out.other S hb')
        clear hb'
        go_wp2_with fail
        refine (excessAt S (at' : Int) ((d : Int) + 1) HEX.out HA.out H.out).mono ?_
        rintro e wz ⟨rfl, h⟩
        replace H := Lib.hid h
        clear h
        go_wp2_with fail
        refine (upAt S (at' : Int) ((d : Int) + 1) (-1) HUE.out HA.out HD.out H.out).mono ?_
        rintro e wz ⟨rfl, h⟩
        replace H := Lib.hid h
        clear h
        go_wp2_with fail
        refine (upAt S (at' : Int) (-1) (-1) HUM.out HA.out (in64_small _) H.out).mono ?_
        rintro e wz ⟨rfl, h⟩
        replace H := Lib.hid h
        clear h
        go_wp2
        go_ret
        exact ⟨rfl, H.out.low HB.out (Nat.le_refl _)⟩
end Go.Proofs.Yteecanaibkpmfaa
