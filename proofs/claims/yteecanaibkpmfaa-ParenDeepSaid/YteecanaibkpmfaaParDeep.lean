/-
  LAYER 5: brackenlaw5.ParenDeep, out of ParSaid: true for any depth, any two levels. (Written by gen_pdeep.py.)
-/
import Derived.Test.YteecanaibkpmfaaParRaw
import Derived.Test.YteecanaibkpmfaaParDeepLaws
import Derived.Deep.QuietTactic
import Derived.BigQuiet
namespace Go.Proofs.Yteecanaibkpmfaa
open Go.RowKit

theorem drewN_same (w : World) (n : Nat) : Below w.heap.size w (w.drewN n) := ⟨rfl, rfl, rfl, Nat.le_refl _, fun _ _ => rfl⟩

set_option maxHeartbeats 20000000 in
set_option maxRecDepth 100000 in
theorem pdeep_any {E : Nat → World → Prop} {Is : Nat → Nat → World → Value → List Bool → Prop} (S : ParSaid E Is) (n : Nat) (n0 k0 j0 : Int) (w : World) (hE : E n w) (hn : n ≤ w.heap.size) :
    Calls Try.prog 7 #[.int .i64 n0, .int .i64 k0, .int .i64 j0] w fun e w' => e = .returned (.bool true) ∧ Below w.heap.size w w' := by
  obtain ⟨i0, hi, hz0, hz1, hz2⟩ := info_parts info_bool
  have HE0 := Lib.hid hE
  have HN0 := Lib.hid hn
  clear hE hn
  obtain ⟨u, a', hu1, hu2, ha, ha1, ha2⟩ := wrap_mod n0 1000 (by decide) (by decide)
  replace hu2 : Int.tmod (u : Int) 1000 = (a' : Int) := hu2
  go_enter Try.func7, Try.ntmps7
  go_wp2
  clear hu1 hu2 ha1 ha2
  obtain ⟨a, haa⟩ : ∃ a, a = 1 + a' := ⟨_, rfl⟩
  have hA : (1 : Int) + (a' : Int) = (a : Int) := by omega
  rw [hA]
  have hab : a ≤ 1000 := by omega
  have ha0 : 1 ≤ a := by omega
  clear hA haa ha
  go_loopw [8, 9] (fun v i wr => ∃ k : Nat, k ≤ 2 * a ∧ i = .int .i64 k ∧ OwnS wr w.heap.size v ((deepL a).take k) ∧ Below w.heap.size w wr) (fun _ i _ => 2 * a - (intOf i).toNat)
  case atStart => exact ⟨0, Nat.zero_le _, rfl, World.ownsRow_nil _ _ _ _, Below.refl _ _⟩
  case round =>
    obtain ⟨k, hk, rfl, hown, hbel⟩ := hrel
    by_cases hlt : k < 2 * a
    · have g1 : decide ((k : Int) < 2 * (a : Int)) = true := decide_eq_true (by omega)
      obtain ⟨b, hb⟩ : ∃ b, decide (k < a) = b := ⟨_, rfl⟩
      have hb2 : decide ((k : Int) < (a : Int)) = b := by rw [← hb]; exact decide_eq_decide.2 (by omega)
      have HT := Lib.hid (take_next (deepL a) k b (by rw [deepL_len]; exact hlt) (by rw [deepL_get]; exact hb))
      have hlen : ((deepL a).take k).length = k := by rw [List.length_take, deepL_len]; omega
      have hblk := ownS_block hown
      have hsz := hbel.size
      have hown0 : wr.ownsRow w.heap.size 4 1 u8 k (((deepL a).take k).map Value.bool) := by have := hown; unfold OwnS at this; rw [hlen] at this; exact this
      have HOW := Lib.hid hown
      clear hown
      rcases ownS_shape HOW.out with ⟨rfl, hnil⟩ | ⟨gg, cap', rfl⟩
      all_goals
        go_wp2_with (at_builtin; refine wpList_append_own _ rfl _ _ 23 rfl w.heap.size 4 i0 (.bool false) 1 1 Try.underlying23 hi hz0 hz1 hz2 rfl (by decide) _ _ _ rfl (hown0.alloc _) ⟨wr.heap.size, 0, none⟩ 1 1 [.bool b] rfl rfl (cell_one_new _ _ _) (by intro u hu; simp at hu; subst hu; rfl) (by unfold maxLen; omega) (by omega) (by first | omega | (simp; done) | (simp; omega)) ?_; intro v' w2 hown3 hgrow3 _)
        go_roundw
        case rel => exact ⟨k + 1, by omega, by go_num, by rw [HT.out]; exact ownS_next b (by rw [hlen]; exact hown3), (hbel.alloc hbel.size _).grown hgrow3 (by first | (simp; done) | (simp; omega)) hblk⟩
        case measure => simp [intOf]; omega
    · have hke : k = 2 * a := by omega
      have g1 : decide ((k : Int) < 2 * (a : Int)) = false := decide_eq_false (by omega)
      have hown2 : OwnS wr w.heap.size u8 (deepL a) := by
        have := hown
        rw [List.take_of_length_le (by rw [deepL_len]; omega)] at this
        exact this
      have HR := Lib.hid (rowOK_of hown2)
      have hlen := deepL_len a
      have hlb : (deepL a).length ≤ 4194304 := by omega
      have HM := Lib.hid (deep_may a)
      have HB := Lib.hid hbel
      have HE := Lib.hid (S.stay n w wr HE0.out (hbel.mono HN0.out))
      have HN := Lib.hid (Nat.le_trans HN0.out hbel.size)
      clear hown hown2 hbel hlen
      go_wp2_with fail
      refine (newAt S _ HE.out HN.out hlb HR.out HM.out).mono ?_
      rintro e wa ⟨p, T, rfl, h⟩
      have H := Lib.hid h
      clear h
      obtain ⟨u1, x0, k1, k2, k3, hx0, k4, k5⟩ := wrap_mod2 k0 a (by omega) (by omega)
      obtain ⟨u2, y0, j1, j2, j3, hy0, j4, j5⟩ := wrap_mod2 j0 a (by omega) (by omega)
      have az : ((a : Int) == 0) = false := beq_eq_false_iff_ne.2 (by omega)
      go_wp2
      go_quiet (fail)
      clear k1 k2 k3 k4 k5 j1 j2 j3 j4 j5
      replace H := Lib.hid (H.out.other S (drewN_same wa nq))
      generalize wa.drewN nq = wq at *
      by_cases hsw : x0 < y0
      · have s1 : decide (x0 < y0) = true := decide_eq_true hsw
        have HCL := Lib.hid (deep_close a y0 hy0)
        have HUP := Lib.hid (deep_up a y0 x0 hy0 (by omega))
        have HFA := Lib.hid (deep_far a y0 hy0)
        have HEX := Lib.hid (deep_excess a y0 hy0)
        have HSP := Lib.hid (deep_span a y0 hy0)
        have HK := Lib.hid (⟨by omega, by omega⟩ : In64 (y0 : Int))
        have HK2 := Lib.hid (⟨by omega, by omega⟩ : In64 ((y0 : Int) - (x0 : Int)))
        have HK3 := Lib.hid (⟨by omega, by omega⟩ : In64 ((y0 : Int) + 1))
        have ec : ((2 * a - 1 - y0 : Nat) : Int) = 2 * (a : Int) - 1 - (y0 : Int) := by omega
        rw [ec] at HCL
        clear ec
        go_wp2_with fail
        refine (told5_any S n _ (H.out.e S) (Nat.le_trans H.out.nb H.out.size)).mono ?_
        rintro e wz ⟨rfl, hb'⟩
        replace H := Lib.hid (H.out.other S hb')
        clear hb'
        go_wp2_with fail
        refine (closeAt S (y0 : Int) (2 * (a : Int) - 1 - (y0 : Int)) HCL.out HK.out H.out).mono ?_
        rintro e wz ⟨rfl, h⟩
        replace H := Lib.hid h
        clear h
        go_wp2_with fail
        refine (psteps_any S H.out).mono ?_
        rintro e wz ⟨rfl, h⟩
        replace H := Lib.hid h
        clear h
        go_wp2_with fail
        refine (upAt S (y0 : Int) ((y0 : Int) - (x0 : Int)) (x0 : Int) HUP.out HK.out HK2.out H.out).mono ?_
        rintro e wz ⟨rfl, h⟩
        replace H := Lib.hid h
        clear h
        go_wp2_with fail
        refine (psteps_any S H.out).mono ?_
        rintro e wz ⟨rfl, h⟩
        replace H := Lib.hid h
        clear h
        go_wp2_with fail
        refine (upAt S (y0 : Int) ((y0 : Int) + 1) (-1) HFA.out HK.out HK3.out H.out).mono ?_
        rintro e wz ⟨rfl, h⟩
        replace H := Lib.hid h
        clear h
        go_wp2_with fail
        refine (excessAt S (y0 : Int) ((y0 : Int) + 1) HEX.out HK.out H.out).mono ?_
        rintro e wz ⟨rfl, h⟩
        replace H := Lib.hid h
        clear h
        go_wp2_with fail
        refine (spanAt S (y0 : Int) ((a : Int) - (y0 : Int)) HSP.out HK.out H.out).mono ?_
        rintro e wz ⟨rfl, h⟩
        replace H := Lib.hid h
        clear h
        go_wp2
        go_ret
        exact ⟨rfl, H.out.low HB.out (Nat.le_refl _)⟩
      · have s1 : decide (x0 < y0) = false := decide_eq_false hsw
        have HCL := Lib.hid (deep_close a x0 hx0)
        have HUP := Lib.hid (deep_up a x0 y0 hx0 (by omega))
        have HFA := Lib.hid (deep_far a x0 hx0)
        have HEX := Lib.hid (deep_excess a x0 hx0)
        have HSP := Lib.hid (deep_span a x0 hx0)
        have HK := Lib.hid (⟨by omega, by omega⟩ : In64 (x0 : Int))
        have HK2 := Lib.hid (⟨by omega, by omega⟩ : In64 ((x0 : Int) - (y0 : Int)))
        have HK3 := Lib.hid (⟨by omega, by omega⟩ : In64 ((x0 : Int) + 1))
        have ec : ((2 * a - 1 - x0 : Nat) : Int) = 2 * (a : Int) - 1 - (x0 : Int) := by omega
        rw [ec] at HCL
        clear ec
        go_wp2_with fail
        refine (told5_any S n _ (H.out.e S) (Nat.le_trans H.out.nb H.out.size)).mono ?_
        rintro e wz ⟨rfl, hb'⟩
        replace H := Lib.hid (H.out.other S hb')
        clear hb'
        go_wp2_with fail
        refine (closeAt S (x0 : Int) (2 * (a : Int) - 1 - (x0 : Int)) HCL.out HK.out H.out).mono ?_
        rintro e wz ⟨rfl, h⟩
        replace H := Lib.hid h
        clear h
        go_wp2_with fail
        refine (psteps_any S H.out).mono ?_
        rintro e wz ⟨rfl, h⟩
        replace H := Lib.hid h
        clear h
        go_wp2_with fail
        refine (upAt S (x0 : Int) ((x0 : Int) - (y0 : Int)) (y0 : Int) HUP.out HK.out HK2.out H.out).mono ?_
        rintro e wz ⟨rfl, h⟩
        replace H := Lib.hid h
        clear h
        go_wp2_with fail
        refine (psteps_any S H.out).mono ?_
        rintro e wz ⟨rfl, h⟩
        replace H := Lib.hid h
        clear h
        go_wp2_with fail
        refine (upAt S (x0 : Int) ((x0 : Int) + 1) (-1) HFA.out HK.out HK3.out H.out).mono ?_
        rintro e wz ⟨rfl, h⟩
        replace H := Lib.hid h
        clear h
        go_wp2_with fail
        refine (excessAt S (x0 : Int) ((x0 : Int) + 1) HEX.out HK.out H.out).mono ?_
        rintro e wz ⟨rfl, h⟩
        replace H := Lib.hid h
        clear h
        go_wp2_with fail
        refine (spanAt S (x0 : Int) ((a : Int) - (x0 : Int)) HSP.out HK.out H.out).mono ?_
        rintro e wz ⟨rfl, h⟩
        replace H := Lib.hid h
        clear h
        go_wp2
        go_ret
        exact ⟨rfl, H.out.low HB.out (Nat.le_refl _)⟩
end Go.Proofs.Yteecanaibkpmfaa
