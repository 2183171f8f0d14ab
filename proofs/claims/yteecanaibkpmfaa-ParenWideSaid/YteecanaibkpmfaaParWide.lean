/-
  LAYER 5: brackenlaw5.ParenWide, out of ParSaid: true for any number of pairs, any of them. (Written by gen_pwide.py.)
-/
import Derived.Test.YteecanaibkpmfaaParRaw
import Derived.Test.YteecanaibkpmfaaParWideLaws
namespace Go.Proofs.Yteecanaibkpmfaa
open Go.RowKit

theorem cell_two_new (w : World) (x y : Value) (t : TypeId) : ∀ j u, [x, y][j]? = some u → (w.alloc (.cells #[x, y] t)).cell? ((⟨w.heap.size, 0, none⟩ : Addr).add j) = some u := by
  intro j u hu
  have hh : (w.alloc (.cells #[x, y] t)).heap[w.heap.size]? = some (.cells #[x, y] t) := by
    show (w.heap.push (Obj.cells #[x, y] t))[w.heap.size]? = _
    rw [Array.getElem?_push_size]
  have e : ∀ i, (w.alloc (.cells #[x, y] t)).cell? ⟨w.heap.size, i, none⟩ = (#[x, y] : Array Value)[i]? := by
    intro i
    unfold World.cell?
    simp only [hh]
    rfl
  unfold Addr.add
  by_cases h0 : j = 0
  · rw [if_pos h0, e, ← hu, h0]
    rfl
  · rw [if_neg h0]
    show (w.alloc (.cells #[x, y] t)).cell? ⟨w.heap.size, 0 + j, none⟩ = some u
    rw [Nat.zero_add, e, ← hu]
    simp
theorem ownS_two {w : World} {base : Nat} {v : Value} {xs : List Bool} {m : Nat} (hm : xs.length = m) (x y : Bool) (h : w.ownsRow base 4 1 v (m + 2) (xs.map Value.bool ++ [.bool x, .bool y])) : OwnS w base v (xs ++ [x, y]) := by
  unfold OwnS
  rw [List.length_append, List.map_append, hm]
  exact h

set_option maxHeartbeats 20000000 in
set_option maxRecDepth 100000 in
theorem pwide_any {E : Nat → World → Prop} {Is : Nat → Nat → World → Value → List Bool → Prop} (S : ParSaid E Is) (n : Nat) (n0 k0 : Int) (w : World) (hE : E n w) (hn : n ≤ w.heap.size) :
    Calls Try.prog 8 #[.int .i64 n0, .int .i64 k0] w fun e w' => e = .returned (.bool true) ∧ Below w.heap.size w w' := by
  obtain ⟨i0, hi, hz0, hz1, hz2⟩ := info_parts info_bool
  have HE0 := Lib.hid hE
  have HN0 := Lib.hid hn
  clear hE hn
  obtain ⟨u, a', hu1, hu2, ha, ha1, ha2⟩ := wrap_mod n0 2000 (by decide) (by decide)
  replace hu2 : Int.tmod (u : Int) 2000 = (a' : Int) := hu2
  have hO := World.ownsRow_lit (base := w.heap.size) (e := 4) (size := 1) w #[.bool true] 1 (Nat.le_refl _) (by unfold maxLen; omega) rfl
  have hb0 : Below w.heap.size w (w.alloc (.cells #[.bool true] 4)) := (Below.refl w.heap.size w).alloc (Nat.le_refl _) _
  go_enter Try.func8, Try.ntmps8
  go_wp2
  clear hu1 hu2 ha1 ha2
  obtain ⟨a, haa⟩ : ∃ a, a = 1 + a' := ⟨_, rfl⟩
  have hA : (1 : Int) + (a' : Int) = (a : Int) := by omega
  rw [hA]
  have hab : a ≤ 2000 := by omega
  have ha0 : 1 ≤ a := by omega
  clear hA haa ha
  have hO1 : OwnS (w.alloc (.cells #[.bool true] 4)) w.heap.size (.slice (some ⟨w.heap.size, 0, none⟩) 1 1) ((wideL a).take (1 + 2 * 0)) := by
    rw [show 1 + 2 * 0 = 1 from rfl, wide_take0]
    exact hO
  clear hO
  go_loopw [6, 7] (fun v i wr => ∃ k : Nat, k ≤ a ∧ i = .int .i64 k ∧ OwnS wr w.heap.size v ((wideL a).take (1 + 2 * k)) ∧ Below w.heap.size w wr) (fun _ i _ => a - (intOf i).toNat)
  case atStart => exact ⟨0, Nat.zero_le _, rfl, hO1, hb0⟩
  case round =>
    obtain ⟨k, hk, rfl, hown, hbel⟩ := hrel
    clear hO1 hb0
    have hlen : ((wideL a).take (1 + 2 * k)).length = 1 + 2 * k := by rw [List.length_take, wideL_len]; omega
    have hblk := ownS_block hown
    have hsz := hbel.size
    have hown0 : wr.ownsRow w.heap.size 4 1 u6 (1 + 2 * k) (((wideL a).take (1 + 2 * k)).map Value.bool) := by have := hown; unfold OwnS at this; rw [hlen] at this; exact this
    rcases ownS_shape hown with ⟨_, hnil⟩ | ⟨gg, cap', rfl⟩
    · exact absurd hlen (by rw [hnil]; intro h; have h' : (0 : Nat) = 1 + 2 * k := h; omega)
    clear hown
    rw [hlen] at hown0 ⊢
    by_cases hlt : k < a
    · have g1 : decide (k < a) = true := decide_eq_true hlt
      have HT := Lib.hid (wide_take a k hlt)
      have HLN := Lib.hid hlen
      clear hlen
      go_wp2_with (at_builtin; refine wpList_append_own _ rfl _ _ 23 rfl w.heap.size 4 i0 (.bool false) 1 1 Try.underlying23 hi hz0 hz1 hz2 rfl (by decide) _ _ _ rfl (hown0.alloc _) ⟨wr.heap.size, 0, none⟩ 2 2 [.bool true, .bool false] rfl rfl (cell_two_new _ _ _ _) (by intro u hu; simp at hu; rcases hu with rfl | rfl <;> rfl) (by unfold maxLen; omega) (by omega) (by first | omega | (simp; done) | (simp; omega)) ?_; intro v' w2 hown3 hgrow3 _)
      go_roundw
      case rel => exact ⟨k + 1, by omega, by go_num, by rw [HT.out]; exact ownS_two HLN.out true false hown3, (hbel.alloc hbel.size _).grown hgrow3 (by first | (simp; done) | (simp; omega)) hblk⟩
      case measure => simp [intOf]; omega
    · have g1 : decide (k < a) = false := decide_eq_false hlt
      have hka : k = a := by omega
      have HT := Lib.hid (wide_take_end a)
      have HLN := Lib.hid hlen
      clear hlen
      go_wp2_with (at_builtin; refine wpList_append_own _ rfl _ _ 23 rfl w.heap.size 4 i0 (.bool false) 1 1 Try.underlying23 hi hz0 hz1 hz2 rfl (by decide) _ _ _ rfl (hown0.alloc _) ⟨wr.heap.size, 0, none⟩ 1 1 [.bool false] rfl rfl (cell_one_new _ _ _) (by intro u hu; simp at hu; subst hu; rfl) (by unfold maxLen; omega) (by omega) (by first | omega | (simp; done) | (simp; omega)) ?_; intro v' w2 hown3 hgrow3 _)
      have hb : Below w.heap.size w w2 := (hbel.alloc hbel.size _).grown hgrow3 (by first | (simp; done) | (simp; omega)) hblk
      have hown : OwnS w2 w.heap.size v' (wideL a) := by
        have ho : OwnS w2 w.heap.size v' ((wideL a).take (1 + 2 * k) ++ [false]) := ownS_next false (by rw [HLN.out]; exact hown3)
        rw [HT.out]
        rwa [hka] at ho
      have HR := Lib.hid (rowOK_of hown)
      have hlb : (wideL a).length ≤ 4194304 := by rw [wideL_len]; omega
      have HM := Lib.hid (wide_may a)
      have HB := Lib.hid hb
      have HE := Lib.hid (S.stay n w w2 HE0.out (hb.mono HN0.out))
      have HN := Lib.hid (Nat.le_trans HN0.out hb.size)
      clear hown hown3 hgrow3 hown0 hb hbel hblk hka
      go_wp2_with fail
      refine (newAt S _ HE.out HN.out hlb HR.out HM.out).mono ?_
      rintro e wa ⟨p, T, rfl, h⟩
      have H := Lib.hid h
      clear h
      obtain ⟨u1, t, k1, k2, k3, ht, k4, k5⟩ := wrap_mod2 k0 a (by omega) (by omega)
      have az : ((a : Int) == 0) = false := beq_eq_false_iff_ne.2 (by omega)
      go_wp2_with fail
      clear k1 k2 k3 k4 k5
      obtain ⟨X, hX⟩ : ∃ X, 1 + 2 * t = X := ⟨_, rfl⟩
      have hXi : (1 : Int) + 2 * (t : Int) = (X : Int) := by omega
      rw [hXi]
      have HC0 := Lib.hid (wide_close0 a)
      have HBE := Lib.hid (wide_begin a)
      have HSP := Lib.hid (wide_span a)
      have HCL := wide_close a t ht
      have HEN := wide_enclose a t ht
      have HUP := wide_up a t ht
      have HNU := wide_number a t ht
      have HPL := wide_place a t ht
      rw [hX] at HCL HEN HUP HNU HPL
      rw [show ((X + 1 : Nat) : Int) = (X : Int) + 1 by omega] at HCL
      replace HCL := Lib.hid HCL
      replace HEN := Lib.hid HEN
      replace HUP := Lib.hid HUP
      replace HNU := Lib.hid HNU
      replace HPL := Lib.hid HPL
      have hXb : X ≤ 4001 := by omega
      have HK := Lib.hid (⟨by omega, by omega⟩ : In64 (X : Int))
      have HK2 := Lib.hid (⟨by omega, by omega⟩ : In64 (2 * (a : Int) + 1))
      have HK3 := Lib.hid (⟨by omega, by omega⟩ : In64 (((X : Int) + 1) / 2))
      clear hX hXi ht
      refine (told5_any S n _ (H.out.e S) (Nat.le_trans H.out.nb H.out.size)).mono ?_
      rintro e wz ⟨rfl, hb'⟩
      replace H := Lib.hid (H.out.other S hb')
      clear hb'
      go_wp2_with fail
      refine (closeAt S 0 (2 * (a : Int) + 1) HC0.out (in64_small _) H.out).mono ?_
      rintro e wz ⟨rfl, h⟩
      replace H := Lib.hid h
      clear h
      go_wp2_with fail
      refine (psteps_any S H.out).mono ?_
      rintro e wz ⟨rfl, h⟩
      replace H := Lib.hid h
      clear h
      go_wp2_with fail
      refine (closeAt S (X : Int) ((X : Int) + 1) HCL.out HK.out H.out).mono ?_
      rintro e wz ⟨rfl, h⟩
      replace H := Lib.hid h
      clear h
      go_wp2_with fail
      refine (psteps_any S H.out).mono ?_
      rintro e wz ⟨rfl, h⟩
      replace H := Lib.hid h
      clear h
      go_wp2_with fail
      refine (encloseAt S (X : Int) 0 HEN.out HK.out H.out).mono ?_
      rintro e wz ⟨rfl, h⟩
      replace H := Lib.hid h
      clear h
      go_wp2_with fail
      refine (psteps_any S H.out).mono ?_
      rintro e wz ⟨rfl, h⟩
      replace H := Lib.hid h
      clear h
      go_wp2_with fail
      refine (beginAt S (2 * (a : Int) + 1) 0 HBE.out HK2.out H.out).mono ?_
      rintro e wz ⟨rfl, h⟩
      replace H := Lib.hid h
      clear h
      go_wp2_with fail
      refine (psteps_any S H.out).mono ?_
      rintro e wz ⟨rfl, h⟩
      replace H := Lib.hid h
      clear h
      go_wp2_with fail
      refine (upAt S (X : Int) 1 0 HUP.out HK.out (in64_small _) H.out).mono ?_
      rintro e wz ⟨rfl, h⟩
      replace H := Lib.hid h
      clear h
      go_wp2_with fail
      refine (psteps_any S H.out).mono ?_
      rintro e wz ⟨rfl, h⟩
      replace H := Lib.hid h
      clear h
      go_wp2_with fail
      refine (spanAt S 0 ((a : Int) + 1) HSP.out (in64_small _) H.out).mono ?_
      rintro e wz ⟨rfl, h⟩
      replace H := Lib.hid h
      clear h
      go_wp2_with fail
      refine (numberAt S (X : Int) (((X : Int) + 1) / 2) HNU.out HK.out H.out).mono ?_
      rintro e wz ⟨rfl, h⟩
      replace H := Lib.hid h
      clear h
      go_wp2_with fail
      refine (placeAt S (((X : Int) + 1) / 2) (X : Int) HPL.out HK3.out H.out).mono ?_
      rintro e wz ⟨rfl, h⟩
      replace H := Lib.hid h
      clear h
      go_wp2
      go_ret
      exact ⟨rfl, H.out.low HB.out (Nat.le_refl _)⟩
end Go.Proofs.Yteecanaibkpmfaa
