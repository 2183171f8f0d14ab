/-
  LAYER 6: brackenlaw6.WaveRaw, out of WavSaid: true for any symbols, any sigma. (Written by gen_wraw.py.)
-/
import Derived.Test.YtnjlckgmoodkiaaWavTold
import Derived.Test.YtnjlckgmoodkiaaSymArg
namespace Go.Proofs.Ytnjlckgmoodkiaa
open Go.RowKit

set_option maxHeartbeats 1000000 in
set_option maxRecDepth 100000 in
theorem wraw_long {E : Nat → World → Prop} {Is : Nat → Nat → World → Value → List Int → Int → Prop} (S : WavSaid E Is) (n : Nat) (a : Option Addr) (len cap : Nat) (sigma : Int) (w : World) (hE : E n w) (hn : n ≤ w.heap.size) (hl : 50 < len) :
    Calls Try.prog 4 #[.slice a len cap, .int .i64 sigma] w fun e w' => e = .returned (.bool true) ∧ Below w.heap.size w w' := by
  have C := Lib.hid (told6_any S n w hE hn)
  clear hE
  have g : decide ((50 : Int) < (len : Int)) = true := decide_eq_true (by omega)
  have g2 : decide (50 < len) = true := decide_eq_true hl
  go_enter Try.func4, Try.ntmps4
  go_wp2_with fail
  refine C.out.mono ?_
  rintro e w1 ⟨rfl, hb⟩
  go_wp2
  go_ret
  exact ⟨rfl, hb⟩

set_option maxHeartbeats 4000000 in
set_option maxRecDepth 100000 in
theorem wraw_any {E : Nat → World → Prop} {Is : Nat → Nat → World → Value → List Int → Int → Prop} (S : WavSaid E Is) (n : Nat) (a : Option Addr) (cap : Nat) (xs : List Int) (sigma : Int) (w : World) (hE : E n w) (hn : n ≤ w.heap.size) (hl : xs.length ≤ 50) (hs : In64 sigma) (hx : ∀ z ∈ xs, In64 z) (hr : SymOK w (.slice a xs.length cap) xs) :
    Calls Try.prog 4 #[.slice a xs.length cap, .int .i64 sigma] w fun e w' => e = .returned (.bool true) ∧ Below w.heap.size w w' := by
  have HE := Lib.hid hE
  have HR := Lib.hid hr
  have HX := Lib.hid hx
  have HS := Lib.hid hs
  have HN := Lib.hid hn
  have g : decide ((50 : Int) < (xs.length : Int)) = false := decide_eq_false (by omega)
  have g2 : decide (50 < xs.length) = false := decide_eq_false (by omega)
  clear hE hr hx hs hn
  obtain ⟨m, hm⟩ : ∃ m, maySyms xs sigma = m := ⟨_, rfl⟩
  have HM := Lib.hid hm
  cases m
  · clear hm
    go_enter Try.func4, Try.ntmps4
    go_wp2_with fail
    refine (S.newNo n _ xs sigma w HE.out HN.out (by omega) HS.out HX.out HR.out HM.out).mono ?_
    rintro e w1 ⟨rfl, hb1⟩
    have HB := Lib.hid hb1
    clear hb1
    go_wp2_with fail
    refine (refMay_anyW _ _ xs sigma w1 (by omega) (HR.out.below HB.out).1).mono ?_
    rw [HM.out]
    rintro e w2 ⟨rfl, rfl⟩
    have HE1 := Lib.hid (S.stay n w w1 HE.out (HB.out.mono HN.out))
    go_wp2_with fail
    refine (told6_any S n w1 HE1.out (Nat.le_trans HN.out HB.out.size)).mono ?_
    rintro e w2 ⟨rfl, hb2⟩
    go_wp2
    go_ret
    exact ⟨rfl, HB.out.trans (hb2.mono HB.out.size)⟩
  · clear hm
    go_enter Try.func4, Try.ntmps4
    go_wp2_with fail
    refine (newAt S _ HE.out HN.out (by omega) HR.out HM.out).mono ?_
    rintro e w1 ⟨p, T, rfl, h⟩
    have HB := Lib.hid (h.low (n := n) (Below.refl w.heap.size w) (Nat.le_refl _))
    have H := Lib.hid h
    clear h
    go_wp2_with fail
    refine (refMay_anyW _ _ xs sigma w1 (by omega) (HR.out.below HB.out).1).mono ?_
    rw [HM.out]
    rintro e w2 ⟨rfl, rfl⟩
    go_wp2_with fail
    refine (told6_any S n w1 (H.out.e S) (Nat.le_trans HN.out HB.out.size)).mono ?_
    rintro e w2 ⟨rfl, hb2⟩
    go_wp2
    go_ret
    exact ⟨rfl, HB.out.trans (hb2.mono HB.out.size)⟩
theorem wraw_law {E : Nat → World → Prop} {Is : Nat → Nat → World → Value → List Int → Int → Prop} (S : WavSaid E Is) (n : Nat) (v : Value) (sigma : Int) (w : World) (hE : E n w) (hn : n ≤ w.heap.size) (hs : In64 sigma) (hv : SymArg w v) :
    Calls Try.prog 4 #[v, .int .i64 sigma] w fun e w' => e = .returned (.bool true) ∧ Below w.heap.size w w' := by
  obtain ⟨a, cap, xs, rfl, h, hx, _⟩ := hv
  by_cases h2 : xs.length ≤ 50
  · exact wraw_any S n a cap xs sigma w hE hn h2 hs hx h
  · exact wraw_long S n a xs.length cap sigma w hE hn (by omega)
end Go.Proofs.Ytnjlckgmoodkiaa
