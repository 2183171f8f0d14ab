/-
  THE CONTRACT OF sort.Search WITH THE CLOSURE OF Select OF THE LANDED PACKAGE bits: the first word ahead of which there are more than j.
-/
import Derived.Test.YteecanaibkpmfaaRunGet
import Derived.Deep.LoopGhost
namespace Go.Proofs.Yteecanaibkpmfaa
open Go.RowKit

/-- what the closure reads: the three boxes, and the bits -/
structure Boxed (B c0 c1 c2 : Nat) (W : World) (v : Value) (xs : List Bool) (j : Nat) (bit : Bool) : Prop where
  kept : Kept B W v xs
  b0 : W.cell? ⟨c0, 0, none⟩ = some v
  b1 : W.cell? ⟨c1, 0, none⟩ = some (.bool bit)
  b2 : W.cell? ⟨c2, 0, none⟩ = some (.int .i64 j)
theorem Boxed.drewN {B c0 c1 c2 : Nat} {W : World} {v : Value} {xs : List Bool} {j : Nat} {bit : Bool} (h : Boxed B c0 c1 c2 W v xs j bit) (n : Nat) : Boxed B c0 c1 c2 (W.drewN n) v xs j bit :=
  ⟨kept_drewN h.kept n, h.b0, h.b1, h.b2⟩

set_option maxHeartbeats 2000000 in
set_option maxRecDepth 100000 in
theorem closure_any (B c0 c1 c2 : Nat) (v : Value) (xs : List Bool) (i j : Nat) (bit : Bool) (w : World) (hb : Boxed B c0 c1 c2 w v xs j bit) (hx : xs.length ≤ 4194304) (hi : i < nWords xs) :
    Calls Try.prog 62 #[.int .i64 i, .pointer (some ⟨c0, 0, none⟩), .pointer (some ⟨c1, 0, none⟩), .pointer (some ⟨c2, 0, none⟩)] w fun e w' => e = .returned (.bool (decide (j < aheadB xs i bit))) ∧ ∃ n, w' = w.drewN n := by
  have CA := Lib.hid fun m => ahead_any B v xs i bit (w.drewN m) (kept_drewN hb.kept m) hx hi
  obtain ⟨p, rfl⟩ := kept_ptr B w v xs hb.kept
  have k0 := hb.b0
  have k1 := hb.b1
  have k2 := hb.b2
  clear hb
  generalize aheadB xs i bit = a at *
  go_enter Try.func62, Try.ntmps62
  go_wp2
  go_quiet ((go_at_call 63; exact Calls.quiet_of (CA.out _)))
  go_wp2
  go_ret
  exact ⟨rfl, _, rfl⟩

def FindPost (xs : List Bool) (j : Nat) (bit : Bool) (n : Nat) (w : World) (e : Ending) (w' : World) : Prop :=
  ∃ m : Nat, e = .returned (.int .i64 m) ∧ m ≤ n ∧ (m = 0 ∨ aheadB xs (m - 1) bit ≤ j) ∧ (m = n ∨ j < aheadB xs m bit) ∧ ∃ q, w' = w.drewN q
structure Between (xs : List Bool) (j : Nat) (bit : Bool) (n lo hi : Nat) : Prop where
  low : lo = 0 ∨ aheadB xs (lo - 1) bit ≤ j
  high : hi = n ∨ j < aheadB xs hi bit

set_option maxHeartbeats 4000000 in
set_option maxRecDepth 100000 in
theorem find_any (B c0 c1 c2 : Nat) (v : Value) (xs : List Bool) (j : Nat) (bit : Bool) (w : World) (hb : Boxed B c0 c1 c2 w v xs j bit) (hx : xs.length ≤ 4194304) :
    Calls Try.prog 61 #[.int .i64 (nWords xs), .func (.func 62) #[] #[.pointer (some ⟨c0, 0, none⟩), .pointer (some ⟨c1, 0, none⟩), .pointer (some ⟨c2, 0, none⟩)]] w (FindPost xs j bit (nWords xs) w) := by
  have CC := Lib.hid fun m i (hi : i < nWords xs) => closure_any B c0 c1 c2 v xs i j bit (w.drewN m) (hb.drewN m) hx hi
  have hn : nWords xs ≤ 65536 := by unfold nWords begunN; omega
  clear hb
  generalize nWords xs = n at *
  go_enter Try.func61, Try.ntmps61
  go_wp2
  go_loopg [5, 6] n (fun kx s5 s6 wr => ∃ lo hi q : Nat, s5 = .int .i64 lo ∧ s6 = .int .i64 hi ∧ lo ≤ hi ∧ hi ≤ n ∧ hi - lo ≤ kx ∧ wr = w.drewN q ∧ Between xs j bit n lo hi)
  case atStart => exact ⟨0, n, 0, rfl, rfl, Nat.zero_le _, Nat.le_refl _, by omega, rfl, ⟨Or.inl rfl, Or.inl rfl⟩⟩
  case round =>
    obtain ⟨lo, hi, q, rfl, rfl, hlh, hin, hg, rfl, I⟩ := hrel
    by_cases hlt : lo < hi
    · have hc := CC.out q ((lo + hi) / 2) (by omega)
      rw [show (((lo + hi) / 2 : Nat) : Int) = ((lo : Int) + (hi : Int)) / 2 by omega] at hc
      have I1 := I.low
      have I2 := I.high
      have HI1 := Lib.hid I1
      have HI2 := Lib.hid I2
      clear I1 I2 I
      by_cases hp : j < aheadB xs ((lo + hi) / 2) bit
      · rw [decide_eq_true hp] at hc
        have HP := Lib.hid hp
        have HCC := Lib.hid hc
        clear hp hc
        go_wp2_with fail
        refine HCC.out.mono ?_
        rintro e w' ⟨rfl, m, rfl⟩
        go_wp2
        go_roundg ((lo + hi) / 2 - lo)
        case measure => omega
        case rel => exact ⟨lo, (lo + hi) / 2, _, rfl, by rw [show ((lo : Int) + (hi : Int)) / 2 = (((lo + hi) / 2 : Nat) : Int) by omega], by omega, by omega, Nat.le_refl _, rfl, ⟨HI1.out, Or.inr HP.out⟩⟩
      · rw [decide_eq_false hp] at hc
        have HP := Lib.hid (show aheadB xs ((lo + hi) / 2) bit ≤ j by omega)
        have HCC := Lib.hid hc
        clear hp hc
        go_wp2_with fail
        refine HCC.out.mono ?_
        rintro e w' ⟨rfl, m, rfl⟩
        go_wp2
        go_roundg (hi - ((lo + hi) / 2 + 1))
        case measure => omega
        case rel => exact ⟨(lo + hi) / 2 + 1, hi, _, by rw [show ((lo : Int) + (hi : Int)) / 2 + 1 = (((lo + hi) / 2 + 1 : Nat) : Int) by omega], rfl, by omega, hin, Nat.le_refl _, rfl, ⟨Or.inr HP.out, HI2.out⟩⟩
    · have hz : hi = lo := by omega
      subst hz
      have I1 := Lib.hid I
      clear I
      go_wp2
      go_ret
      exact ⟨_, rfl, hin, I1.out.low, I1.out.high, _, rfl⟩
end Go.Proofs.Yteecanaibkpmfaa
