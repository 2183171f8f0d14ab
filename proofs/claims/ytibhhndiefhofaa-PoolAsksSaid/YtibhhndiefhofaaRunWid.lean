/-
  THE CONTRACT OF Width OF THE LANDED PACKAGE ints.
-/
import Derived.Test.YtibhhndiefhofaaIntLaws
import Derived.Test.YtibhhndiefhofaaChecked
import Derived.Test.YtibhhndiefhofaaShelf
import Derived.Laws.Bits64b
import Derived.WalkKit
import Derived.WalkSpells
import Derived.WalkLawsBesides
import Derived.LoopTactic
import Derived.Lib.Hide
import Derived.IntWalk
import Derived.KernelRfl
namespace Go.Proofs.Ytibhhndiefhofaa
open Go.RowKit

theorem lenAux_width : ∀ (f n : Nat), n < 2 ^ f → Lib.bitLenAux f n = widthN n
  | 0, n, h => by
    have : n = 0 := by simpa using h
    subst this; rfl
  | f + 1, n, h => by
    unfold Lib.bitLenAux
    by_cases h0 : n = 0
    · subst h0; rfl
    · rw [if_neg h0, lenAux_width f (n / 2) (by rw [Nat.pow_succ] at h; omega), widthN_half n (by omega)]
      omega
theorem len64_width (n : Nat) (h : n ≤ 18446744073709551615) : Lib.bitLen n = widthN n := lenAux_width 64 n (by omega)
theorem ret_i64Z {a b : Int} (h : a = b) : Ending.returned (.int .i64 a) = .returned (.int .i64 b) := by rw [h]
theorem ret_u64 {a b : Int} (h : a = b) : Ending.returned (.int .u64 a) = .returned (.int .u64 b) := by rw [h]
theorem rwidth_any (n : Nat) (w : World) (h : n ≤ 18446744073709551615) : Calls Try.prog 47 #[.int .u64 (n : Nat)] w fun e w' => e = .returned (.int .i64 (widthN n)) ∧ w = w' := by
  have C := Try.bits_Len64 (n : Int) w (by omega) (by omega)
  rw [Int.toNat_natCast, len64_width n h] at C
  generalize widthN n = y at *
  go_enter Try.func47, Try.ntmps47
  go_wp2_with fail
  refine C.mono ?_
  rintro e w' ⟨rfl, rfl⟩
  go_wp2
  go_ret
  exact ⟨rfl, rfl⟩
end Go.Proofs.Ytibhhndiefhofaa
