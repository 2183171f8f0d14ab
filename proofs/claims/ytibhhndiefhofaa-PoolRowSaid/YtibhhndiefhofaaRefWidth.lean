/-
  THE CONTRACT OF brackenref1.Width: it returns widthN of IntLaws; the world is left alone.
-/
import Derived.Test.YtibhhndiefhofaaChecked
import Derived.Test.YtibhhndiefhofaaIntLaws
import Derived.WalkKit
import Derived.WalkSpells
import Derived.WalkLawsBesides
import Derived.LoopTactic
import Derived.Lib.Hide
namespace Go.Proofs.Ytibhhndiefhofaa
open Go.RowKit

set_option maxHeartbeats 1000000 in
theorem refWidth_any (n : Nat) (w : World) (hn : n ≤ 18446744073709551615) :
    Calls Try.prog 39 #[.int .u64 n] w fun e w' => e = .returned (.int .i64 (widthN n)) ∧ w = w' := by
  obtain ⟨ans, hans⟩ : ∃ ans, widthN n = ans := ⟨_, rfl⟩
  rw [hans]
  have h64 := widthN_64 n hn
  rw [hans] at h64
  have HA := Lib.hid hans
  clear hans
  go_enter Try.func39, Try.ntmps39
  go_wp2
  go_loop [0, 3] (fun m q => ∃ a b : Nat, m = .int .u64 a ∧ q = .int .i64 b ∧ a ≤ n ∧ b + widthN a = ans) (fun m _ => (intOf m).toNat)
  case atStart => exact ⟨n, 0, rfl, rfl, Nat.le_refl _, by rw [HA.out]; omega⟩
  case round =>
    obtain ⟨a, b, rfl, rfl, ha, hr⟩ := hrel
    have hb : b ≤ 64 := by omega
    have HR := Lib.hid hr
    clear hr
    by_cases h0 : a = 0
    · subst h0
      have HF : Hid (b = ans) := by rw [← HR.out, widthN_zero]; exact rfl
      clear HR
      go_wp2
      go_ret
      exact ⟨by rw [← HF.out]; rfl, rfl⟩
    · have HF : Hid (b + 1 + widthN (a / 2) = ans) := by
        have := HR.out
        rw [widthN_half a (by omega)] at this
        show _ = _
        omega
      have g1 : decide ((0 : Int) < (a : Int)) = true := decide_eq_true (by omega)
      have g2 : decide (0 < a) = true := decide_eq_true (by omega)
      clear HR
      go_wp2
      go_round
      case rel => exact ⟨a / 2, b + 1, by go_num, by go_num, by omega, HF.out⟩
      case measure => simp [intOf]; omega
end Go.Proofs.Ytibhhndiefhofaa
