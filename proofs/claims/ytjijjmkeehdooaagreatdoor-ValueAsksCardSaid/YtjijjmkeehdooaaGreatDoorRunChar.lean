/-
  THE CONTRACTS OF runes.within, Char: what the Bool functions of RuneDefs say; the world is left alone.
-/
import Derived.Test.YtjijjmkeehdooaaGreatDoorChecked
import Derived.Test.YtjijjmkeehdooaaGreatDoorRuneDefs
import Derived.WalkKit
import Derived.WalkSpells
import Derived.WalkLawsBesides
namespace Go.Proofs.YtjijjmkeehdooaaGreatDoor
open Go.RowKit

set_option maxHeartbeats 400000 in
theorem within_any (r a b : Int) (w : World) :
    Calls Tryz.prog 115 #[.int .i32 r, .int .i32 a, .int .i32 b] w fun e w' => e = .returned (.bool (inB r a b)) ∧ w = w' := by
  by_cases h1 : a ≤ r <;> by_cases h2 : r ≤ b
  all_goals
    go_enter Tryz.func115, Tryz.ntmps115
    go_wp2
    go_ret
    exact ⟨by simp [inB, h1, h2], rfl⟩

set_option maxHeartbeats 1000000 in
theorem char_any (r : Int) (w : World) :
    Calls Tryz.prog 120 #[.int .i32 r] w fun e w' => e = .returned (.bool (charB r)) ∧ w = w' := by
  go_enter Tryz.func120, Tryz.ntmps120
  go_wp2_with (go_at_call 115; refine (within_any _ _ _ _).mono ?_; rintro e w' ⟨rfl, rfl⟩)
  all_goals go_ret
  all_goals exact ⟨by simp_all [charB], rfl⟩

end Go.Proofs.YtjijjmkeehdooaaGreatDoor
