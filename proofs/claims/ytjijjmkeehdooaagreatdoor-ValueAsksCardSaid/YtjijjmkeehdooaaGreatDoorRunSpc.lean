/-
  THE CONTRACT OF runes.Space.
-/
import Derived.Test.YtjijjmkeehdooaaGreatDoorChecked
import Derived.Test.YtjijjmkeehdooaaGreatDoorRuneDefs
import Derived.WalkKit
import Derived.WalkSpells
import Derived.WalkLawsBesides
namespace Go.Proofs.YtjijjmkeehdooaaGreatDoor
open Go.RowKit

set_option maxHeartbeats 400000 in
theorem space_any (r : Int) (w : World) :
    Calls Tryz.prog 54 #[.int .i32 r] w fun e w' => e = .returned (.bool (spaceB r)) ∧ w = w' := by
  go_enter Tryz.func54, Tryz.ntmps54
  go_wp2
  all_goals go_ret
  all_goals exact ⟨by simp [spaceB, *], rfl⟩

end Go.Proofs.YtjijjmkeehdooaaGreatDoor
