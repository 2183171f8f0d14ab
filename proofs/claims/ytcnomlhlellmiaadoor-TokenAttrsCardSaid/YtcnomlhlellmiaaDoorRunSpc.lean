/-
  THE CONTRACT OF runes.Space.
-/
import Derived.Test.YtcnomlhlellmiaaDoorChecked
import Derived.Test.YtcnomlhlellmiaaDoorRuneDefs
import Derived.WalkKit
import Derived.WalkSpells
import Derived.WalkLawsBesides
namespace Go.Proofs.YtcnomlhlellmiaaDoor
open Go.RowKit

set_option maxHeartbeats 400000 in
theorem space_any (r : Int) (w : World) :
    Calls Tryd.prog 60 #[.int .i32 r] w fun e w' => e = .returned (.bool (spaceB r)) ∧ w = w' := by
  go_enter Tryd.func60, Tryd.ntmps60
  go_wp2
  all_goals go_ret
  all_goals exact ⟨by simp [spaceB, *], rfl⟩

end Go.Proofs.YtcnomlhlellmiaaDoor
