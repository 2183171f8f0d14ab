/-
  THE CONTRACTS OF runes.Start, Part.
-/
import Derived.Test.YtjijjmkeehdooaaGreatDoorRunChar
namespace Go.Proofs.YtjijjmkeehdooaaGreatDoor
open Go.RowKit

set_option maxHeartbeats 4000000 in
theorem start_any (r : Int) (w : World) :
    Calls Tryz.prog 114 #[.int .i32 r] w fun e w' => e = .returned (.bool (startB r)) ∧ w = w' := by
  go_enter Tryz.func114, Tryz.ntmps114
  go_wp2_with (go_at_call 115; refine (within_any _ _ _ _).mono ?_; rintro e w' ⟨rfl, rfl⟩)
  all_goals go_ret
  all_goals exact ⟨by simp_all [startB, inB_joins], rfl⟩

set_option maxHeartbeats 4000000 in
theorem part_any (r : Int) (w : World) :
    Calls Tryz.prog 102 #[.int .i32 r] w fun e w' => e = .returned (.bool (partB r)) ∧ w = w' := by
  go_enter Tryz.func102, Tryz.ntmps102
  go_wp2_with (first | (go_at_call 115; refine (within_any _ _ _ _).mono ?_; rintro e w' ⟨rfl, rfl⟩) | (go_at_call 114; refine (start_any _ _).mono ?_; rintro e w' ⟨rfl, rfl⟩))
  all_goals go_ret
  all_goals exact ⟨by simp_all [partB, inB_ties], rfl⟩

end Go.Proofs.YtjijjmkeehdooaaGreatDoor
