/-
  THE CONTRACT OF runes.NCName: it returns ncB of RuneDefs; of what was there before the call nothing turns.
-/
import Derived.Test.YtjijjmkeehdooaaGreatDoorRunKNames
namespace Go.Proofs.YtjijjmkeehdooaaGreatDoor
open Go.RowKit

set_option maxHeartbeats 1000000 in
set_option maxRecDepth 100000 in
theorem nc_any (s : ByteArray) (w : World) (hs : s.size ≤ 4294967280) (hT : Tabs w) :
    Calls Tryz.prog 108 #[.string s] w fun e w' => e = .returned (.bool (ncB s)) ∧ Below w.heap.size w w' := by
  obtain ⟨a, ha⟩ : ∃ a, nameB s = a := ⟨_, rfl⟩
  obtain ⟨c, hc⟩ : ∃ c, colonB s = c := ⟨_, rfl⟩
  have HV : Hid (ncB s = (a && !c)) := by unfold ncB; rw [ha, hc]; exact rfl
  have cN := name_any s w hs hT
  rw [ha] at cN
  have cC : ∀ w, Calls Tryz.prog 110 #[.string s, .string ⟨#[58]⟩] w fun e w' => e = .returned (.bool c) ∧ w' = w := fun w => by rw [← hc]; exact Tryz.contains_laid s 58 w
  clear ha hc
  cases a
  · go_enter Tryz.func108, Tryz.ntmps108
    go_wp2_with (go_at_call 117; refine cN.mono ?_; rintro e w1 ⟨rfl, hb1⟩)
    go_ret
    exact ⟨by rw [HV.out]; rfl, hb1⟩
  · cases c
    all_goals
      go_enter Tryz.func108, Tryz.ntmps108
      go_wp2_with (first | (go_at_call 117; refine cN.mono ?_; rintro e w1 ⟨rfl, hb1⟩) | (go_at_call 110; refine (cC _).mono ?_; rintro e w2 ⟨rfl, rfl⟩))
      go_ret
      exact ⟨by rw [HV.out]; rfl, hb1⟩
end Go.Proofs.YtjijjmkeehdooaaGreatDoor
