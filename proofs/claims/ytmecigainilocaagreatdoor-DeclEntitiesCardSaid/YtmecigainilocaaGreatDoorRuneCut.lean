/-
  THE CONTRACTS OF the library's Clone, and of Cut at a colon; of what was there before the call nothing turns. (Taken out of RuneMore, for layers 11 and on.)
-/
import Derived.Test.YtmecigainilocaaGreatDoorRuneNc
namespace Go.Proofs.YtmecigainilocaaGreatDoor
open Go.RowKit

set_option maxHeartbeats 1000000 in
theorem clone_any (s : ByteArray) (w : World) (hs : s.size ≤ 4294967280) :
    Calls Tryz.prog 20 #[.string s] w fun e w' => e = .returned (.string s) ∧ Below w.heap.size w w' := by
  have C := Tryz.clone_laid s w (by omega)
  go_enter Tryz.func20, Tryz.ntmps20
  go_wp2_with (go_at_call 39; refine C.mono ?_; rintro e w1 ⟨rfl, hb1⟩)
  go_ret
  exact ⟨rfl, hb1⟩

/-- What Cut at a colon hands back. -/
def cutV (s : ByteArray) : ByteArray × ByteArray × Bool := if colonB s = true then (s.extract 0 (colonAt s), s.extract (colonAt s + 1) s.size, true) else (s, ⟨#[]⟩, false)

set_option maxHeartbeats 1000000 in
set_option maxRecDepth 100000 in
theorem cutIn_any (s : ByteArray) (w : World) (hs : s.size ≤ 4294967280) :
    Calls Tryz.prog 84 #[.string s, .string ⟨#[58]⟩] w fun e w' => e = .returned (.tuple #[.string (cutV s).1, .string (cutV s).2.1, .bool (cutV s).2.2]) ∧ Below w.heap.size w w' := by
  have C := Tryz.index_laid s 58 w
  by_cases hc : colonB s = true
  · obtain ⟨k, hk⟩ : ∃ k, colonAt s = k := ⟨_, rfl⟩
    have hlt := colonAt_lt s hc
    have HV : Hid (cutV s = (s.extract 0 k, s.extract (k + 1) s.size, true)) := by unfold cutV; rw [if_pos hc, hk]; exact rfl
    have e : Lib.indexByte s.data.toList 58 = (k : Int) := by
      have h := of_decide_eq_true hc
      rw [← hk]; unfold colonAt; omega
    rw [e] at C
    rw [hk] at hlt
    clear e hk hc
    have c1 : (0 : Int) ≤ (k : Int) := by omega
    have c2 : (k : Int) ≤ (s.size : Int) := by omega
    have c3 : (0 : Int) ≤ (k : Int) + 1 := by omega
    have c4 : ((k : Int) + 1) ≤ (s.size : Int) := by omega
    go_enter Tryz.func84, Tryz.ntmps84
    go_wp2_with (go_at_call 99; refine C.mono ?_; rintro e w' ⟨rfl, rfl⟩)
    go_quiet (fail)
    go_wp2
    go_ret3
    exact ⟨by rw [HV.out]; rfl, below_drewN (Below.refl _ _) _⟩
  · have HV : Hid (cutV s = (s, ⟨#[]⟩, false)) := by unfold cutV; rw [if_neg hc]; exact rfl
    have e : Lib.indexByte s.data.toList 58 = -1 := by
      have h1 := Lib.indexByte_ge s.data.toList 58
      have h2 : ¬ (0 ≤ Lib.indexByte s.data.toList 58) := fun h => hc (decide_eq_true h)
      omega
    rw [e] at C
    clear e hc
    go_enter Tryz.func84, Tryz.ntmps84
    go_wp2_with (go_at_call 99; refine C.mono ?_; rintro e w' ⟨rfl, rfl⟩)
    go_ret3
    exact ⟨by rw [HV.out]; rfl, Below.refl _ _⟩

set_option maxHeartbeats 1000000 in
theorem cut_any (s : ByteArray) (w : World) (hs : s.size ≤ 4294967280) :
    Calls Tryz.prog 64 #[.string s, .string ⟨#[58]⟩] w fun e w' => e = .returned (.tuple #[.string (cutV s).1, .string (cutV s).2.1, .bool (cutV s).2.2]) ∧ Below w.heap.size w w' := by
  have C := cutIn_any s w hs
  go_enter Tryz.func64, Tryz.ntmps64
  go_wp2_with (go_at_call 84; refine C.mono ?_; rintro e w1 ⟨rfl, hb1⟩)
  go_ret3
  exact ⟨rfl, hb1⟩
end Go.Proofs.YtmecigainilocaaGreatDoor
