/-
  THE CONTRACT OF brackenlaw1.RunesKinds: it returns true for every character.
-/
import Derived.Test.YtddnmnhiimhaoaaDoorToldOne
namespace Go.Proofs.YtddnmnhiimhaoaaDoor
open Go.RowKit

theorem char_of_part {r : Int} (h : partB r = true) : charB r = true := by
  simp only [partB, startB, charB, inB, Bool.or_eq_true, Bool.and_eq_true, decide_eq_true_eq, beq_iff_eq] at h ⊢
  omega
theorem char_of_space {r : Int} (h : spaceB r = true) : charB r = true := by
  rcases space_ascii h with rfl | rfl | rfl | rfl <;> decide
theorem part_of_space {r : Int} (h : spaceB r = true) : partB r = false := by
  rcases space_ascii h with rfl | rfl | rfl | rfl <;> decide
theorem char_bounds {r : Int} (h : charB r = true) : 0 ≤ r ∧ (r < 55296 ∨ 57343 < r) := by
  simp only [charB, inB, Bool.or_eq_true, Bool.and_eq_true, decide_eq_true_eq, beq_iff_eq] at h
  omega

set_option maxHeartbeats 4000000 in
set_option maxRecDepth 100000 in
theorem kinds_law (r : Int) (w : World) (hT : Tabs w) :
    Calls Tryd.prog 5 #[.int .i32 r] w fun e w' => e = .returned (.bool true) ∧ Below w.heap.size w w' := by
  have cT := told_any w hT
  have f1 := @part_of_start r
  have f2 := @char_of_part r
  have f3 := @char_of_space r
  have f4 := @part_of_space r
  have f5 := @char_bounds r
  have cS := fun w => start_any r w
  have cP := fun w => part_any r w
  have cC := fun w => char_any r w
  have cB := fun w => space_any r w
  generalize startB r = a at *
  generalize partB r = b at *
  generalize charB r = c at *
  generalize spaceB r = d at *
  have hr : (c = false) ∨ (c = true ∧ 0 ≤ r ∧ r < 55296) ∨ (c = true ∧ 0 ≤ r ∧ ¬ r < 55296 ∧ 57343 < r) := by
    cases c
    · exact Or.inl rfl
    · obtain ⟨g0, g1⟩ := f5 rfl
      by_cases h : r < 55296
      · exact Or.inr (Or.inl ⟨rfl, g0, h⟩)
      · exact Or.inr (Or.inr ⟨rfl, g0, h, by omega⟩)
  clear f5
  rcases hr with rfl | ⟨rfl, h0, h1⟩ | ⟨rfl, h0, h1, h2⟩
  · obtain rfl : b = false := by cases b; rfl; exact absurd (f2 rfl) (by decide)
    obtain rfl : a = false := by cases a; rfl; exact absurd (f1 rfl) (by decide)
    obtain rfl : d = false := by cases d; rfl; exact absurd (f3 rfl) (by decide)
    clear f1 f2 f3 f4
    by_cases h1 : r < 55296 <;> by_cases h2 : 57343 < r <;> by_cases h3 : 0 ≤ r
    all_goals try omega
    all_goals
      go_enter Tryd.func5, Tryd.ntmps5
      go_wp2_with (first | (go_at_call 9; refine cT.mono ?_; rintro e w1 ⟨rfl, hb⟩) | (go_at_call 10; refine (cS _).mono ?_; rintro e w' ⟨rfl, rfl⟩) | (go_at_call 11; refine (cP _).mono ?_; rintro e w' ⟨rfl, rfl⟩) | (go_at_call 14; refine (cC _).mono ?_; rintro e w' ⟨rfl, rfl⟩) | (go_at_call 16; refine (cB _).mono ?_; rintro e w' ⟨rfl, rfl⟩))
      go_ret
      exact ⟨rfl, hb⟩
  all_goals
    have h5 : a = true → b = true := f1
    have h6 : d = true → b = false := f4
    clear f1 f2 f3 f4
    cases a <;> cases b <;> cases d
    all_goals try (exfalso; first | (have := h5 rfl; cases this; done) | (have := h6 rfl; cases this; done))
    all_goals
      clear h5 h6
      go_enter Tryd.func5, Tryd.ntmps5
      go_wp2_with (first | (go_at_call 9; refine cT.mono ?_; rintro e w1 ⟨rfl, hb⟩) | (go_at_call 10; refine (cS _).mono ?_; rintro e w' ⟨rfl, rfl⟩) | (go_at_call 11; refine (cP _).mono ?_; rintro e w' ⟨rfl, rfl⟩) | (go_at_call 14; refine (cC _).mono ?_; rintro e w' ⟨rfl, rfl⟩) | (go_at_call 16; refine (cB _).mono ?_; rintro e w' ⟨rfl, rfl⟩))
      go_ret
      exact ⟨rfl, hb⟩
end Go.Proofs.YtddnmnhiimhaoaaDoor
