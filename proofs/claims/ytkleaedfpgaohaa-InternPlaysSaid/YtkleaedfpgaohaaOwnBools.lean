/-
  BOOLS THAT A CALL GATHERS IN A ROW OF ITS OWN.
-/
import Derived.Test.YtkleaedfpgaohaaRefBools
import Derived.OwnWalk
import Derived.Laws.OwnMore
namespace Go.Proofs.Ytkleaedfpgaohaa
open Go.RowKit

theorem info_bool : (Try.prog.info? 4).map (fun i => (i.zero, i.size, i.bytes)) = some (some (.bool false), 1, 1) := by kernel_rfl
/-- the bools xs are owned -/
def OwnS (w : World) (base : Nat) (v : Value) (xs : List Bool) : Prop := w.ownsRow base 4 1 v xs.length (xs.map Value.bool)
theorem ownS_next {w : World} {base : Nat} {v : Value} {xs : List Bool} (x : Bool) (h : w.ownsRow base 4 1 v (xs.length + 1) (xs.map Value.bool ++ [.bool x])) : OwnS w base v (xs ++ [x]) := by
  unfold OwnS
  rw [List.length_append, List.map_append]
  exact h
theorem ownS_block {w : World} {base : Nat} {v : Value} {xs : List Bool} (h : OwnS w base v xs) : ∀ k, v.ownBlock = some k → base ≤ k := by
  intro k hk
  rcases h.2 with ⟨rfl, _⟩ | ⟨g, cap, cur, rfl, hg, _⟩
  · cases hk
  · simp only [Value.ownBlock, Option.some.injEq] at hk
    omega
theorem ownS_shape {w : World} {base : Nat} {v : Value} {xs : List Bool} (h : OwnS w base v xs) : (v = .slice none 0 0 ∧ xs = []) ∨ ∃ g cap, v = .slice (some ⟨g, 0, none⟩) xs.length cap := by
  rcases h.2 with ⟨rfl, hl⟩ | ⟨g, cap, cur, rfl, _⟩
  · exact Or.inl ⟨rfl, List.eq_nil_of_length_eq_zero hl⟩
  · exact Or.inr ⟨g, cap, rfl⟩
theorem ownS_at {w : World} {base : Nat} {v : Value} {xs : List Bool} (h : OwnS w base v xs) : BoolsAt w.heap.size w v xs := by
  have h0 := h
  rcases h.2 with ⟨rfl, hl⟩ | ⟨g, cap, cur, rfl, hg, hh, _⟩
  · exact Or.inl ⟨none, 0, rfl, List.eq_nil_of_length_eq_zero hl⟩
  · refine Or.inr ⟨g, 0, cap, rfl, ?_, fun i hi => ?_⟩
    · exact (Array.getElem?_eq_some_iff.1 hh).1
    · rw [Nat.zero_add, World.ownsRow.cellAt h0 i (by omega), List.getElem?_map, List.getElem?_eq_getElem hi]
      simp [List.getD, List.getElem?_eq_getElem hi]
end Go.Proofs.Ytkleaedfpgaohaa
