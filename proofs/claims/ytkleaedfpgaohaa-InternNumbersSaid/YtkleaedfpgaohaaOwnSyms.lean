/-
  INTS THAT A CALL GATHERS IN A ROW OF ITS OWN.
-/
import Derived.Test.YtkleaedfpgaohaaSymsAt
import Derived.OwnWalk
import Derived.Laws.OwnMore
namespace Go.Proofs.Ytkleaedfpgaohaa
open Go.RowKit

theorem info_int : (Try.prog.info? 3).map (fun i => (i.zero, i.size, i.bytes)) = some (some (.int .i64 0), 1, 8) := by kernel_rfl
def ival (z : Int) : Value := .int .i64 z
/-- the ints xs are owned -/
def OwnI (w : World) (base : Nat) (v : Value) (xs : List Int) : Prop := w.ownsRow base 3 1 v xs.length (xs.map ival)
theorem ownI_next {w : World} {base : Nat} {v : Value} {xs : List Int} (x : Int) (h : w.ownsRow base 3 1 v (xs.length + 1) (xs.map ival ++ [.int .i64 x])) : OwnI w base v (xs ++ [x]) := by
  unfold OwnI
  rw [List.length_append, List.map_append]
  exact h
theorem ownI_block {w : World} {base : Nat} {v : Value} {xs : List Int} (h : OwnI w base v xs) : ∀ k, v.ownBlock = some k → base ≤ k := by
  intro k hk
  rcases h.2 with ⟨rfl, _⟩ | ⟨g, cap, cur, rfl, hg, _⟩
  · cases hk
  · simp only [Value.ownBlock, Option.some.injEq] at hk
    omega
theorem ownI_slice {w : World} {base : Nat} {v : Value} {xs : List Int} (h : OwnI w base v xs) : ∃ a cap, v = .slice a xs.length cap := by
  rcases h.2 with ⟨rfl, hl⟩ | ⟨g, cap, cur, rfl, _⟩
  · exact ⟨none, 0, by rw [hl]⟩
  · exact ⟨_, cap, rfl⟩
theorem ownI_slice1 {w : World} {base : Nat} {v : Value} {xs : List Int} {x : Int} (h : OwnI w base v (xs ++ [x])) : ∃ a cap, v = .slice a (xs.length + 1) cap := by
  obtain ⟨a, cap, rfl⟩ := ownI_slice h
  exact ⟨a, cap, by rw [List.length_append]; rfl⟩
theorem ownI_shape {w : World} {base : Nat} {v : Value} {xs : List Int} (h : OwnI w base v xs) :
    (v = .slice none 0 0 ∧ xs = []) ∨ ∃ g cap, v = .slice (some ⟨g, 0, none⟩) xs.length cap ∧ xs.length ≤ cap ∧ base ≤ g ∧ g < w.heap.size ∧ ∀ i, i < xs.length → w.cell? ⟨g, i, none⟩ = some (.int .i64 (xs.getD i 0)) := by
  have h0 := h
  rcases h.2 with ⟨rfl, hl⟩ | ⟨g, cap, cur, rfl, hg, hh, hc, _⟩
  · exact Or.inl ⟨rfl, List.eq_nil_of_length_eq_zero hl⟩
  · refine Or.inr ⟨g, cap, rfl, hc, hg, (Array.getElem?_eq_some_iff.1 hh).1, fun i hi => ?_⟩
    rw [World.ownsRow.cellAt h0 i (by omega), List.getElem?_map, List.getElem?_eq_getElem hi]
    simp [List.getD, List.getElem?_eq_getElem hi, ival]
theorem symOK_of {w : World} {base : Nat} {v : Value} {xs : List Int} (h : OwnI w base v xs) : SymOK w v xs := by
  rcases ownI_shape h with ⟨rfl, rfl⟩ | ⟨g, cap, rfl, hc, _, hg, hh⟩
  · exact symOK_none w
  · exact ⟨Or.inr ⟨g, 0, cap, rfl, hg, fun i hi => by rw [Nat.zero_add]; exact hh i hi⟩, _, cap, rfl, hc⟩
end Go.Proofs.Ytkleaedfpgaohaa
