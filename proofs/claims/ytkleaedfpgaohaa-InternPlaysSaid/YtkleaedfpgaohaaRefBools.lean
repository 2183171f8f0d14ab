/-
  SLICES OF BOOLS THAT LIE IN MEMORY AS A LIST.
-/
import Derived.Test.YtkleaedfpgaohaaChecked
import Derived.Test.YtkleaedfpgaohaaBitLaws
import Derived.WalkKit
import Derived.WalkSpells
import Derived.WalkLawsBesides
import Derived.LoopTactic
import Derived.Lib.Hide
namespace Go.Proofs.Ytkleaedfpgaohaa
open Go.RowKit

/-- THE VALUE v IS A SLICE THAT HOLDS THE BITS xs, in a block below B. -/
def BoolsAt (B : Nat) (w : World) (v : Value) (xs : List Bool) : Prop :=
  (∃ a cap, v = .slice a 0 cap ∧ xs = []) ∨
  ∃ b off cap, v = .slice (some ⟨b, off, none⟩) xs.length cap ∧ b < B ∧ ∀ i, i < xs.length → w.cell? ⟨b, off + i, none⟩ = some (.bool (xs.getD i false))
theorem BoolsAt.below {B : Nat} {w w' : World} {v : Value} {xs : List Bool} (h : BoolsAt B w v xs) (hb : Below B w w') : BoolsAt B w' v xs := by
  rcases h with h | ⟨b, off, cap, h1, h2, h3⟩
  · exact Or.inl h
  · exact Or.inr ⟨b, off, cap, h1, h2, fun i hi => by rw [hb.cell (p := ⟨b, off + i, none⟩) h2]; exact h3 i hi⟩
theorem BoolsAt.mono {B B' : Nat} {w : World} {v : Value} {xs : List Bool} (h : BoolsAt B w v xs) (hB : B ≤ B') : BoolsAt B' w v xs := by
  rcases h with h | ⟨b, off, cap, h1, h2, h3⟩
  · exact Or.inl h
  · exact Or.inr ⟨b, off, cap, h1, by omega, h3⟩
end Go.Proofs.Ytkleaedfpgaohaa
