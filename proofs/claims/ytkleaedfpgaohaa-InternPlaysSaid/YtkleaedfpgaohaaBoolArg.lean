/-
  AN ARGUMENT OF BITS ([]bool), nil too.
-/
import Derived.Test.YtkleaedfpgaohaaBoolRow
import Derived.OpenShut
import Derived.Deep.Grids
namespace Go.Proofs.Ytkleaedfpgaohaa
open Go.RowKit

/-- a []bool, nil too -/
def BoolArg (w : World) (v : Value) : Prop := ∃ (a : Option Addr) (cap : Nat) (xs : List Bool), v = .slice a xs.length cap ∧ RowOK w v xs
theorem boolArg_nil (w : World) (a : Option Addr) (cap : Nat) : BoolArg w (.slice a 0 cap) :=
  ⟨a, cap, [], rfl, Or.inl ⟨a, cap, rfl, rfl⟩, a, cap, rfl, Nat.zero_le _⟩
theorem boolArg_of {w : World} {a : Addr} {len cap : Nat} {z : Nat → Bool} (hc : ∀ i, i < cap → w.cell? (a.add i) = some (.bool (z i))) (hl : len ≤ cap) : BoolArg w (.slice (some a) len cap) := by
  by_cases h0 : len = 0
  · subst h0
    exact boolArg_nil w (some a) cap
  · obtain ⟨b, off, spot⟩ := a
    have hspot : spot = none := by simpa [Addr.add] using World.cell?_spot (hc 0 (by omega))
    subst hspot
    have hcell : ∀ j, j < cap → w.cell? ⟨b, off + j, none⟩ = some (.bool (z j)) := fun j hj => by rw [← Go.WideShapes.add_plain]; exact hc j hj
    have hb : b < w.heap.size := World.block_lt_of_cell? _ _ (hcell 0 (by omega))
    have hlen : ((List.range len).map z).length = len := by simp
    have hv : Value.slice (some ⟨b, off, none⟩) len cap = .slice (some ⟨b, off, none⟩) ((List.range len).map z).length cap := by rw [hlen]
    refine ⟨_, cap, (List.range len).map z, hv, Or.inr ⟨b, off, cap, hv, hb, fun i hi => ?_⟩, _, cap, hv, by omega⟩
    rw [hlen] at hi
    rw [hcell i (by omega)]
    simp [List.getD, hi]
end Go.Proofs.Ytkleaedfpgaohaa
