/-
  WHAT TURNS IN SOME BLOCKS ALONE.
-/
import Derived.Test.YtnjlckgmoodkiaaChecked
import Derived.WalkKit
import Derived.Below
namespace Go.Proofs.Ytnjlckgmoodkiaa
open Go.RowKit

/-- FROM w TO w' NOTHING TURNS BUT IN BLOCKS FROM B TO BELOW T, and in new ones. -/
structure Apart (B T : Nat) (w w' : World) : Prop where
  os : w'.os = w.os
  tape : w'.tape = w.tape
  output : w'.output = w.output
  size : w.heap.size ≤ w'.heap.size
  block : ∀ k, k < w.heap.size → (k < B ∨ T ≤ k) → w'.heap[k]? = w.heap[k]?
theorem Apart.below {B T : Nat} {w w' : World} (h : Apart B T w w') (hB : B ≤ w.heap.size) : Below B w w' :=
  ⟨h.os, h.tape, h.output, h.size, fun k hk => h.block k (by omega) (Or.inl hk)⟩
theorem Apart.of_below {B T : Nat} {w w' : World} (h : Below w.heap.size w w') : Apart B T w w' :=
  ⟨h.os, h.tape, h.output, h.size, fun k hk _ => h.block k hk⟩
end Go.Proofs.Ytnjlckgmoodkiaa
