/-
  A ROW OF BOOLS, WITH ITS CAPACITY, as an argument of a call.
-/
import Derived.Test.YtkleaedfpgaohaaOwnBools
import Derived.Test.YtkleaedfpgaohaaBitNum
namespace Go.Proofs.Ytkleaedfpgaohaa
open Go.RowKit

/-- the bit of place k, if there is one -/
def getB (xs : List Bool) (k : Int) : Bool := if 0 ≤ k ∧ k < xs.length then xs.getD k.toNat false else false
def getC (xs : List Bool) (k : Int) : Int := if 0 ≤ k ∧ k < xs.length then 0 else 4
/-- a row of bits, with its capacity -/
def RowOK (w : World) (v : Value) (xs : List Bool) : Prop := BoolsAt w.heap.size w v xs ∧ ∃ a cap, v = .slice a xs.length cap ∧ xs.length ≤ cap
theorem rowOK_of {w : World} {base : Nat} {v : Value} {xs : List Bool} (h : OwnS w base v xs) : RowOK w v xs := by
  refine ⟨ownS_at h, ?_⟩
  rcases h.2 with ⟨rfl, hl⟩ | ⟨g, cap, cur, rfl, _, _, hc, _⟩
  · exact ⟨none, 0, by rw [hl], by omega⟩
  · exact ⟨_, cap, rfl, hc⟩
theorem boolsAt_alloc (w : World) (C : Array Value) (fr : Nat × Nat) (xs : List Bool) (n cap : Nat) (hC : C.toList = xs.map Value.bool) (hn : n = xs.length) (hcap : n ≤ cap) :
    RowOK (w.alloc (.cells C 4 fr)) (.slice (some ⟨w.heap.size, 0, none⟩) n cap) xs := by
  refine ⟨Or.inr ⟨w.heap.size, 0, cap, by rw [hn], ?_, fun i hi => ?_⟩, _, cap, by rw [hn], by omega⟩
  · show w.heap.size < (w.heap.push _).size
    rw [Array.size_push]; omega
  · have e : (w.alloc (.cells C 4 fr)).heap[w.heap.size]? = some (.cells C 4 fr) := by
      show (w.heap.push (Obj.cells C 4 fr))[w.heap.size]? = _
      rw [Array.getElem?_push_size]
    rw [Nat.zero_add]
    have e2 : C[i]? = some (.bool (xs.getD i false)) := by
      rw [← Array.getElem?_toList, hC, List.getElem?_map, List.getElem?_eq_getElem hi]
      simp [List.getD, List.getElem?_eq_getElem hi]
    unfold World.cell?
    simp only [e]
    exact e2
end Go.Proofs.Ytkleaedfpgaohaa
