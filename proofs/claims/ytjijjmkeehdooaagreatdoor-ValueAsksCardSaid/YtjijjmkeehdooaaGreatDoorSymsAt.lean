/-
  SLICES OF INTS THAT LIE IN MEMORY AS A LIST.
-/
import Derived.Test.YtjijjmkeehdooaaGreatDoorChecked
import Derived.WalkKit
import Derived.WalkSpells
import Derived.WalkLawsBesides
import Derived.LoopTactic
import Derived.Lib.Hide
namespace Go.Proofs.YtjijjmkeehdooaaGreatDoor
open Go.RowKit

/-- THE VALUE v IS A SLICE THAT HOLDS THE NUMBERS xs, in a block below B. -/
def SymsAt (B : Nat) (w : World) (v : Value) (xs : List Int) : Prop :=
  (∃ a cap, v = .slice a 0 cap ∧ xs = []) ∨
  ∃ b off cap, v = .slice (some ⟨b, off, none⟩) xs.length cap ∧ b < B ∧ ∀ i, i < xs.length → w.cell? ⟨b, off + i, none⟩ = some (.int .i64 (xs.getD i 0))
theorem SymsAt.below {B : Nat} {w w' : World} {v : Value} {xs : List Int} (h : SymsAt B w v xs) (hb : Below B w w') : SymsAt B w' v xs := by
  rcases h with h | ⟨b, off, cap, h1, h2, h3⟩
  · exact Or.inl h
  · exact Or.inr ⟨b, off, cap, h1, h2, fun i hi => by rw [hb.cell (p := ⟨b, off + i, none⟩) h2]; exact h3 i hi⟩
theorem SymsAt.mono {B B' : Nat} {w : World} {v : Value} {xs : List Int} (h : SymsAt B w v xs) (hB : B ≤ B') : SymsAt B' w v xs := by
  rcases h with h | ⟨b, off, cap, h1, h2, h3⟩
  · exact Or.inl h
  · exact Or.inr ⟨b, off, cap, h1, by omega, h3⟩
/-- a row of numbers, with its capacity -/
def SymOK (w : World) (v : Value) (xs : List Int) : Prop := SymsAt w.heap.size w v xs ∧ ∃ a cap, v = .slice a xs.length cap ∧ xs.length ≤ cap
theorem SymOK.below {w w' : World} {v : Value} {xs : List Int} (h : SymOK w v xs) (hb : Below w.heap.size w w') : SymOK w' v xs := ⟨(h.1.below hb).mono hb.size, h.2⟩
theorem symOK_none (w : World) : SymOK w (.slice none 0 0) [] := ⟨Or.inl ⟨none, 0, rfl, rfl⟩, none, 0, rfl, Nat.le_refl _⟩
theorem symOK_alloc (w : World) (C : Array Value) (fr : Nat × Nat) (xs : List Int) (n cap : Nat) (hC : C.toList = xs.map (Value.int .i64)) (hn : n = xs.length) (hcap : n ≤ cap) :
    SymOK (w.alloc (.cells C 3 fr)) (.slice (some ⟨w.heap.size, 0, none⟩) n cap) xs := by
  refine ⟨Or.inr ⟨w.heap.size, 0, cap, by rw [hn], ?_, fun i hi => ?_⟩, _, cap, by rw [hn], by omega⟩
  · show w.heap.size < (w.heap.push _).size
    rw [Array.size_push]; omega
  · have e : (w.alloc (.cells C 3 fr)).heap[w.heap.size]? = some (.cells C 3 fr) := by
      show (w.heap.push (Obj.cells C 3 fr))[w.heap.size]? = _
      rw [Array.getElem?_push_size]
    rw [Nat.zero_add]
    have e2 : C[i]? = some (.int .i64 (xs.getD i 0)) := by
      rw [← Array.getElem?_toList, hC, List.getElem?_map, List.getElem?_eq_getElem hi]
      simp [List.getD, List.getElem?_eq_getElem hi]
    unfold World.cell?
    simp only [e]
    exact e2
/-- where its numbers lie -/
theorem SymOK.cell {w : World} {a : Option Addr} {n cap : Nat} {xs : List Int} (h : SymOK w (.slice a n cap) xs) (k : Nat) (hk : k < xs.length) :
    ∃ g off, a = some ⟨g, off, none⟩ ∧ g < w.heap.size ∧ ∀ i, i < xs.length → w.cell? ⟨g, off + i, none⟩ = some (.int .i64 (xs.getD i 0)) := by
  rcases h.1 with ⟨a', cap', e, rfl⟩ | ⟨b, off, cap', e, hb, hc⟩
  · cases hk
  · injection e with e1 e2 e3
    exact ⟨b, off, e1, hb, hc⟩
end Go.Proofs.YtjijjmkeehdooaaGreatDoor
