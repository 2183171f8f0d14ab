/-
  SLICES OF TEXTS THAT LIE IN MEMORY AS A LIST.
-/
import Derived.Test.YtjijjmkeehdooaaGreatDoorChecked
import Derived.WalkKit
import Derived.WalkSpells
import Derived.WalkLawsBesides
import Derived.LoopTactic
import Derived.OwnWalk
import Derived.Laws.OwnMore
import Derived.Lib.Hide
namespace Go.Proofs.YtjijjmkeehdooaaGreatDoor
open Go.RowKit

/-- text i of ss -/
def strAt (ss : List ByteArray) (i : Nat) : ByteArray := ss.getD i ⟨#[]⟩
/-- THE VALUE v IS A SLICE THAT HOLDS THE TEXTS ss, in a block below B. -/
def StrsAt (B : Nat) (w : World) (v : Value) (ss : List ByteArray) : Prop :=
  (∃ a cap, v = .slice a 0 cap ∧ ss = []) ∨
  ∃ b off cap, v = .slice (some ⟨b, off, none⟩) ss.length cap ∧ b < B ∧ ∀ i, i < ss.length → w.cell? ⟨b, off + i, none⟩ = some (.string (strAt ss i))
theorem StrsAt.below {B : Nat} {w w' : World} {v : Value} {ss : List ByteArray} (h : StrsAt B w v ss) (hb : Below B w w') : StrsAt B w' v ss := by
  rcases h with h | ⟨b, off, cap, h1, h2, h3⟩
  · exact Or.inl h
  · exact Or.inr ⟨b, off, cap, h1, h2, fun i hi => by rw [hb.cell (p := ⟨b, off + i, none⟩) h2]; exact h3 i hi⟩
theorem StrsAt.mono {B B' : Nat} {w : World} {v : Value} {ss : List ByteArray} (h : StrsAt B w v ss) (hB : B ≤ B') : StrsAt B' w v ss := by
  rcases h with h | ⟨b, off, cap, h1, h2, h3⟩
  · exact Or.inl h
  · exact Or.inr ⟨b, off, cap, h1, by omega, h3⟩
/-- a row of texts, with its capacity -/
def StrOK (w : World) (v : Value) (ss : List ByteArray) : Prop := StrsAt w.heap.size w v ss ∧ ∃ a cap, v = .slice a ss.length cap ∧ ss.length ≤ cap
theorem StrOK.below {w w' : World} {v : Value} {ss : List ByteArray} (h : StrOK w v ss) (hb : Below w.heap.size w w') : StrOK w' v ss := ⟨(h.1.below hb).mono hb.size, h.2⟩
theorem strOK_none (w : World) : StrOK w (.slice none 0 0) [] := ⟨Or.inl ⟨none, 0, rfl, rfl⟩, none, 0, rfl, Nat.le_refl _⟩
theorem strOK_alloc (w : World) (C : Array Value) (fr : Nat × Nat) (ss : List ByteArray) (n cap : Nat) (hC : C.toList = ss.map Value.string) (hn : n = ss.length) (hcap : n ≤ cap) :
    StrOK (w.alloc (.cells C 9 fr)) (.slice (some ⟨w.heap.size, 0, none⟩) n cap) ss := by
  refine ⟨Or.inr ⟨w.heap.size, 0, cap, by rw [hn], ?_, fun i hi => ?_⟩, _, cap, by rw [hn], by omega⟩
  · show w.heap.size < (w.heap.push _).size
    rw [Array.size_push]; omega
  · have e : (w.alloc (.cells C 9 fr)).heap[w.heap.size]? = some (.cells C 9 fr) := by
      show (w.heap.push (Obj.cells C 9 fr))[w.heap.size]? = _
      rw [Array.getElem?_push_size]
    rw [Nat.zero_add]
    have e2 : C[i]? = some (.string (strAt ss i)) := by
      rw [← Array.getElem?_toList, hC, List.getElem?_map, List.getElem?_eq_getElem hi]
      simp [strAt, List.getD, List.getElem?_eq_getElem hi]
    unfold World.cell?
    simp only [e]
    exact e2
/-- where its texts lie -/
theorem StrOK.cell {w : World} {a : Option Addr} {n cap : Nat} {ss : List ByteArray} (h : StrOK w (.slice a n cap) ss) (k : Nat) (hk : k < ss.length) :
    ∃ g off, a = some ⟨g, off, none⟩ ∧ g < w.heap.size ∧ ∀ i, i < ss.length → w.cell? ⟨g, off + i, none⟩ = some (.string (strAt ss i)) := by
  rcases h.1 with ⟨a', cap', e, rfl⟩ | ⟨b, off, cap', e, hb, hc⟩
  · cases hk
  · injection e with e1 e2 e3
    exact ⟨b, off, e1, hb, hc⟩
theorem info_str : (Tryz.prog.info? 9).map (fun i => (i.zero, i.size, i.bytes)) = some (some (.string ⟨#[]⟩), 1, 16) := by kernel_rfl
/-- the texts ss are owned -/
def OwnT (w : World) (base : Nat) (v : Value) (ss : List ByteArray) : Prop := w.ownsRow base 9 1 v ss.length (ss.map Value.string)
theorem ownT_next {w : World} {base : Nat} {v : Value} {ss : List ByteArray} (x : ByteArray) (h : w.ownsRow base 9 1 v (ss.length + 1) (ss.map Value.string ++ [.string x])) : OwnT w base v (ss ++ [x]) := by
  unfold OwnT
  rw [List.length_append, List.map_append]
  exact h
theorem ownT_block {w : World} {base : Nat} {v : Value} {ss : List ByteArray} (h : OwnT w base v ss) : ∀ k, v.ownBlock = some k → base ≤ k := by
  intro k hk
  rcases h.2 with ⟨rfl, _⟩ | ⟨g, cap, cur, rfl, hg, _⟩
  · cases hk
  · simp only [Value.ownBlock, Option.some.injEq] at hk
    omega
theorem ownT_slice {w : World} {base : Nat} {v : Value} {ss : List ByteArray} (h : OwnT w base v ss) : ∃ a cap, v = .slice a ss.length cap := by
  rcases h.2 with ⟨rfl, hl⟩ | ⟨g, cap, cur, rfl, _⟩
  · exact ⟨none, 0, by rw [hl]⟩
  · exact ⟨_, cap, rfl⟩
theorem ownT_slice1 {w : World} {base : Nat} {v : Value} {ss : List ByteArray} {x : ByteArray} (h : OwnT w base v (ss ++ [x])) : ∃ a cap, v = .slice a (ss.length + 1) cap := by
  obtain ⟨a, cap, rfl⟩ := ownT_slice h
  exact ⟨a, cap, by rw [List.length_append]; rfl⟩
theorem ownT_shape {w : World} {base : Nat} {v : Value} {ss : List ByteArray} (h : OwnT w base v ss) :
    (v = .slice none 0 0 ∧ ss = []) ∨ ∃ g cap, v = .slice (some ⟨g, 0, none⟩) ss.length cap ∧ ss.length ≤ cap ∧ base ≤ g ∧ g < w.heap.size ∧ ∀ i, i < ss.length → w.cell? ⟨g, i, none⟩ = some (.string (strAt ss i)) := by
  have h0 := h
  rcases h.2 with ⟨rfl, hl⟩ | ⟨g, cap, cur, rfl, hg, hh, hc, _⟩
  · exact Or.inl ⟨rfl, List.eq_nil_of_length_eq_zero hl⟩
  · refine Or.inr ⟨g, cap, rfl, hc, hg, (Array.getElem?_eq_some_iff.1 hh).1, fun i hi => ?_⟩
    rw [World.ownsRow.cellAt h0 i (by omega), List.getElem?_map, List.getElem?_eq_getElem hi]
    simp [strAt, List.getD, List.getElem?_eq_getElem hi]
theorem strOK_of {w : World} {base : Nat} {v : Value} {ss : List ByteArray} (h : OwnT w base v ss) : StrOK w v ss := by
  rcases ownT_shape h with ⟨rfl, rfl⟩ | ⟨g, cap, rfl, hc, _, hg, hh⟩
  · exact strOK_none w
  · exact ⟨Or.inr ⟨g, 0, cap, rfl, hg, fun i hi => by rw [Nat.zero_add]; exact hh i hi⟩, _, cap, rfl, hc⟩
end Go.Proofs.YtjijjmkeehdooaaGreatDoor
