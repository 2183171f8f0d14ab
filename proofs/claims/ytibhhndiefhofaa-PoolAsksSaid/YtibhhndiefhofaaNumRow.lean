/-
  SLICES OF uint64S THAT LIE IN MEMORY AS A LIST.
-/
import Derived.Test.YtibhhndiefhofaaIntLaws
import Derived.Test.YtibhhndiefhofaaBitNum
import Derived.WalkKit
import Derived.WalkSpells
import Derived.WalkLawsBesides
import Derived.LoopTactic
import Derived.Lib.Hide
namespace Go.Proofs.Ytibhhndiefhofaa
open Go.RowKit

/-- THE VALUE v IS A SLICE THAT HOLDS THE NUMBERS zs (of kind k), in a block below B. -/
def NumsAt (k : IntKind) (B : Nat) (w : World) (v : Value) (zs : List Nat) : Prop :=
  (∃ a cap, v = .slice a 0 cap ∧ zs = []) ∨
  ∃ b off cap, v = .slice (some ⟨b, off, none⟩) zs.length cap ∧ b < B ∧ ∀ i, i < zs.length → w.cell? ⟨b, off + i, none⟩ = some (.int k (zs.getD i 0))
theorem NumsAt.below {k : IntKind} {B : Nat} {w w' : World} {v : Value} {zs : List Nat} (h : NumsAt k B w v zs) (hb : Below B w w') : NumsAt k B w' v zs := by
  rcases h with h | ⟨b, off, cap, h1, h2, h3⟩
  · exact Or.inl h
  · exact Or.inr ⟨b, off, cap, h1, h2, fun i hi => by rw [hb.cell (p := ⟨b, off + i, none⟩) h2]; exact h3 i hi⟩
theorem widest_step (zs : List Nat) (k z : Nat) (h : k < zs.length) (hz : zs.getD k 0 = z) : widestTo zs (k + 1) = max (widestTo zs k) (widthN z) := by
  have e : zs[k]'h = z := by rw [← hz]; simp [List.getD, List.getElem?_eq_getElem h]
  unfold widestTo
  rw [List.take_succ_eq_append_getElem h, widestN_append, e]
  simp only [widestN]
  omega
theorem widest_le : ∀ (zs : List Nat), (∀ z ∈ zs, z ≤ 18446744073709551615) → widestN zs ≤ 64
  | [], _ => by simp [widestN]
  | z :: t, h => by
    have h1 := widthN_64 z (h z (by simp))
    have h2 := widest_le t (fun x hx => h x (by simp [hx]))
    simp only [widestN]
    omega
/-- a slice of uint64s, with its capacity -/
def NumOK (w : World) (v : Value) (zs : List Nat) : Prop := NumsAt .u64 w.heap.size w v zs ∧ (∃ a cap, v = .slice a zs.length cap ∧ zs.length ≤ cap) ∧ ∀ z ∈ zs, z ≤ 18446744073709551615
/-- the number of place k, if there is one -/
def getZ (zs : List Nat) (k : Int) : Nat := if 0 ≤ k ∧ k < zs.length then zs.getD k.toNat 0 else 0
def getE (zs : List Nat) (k : Int) : Int := if 0 ≤ k ∧ k < zs.length then 0 else 4
theorem numOK_none (w : World) : NumOK w (.slice none 0 0) [] := ⟨Or.inl ⟨none, 0, rfl, rfl⟩, ⟨none, 0, rfl, Nat.le_refl _⟩, fun z hz => by cases hz⟩
theorem numOK_alloc (w : World) (C : Array Value) (fr : Nat × Nat) (zs : List Nat) (n cap : Nat) (hC : C.toList = zs.map fun (z : Nat) => Value.int .u64 (z : Int)) (hn : n = zs.length) (hcap : n ≤ cap) (hz : ∀ z ∈ zs, z ≤ 18446744073709551615) :
    NumOK (w.alloc (.cells C 82 fr)) (.slice (some ⟨w.heap.size, 0, none⟩) n cap) zs := by
  refine ⟨Or.inr ⟨w.heap.size, 0, cap, by rw [hn], ?_, fun i hi => ?_⟩, ⟨_, cap, by rw [hn], by omega⟩, hz⟩
  · show w.heap.size < (w.heap.push _).size
    rw [Array.size_push]; omega
  · have e : (w.alloc (.cells C 82 fr)).heap[w.heap.size]? = some (.cells C 82 fr) := by
      show (w.heap.push (Obj.cells C 82 fr))[w.heap.size]? = _
      rw [Array.getElem?_push_size]
    rw [Nat.zero_add]
    have e2 : C[i]? = some (.int .u64 (zs.getD i 0)) := by
      rw [← Array.getElem?_toList, hC, List.getElem?_map, List.getElem?_eq_getElem hi]
      simp [List.getD, List.getElem?_eq_getElem hi]
    unfold World.cell?
    simp only [e]
    exact e2
theorem NumOK.below {w w' : World} {v : Value} {zs : List Nat} (h : NumOK w v zs) (hb : Below w.heap.size w w') : NumOK w' v zs := by
  refine ⟨?_, h.2.1, h.2.2⟩
  rcases h.1.below hb with h1 | ⟨b, off, cap, h1, h2, h3⟩
  · exact Or.inl h1
  · exact Or.inr ⟨b, off, cap, h1, Nat.lt_of_lt_of_le h2 hb.size, h3⟩
theorem getZ_at (zs : List Nat) (i : Nat) (h : i < zs.length) : getZ zs (i : Int) = zs.getD i 0 := by
  unfold getZ
  rw [if_pos (by omega), Int.toNat_natCast]
theorem getE_at (zs : List Nat) (i : Nat) (h : i < zs.length) : getE zs (i : Int) = 0 := by
  unfold getE
  rw [if_pos (by omega)]
theorem getZ_out (zs : List Nat) (k : Int) (h : ¬ (0 ≤ k ∧ k < zs.length)) : getZ zs k = 0 := by unfold getZ; rw [if_neg h]
theorem getE_out (zs : List Nat) (k : Int) (h : ¬ (0 ≤ k ∧ k < zs.length)) : getE zs k = 4 := by unfold getE; rw [if_neg h]
theorem getE_in (zs : List Nat) (k : Int) (h : 0 ≤ k ∧ k < zs.length) : getE zs k = 0 := by unfold getE; rw [if_pos h]
theorem numOK_shape {w : World} {v : Value} {zs : List Nat} (h : NumOK w v zs) : ∃ a cap, v = .slice a zs.length cap ∧ zs.length ≤ cap := h.2.1
theorem numOK_cell {w : World} {a : Option Addr} {n cap : Nat} {zs : List Nat} (h : NumOK w (.slice a n cap) zs) (i : Nat) (hi : i < zs.length) : ∃ b off, a = some ⟨b, off, none⟩ ∧ b < w.heap.size ∧ w.cell? ⟨b, off + i, none⟩ = some (.int .u64 (zs.getD i 0)) := by
  rcases h.1 with ⟨a', cap', e, rfl⟩ | ⟨b, off, cap', e, hb, hc⟩
  · cases hi
  · injection e with e1 e2 e3
    exact ⟨b, off, e1, hb, hc i hi⟩
end Go.Proofs.Ytibhhndiefhofaa
