/-
  A VARIABLE OF WHAT IS DECLARED (api.Decls), whose entities grow: its box (DecAt), the row of entities that it leads to.
-/
import Derived.Test.YtjijjmkeehdooaaGreatDoorRefsNm
import Derived.Deep.AppendLies
namespace Go.Proofs.YtjijjmkeehdooaaGreatDoor
open Go.RowKit

theorem info_entR : ∃ i0, Tryz.prog.info? 26 = some i0 ∧ i0.zero = some (.agg #[.string ⟨#[]⟩, .string ⟨#[]⟩, .bool false]) ∧ i0.size = 3 ∧ i0.bytes = 40 := by
  obtain ⟨i0, hi, hz⟩ := Option.map_eq_some_iff.1 info_ent
  simp only [Prod.mk.injEq] at hz
  exact ⟨i0, hi, hz.1, hz.2.1, hz.2.2⟩
/-- THE BOX OF WHAT IS DECLARED: entities sl -/
def DecAt (w : World) (D : Nat) (sl : Value) : Prop := w.rowIs D 30 3 (fun i => if i = 0 then .string ⟨#[]⟩ else if i = 1 then sl else .slice none 0 0)
theorem decAt_new (w : World) : DecAt (w.alloc (.cells #[.string ⟨#[]⟩, .slice none 0 0, .slice none 0 0] 30)) w.heap.size (.slice none 0 0) := World.rowIs_alloc w #[.string ⟨#[]⟩, .slice none 0 0, .slice none 0 0] 30 _ (by
  intro i hi
  rcases (show i = 0 ∨ i = 1 ∨ i = 2 by have : i < 3 := hi; omega) with rfl | rfl | rfl <;> rfl)
theorem DecAt.c0 {w : World} {D : Nat} {sl : Value} (h : DecAt w D sl) : w.cell? ⟨D, 0, none⟩ = some (.string ⟨#[]⟩) := World.rowIs.cell h (i := 0) (by decide)
theorem DecAt.c1 {w : World} {D : Nat} {sl : Value} (h : DecAt w D sl) : w.cell? ⟨D, 1, none⟩ = some sl := World.rowIs.cell h (i := 1) (by decide)
theorem DecAt.c2 {w : World} {D : Nat} {sl : Value} (h : DecAt w D sl) : w.cell? ⟨D, 2, none⟩ = some (.slice none 0 0) := World.rowIs.cell h (i := 2) (by decide)
theorem DecAt.set {w : World} {D : Nat} {sl : Value} (h : DecAt w D sl) (s2 : Value) : DecAt (w.setCell ⟨D, 1, none⟩ s2) D s2 := by
  refine (World.rowIs.set h 1 s2).congr fun i hi => ?_
  rcases (show i = 0 ∨ i = 1 ∨ i = 2 by omega) with rfl | rfl | rfl <;> rfl
theorem DecAt.block {w w' : World} {D : Nat} {sl : Value} (h : DecAt w D sl) (hb : w'.heap[D]? = w.heap[D]?) : DecAt w' D sl := World.rowIs.of_block h hb
theorem ownE_same {w w' : World} {base : Nat} {v : Value} {l : List EntD} (h : OwnE w base v l) (hb : ∀ k, v.ownBlock = some k → w'.heap[k]? = w.heap[k]?) : OwnE w' base v l := by
  refine ⟨h.1, ?_⟩
  rcases h.2 with h2 | ⟨g, cap, cur, rfl, hg, hh, h3⟩
  · exact Or.inl h2
  · exact Or.inr ⟨g, cap, cur, rfl, hg, (hb g rfl).trans hh, h3⟩
theorem ent_two (w : World) (M : Obj) (x y z : Value) (t : TypeId) : ((w.alloc M).alloc (.cells #[x, y, z] t)).heap[w.heap.size + 1]? = some (.cells #[x, y, z] t (0, 0)) := by
  have h := ent_new (w.alloc M) x y z t
  rw [show (w.alloc M).heap.size = w.heap.size + 1 by show (w.heap.push _).size = _; rw [Array.size_push]] at h
  exact h
theorem alloc_two (w : World) (M N : Obj) (k : Nat) (hk : k < w.heap.size) : ((w.alloc M).alloc N).heap[k]? = w.heap[k]? := by
  have h1 : (w.alloc M).heap[k]? = w.heap[k]? := Below.heap_alloc w _ k hk
  have h2 : ((w.alloc M).alloc N).heap[k]? = (w.alloc M).heap[k]? := Below.heap_alloc (w.alloc M) _ k (by show k < (w.heap.push _).size; rw [Array.size_push]; omega)
  exact h2.trans h1
theorem ownE_lt {w : World} {base : Nat} {v : Value} {l : List EntD} (h : OwnE w base v l) : ∀ k, v.ownBlock = some k → k < w.heap.size := by
  intro k hk
  rcases h.2 with ⟨rfl, _⟩ | ⟨g, cap, cur, rfl, _, hg, _⟩
  · cases hk
  · simp only [Value.ownBlock, Option.some.injEq] at hk
    subst hk
    exact (Array.getElem?_eq_some_iff.1 hg).1
/-- an entity more -/
theorem ownE_more {w : World} {base : Nat} {v : Value} {l : List EntD} {x t : ByteArray} (nm : List UInt8) (hx : x = bytes nm) (h : w.ownsRow base 26 3 v (l.length + 1) (flatE l ++ [.string x, .string t, .bool false])) : OwnE w base v (l ++ [⟨nm, t.data.toList, false⟩]) := by
  subst hx
  exact ownE_next ⟨nm, t.data.toList, false⟩ h
end Go.Proofs.YtjijjmkeehdooaaGreatDoor
