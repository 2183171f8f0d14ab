/-
  THE CONTRACTS OF brackenref1's Put, Find AND NewTable.
-/
import Derived.Test.YtkleaedfpgaohaaRefTab
import Derived.Test.YtkleaedfpgaohaaTurns
import Derived.RegionTactic
import Derived.BigRegion
namespace Go.Proofs.Ytkleaedfpgaohaa
open Go.RowKit

/-- where a table lies -/
def RefF (p q : Nat) (a : Option Addr) (k : Nat) : Prop := k = p ∨ k = q ∨ ∃ g, a = some g ∧ k = g.block
/-- A TABLE OF THE REFERENCE, in the blocks of F. -/
def RefIs (F : Nat → Prop) (w : World) (v : Value) (L : List ByteArray) (P : List Nat) (n : Int) : Prop :=
  ∃ (p q : Nat) (a : Option Addr) (c : Nat), v = .pointer (some ⟨p, 0, none⟩) ∧ (∀ k, F k ↔ RefF p q a k) ∧ TabAt 0 p q a c L P n w
theorem ownT_same {w w' : World} {B : Nat} {a : Option Addr} {n c : Nat} {L : List ByteArray} (h : OwnT w B (.slice a n c) L) (hb : ∀ g, a = some g → w'.heap[g.block]? = w.heap[g.block]?) : OwnT w' B (.slice a n c) L := by
  refine ⟨h.1, ?_⟩
  rcases h.2 with hn | ⟨g, cap, cur, e, hbs, hg, rest⟩
  · exact .inl hn
  · injection e with e1 e2 e3
    exact .inr ⟨g, cap, cur, by rw [e1, e2, e3], hbs, (hb ⟨g, 0, none⟩ e1).trans hg, rest⟩
section
variable {B p q : Nat} {a : Option Addr} {c : Nat} {L : List ByteArray} {P : List Nat} {n : Int} {w w' : World}
theorem TabAt.keep (h : TabAt B p q a c L P n w) (h1 : w'.heap[p]? = w.heap[p]?) (h2 : w'.heap[q]? = w.heap[q]?) (h3 : ∀ g, a = some g → w'.heap[g.block]? = w.heap[g.block]?) : TabAt B p q a c L P n w' :=
  ⟨h.pB, h.qB, h.pq, h.ga, h.row.of_block h1, ownT_same h.own h3, h.places.of_block h2⟩
theorem TabAt.drewN (h : TabAt B p q a c L P n w) (k : Nat) : TabAt B p q a c L P n (w.drewN k) := h.keep rfl rfl fun _ _ => rfl
theorem TabAt.below (h : TabAt B p q a c L P n w) (hb : Below w.heap.size w w') : TabAt B p q a c L P n w' :=
  h.keep (hb.block p h.row.lt) (hb.block q h.places.lt) fun g hg => hb.block g.block (by
    subst hg
    have := h.own.lt g.block rfl
    omega)
theorem TabAt.c0 (h : TabAt B p q a c L P n w) : w.cell? ⟨p, 0, none⟩ = some (.slice a L.length c) := h.row.cell (i := 0) (by decide)
theorem TabAt.c1 (h : TabAt B p q a c L P n w) : w.cell? ⟨p, 1, none⟩ = some (.slice (some ⟨q, 0, none⟩) P.length P.length) := h.row.cell (i := 1) (by decide)
theorem TabAt.c2 (h : TabAt B p q a c L P n w) : w.cell? ⟨p, 2, none⟩ = some (.int .i64 n) := h.row.cell (i := 2) (by decide)
/-- how many were looked at is stored -/
theorem TabAt.looked (h : TabAt B p q a c L P n w) (m : Int) : TabAt B p q a c L P m (w.setCell ⟨p, 2, none⟩ (.int .i64 m)) := by
  refine ⟨h.pB, h.qB, h.pq, h.ga, (World.rowIs.set h.row 2 _).congr fun i hi => ?_, ownT_same h.own fun g hg => Below.heap_setCell _ _ _ _ (h.ga g hg).1, h.places.setOther (a := ⟨p, 2, none⟩) (fun e => h.pq e.symm) _⟩
  rcases (show i = 0 ∨ i = 1 ∨ i = 2 by omega) with rfl | rfl | rfl <;> rfl
/-- a place is taken -/
theorem TabAt.placed (h : TabAt B p q a c L P n w) (k x : Nat) (hk : k < P.length) : TabAt B p q a c L (P.set k x) n (w.setCell ⟨q, k, none⟩ (.int .i64 (x : Int))) := by
  refine ⟨h.pB, h.qB, h.pq, h.ga, ?_, ownT_same h.own fun g hg => Below.heap_setCell _ _ _ _ (h.ga g hg).2, ?_⟩
  · rw [List.length_set]
    exact h.row.setOther (a := ⟨q, k, none⟩) h.pq _
  · rw [List.length_set]
    refine (World.rowIs.set h.places k _).congr fun i _ => ?_
    rw [val_set P k i x hk]
    split <;> rfl
/-- one text more is owned, and stored -/
theorem TabAt.added (h : TabAt B p q a c L P n w) (s : ByteArray) (C : Array Value) (t : TypeId) (a2 : Option Addr) (c2 : Nat) (w2 : World) (hg : (w.alloc (.cells C t)).grownBy w2 (Value.slice a L.length c).ownBlock)
    (ho : w2.ownsRow B 9 1 (.slice a2 (L.length + 1) c2) (L.length + 1) (L.map Value.string ++ [.string s])) :
    TabAt B p q a2 c2 (L ++ [s]) P n (w2.setCell ⟨p, 0, none⟩ (.slice a2 (L.length + 1) c2)) := by
  have hsz : w.heap.size ≤ (w.alloc (.cells C t)).heap.size := by show _ ≤ (w.heap.push _).size; rw [Array.size_push]; omega
  have hblk : ∀ k, k < w.heap.size → (∀ g, a = some g → g.block ≠ k) → w2.heap[k]? = w.heap[k]? := fun k hk hne =>
    (hg.block k (by omega) (fun e => by
      cases a with
      | none => cases e
      | some g => injection e with e; exact hne g rfl e.symm)).trans (Below.heap_alloc w _ k hk)
  have hp2 := h.row.of_block (hblk p h.row.lt fun g hg => (h.ga g hg).1)
  have hq2 := h.places.of_block (hblk q h.places.lt fun g hg => (h.ga g hg).2)
  have hne : ∀ g, a2 = some g → g.block ≠ p ∧ g.block ≠ q := by
    intro g hga
    rcases ho.2 with ⟨e, _⟩ | ⟨g', cap, cur, e, _, hgg, _⟩
    · cases e
    · injection e with e1 e2 e3
      rw [hga] at e1
      injection e1 with e1
      subst e1
      refine ⟨fun e => ?_, fun e => ?_⟩
      · obtain ⟨cc, hcc, _⟩ := hp2
        rw [← e, hgg] at hcc
        injection hcc with hcc
        injection hcc with _ h2 _
        exact absurd h2 (by decide)
      · obtain ⟨cc, hcc, _⟩ := hq2
        rw [← e, hgg] at hcc
        injection hcc with hcc
        injection hcc with _ h2 _
        exact absurd h2 (by decide)
  refine ⟨h.pB, h.qB, h.pq, hne, ?_, ?_, hq2.setOther (a := ⟨p, 0, none⟩) (fun e => h.pq e.symm) _⟩
  · refine (World.rowIs.set hp2 0 _).congr fun i hi => ?_
    rcases (show i = 0 ∨ i = 1 ∨ i = 2 by omega) with rfl | rfl | rfl
    · show Value.slice a2 (L.length + 1) c2 = Value.slice a2 (L ++ [s]).length c2
      rw [List.length_append]; rfl
    · rfl
    · rfl
  · have e : OwnT w2 B (.slice a2 (L.length + 1) c2) (L ++ [s]) := ownT_next s ho
    have e2 := ownT_same e (w' := w2.setCell ⟨p, 0, none⟩ (.slice a2 (L.length + 1) c2)) fun g hg => Below.heap_setCell _ _ _ _ (hne g hg).1
    rw [List.length_append]
    exact e2
/-- the places are made anew, all of them empty -/
theorem TabAt.anew (h : TabAt B p q a c L P n w) (hB : B ≤ w.heap.size) (m : Nat) :
    TabAt B p w.heap.size a c L (List.replicate m 0) n ((w.alloc (.cells (madeCells #[.int .i64 0] m) 3)).setCell ⟨p, 1, none⟩ (.slice (some ⟨w.heap.size, 0, none⟩) m m)) := by
  have hb := (Below.refl w.heap.size w).alloc (Nat.le_refl _) (.cells (madeCells #[.int .i64 0] m) 3)
  have h1 := h.below hb
  have hpl := h.row.lt
  have hne : ∀ g, a = some g → g.block ≠ w.heap.size := fun g hg => by
    subst hg
    have := h.own.lt g.block rfl
    omega
  refine ⟨h.pB, hB, by omega, fun g hg => ⟨(h.ga g hg).1, hne g hg⟩, ?_, ownT_same h1.own fun g hg => Below.heap_setCell _ _ _ _ (h.ga g hg).1, ?_⟩
  · refine (World.rowIs.set h1.row 1 _).congr fun i hi => ?_
    rw [List.length_replicate]
    rcases (show i = 0 ∨ i = 1 ∨ i = 2 by omega) with rfl | rfl | rfl <;> rfl
  · rw [List.length_replicate]
    refine ((World.rowIs_made w (.int .i64 0) m 3).setOther (a := ⟨p, 1, none⟩) (show w.heap.size ≠ p by omega) _).congr fun i hi => ?_
    simp [valAt, List.getD, hi]
end
end Go.Proofs.Ytkleaedfpgaohaa
