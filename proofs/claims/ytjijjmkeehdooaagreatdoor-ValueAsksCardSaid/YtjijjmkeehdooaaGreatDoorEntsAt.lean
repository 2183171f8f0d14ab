/-
  WHERE WHAT A DOCUMENT TYPE DECLARES LIES IN MEMORY.
-/
import Derived.Test.YtjijjmkeehdooaaGreatDoorEntD
import Derived.WalkKit
import Derived.WalkSpells
import Derived.WalkLawsBesides
import Derived.LoopTactic
import Derived.Lib.Hide
import Derived.Below
import Derived.Deep.OwnRows
import Derived.Laws.AppendOwn
namespace Go.Proofs.YtjijjmkeehdooaaGreatDoor
open Go.RowKit

def entI (l : List EntD) (i : Nat) : EntD := l.getD i ⟨[], [], false⟩
def attI (l : List AttD) (i : Nat) : AttD := l.getD i ⟨[], [], 0, false, []⟩
/-- THE VALUE v IS A SLICE OF THE ENTITIES l, in a block below B. -/
def EntsAt (B : Nat) (w : World) (v : Value) (l : List EntD) : Prop :=
  (∃ a cap, v = .slice a 0 cap ∧ l = []) ∨
  ∃ b off cap, v = .slice (some ⟨b, off, none⟩) l.length cap ∧ b < B ∧ ∀ i, i < l.length →
    w.cell? ⟨b, off + i * 3, none⟩ = some (.string (bytes (entI l i).name)) ∧ w.cell? ⟨b, off + i * 3 + 1, none⟩ = some (.string (bytes (entI l i).value)) ∧ w.cell? ⟨b, off + i * 3 + 2, none⟩ = some (.bool (entI l i).ext)
/-- THE VALUE v IS A SLICE OF THE ATTRIBUTES l, in a block below B. -/
def AttdAt (B : Nat) (w : World) (v : Value) (l : List AttD) : Prop :=
  (∃ a cap, v = .slice a 0 cap ∧ l = []) ∨
  ∃ b off cap, v = .slice (some ⟨b, off, none⟩) l.length cap ∧ b < B ∧ ∀ i, i < l.length →
    w.cell? ⟨b, off + i * 5, none⟩ = some (.string (bytes (attI l i).elem)) ∧ w.cell? ⟨b, off + i * 5 + 1, none⟩ = some (.string (bytes (attI l i).name)) ∧ w.cell? ⟨b, off + i * 5 + 2, none⟩ = some (.int .i64 ((attI l i).type : Int)) ∧
    w.cell? ⟨b, off + i * 5 + 3, none⟩ = some (.bool (attI l i).has) ∧ w.cell? ⟨b, off + i * 5 + 4, none⟩ = some (.string (bytes (attI l i).value))
/-- THE VALUE v IS WHAT IS DECLARED: d. -/
def DeclsAt (B : Nat) (w : World) (v : Value) (d : DeclD) : Prop := ∃ s1 s2, v = .agg #[.string (bytes d.name), s1, s2] ∧ EntsAt B w s1 d.ents ∧ AttdAt B w s2 d.atts
theorem EntsAt.below {B : Nat} {w w' : World} {v : Value} {l : List EntD} (h : EntsAt B w v l) (hb : Below B w w') : EntsAt B w' v l := by
  rcases h with h | ⟨b, off, cap, h1, h2, h3⟩
  · exact Or.inl h
  · exact Or.inr ⟨b, off, cap, h1, h2, fun i hi => ⟨(hb.cell (p := ⟨b, off + i * 3, none⟩) h2).trans (h3 i hi).1, (hb.cell (p := ⟨b, off + i * 3 + 1, none⟩) h2).trans (h3 i hi).2.1, (hb.cell (p := ⟨b, off + i * 3 + 2, none⟩) h2).trans (h3 i hi).2.2⟩⟩
theorem EntsAt.mono {B B' : Nat} {w : World} {v : Value} {l : List EntD} (h : EntsAt B w v l) (hB : B ≤ B') : EntsAt B' w v l := by
  rcases h with h | ⟨b, off, cap, h1, h2, h3⟩
  · exact Or.inl h
  · exact Or.inr ⟨b, off, cap, h1, Nat.lt_of_lt_of_le h2 hB, h3⟩
theorem AttdAt.below {B : Nat} {w w' : World} {v : Value} {l : List AttD} (h : AttdAt B w v l) (hb : Below B w w') : AttdAt B w' v l := by
  rcases h with h | ⟨b, off, cap, h1, h2, h3⟩
  · exact Or.inl h
  · exact Or.inr ⟨b, off, cap, h1, h2, fun i hi => ⟨(hb.cell (p := ⟨b, off + i * 5, none⟩) h2).trans (h3 i hi).1, (hb.cell (p := ⟨b, off + i * 5 + 1, none⟩) h2).trans (h3 i hi).2.1, (hb.cell (p := ⟨b, off + i * 5 + 2, none⟩) h2).trans (h3 i hi).2.2.1, (hb.cell (p := ⟨b, off + i * 5 + 3, none⟩) h2).trans (h3 i hi).2.2.2.1, (hb.cell (p := ⟨b, off + i * 5 + 4, none⟩) h2).trans (h3 i hi).2.2.2.2⟩⟩

/-- where entities lie -/
theorem EntsAt.cell {B : Nat} {w : World} {a : Option Addr} {m cap : Nat} {l : List EntD} (h : EntsAt B w (.slice a m cap) l) (hl : 0 < l.length) :
    ∃ b off, a = some ⟨b, off, none⟩ ∧ b < B ∧ ∀ i, i < l.length → w.cell? ⟨b, off + i * 3, none⟩ = some (.string (bytes (entI l i).name)) ∧ w.cell? ⟨b, off + i * 3 + 1, none⟩ = some (.string (bytes (entI l i).value)) ∧ w.cell? ⟨b, off + i * 3 + 2, none⟩ = some (.bool (entI l i).ext) := by
  rcases h with ⟨_, _, _, h0⟩ | ⟨b, off, cap', e, hb, hc⟩
  · rw [h0] at hl; simp at hl
  · injection e with e1 _ _
    exact ⟨b, off, e1, hb, hc⟩
theorem AttdAt.cell {B : Nat} {w : World} {a : Option Addr} {m cap : Nat} {l : List AttD} (h : AttdAt B w (.slice a m cap) l) (hl : 0 < l.length) :
    ∃ b off, a = some ⟨b, off, none⟩ ∧ b < B ∧ ∀ i, i < l.length → w.cell? ⟨b, off + i * 5, none⟩ = some (.string (bytes (attI l i).elem)) ∧ w.cell? ⟨b, off + i * 5 + 1, none⟩ = some (.string (bytes (attI l i).name)) ∧ w.cell? ⟨b, off + i * 5 + 2, none⟩ = some (.int .i64 ((attI l i).type : Int)) ∧
      w.cell? ⟨b, off + i * 5 + 3, none⟩ = some (.bool (attI l i).has) ∧ w.cell? ⟨b, off + i * 5 + 4, none⟩ = some (.string (bytes (attI l i).value)) := by
  rcases h with ⟨_, _, _, h0⟩ | ⟨b, off, cap', e, hb, hc⟩
  · rw [h0] at hl; simp at hl
  · injection e with e1 _ _
    exact ⟨b, off, e1, hb, hc⟩
/-- what is declared, in a new box -/
theorem box_decls (w : World) (v0 v1 v2 : Value) (t : TypeId) : ∀ W, Below (w.alloc (.cells #[v0, v1, v2] t)).heap.size (w.alloc (.cells #[v0, v1, v2] t)) W →
    W.cell? ⟨w.heap.size, 0, none⟩ = some v0 ∧ W.cell? ⟨w.heap.size, 1, none⟩ = some v1 ∧ W.cell? ⟨w.heap.size, 2, none⟩ = some v2 := by
  intro W hb
  have hr := World.rowIs_alloc w #[v0, v1, v2] t (fun i => if i = 0 then v0 else if i = 1 then v1 else v2) (by
    intro i hi
    rcases (show i = 0 ∨ i = 1 ∨ i = 2 by have : i < 3 := hi; omega) with rfl | rfl | rfl <;> rfl)
  have hr2 := hr.of_block (hb.block _ hr.lt)
  exact ⟨hr2.cell (i := 0) (by show 0 < 3; decide), hr2.cell (i := 1) (by show 1 < 3; decide), hr2.cell (i := 2) (by show 2 < 3; decide)⟩
def flatE (l : List EntD) : List Value := l.flatMap fun e => [.string (bytes e.name), .string (bytes e.value), .bool e.ext]
theorem flatE_get : ∀ (E : List EntD) (i : Nat), i < E.length → (flatE E)[i * 3]? = some (.string (bytes (entI E i).name)) ∧ (flatE E)[i * 3 + 1]? = some (.string (bytes (entI E i).value)) ∧ (flatE E)[i * 3 + 2]? = some (.bool (entI E i).ext)
  | [], _, h => absurd h (Nat.not_lt_zero _)
  | e :: E, 0, _ => ⟨rfl, rfl, rfl⟩
  | e :: E, i + 1, h => by
    have := flatE_get E i (Nat.lt_of_succ_lt_succ h)
    have e0 : flatE (e :: E) = .string (bytes e.name) :: .string (bytes e.value) :: .bool e.ext :: flatE E := rfl
    rw [e0, show (i + 1) * 3 = i * 3 + 1 + 1 + 1 by omega]
    exact this
theorem flatE_len (E : List EntD) : (flatE E).length = E.length * 3 := by
  induction E with
  | nil => rfl
  | cons e E ih =>
    show (flatE E).length + 1 + 1 + 1 = (E.length + 1) * 3
    omega
theorem owns_ents {w : World} {B : Nat} {v : Value} {E : List EntD} (h : w.ownsRow B 26 3 v E.length (flatE E)) : EntsAt w.heap.size w v E := by
  rcases h.2 with ⟨rfl, h0⟩ | ⟨g, cap, cur, rfl, _, hg, _, _, _, h4⟩
  · exact Or.inl ⟨none, 0, rfl, List.eq_nil_of_length_eq_zero h0⟩
  · refine Or.inr ⟨g, 0, cap, rfl, (Array.getElem?_eq_some_iff.1 hg).1, fun i hi => ?_⟩
    obtain ⟨v1, v2, v3⟩ := flatE_get E i hi
    rw [← h4, List.getElem?_take, if_pos (by omega)] at v1
    rw [← h4, List.getElem?_take, if_pos (by omega)] at v2
    rw [← h4, List.getElem?_take, if_pos (by omega)] at v3
    rw [Array.getElem?_toList] at v1 v2 v3
    rw [Nat.zero_add]
    exact ⟨by simp [World.cell?, hg, v1], by simp [World.cell?, hg, v2], by simp [World.cell?, hg, v3]⟩
theorem info_ent : (Tryz.prog.info? 26).map (fun i => (i.zero, i.size, i.bytes)) = some (some (.agg #[.string ⟨#[]⟩, .string ⟨#[]⟩, .bool false]), 3, 40) := by kernel_rfl
theorem ent_new (w : World) (x y z : Value) (t : TypeId) : (w.alloc (.cells #[x, y, z] t)).heap[w.heap.size]? = some (.cells #[x, y, z] t (0, 0)) := by
  show (w.heap.push _)[w.heap.size]? = _
  rw [Array.getElem?_push_size]
/-- entities in a new block -/
theorem ents_made (w : World) (C : Array Value) (t : TypeId) (l : List EntD) (n cap : Nat) (hC : C.toList = flatE l) (hn : n = l.length) : EntsAt (w.alloc (.cells C t)).heap.size (w.alloc (.cells C t)) (.slice (some ⟨w.heap.size, 0, none⟩) n cap) l := by
  subst hn
  have e : (w.alloc (.cells C t)).heap[w.heap.size]? = some (.cells C t (0, 0)) := by
    show (w.heap.push (Obj.cells C t (0, 0)))[w.heap.size]? = _
    rw [Array.getElem?_push_size]
  refine Or.inr ⟨w.heap.size, 0, cap, rfl, ?_, fun i hi => ?_⟩
  · show w.heap.size < (w.heap.push _).size
    rw [Array.size_push]; omega
  · obtain ⟨v1, v2, v3⟩ := flatE_get l i hi
    rw [← hC, Array.getElem?_toList] at v1 v2 v3
    rw [Nat.zero_add]
    refine ⟨?_, ?_, ?_⟩ <;> unfold World.cell? <;> simp only [e]
    · exact v1
    · exact v2
    · exact v3
end Go.Proofs.YtjijjmkeehdooaaGreatDoor
