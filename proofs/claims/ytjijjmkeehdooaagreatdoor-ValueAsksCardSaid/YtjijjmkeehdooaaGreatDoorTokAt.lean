/-
  LAYER 10: where a piece, its attributes, a row of pieces lie (AttsAt, TokAt, ToksAt).
-/
import Derived.Test.YtjijjmkeehdooaaGreatDoorTokRead
import Derived.Test.YtjijjmkeehdooaaGreatDoorChecked
import Derived.WalkKit
import Derived.WalkSpells
import Derived.WalkLawsBesides
import Derived.LoopTactic
import Derived.Lib.Hide
import Derived.Below
import Derived.Deep.OwnRows
namespace Go.Proofs.YtjijjmkeehdooaaGreatDoor
open Go.RowKit

def Fits10 (k : Int) : Prop := -9223372036854775808 ≤ k ∧ k ≤ 9223372036854775807
def att (l : List (ByteArray × ByteArray)) (i : Nat) : ByteArray × ByteArray := l.getD i (⟨#[]⟩, ⟨#[]⟩)
/-- THE VALUE v IS A SLICE OF THE ATTRIBUTES l (a name and a value each), in a block below B. -/
def AttsAt (B : Nat) (w : World) (v : Value) (l : List (ByteArray × ByteArray)) : Prop :=
  (∃ a cap, v = .slice a 0 cap ∧ l = []) ∨
  ∃ b off cap, v = .slice (some ⟨b, off, none⟩) l.length cap ∧ b < B ∧ ∀ i, i < l.length → w.cell? ⟨b, off + i * 2, none⟩ = some (.string (att l i).1) ∧ w.cell? ⟨b, off + i * 2 + 1, none⟩ = some (.string (att l i).2)
/-- THE VALUE v IS THE PIECE t. -/
def TokAt (B : Nat) (w : World) (v : Value) (t : Tok) : Prop := ∃ sl, v = .agg #[.int .i64 t.kind, .string t.name, .string t.text, sl, .bool t.empty] ∧ AttsAt B w sl t.attrs
def tokI (l : List Tok) (i : Nat) : Tok := l.getD i tok0
/-- THE VALUE v IS A SLICE OF THE PIECES l. -/
def ToksAt (B : Nat) (w : World) (v : Value) (l : List Tok) : Prop :=
  (∃ a cap, v = .slice a 0 cap ∧ l = []) ∨
  ∃ b off cap, v = .slice (some ⟨b, off, none⟩) l.length cap ∧ b < B ∧ ∀ i, i < l.length → ∃ sl,
    w.cell? ⟨b, off + i * 5, none⟩ = some (.int .i64 (tokI l i).kind) ∧ w.cell? ⟨b, off + i * 5 + 1, none⟩ = some (.string (tokI l i).name) ∧ w.cell? ⟨b, off + i * 5 + 2, none⟩ = some (.string (tokI l i).text) ∧
    w.cell? ⟨b, off + i * 5 + 3, none⟩ = some sl ∧ w.cell? ⟨b, off + i * 5 + 4, none⟩ = some (.bool (tokI l i).empty) ∧ AttsAt B w sl (tokI l i).attrs
theorem AttsAt.below {B : Nat} {w w' : World} {v : Value} {l : List (ByteArray × ByteArray)} (h : AttsAt B w v l) (hb : Below B w w') : AttsAt B w' v l := by
  rcases h with h | ⟨b, off, cap, h1, h2, h3⟩
  · exact Or.inl h
  · exact Or.inr ⟨b, off, cap, h1, h2, fun i hi => ⟨(hb.cell (p := ⟨b, off + i * 2, none⟩) h2).trans (h3 i hi).1, (hb.cell (p := ⟨b, off + i * 2 + 1, none⟩) h2).trans (h3 i hi).2⟩⟩
theorem AttsAt.mono {B B' : Nat} {w : World} {v : Value} {l : List (ByteArray × ByteArray)} (h : AttsAt B w v l) (hB : B ≤ B') : AttsAt B' w v l := by
  rcases h with h | ⟨b, off, cap, h1, h2, h3⟩
  · exact Or.inl h
  · exact Or.inr ⟨b, off, cap, h1, by omega, h3⟩
theorem TokAt.below {B : Nat} {w w' : World} {v : Value} {t : Tok} (h : TokAt B w v t) (hb : Below B w w') : TokAt B w' v t := by
  obtain ⟨sl, h1, h2⟩ := h
  exact ⟨sl, h1, h2.below hb⟩
theorem ToksAt.below {B : Nat} {w w' : World} {v : Value} {l : List Tok} (h : ToksAt B w v l) (hb : Below B w w') : ToksAt B w' v l := by
  rcases h with h | ⟨b, off, cap, h1, h2, h3⟩
  · exact Or.inl h
  · refine Or.inr ⟨b, off, cap, h1, h2, fun i hi => ?_⟩
    obtain ⟨sl, c0, c1, c2, c3, c4, h4⟩ := h3 i hi
    exact ⟨sl, (hb.cell (p := ⟨b, off + i * 5, none⟩) h2).trans c0, (hb.cell (p := ⟨b, off + i * 5 + 1, none⟩) h2).trans c1, (hb.cell (p := ⟨b, off + i * 5 + 2, none⟩) h2).trans c2, (hb.cell (p := ⟨b, off + i * 5 + 3, none⟩) h2).trans c3, (hb.cell (p := ⟨b, off + i * 5 + 4, none⟩) h2).trans c4, h4.below hb⟩
theorem ToksAt.mono {B B' : Nat} {w : World} {v : Value} {l : List Tok} (h : ToksAt B w v l) (hB : B ≤ B') : ToksAt B' w v l := by
  rcases h with h | ⟨b, off, cap, h1, h2, h3⟩
  · exact Or.inl h
  · refine Or.inr ⟨b, off, cap, h1, by omega, fun i hi => ?_⟩
    obtain ⟨sl, c0, c1, c2, c3, c4, h4⟩ := h3 i hi
    exact ⟨sl, c0, c1, c2, c3, c4, h4.mono hB⟩
section
/-- where an attribute lies -/
theorem AttsAt.cell {B : Nat} {w : World} {a : Option Addr} {m cap : Nat} {l : List (ByteArray × ByteArray)} (h : AttsAt B w (.slice a m cap) l) (hl : 0 < l.length) :
    ∃ b off, a = some ⟨b, off, none⟩ ∧ b < B ∧ ∀ i, i < l.length → w.cell? ⟨b, off + i * 2, none⟩ = some (.string (att l i).1) ∧ w.cell? ⟨b, off + i * 2 + 1, none⟩ = some (.string (att l i).2) := by
  rcases h with ⟨_, _, _, h0⟩ | ⟨b, off, cap', e, hb, hc⟩
  · rw [h0] at hl; simp at hl
  · injection e with e1 _ _
    exact ⟨b, off, e1, hb, hc⟩
/-- a piece, in a new box -/
theorem box_tok (w : World) (v0 v1 v2 v3 v4 : Value) (t : TypeId) : ∀ W, Below (w.alloc (.cells #[v0, v1, v2, v3, v4] t)).heap.size (w.alloc (.cells #[v0, v1, v2, v3, v4] t)) W →
    W.cell? ⟨w.heap.size, 0, none⟩ = some v0 ∧ W.cell? ⟨w.heap.size, 1, none⟩ = some v1 ∧ W.cell? ⟨w.heap.size, 2, none⟩ = some v2 ∧ W.cell? ⟨w.heap.size, 3, none⟩ = some v3 ∧ W.cell? ⟨w.heap.size, 4, none⟩ = some v4 := by
  intro W hb
  have hr := World.rowIs_alloc w #[v0, v1, v2, v3, v4] t (fun i => if i = 0 then v0 else if i = 1 then v1 else if i = 2 then v2 else if i = 3 then v3 else v4) (by
    intro i hi
    rcases (show i = 0 ∨ i = 1 ∨ i = 2 ∨ i = 3 ∨ i = 4 by have : i < 5 := hi; omega) with rfl | rfl | rfl | rfl | rfl <;> rfl)
  have hr2 := hr.of_block (hb.block _ hr.lt)
  exact ⟨hr2.cell (i := 0) (by show 0 < 5; decide), hr2.cell (i := 1) (by show 1 < 5; decide), hr2.cell (i := 2) (by show 2 < 5; decide), hr2.cell (i := 3) (by show 3 < 5; decide), hr2.cell (i := 4) (by show 4 < 5; decide)⟩
end
end Go.Proofs.YtjijjmkeehdooaaGreatDoor
