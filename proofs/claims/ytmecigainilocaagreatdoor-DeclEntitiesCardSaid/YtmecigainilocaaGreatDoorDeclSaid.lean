/-
  LAYER 11, PART BY PART: where what a document type declares lies (EntsAt, AttdAt), and what the laws of layer 11 ask of package decl (DeclSaid: to be proved of the program that lands).
-/
import Derived.Test.YtmecigainilocaaGreatDoorDeclDefs
import Derived.Test.YtmecigainilocaaGreatDoorChecked
import Derived.WalkKit
import Derived.WalkSpells
import Derived.WalkLawsBesides
import Derived.LoopTactic
import Derived.Lib.Hide
import Derived.Below
import Derived.Deep.OwnRows
namespace Go.Proofs.YtmecigainilocaaGreatDoor
open Go.RowKit

def entI (l : List EntD) (i : Nat) : EntD := l.getD i ⟨[], [], false⟩
def attI (l : List AttD) (i : Nat) : AttD := l.getD i ⟨[], [], 0, false, []⟩
/-- THE VALUE v IS A SLICE OF THE ENTITIES l, in a block below B. -/
def EntsAt (B : Nat) (w : World) (v : Value) (l : List EntD) : Prop :=
  (∃ a cap, v = .slice a 0 cap ∧ l = []) ∨
  ∃ b off cap, v = .slice (some ⟨b, off, none⟩) l.length cap ∧ b < B ∧ ∀ i, i < l.length →
    w.cell? ⟨b, off + i * 3, none⟩ = some (.string (bytes (entI l i).name)) ∧ w.cell? ⟨b, off + i * 3 + 1, none⟩ = some (.string (bytes (entI l i).value)) ∧ w.cell? ⟨b, off + i * 3 + 2, none⟩ = some (.bool (entI l i).ext)
/-- THE VALUE v IS A SLICE OF THE ATTRIBUTES l, in a block below B. -/
def AttdAt (B : Nat) (w : World) (v : Value) (l : List AttD) : Prop :=
  (∃ a cap, v = .slice a 0 cap ∧ l = []) ∨
  ∃ b off cap, v = .slice (some ⟨b, off, none⟩) l.length cap ∧ b < B ∧ ∀ i, i < l.length →
    w.cell? ⟨b, off + i * 5, none⟩ = some (.string (bytes (attI l i).elem)) ∧ w.cell? ⟨b, off + i * 5 + 1, none⟩ = some (.string (bytes (attI l i).name)) ∧ w.cell? ⟨b, off + i * 5 + 2, none⟩ = some (.int .i64 ((attI l i).type : Int)) ∧
    w.cell? ⟨b, off + i * 5 + 3, none⟩ = some (.bool (attI l i).has) ∧ w.cell? ⟨b, off + i * 5 + 4, none⟩ = some (.string (bytes (attI l i).value))
/-- THE VALUE v IS WHAT IS DECLARED: d. -/
def DeclsAt (B : Nat) (w : World) (v : Value) (d : DeclD) : Prop := ∃ s1 s2, v = .agg #[.string (bytes d.name), s1, s2] ∧ EntsAt B w s1 d.ents ∧ AttdAt B w s2 d.atts
theorem EntsAt.below {B : Nat} {w w' : World} {v : Value} {l : List EntD} (h : EntsAt B w v l) (hb : Below B w w') : EntsAt B w' v l := by
  rcases h with h | ⟨b, off, cap, h1, h2, h3⟩
  · exact Or.inl h
  · exact Or.inr ⟨b, off, cap, h1, h2, fun i hi => ⟨(hb.cell (p := ⟨b, off + i * 3, none⟩) h2).trans (h3 i hi).1, (hb.cell (p := ⟨b, off + i * 3 + 1, none⟩) h2).trans (h3 i hi).2.1, (hb.cell (p := ⟨b, off + i * 3 + 2, none⟩) h2).trans (h3 i hi).2.2⟩⟩
theorem AttdAt.below {B : Nat} {w w' : World} {v : Value} {l : List AttD} (h : AttdAt B w v l) (hb : Below B w w') : AttdAt B w' v l := by
  rcases h with h | ⟨b, off, cap, h1, h2, h3⟩
  · exact Or.inl h
  · exact Or.inr ⟨b, off, cap, h1, h2, fun i hi => ⟨(hb.cell (p := ⟨b, off + i * 5, none⟩) h2).trans (h3 i hi).1, (hb.cell (p := ⟨b, off + i * 5 + 1, none⟩) h2).trans (h3 i hi).2.1, (hb.cell (p := ⟨b, off + i * 5 + 2, none⟩) h2).trans (h3 i hi).2.2.1, (hb.cell (p := ⟨b, off + i * 5 + 3, none⟩) h2).trans (h3 i hi).2.2.2.1, (hb.cell (p := ⟨b, off + i * 5 + 4, none⟩) h2).trans (h3 i hi).2.2.2.2⟩⟩

/-- WHAT IS ASKED OF PACKAGE decl. E n w: the world bears, in blocks below n, what the code reads. -/
structure DeclSaid (E : Nat → World → Prop) : Prop where
  stay : ∀ n w w', E n w → Below n w w' → E n w'
  xml : ∀ n s w, E n w → n ≤ w.heap.size → s.length ≤ 100000 → Calls Tryz.prog 11 #[.string (bytes s)] w fun e w' => e = .returned (.tuple #[.int .i64 (xmlT s).1, .int .i64 (xmlT s).2]) ∧ Below w.heap.size w w'
  lit : ∀ n s k w, E n w → n ≤ w.heap.size → s.length ≤ 100000 → Calls Tryz.prog 13 #[.string (bytes s), .int .i64 k] w fun e w' => e = .returned (.tuple #[.string (bytes (litT s k).1), .int .i64 (litT s k).2.1, .bool (litT s k).2.2]) ∧ Below w.heap.size w w'
  ent : ∀ n s w, E n w → n ≤ w.heap.size → s.length ≤ 100000 → Calls Tryz.prog 14 #[.string (bytes s)] w fun e w' => e = .returned (.tuple #[.string (bytes (entT s).1), .bool (entT s).2]) ∧ Below w.heap.size w w'
  doc : ∀ n s k w, E n w → n ≤ w.heap.size → s.length ≤ 100000 → Calls Tryz.prog 9 #[.string (bytes s), .int .i64 k] w fun e w' => ∃ v, e = .returned (.tuple #[v, .int .i64 (docT s k).2.1, .int .i64 (docT s k).2.2]) ∧ DeclsAt w'.heap.size w' v (docT s k).1 ∧ Below w.heap.size w w'

/-- WHERE A LAW STANDS. -/
structure CAt (E : Nat → World → Prop) (n : Nat) (w0 w : World) : Prop where
  e : E n w
  low : n ≤ w0.heap.size
  since : Below w0.heap.size w0 w
section
variable {E : Nat → World → Prop} {n : Nat} {w0 w : World}
theorem CAt.n_le (h : CAt E n w0 w) : n ≤ w.heap.size := Nat.le_trans h.low h.since.size
theorem CAt.other (S : DeclSaid E) (h : CAt E n w0 w) {w' : World} (hb : Below w.heap.size w w') : CAt E n w0 w' :=
  ⟨S.stay n w w' h.e (hb.mono h.n_le), h.low, h.since.trans (hb.mono h.since.size)⟩
theorem cxmlAt (S : DeclSaid E) (s : List UInt8) (t c : Int) (hr : xmlT s = (t, c)) (hs : s.length ≤ 100000) (h : CAt E n w0 w) :
    Calls Tryz.prog 11 #[.string (bytes s)] w fun e w' => e = .returned (.tuple #[.int .i64 t, .int .i64 c]) ∧ CAt E n w0 w' := by
  have c := S.xml n s w h.e h.n_le hs
  rw [hr] at c
  exact c.mono fun e w' hg => ⟨hg.1, h.other S hg.2⟩
theorem clitAt (S : DeclSaid E) (s : List UInt8) (k : Int) (v : List UInt8) (x : ByteArray) (hx : bytes v = x) (t : Int) (b : Bool) (hr : litT s k = (v, t, b)) (hs : s.length ≤ 100000) (h : CAt E n w0 w) :
    Calls Tryz.prog 13 #[.string (bytes s), .int .i64 k] w fun e w' => e = .returned (.tuple #[.string x, .int .i64 t, .bool b]) ∧ CAt E n w0 w' := by
  subst hx
  have c := S.lit n s k w h.e h.n_le hs
  rw [hr] at c
  exact c.mono fun e w' hg => ⟨hg.1, h.other S hg.2⟩
theorem centAt (S : DeclSaid E) (s : List UInt8) (v : List UInt8) (x : ByteArray) (hx : bytes v = x) (b : Bool) (hr : entT s = (v, b)) (hs : s.length ≤ 100000) (h : CAt E n w0 w) :
    Calls Tryz.prog 14 #[.string (bytes s)] w fun e w' => e = .returned (.tuple #[.string x, .bool b]) ∧ CAt E n w0 w' := by
  subst hx
  have c := S.ent n s w h.e h.n_le hs
  rw [hr] at c
  exact c.mono fun e w' hg => ⟨hg.1, h.other S hg.2⟩
/-- what is declared: its parts by name -/
theorem cdocAt (S : DeclSaid E) (s : List UInt8) (k : Int) (d : DeclD) (nm : ByteArray) (hnm : bytes d.name = nm) (t c : Int) (hr : docT s k = (d, t, c)) (hs : s.length ≤ 100000) (m1 m2 : Nat) (h1 : d.ents.length = m1) (h2 : d.atts.length = m2) (h : CAt E n w0 w) :
    Calls Tryz.prog 9 #[.string (bytes s), .int .i64 k] w fun e w' => ∃ a1 c1 a2 c2, e = .returned (.tuple #[.agg #[.string nm, .slice a1 m1 c1, .slice a2 m2 c2], .int .i64 t, .int .i64 c]) ∧
      EntsAt w'.heap.size w' (.slice a1 m1 c1) d.ents ∧ AttdAt w'.heap.size w' (.slice a2 m2 c2) d.atts ∧ CAt E n w0 w' ∧ Below w.heap.size w w' := by
  subst h1; subst h2; subst hnm
  refine (S.doc n s k w h.e h.n_le hs).mono ?_
  rw [hr]
  rintro e w' ⟨v, rfl, ⟨s1, s2, rfl, ha, hb⟩, hbl⟩
  have ha2 : EntsAt w'.heap.size w' s1 d.ents := ha
  have hb2 : AttdAt w'.heap.size w' s2 d.atts := hb
  have e1 : ∃ a c, s1 = .slice a d.ents.length c := by
    rcases ha2 with ⟨a, cap, rfl, h0⟩ | ⟨b, off, cap, rfl, _⟩
    · exact ⟨a, cap, by rw [show d.ents = [] from h0]; rfl⟩
    · exact ⟨_, cap, rfl⟩
  have e2 : ∃ a c, s2 = .slice a d.atts.length c := by
    rcases hb2 with ⟨a, cap, rfl, h0⟩ | ⟨b, off, cap, rfl, _⟩
    · exact ⟨a, cap, by rw [show d.atts = [] from h0]; rfl⟩
    · exact ⟨_, cap, rfl⟩
  obtain ⟨a1, c1, rfl⟩ := e1
  obtain ⟨a2, c2, rfl⟩ := e2
  exact ⟨a1, c1, a2, c2, rfl, ha, hb, h.other S hbl, hbl⟩
/-- where entities lie -/
theorem EntsAt.cell {B : Nat} {w : World} {a : Option Addr} {m cap : Nat} {l : List EntD} (h : EntsAt B w (.slice a m cap) l) (hl : 0 < l.length) :
    ∃ b off, a = some ⟨b, off, none⟩ ∧ b < B ∧ ∀ i, i < l.length → w.cell? ⟨b, off + i * 3, none⟩ = some (.string (bytes (entI l i).name)) ∧ w.cell? ⟨b, off + i * 3 + 1, none⟩ = some (.string (bytes (entI l i).value)) ∧ w.cell? ⟨b, off + i * 3 + 2, none⟩ = some (.bool (entI l i).ext) := by
  rcases h with ⟨_, _, _, h0⟩ | ⟨b, off, cap', e, hb, hc⟩
  · rw [h0] at hl; simp at hl
  · injection e with e1 _ _
    exact ⟨b, off, e1, hb, hc⟩
theorem AttdAt.cell {B : Nat} {w : World} {a : Option Addr} {m cap : Nat} {l : List AttD} (h : AttdAt B w (.slice a m cap) l) (hl : 0 < l.length) :
    ∃ b off, a = some ⟨b, off, none⟩ ∧ b < B ∧ ∀ i, i < l.length → w.cell? ⟨b, off + i * 5, none⟩ = some (.string (bytes (attI l i).elem)) ∧ w.cell? ⟨b, off + i * 5 + 1, none⟩ = some (.string (bytes (attI l i).name)) ∧ w.cell? ⟨b, off + i * 5 + 2, none⟩ = some (.int .i64 ((attI l i).type : Int)) ∧
      w.cell? ⟨b, off + i * 5 + 3, none⟩ = some (.bool (attI l i).has) ∧ w.cell? ⟨b, off + i * 5 + 4, none⟩ = some (.string (bytes (attI l i).value)) := by
  rcases h with ⟨_, _, _, h0⟩ | ⟨b, off, cap', e, hb, hc⟩
  · rw [h0] at hl; simp at hl
  · injection e with e1 _ _
    exact ⟨b, off, e1, hb, hc⟩
/-- what is declared, in a new box -/
theorem box_decls (w : World) (v0 v1 v2 : Value) (t : TypeId) : ∀ W, Below (w.alloc (.cells #[v0, v1, v2] t)).heap.size (w.alloc (.cells #[v0, v1, v2] t)) W →
    W.cell? ⟨w.heap.size, 0, none⟩ = some v0 ∧ W.cell? ⟨w.heap.size, 1, none⟩ = some v1 ∧ W.cell? ⟨w.heap.size, 2, none⟩ = some v2 := by
  intro W hb
  have hr := World.rowIs_alloc w #[v0, v1, v2] t (fun i => if i = 0 then v0 else if i = 1 then v1 else v2) (by
    intro i hi
    rcases (show i = 0 ∨ i = 1 ∨ i = 2 by have : i < 3 := hi; omega) with rfl | rfl | rfl <;> rfl)
  have hr2 := hr.of_block (hb.block _ hr.lt)
  exact ⟨hr2.cell (i := 0) (by show 0 < 3; decide), hr2.cell (i := 1) (by show 1 < 3; decide), hr2.cell (i := 2) (by show 2 < 3; decide)⟩
end
end Go.Proofs.YtmecigainilocaaGreatDoor
