/-
  LAYER 10, PART BY PART: what the laws of layer 10 ask of package token (TokSaid: to be proved of the program that lands).
-/
import Derived.Test.YtcnomlhlellmiaaDoorTokLaws
import Derived.Test.YtcnomlhlellmiaaDoorChecked
import Derived.WalkKit
import Derived.WalkSpells
import Derived.WalkLawsBesides
import Derived.LoopTactic
import Derived.Lib.Hide
import Derived.Below
import Derived.Deep.OwnRows
namespace Go.Proofs.YtcnomlhlellmiaaDoor
open Go.RowKit

def Fits10 (k : Int) : Prop := -9223372036854775808 ≤ k ∧ k ≤ 9223372036854775807
def att (l : List (ByteArray × ByteArray)) (i : Nat) : ByteArray × ByteArray := l.getD i (⟨#[]⟩, ⟨#[]⟩)
/-- THE VALUE v IS A SLICE OF THE ATTRIBUTES l (a name and a value each), in a block below B. -/
def AttsAt (B : Nat) (w : World) (v : Value) (l : List (ByteArray × ByteArray)) : Prop :=
  (∃ a cap, v = .slice a 0 cap ∧ l = []) ∨
  ∃ b off cap, v = .slice (some ⟨b, off, none⟩) l.length cap ∧ b < B ∧ ∀ i, i < l.length → w.cell? ⟨b, off + i * 2, none⟩ = some (.string (att l i).1) ∧ w.cell? ⟨b, off + i * 2 + 1, none⟩ = some (.string (att l i).2)
/-- THE VALUE v IS THE PIECE t. -/
def TokAt (B : Nat) (w : World) (v : Value) (t : Tok) : Prop := ∃ sl, v = .agg #[.int .i64 t.kind, .string t.name, .string t.text, sl, .bool t.empty] ∧ AttsAt B w sl t.attrs
def tokI (l : List Tok) (i : Nat) : Tok := l.getD i tok0
/-- THE VALUE v IS A SLICE OF THE PIECES l. -/
def ToksAt (B : Nat) (w : World) (v : Value) (l : List Tok) : Prop :=
  (∃ a cap, v = .slice a 0 cap ∧ l = []) ∨
  ∃ b off cap, v = .slice (some ⟨b, off, none⟩) l.length cap ∧ b < B ∧ ∀ i, i < l.length → ∃ sl,
    w.cell? ⟨b, off + i * 5, none⟩ = some (.int .i64 (tokI l i).kind) ∧ w.cell? ⟨b, off + i * 5 + 1, none⟩ = some (.string (tokI l i).name) ∧ w.cell? ⟨b, off + i * 5 + 2, none⟩ = some (.string (tokI l i).text) ∧
    w.cell? ⟨b, off + i * 5 + 3, none⟩ = some sl ∧ w.cell? ⟨b, off + i * 5 + 4, none⟩ = some (.bool (tokI l i).empty) ∧ AttsAt B w sl (tokI l i).attrs
theorem AttsAt.below {B : Nat} {w w' : World} {v : Value} {l : List (ByteArray × ByteArray)} (h : AttsAt B w v l) (hb : Below B w w') : AttsAt B w' v l := by
  rcases h with h | ⟨b, off, cap, h1, h2, h3⟩
  · exact Or.inl h
  · exact Or.inr ⟨b, off, cap, h1, h2, fun i hi => ⟨(hb.cell (p := ⟨b, off + i * 2, none⟩) h2).trans (h3 i hi).1, (hb.cell (p := ⟨b, off + i * 2 + 1, none⟩) h2).trans (h3 i hi).2⟩⟩
theorem AttsAt.mono {B B' : Nat} {w : World} {v : Value} {l : List (ByteArray × ByteArray)} (h : AttsAt B w v l) (hB : B ≤ B') : AttsAt B' w v l := by
  rcases h with h | ⟨b, off, cap, h1, h2, h3⟩
  · exact Or.inl h
  · exact Or.inr ⟨b, off, cap, h1, by omega, h3⟩
theorem TokAt.below {B : Nat} {w w' : World} {v : Value} {t : Tok} (h : TokAt B w v t) (hb : Below B w w') : TokAt B w' v t := by
  obtain ⟨sl, h1, h2⟩ := h
  exact ⟨sl, h1, h2.below hb⟩
theorem ToksAt.below {B : Nat} {w w' : World} {v : Value} {l : List Tok} (h : ToksAt B w v l) (hb : Below B w w') : ToksAt B w' v l := by
  rcases h with h | ⟨b, off, cap, h1, h2, h3⟩
  · exact Or.inl h
  · refine Or.inr ⟨b, off, cap, h1, h2, fun i hi => ?_⟩
    obtain ⟨sl, c0, c1, c2, c3, c4, h4⟩ := h3 i hi
    exact ⟨sl, (hb.cell (p := ⟨b, off + i * 5, none⟩) h2).trans c0, (hb.cell (p := ⟨b, off + i * 5 + 1, none⟩) h2).trans c1, (hb.cell (p := ⟨b, off + i * 5 + 2, none⟩) h2).trans c2, (hb.cell (p := ⟨b, off + i * 5 + 3, none⟩) h2).trans c3, (hb.cell (p := ⟨b, off + i * 5 + 4, none⟩) h2).trans c4, h4.below hb⟩
theorem ToksAt.mono {B B' : Nat} {w : World} {v : Value} {l : List Tok} (h : ToksAt B w v l) (hB : B ≤ B') : ToksAt B' w v l := by
  rcases h with h | ⟨b, off, cap, h1, h2, h3⟩
  · exact Or.inl h
  · refine Or.inr ⟨b, off, cap, h1, by omega, fun i hi => ?_⟩
    obtain ⟨sl, c0, c1, c2, c3, c4, h4⟩ := h3 i hi
    exact ⟨sl, c0, c1, c2, c3, c4, h4.mono hB⟩
def charV (s : ByteArray) : Int := ((charRefL s.data.toList).getD 0 : Nat)
def charIs (s : ByteArray) : Bool := (charRefL s.data.toList).isSome

/-- WHAT IS ASKED OF PACKAGE token. E n w: the world bears, in blocks below n, what the code reads. -/
structure TokSaid (E : Nat → World → Prop) : Prop where
  stay : ∀ n w w', E n w → Below n w w' → E n w'
  next : ∀ n s k w, E n w → n ≤ w.heap.size → s.size ≤ 100000 → Fits10 k → Calls Tryd.prog 9 #[.string s, .int .i64 k] w fun e w' => ∃ v, e = .returned (.tuple #[v, .int .i64 (nextT s k).2.1, .int .i64 (nextT s k).2.2]) ∧ TokAt w'.heap.size w' v (nextT s k).1 ∧ Below w.heap.size w w'
  all : ∀ n s w, E n w → n ≤ w.heap.size → s.size ≤ 100000 → Calls Tryd.prog 13 #[.string s] w fun e w' => ∃ v, e = .returned (.tuple #[v, .int .i64 (allT s).2.1, .int .i64 (allT s).2.2]) ∧ ToksAt w'.heap.size w' v (allT s).1 ∧ Below w.heap.size w w'
  charRef : ∀ n s w, E n w → n ≤ w.heap.size → s.size ≤ 100000 → Calls Tryd.prog 11 #[.string s] w fun e w' => e = .returned (.tuple #[.int .i32 (charV s), .bool (charIs s)]) ∧ Below w.heap.size w w'
  target : ∀ n s w, E n w → n ≤ w.heap.size → s.size ≤ 100000 → Calls Tryd.prog 15 #[.string s] w fun e w' => e = .returned (.bool (targetL s.data.toList)) ∧ Below w.heap.size w w'

/-- WHERE A LAW STANDS. -/
structure KAt (E : Nat → World → Prop) (n : Nat) (w0 w : World) : Prop where
  e : E n w
  low : n ≤ w0.heap.size
  since : Below w0.heap.size w0 w
section
variable {E : Nat → World → Prop} {n : Nat} {w0 w : World}
theorem KAt.n_le (h : KAt E n w0 w) : n ≤ w.heap.size := Nat.le_trans h.low h.since.size
theorem KAt.other (S : TokSaid E) (h : KAt E n w0 w) {w' : World} (hb : Below w.heap.size w w') : KAt E n w0 w' :=
  ⟨S.stay n w w' h.e (hb.mono h.n_le), h.low, h.since.trans (hb.mono h.since.size)⟩
/-- the next piece: its parts by name -/
theorem knextAt (S : TokSaid E) (s : ByteArray) (k to c : Int) (kd : Nat) (nm tx : ByteArray) (al : List (ByteArray × ByteArray)) (em : Bool) (hn : nextT s k = (⟨kd, nm, tx, al, em⟩, to, c)) (kI : Int) (hkI : (kd : Int) = kI) (m : Nat) (hm : al.length = m) (hs : s.size ≤ 100000) (hk : Fits10 k) (h : KAt E n w0 w) :
    Calls Tryd.prog 9 #[.string s, .int .i64 k] w fun e w' => ∃ a cap, e = .returned (.tuple #[.agg #[.int .i64 kI, .string nm, .string tx, .slice a m cap, .bool em], .int .i64 to, .int .i64 c]) ∧ AttsAt w'.heap.size w' (.slice a m cap) al ∧ KAt E n w0 w' ∧ Below w.heap.size w w' := by
  subst hm; subst hkI
  refine (S.next n s k w h.e h.n_le hs hk).mono ?_
  rw [hn]
  rintro e w' ⟨v, rfl, ⟨sl, rfl, ha⟩, hb⟩
  have ha2 : AttsAt w'.heap.size w' sl al := ha
  rcases ha2 with ⟨a, cap, rfl, rfl⟩ | ⟨b, off, cap, rfl, _, _⟩
  · exact ⟨a, cap, rfl, ha, h.other S hb, hb⟩
  · exact ⟨_, cap, rfl, ha, h.other S hb, hb⟩
/-- where an attribute lies -/
theorem AttsAt.cell {B : Nat} {w : World} {a : Option Addr} {m cap : Nat} {l : List (ByteArray × ByteArray)} (h : AttsAt B w (.slice a m cap) l) (hl : 0 < l.length) :
    ∃ b off, a = some ⟨b, off, none⟩ ∧ b < B ∧ ∀ i, i < l.length → w.cell? ⟨b, off + i * 2, none⟩ = some (.string (att l i).1) ∧ w.cell? ⟨b, off + i * 2 + 1, none⟩ = some (.string (att l i).2) := by
  rcases h with ⟨_, _, _, h0⟩ | ⟨b, off, cap', e, hb, hc⟩
  · rw [h0] at hl; simp at hl
  · injection e with e1 _ _
    exact ⟨b, off, e1, hb, hc⟩
/-- a piece, in a new box -/
theorem box_tok (w : World) (v0 v1 v2 v3 v4 : Value) (t : TypeId) : ∀ W, Below (w.alloc (.cells #[v0, v1, v2, v3, v4] t)).heap.size (w.alloc (.cells #[v0, v1, v2, v3, v4] t)) W →
    W.cell? ⟨w.heap.size, 0, none⟩ = some v0 ∧ W.cell? ⟨w.heap.size, 1, none⟩ = some v1 ∧ W.cell? ⟨w.heap.size, 2, none⟩ = some v2 ∧ W.cell? ⟨w.heap.size, 3, none⟩ = some v3 ∧ W.cell? ⟨w.heap.size, 4, none⟩ = some v4 := by
  intro W hb
  have hr := World.rowIs_alloc w #[v0, v1, v2, v3, v4] t (fun i => if i = 0 then v0 else if i = 1 then v1 else if i = 2 then v2 else if i = 3 then v3 else v4) (by
    intro i hi
    rcases (show i = 0 ∨ i = 1 ∨ i = 2 ∨ i = 3 ∨ i = 4 by have : i < 5 := hi; omega) with rfl | rfl | rfl | rfl | rfl <;> rfl)
  have hr2 := hr.of_block (hb.block _ hr.lt)
  exact ⟨hr2.cell (i := 0) (by show 0 < 5; decide), hr2.cell (i := 1) (by show 1 < 5; decide), hr2.cell (i := 2) (by show 2 < 5; decide), hr2.cell (i := 3) (by show 3 < 5; decide), hr2.cell (i := 4) (by show 4 < 5; decide)⟩
theorem kcharAt (S : TokSaid E) (s : ByteArray) (r : Int) (b : Bool) (hr : charV s = r) (hb : charIs s = b) (hs : s.size ≤ 100000) (h : KAt E n w0 w) :
    Calls Tryd.prog 11 #[.string s] w fun e w' => e = .returned (.tuple #[.int .i32 r, .bool b]) ∧ KAt E n w0 w' := by
  subst hr; subst hb
  exact (S.charRef n s w h.e h.n_le hs).mono fun e w' hg => ⟨hg.1, h.other S hg.2⟩
theorem ktargetAt (S : TokSaid E) (s : ByteArray) (b : Bool) (hb : targetL s.data.toList = b) (hs : s.size ≤ 100000) (h : KAt E n w0 w) :
    Calls Tryd.prog 15 #[.string s] w fun e w' => e = .returned (.bool b) ∧ KAt E n w0 w' := by
  subst hb
  exact (S.target n s w h.e h.n_le hs).mono fun e w' hg => ⟨hg.1, h.other S hg.2⟩
end
end Go.Proofs.YtcnomlhlellmiaaDoor
