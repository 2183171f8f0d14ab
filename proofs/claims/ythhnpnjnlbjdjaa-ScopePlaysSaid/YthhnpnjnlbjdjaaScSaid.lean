/-
  LAYER 14, PART BY PART: what the laws of layer 14 ask of package scope (ScSaid: to be proved of the program that lands).
-/
import Derived.Test.YthhnpnjnlbjdjaaScDefs
import Derived.Test.YthhnpnjnlbjdjaaTurns
import Derived.WalkKit
import Derived.WalkSpells
import Derived.WalkLawsBesides
import Derived.LoopTactic
import Derived.Lib.Hide
import Derived.Below
namespace Go.Proofs.Ythhnpnjnlbjdjaa
open Go.RowKit

def at4I (l : List At4) (i : Nat) : At4 := l.getD i ⟨[], [], [], []⟩
/-- THE VALUE v IS A SLICE OF THE ATTRIBUTES l, in a block of G. -/
def AtsAt (G : Nat → Prop) (w : World) (v : Value) (l : List At4) : Prop :=
  (∃ a cap, v = .slice a 0 cap ∧ l = []) ∨
  ∃ b off cap, v = .slice (some ⟨b, off, none⟩) l.length cap ∧ G b ∧ b < w.heap.size ∧ ∀ i, i < l.length →
    w.cell? ⟨b, off + i * 4, none⟩ = some (.string (bytes (at4I l i).pre)) ∧ w.cell? ⟨b, off + i * 4 + 1, none⟩ = some (.string (bytes (at4I l i).loc)) ∧
    w.cell? ⟨b, off + i * 4 + 2, none⟩ = some (.string (bytes (at4I l i).uri)) ∧ w.cell? ⟨b, off + i * 4 + 3, none⟩ = some (.string (bytes (at4I l i).val))
theorem AtsAt.keep {G G' : Nat → Prop} {w w' : World} {v : Value} {l : List At4} (h : AtsAt G w v l) (hs : w.heap.size ≤ w'.heap.size) (hk : ∀ k, G k → k < w.heap.size → w'.heap[k]? = w.heap[k]? ∧ G' k) : AtsAt G' w' v l := by
  rcases h with h | ⟨b, off, cap, h1, h2, h3, h4⟩
  · exact Or.inl h
  · refine Or.inr ⟨b, off, cap, h1, (hk b h2 h3).2, by omega, fun i hi => ?_⟩
    have e : ∀ o, w'.cell? ⟨b, o, none⟩ = w.cell? ⟨b, o, none⟩ := fun o => World.cell?_of_block (hk b h2 h3).1
    rw [e, e, e, e]
    exact h4 i hi
theorem AtsAt.slice {G : Nat → Prop} {w : World} {v : Value} {l : List At4} (h : AtsAt G w v l) : ∃ a cap, v = .slice a l.length cap := by
  rcases h with ⟨a, cap, rfl, rfl⟩ | ⟨b, off, cap, rfl, _⟩
  · exact ⟨a, cap, rfl⟩
  · exact ⟨_, cap, rfl⟩
theorem AtsAt.cell {G : Nat → Prop} {w : World} {a : Option Addr} {m cap : Nat} {l : List At4} (h : AtsAt G w (.slice a m cap) l) (hl : 0 < l.length) :
    ∃ b off, a = some ⟨b, off, none⟩ ∧ m = l.length ∧ G b ∧ b < w.heap.size ∧ ∀ i, i < l.length →
      w.cell? ⟨b, off + i * 4, none⟩ = some (.string (bytes (at4I l i).pre)) ∧ w.cell? ⟨b, off + i * 4 + 1, none⟩ = some (.string (bytes (at4I l i).loc)) ∧
      w.cell? ⟨b, off + i * 4 + 2, none⟩ = some (.string (bytes (at4I l i).uri)) ∧ w.cell? ⟨b, off + i * 4 + 3, none⟩ = some (.string (bytes (at4I l i).val)) := by
  rcases h with ⟨_, _, _, h0⟩ | ⟨b, off, cap', e, hb, hl, hc⟩
  · rw [h0] at hl; simp at hl
  · injection e with e1 e2 _
    exact ⟨b, off, e1, e2, hb, hl, hc⟩

/-- the answer r; the scope is of the levels S then, in its blocks and in new ones; all else is as it was -/
def GaveS (Is : (Nat → Prop) → World → Value → List (List Bd) → Prop) (F : Nat → Prop) (v : Value) (S : List (List Bd)) (r : Value) (w : World) (e : Ending) (w' : World) : Prop :=
  e = .returned r ∧ ∃ F', Is F' w' v S ∧ (∀ k, F' k → F k ∨ (w.heap.size ≤ k ∧ k < w'.heap.size)) ∧ Turns F w w'
/-- WHAT IS ASKED OF PACKAGE scope. Is F w v S: v is a Scope of the levels S; it lies in the blocks of F. -/
structure ScSaid (Is : (Nat → Prop) → World → Value → List (List Bd) → Prop) : Prop where
  keep : ∀ F w w' v S, Is F w v S → w.heap.size ≤ w'.heap.size → (∀ k, F k → w'.heap[k]? = w.heap[k]?) → Is F w' v S
  inn : ∀ F w v S, Is F w v S → ∀ k, F k → k < w.heap.size
  isPtr : ∀ F w v S, Is F w v S → ∃ a, v = .pointer (some a)
  new : ∀ w, Calls Try.prog 8 #[] w fun e w' => ∃ v F, e = .returned v ∧ Is F w' v [] ∧ (∀ k, F k → w.heap.size ≤ k ∧ k < w'.heap.size) ∧ Below w.heap.size w w'
  push : ∀ F v S l sl w, NiceS S → S.length < 1048576 → l.length ≤ 1048576 → (∀ a ∈ l, FitA a) → Is F w v S → AtsAt (fun k => ¬ F k) w sl l → Calls Try.prog 9 #[v, sl] w (GaveS Is F v (pushS S l) (.int .i64 (pushE l)) w)
  pop : ∀ F v S w, NiceS S → Is F w v S → Calls Try.prog 17 #[v] w (GaveS Is F v S.tail (.bool (decide (S ≠ []))) w)
  uri : ∀ F v S p w, NiceS S → p.length ≤ 8388608 → Is F w v S → Calls Try.prog 13 #[v, .string (bytes p)] w (GaveS Is F v S (.tuple #[.string (bytes (uriS S p)), .bool (isS S p)]) w)
  pref : ∀ F v S u w, NiceS S → u.length ≤ 8388608 → Is F w v S → Calls Try.prog 14 #[v, .string (bytes u)] w (GaveS Is F v S (.tuple #[.string (bytes (prefS S u)), .bool (prefE S u)]) w)
  all : ∀ F v S w, NiceS S → Is F w v S → Calls Try.prog 11 #[v] w fun e w' => ∃ sl F', e = .returned sl ∧ Is F' w' v S ∧ (∀ k, F' k → F k ∨ (w.heap.size ≤ k ∧ k < w'.heap.size)) ∧ Turns F w w' ∧ AtsAt (fun k => ¬ F' k ∧ w.heap.size ≤ k) w' sl ((allS S).map declA)
  depth : ∀ F v S w, NiceS S → Is F w v S → Calls Try.prog 21 #[v] w fun e w' => e = .returned (.int .i64 S.length) ∧ Below w.heap.size w w'
end Go.Proofs.Ythhnpnjnlbjdjaa
