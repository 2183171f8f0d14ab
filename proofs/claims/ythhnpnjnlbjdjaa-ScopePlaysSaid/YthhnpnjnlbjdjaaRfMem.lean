/-
  THE DOCUMENT'S OWN SCOPE (brackenref10.Scope) IN MEMORY.
-/
import Derived.Test.YthhnpnjnlbjdjaaRfDecl
import Derived.Test.YthhnpnjnlbjdjaaScRules
namespace Go.Proofs.Ythhnpnjnlbjdjaa
open Go.RowKit

theorem at4_decl (l : List Bd) (i : Nat) (b : Bd) (h : l[i]? = some b) : at4I (l.map declA) i = declA b := by
  unfold at4I
  rw [List.getD_eq_getElem?_getD, List.getElem?_map, h]
  rfl
/-- levels in memory: xs, the values of the outer row, the nearest level last -/
def Lvs (G : Nat → Prop) (w : World) : List (List Bd) → List Value → Prop
  | [], xs => xs = []
  | lv :: r, xs => ∃ ys sv, xs = ys ++ [sv] ∧ AtsAt G w sv (lv.map declA) ∧ Lvs G w r ys
theorem Lvs.len {G : Nat → Prop} {w : World} : ∀ {S : List (List Bd)} {xs : List Value}, Lvs G w S xs → xs.length = S.length
  | [], xs, h => by have h' : xs = [] := h; rw [h']; rfl
  | lv :: r, xs, h => by
    obtain ⟨ys, sv, rfl, _, h2⟩ := h
    rw [List.length_append, h2.len]
    rfl
theorem Lvs.keep {G G' : Nat → Prop} {w w' : World} (hs : w.heap.size ≤ w'.heap.size) (hk : ∀ k, G k → k < w.heap.size → w'.heap[k]? = w.heap[k]? ∧ G' k) : ∀ {S : List (List Bd)} {xs : List Value}, Lvs G w S xs → Lvs G' w' S xs
  | [], _, h => h
  | _ :: _, _, h => by
    obtain ⟨ys, sv, e, h1, h2⟩ := h
    exact ⟨ys, sv, e, h1.keep hs hk, h2.keep hs hk⟩
theorem Lvs.get {G : Nat → Prop} {w : World} {lv : List Bd} {r : List (List Bd)} : ∀ {a : List (List Bd)} {xs : List Value}, Lvs G w (a ++ lv :: r) xs → ∃ sv, xs[r.length]? = some sv ∧ AtsAt G w sv (lv.map declA)
  | [], xs, h => by
    obtain ⟨ys, sv, rfl, h1, h2⟩ := h
    refine ⟨sv, ?_, h1⟩
    rw [List.getElem?_append_right (by rw [h2.len]; exact Nat.le_refl _), h2.len, Nat.sub_self]
    rfl
  | _ :: a, xs, h => by
    obtain ⟨ys, sv, rfl, _, h2⟩ := h
    obtain ⟨sv', h3, h4⟩ := Lvs.get (a := a) h2
    refine ⟨sv', ?_, h4⟩
    rw [List.getElem?_append_left (by have := (List.getElem?_eq_some_iff.1 h3).1; exact this)]
    exact h3
/-- THE BOX rb HOLDS A Scope OF THE LEVELS S, all of it in blocks of G. -/
structure RfAt (G : Nat → Prop) (w : World) (rb : Nat) (S : List (List Bd)) (sv : Value) (xs : List Value) : Prop where
  inG : G rb
  box : w.rowIs rb 43 1 (fun _ => sv)
  lvs : Lvs (fun k => G k ∧ k ≠ rb) w S xs
  out : (xs = [] ∧ sv = .slice none 0 0) ∨ ∃ ob oo cap, sv = .slice (some ⟨ob, oo, none⟩) xs.length cap ∧ xs.length ≤ cap ∧ G ob ∧ ob ≠ rb ∧ ob < w.heap.size ∧ ∀ i v, xs[i]? = some v → w.cell? ⟨ob, oo + i, none⟩ = some v
def RfIs (G : Nat → Prop) (w : World) (rb : Nat) (S : List (List Bd)) : Prop := ∃ sv xs, RfAt G w rb S sv xs
section
variable {G G' : Nat → Prop} {w w' : World} {rb : Nat} {S : List (List Bd)} {sv : Value} {xs : List Value}
theorem RfAt.keep (h : RfAt G w rb S sv xs) (hs : w.heap.size ≤ w'.heap.size) (hk : ∀ k, G k → k < w.heap.size → w'.heap[k]? = w.heap[k]? ∧ G' k) : RfAt G' w' rb S sv xs := by
  have hl := h.box.lt
  refine ⟨(hk rb h.inG hl).2, h.box.of_block (hk rb h.inG hl).1, h.lvs.keep hs (fun k hg hlt => ⟨(hk k hg.1 hlt).1, (hk k hg.1 hlt).2, hg.2⟩), ?_⟩
  rcases h.out with h1 | ⟨ob, oo, cap, e, hc, hg, hne, hlt, h1⟩
  · exact Or.inl h1
  · exact Or.inr ⟨ob, oo, cap, e, hc, (hk ob hg hlt).2, hne, by omega, fun i v hv => (World.cell?_of_block (a := ⟨ob, oo + i, none⟩) (hk ob hg hlt).1).trans (h1 i v hv)⟩
theorem RfAt.below (h : RfAt G w rb S sv xs) (hb : Below w.heap.size w w') : RfAt G w' rb S sv xs := h.keep hb.size fun k hk hl => ⟨hb.block k hl, hk⟩
theorem RfIs.keep (h : RfIs G w rb S) (hs : w.heap.size ≤ w'.heap.size) (hk : ∀ k, G k → k < w.heap.size → w'.heap[k]? = w.heap[k]? ∧ G' k) : RfIs G' w' rb S := by
  obtain ⟨sv, xs, h⟩ := h
  exact ⟨sv, xs, h.keep hs hk⟩
theorem RfAt.slice (h : RfAt G w rb S sv xs) : ∃ a cap, sv = .slice a S.length cap := by
  have hl := h.lvs.len
  rcases h.out with ⟨h1, h2⟩ | ⟨ob, oo, cap, e, _⟩
  · refine ⟨none, 0, ?_⟩
    rw [← hl, h1, h2]
    rfl
  · exact ⟨_, cap, by rw [← hl]; exact e⟩
theorem RfAt.at {oa : Option Addr} {n cap : Nat} (h : RfAt G w rb S (.slice oa n cap) xs) {pre r : List (List Bd)} {lv : List Bd} (hS : S = pre ++ lv :: r) : ∃ ob oo, oa = some ⟨ob, oo, none⟩ ∧ ob < w.heap.size ∧ ∃ sw, w.cell? ⟨ob, oo + r.length, none⟩ = some sw ∧ AtsAt (fun k => G k ∧ k ≠ rb) w sw (lv.map declA) := by
  have h0 := h.lvs
  rw [hS] at h0
  obtain ⟨sw, h1, h2⟩ := h0.get
  rcases h.out with ⟨e, _⟩ | ⟨ob, oo, cap', e, _, _, _, hlt, hc⟩
  · rw [e] at h1; simp at h1
  · injection e with e _ _
    exact ⟨ob, oo, e, hlt, sw, hc _ _ h1, h2⟩
end
/-- its Scope of no levels -/
theorem rfIs_new (w : World) (G : Nat → Prop) (hG : G w.heap.size) : RfIs G (w.alloc (.cells #[.slice none 0 0] 43)) w.heap.size [] := by
  refine ⟨.slice none 0 0, [], hG, ?_, rfl, Or.inl ⟨rfl, rfl⟩⟩
  exact World.rowIs_alloc w #[.slice none 0 0] 43 (fun _ => .slice none 0 0) (by
    intro i hi
    obtain rfl : i = 0 := by have : i < 1 := hi; omega
    rfl)
end Go.Proofs.Ythhnpnjnlbjdjaa
