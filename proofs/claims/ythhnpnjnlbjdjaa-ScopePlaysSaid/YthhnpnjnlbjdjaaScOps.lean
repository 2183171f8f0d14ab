/-
  STEPS AS AN ARGUMENT ([]Op), and what the scope's calls leave alone.
-/
import Derived.Test.YthhnpnjnlbjdjaaScDecls
namespace Go.Proofs.Ythhnpnjnlbjdjaa
open Go.RowKit

/-- a step: its kind, its numbers -/
abbrev Op14 := Int × List Int
def op14I (l : List Op14) (i : Nat) : Op14 := l.getD i (0, [])
/-- a []Op, nil too -/
def OpsArg (w : World) (v : Value) : Prop :=
  ∃ (a : Option Addr) (cap : Nat) (l : List Op14), v = .slice a l.length cap ∧ l.length ≤ 9223372036854775807 ∧
    (l = [] ∨ ∃ b off, a = some ⟨b, off, none⟩ ∧ b < w.heap.size ∧ ∀ i, i < l.length → w.cell? ⟨b, off + i * 2, none⟩ = some (.int .i64 (op14I l i).1) ∧ ∃ sv, w.cell? ⟨b, off + i * 2 + 1, none⟩ = some sv ∧ IntsV w sv (op14I l i).2)
theorem IntsV.below {w w' : World} {v : Value} {zs : List Int} (h : IntsV w v zs) (hb : Below w.heap.size w w') : IntsV w' v zs := by
  refine ⟨h.1, ?_⟩
  rcases h.2 with h1 | ⟨b, off, cap, e, hl, hc⟩
  · exact Or.inl h1
  · exact Or.inr ⟨b, off, cap, e, Nat.lt_of_lt_of_le hl hb.size, fun i hi => (hb.cell (p := ⟨b, off + i, none⟩) hl).trans (hc i hi)⟩
section
variable {Is : (Nat → Prop) → World → Value → List (List Bd) → Prop} {w0 w w' wk : World} {v : Value} {S : List (List Bd)} {K : Nat → Prop}
/-- the blocks of K alone turn, and new ones: the scope stays -/
theorem SAt.mine (R : ScSaid Is) (h : SAt Is w0 v K wk S w) (hK : ∀ k, K k → w0.heap.size ≤ k) (ht : Turns K w w') (K' : Nat → Prop) (h1 : ∀ k, K' k → K k ∨ w.heap.size ≤ k) (h2 : ∀ k, K' k → k < w'.heap.size) : SAt Is w0 v K' w' S w' := by
  obtain ⟨F, hi, hF⟩ := h.is
  have hin := R.inn F w v S hi
  refine ⟨h.nice, ⟨F, R.keep F w w' v S hi ht.size fun k hk => ht.block k (hin k hk) (hF k hk).2, fun k hk => ⟨(hF k hk).1, fun hk' => ?_⟩⟩, h.since.trans (ht.below h.since.size hK), Nat.le_refl _, h2, fun _ _ => rfl⟩
  rcases h1 k hk' with e | e
  · exact (hF k hk).2 e
  · have := hin k hk; omega
/-- the same blocks, from now on -/
theorem SAt.again (R : ScSaid Is) (h : SAt Is w0 v K wk S w) (hK : ∀ k, K k → w0.heap.size ≤ k) : SAt Is w0 v K w S w :=
  h.mine R hK (Turns.refl _ _) K (fun _ hk => Or.inl hk) fun k hk => Nat.lt_of_lt_of_le (h.inK k hk) h.size
end
/-- declarations of numbers: small, few -/
theorem locN_len (x : Nat) : (locN.getD x []).length ≤ 8388608 := by
  by_cases h : x < 9
  · rcases (show x = 0 ∨ x = 1 ∨ x = 2 ∨ x = 3 ∨ x = 4 ∨ x = 5 ∨ x = 6 ∨ x = 7 ∨ x = 8 by omega) with rfl | rfl | rfl | rfl | rfl | rfl | rfl | rfl | rfl <;> decide
  · rw [List.getD_eq_getElem?_getD, List.getElem?_eq_none (by show 9 ≤ x; omega)]
    decide
theorem uriN_len (x : Nat) : (uriN.getD x []).length ≤ 8388608 := by
  by_cases h : x < 11
  · rcases (show x = 0 ∨ x = 1 ∨ x = 2 ∨ x = 3 ∨ x = 4 ∨ x = 5 ∨ x = 6 ∨ x = 7 ∨ x = 8 ∨ x = 9 ∨ x = 10 by omega) with rfl | rfl | rfl | rfl | rfl | rfl | rfl | rfl | rfl | rfl | rfl <;> decide
  · rw [List.getD_eq_getElem?_getD, List.getElem?_eq_none (by show 11 ≤ x; omega)]
    decide
theorem declsZ_fit (zs : List Int) (most : Nat) : ∀ a ∈ declsZ zs most, FitA a := by
  intro a ha
  unfold declsZ at ha
  obtain ⟨z, _, rfl⟩ := List.mem_map.1 ha
  unfold declZ declU FitA
  refine ⟨?_, uriN_len _⟩
  show (if _ then xmlnsN else locN.getD _ []).length ≤ 8388608
  split
  · decide
  · exact locN_len _
theorem declsZ_few (zs : List Int) (most : Nat) (h : most ≤ 8) : (declsZ zs most).length ≤ 8 := by
  unfold declsZ
  rw [List.length_map, List.length_take]
  omega
end Go.Proofs.Ythhnpnjnlbjdjaa
