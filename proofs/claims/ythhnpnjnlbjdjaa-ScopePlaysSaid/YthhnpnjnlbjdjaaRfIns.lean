/-
  A NAME INTO NAMES IN THEIR ORDER, BY PLACES.
-/
import Derived.Test.YthhnpnjnlbjdjaaScNames
namespace Go.Proofs.Ythhnpnjnlbjdjaa

/-- among the first j names, exactly the first n are less than p -/
structure PosL (p : Nm) (L : List Nm) (j n : Nat) : Prop where
  le : n ≤ j
  lo : ∀ i x, i < n → L[i]? = some x → x < p
  hi : ∀ i x, n ≤ i → i < j → L[i]? = some x → ¬ x < p
theorem PosL.zero (p : Nm) (L : List Nm) : PosL p L 0 0 := ⟨Nat.le_refl _, fun _ _ h => by omega, fun _ _ _ h => by omega⟩
theorem sorted_at {L : List Nm} (hs : L.Pairwise (· < ·)) {i j : Nat} {x y : Nm} (hi : L[i]? = some x) (hj : L[j]? = some y) (h : i < j) : x < y := by
  obtain ⟨h1, e1⟩ := List.getElem?_eq_some_iff.1 hi
  obtain ⟨h2, e2⟩ := List.getElem?_eq_some_iff.1 hj
  rw [← e1, ← e2]
  exact List.pairwise_iff_getElem.1 hs i j h1 h2 h
theorem PosL.less {p : Nm} {L : List Nm} {j n : Nat} {x : Nm} (hs : L.Pairwise (· < ·)) (h : PosL p L j n) (hx : L[j]? = some x) (hlt : x < p) : PosL p L (j + 1) (j + 1) := by
  refine ⟨Nat.le_refl _, fun i y hi hy => ?_, fun i y h1 h2 => by omega⟩
  by_cases e : i = j
  · subst e
    rw [hx] at hy
    injection hy with hy
    rw [← hy]; exact hlt
  · exact nm_lt_trans (sorted_at hs hy hx (by omega)) hlt
theorem PosL.more {p : Nm} {L : List Nm} {j n : Nat} {x : Nm} (h : PosL p L j n) (hx : L[j]? = some x) (hlt : ¬ x < p) : PosL p L (j + 1) n := by
  refine ⟨Nat.le_succ_of_le h.le, h.lo, fun i y h1 h2 hy => ?_⟩
  by_cases e : i = j
  · subst e
    rw [hx] at hy
    injection hy with hy
    rw [← hy]; exact hlt
  · exact h.hi i y h1 (by omega) hy
theorem insN_pos : ∀ (p : Nm) (L : List Nm) (n : Nat), PosL p L L.length n → p ∉ L → insN p L = L.take n ++ p :: L.drop n
  | p, [], n, _, _ => by simp [insN]
  | p, x :: r, 0, h, hn => by
    have h1 : ¬ x < p := h.hi 0 x (Nat.le_refl _) (by simp) rfl
    have h2 : ¬ p = x := fun e => hn (by rw [e]; simp)
    unfold insN
    rw [if_neg h2, if_pos (nm_tri _ _ (fun e => h2 e.symm) h1)]
    rfl
  | p, x :: r, n + 1, h, hn => by
    have h1 : x < p := h.lo 0 x (Nat.succ_pos _) rfl
    have h2 : ¬ p = x := fun e => hn (by rw [e]; simp)
    have h3 : ¬ p < x := fun k => nm_lt_irrefl _ (nm_lt_trans k h1)
    unfold insN
    rw [if_neg h2, if_neg h3, insN_pos p r n ⟨by have := h.le; simp at this; exact this, fun i y hi hy => h.lo (i + 1) y (by omega) (by simpa using hy), fun i y h4 h5 hy => h.hi (i + 1) y (by omega) (by simp; omega) (by simpa using hy)⟩ (fun hm => hn (List.mem_cons_of_mem _ hm))]
    rfl
theorem insN_mem : ∀ (p : Nm) (L : List Nm), L.Pairwise (· < ·) → p ∈ L → insN p L = L
  | p, x :: r, hs, hm => by
    obtain ⟨h1, h2⟩ := List.pairwise_cons.1 hs
    unfold insN
    by_cases e : p = x
    · rw [if_pos e]
    · have hm' : p ∈ r := (List.mem_cons.1 hm).resolve_left e
      have h3 : ¬ p < x := fun k => nm_lt_irrefl _ (nm_lt_trans k (h1 p hm'))
      rw [if_neg e, if_neg h3, insN_mem p r h2 hm']
theorem insN_lenR (p : Nm) : ∀ L : List Nm, (insN p L).length ≤ L.length + 1
  | [] => by simp [insN]
  | x :: r => by
    unfold insN
    split
    · omega
    · split
      · simp
      · have := insN_lenR p r
        simp only [List.length_cons]
        omega
theorem insAll_drop (lv : List Bd) (k : Nat) (b : Bd) (h : lv[k]? = some b) (L : List Nm) : insAll (lv.drop k) L = insAll (lv.drop (k + 1)) (insN b.1 L) := by
  obtain ⟨hk, e⟩ := List.getElem?_eq_some_iff.1 h
  rw [List.drop_eq_getElem_cons hk, e]
  rfl
/-- what of some names is bound -/
def outN (S : List (List Bd)) (L : List Nm) : List Bd := L.filterMap (boundB S)
theorem outN_take (S : List (List Bd)) (L : List Nm) (i : Nat) (x : Nm) (h : L[i]? = some x) : outN S (L.take (i + 1)) = outN S (L.take i) ++ (if uriS S x = [] then [] else [(x, uriS S x)]) := by
  obtain ⟨hi, e⟩ := List.getElem?_eq_some_iff.1 h
  have e1 : L.take (i + 1) = L.take i ++ [x] := by rw [List.take_add_one, h]; rfl
  unfold outN
  rw [e1, List.filterMap_append]
  congr 1
  unfold uriS
  cases hl : lookS S x with
  | none => simp [boundB, hl]
  | some u =>
    by_cases hu : u = []
    · simp [boundB, hl, hu]
    · simp [boundB, hl, hu]
theorem outN_len (S : List (List Bd)) (L : List Nm) : (outN S L).length ≤ L.length := List.length_filterMap_le _ _
end Go.Proofs.Ythhnpnjnlbjdjaa
