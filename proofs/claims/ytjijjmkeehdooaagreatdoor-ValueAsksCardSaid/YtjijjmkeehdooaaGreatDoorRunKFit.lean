/-
  PLAIN MATHEMATICS FOR LAYER 10: no part of a piece is longer than the text that it is of (but for a character's bytes).
-/
import Derived.Test.YtjijjmkeehdooaaGreatDoorTokStart
import Derived.Test.YtjijjmkeehdooaaGreatDoorTokPart
namespace Go.Proofs.YtjijjmkeehdooaaGreatDoor
open Go Go.Lib

def Fit (N : Nat) (t : Tok) : Prop := t.name.size ≤ N ∧ ∀ a ∈ t.attrs, a.1.size ≤ N ∧ a.2.size ≤ N
theorem bsize (x : List UInt8) : (bytes x).size = x.length := by show x.toArray.size = _; rw [List.size_toArray]
theorem name_fit (r : List UInt8) : (bytes (nameT r)).size ≤ r.length := by rw [bsize, nameT_length]; exact wh_le _ _
theorem fit_mono {N M : Nat} {t : Tok} (h : Fit N t) (hN : N ≤ M) : Fit M t := ⟨Nat.le_trans h.1 hN, fun a ha => ⟨Nat.le_trans (h.2 a ha).1 hN, Nat.le_trans (h.2 a ha).2 hN⟩⟩
theorem quote_fit {r : List UInt8} {x : List UInt8 × List UInt8} (h : quoteP r = some x) : x.1.length ≤ r.length := by
  unfold quoteP at h
  match r, h with
  | q :: t, h =>
    simp only at h
    split at h
    · split at h
      · injection h with h
        subst h
        show (t.take _).length ≤ _
        rw [List.length_take, List.length_cons]
        omega
      · cases h
    · cases h
theorem attr_fit {r : List UInt8} {x : (ByteArray × ByteArray) × List UInt8} (h : attrP r = some x) : x.1.1.size ≤ r.length ∧ x.1.2.size ≤ r.length ∧ x.2.length ≤ r.length := by
  have hl : x.2.length ≤ r.length := by
    have h2 := h
    rw [← rst_attr] at h2
    unfold rst at h2
    obtain ⟨y, _, hy⟩ := Option.map_eq_some_iff.1 h2
    subst hy
    show (r.drop _).length ≤ _
    rw [List.length_drop]
    omega
  unfold attrP at h
  simp only at h
  split at h
  · cases hq : quoteP ((((r.drop (whN partB r)).drop (gapL (r.drop (whN partB r)))).drop 1).drop (gapL (((r.drop (whN partB r)).drop (gapL (r.drop (whN partB r)))).drop 1))) with
    | none => rw [hq] at h; cases h
    | some z =>
      rw [hq, Option.bind_some] at h
      injection h with h
      subst h
      have := quote_fit hq
      simp only [List.length_drop] at this
      exact ⟨name_fit r, by show (bytes z.1).size ≤ _; rw [bsize]; omega, hl⟩
  · cases h
theorem attrsR_fit : ∀ (n : Nat) (l : List UInt8), l.length ≤ n → ∀ x, attrsR l = some x → ∀ a ∈ x.1, a.1.size ≤ l.length ∧ a.2.size ≤ l.length
  | 0, l, hl, x, h, a, ha => by
    obtain rfl : l = [] := List.eq_nil_of_length_eq_zero (by omega)
    cases h
  | n + 1, l, hl, x, h, a, ha => by
    rw [attrsR_step] at h
    split at h
    · injection h with h; subst h; cases ha
    · split at h
      · injection h with h; subst h; cases ha
      · split at h
        · cases h
        · rename_i h0
          cases hp : attrP (l.drop (gapL l)) with
          | none => rw [hp] at h; cases h
          | some z =>
            rw [hp, Option.bind_some] at h
            obtain ⟨f1, f2, f3⟩ := attr_fit hp
            have hg := gap_le l
            rw [List.length_drop] at f1 f2 f3
            cases hr : attrsR z.2 with
            | none => rw [hr] at h; cases h
            | some q =>
              rw [hr, Option.bind_some] at h
              injection h with h
              subst h
              rcases List.mem_cons.1 ha with e | e
              · subst e; exact ⟨by omega, by omega⟩
              · obtain ⟨g1, g2⟩ := attrsR_fit n z.2 (by omega) q hr a e
                exact ⟨by omega, by omega⟩
theorem nextP_fit (l : List UInt8) (t : Tok) (r : List UInt8) (h : nextP l = some (t, r)) : Fit l.length t := by
  have no : ∀ {x : Option (Tok × List UInt8)}, x = some (t, r) → (∀ t' r', x = some (t', r') → Fit l.length t') → Fit l.length t := fun hx hy => hy t r hx
  have plain : ∀ (k : Nat) (tx : ByteArray) (e : Bool), Fit l.length ⟨k, ⟨#[]⟩, tx, [], e⟩ := fun k tx e => ⟨Nat.zero_le _, fun a ha => by cases ha⟩
  have named : ∀ (k j : Nat) (tx : ByteArray) (e : Bool), Fit l.length ⟨k, bytes (nameT (l.drop j)), tx, [], e⟩ := fun k j tx e => ⟨by
    have := name_fit (l.drop j)
    rw [List.length_drop] at this
    show (bytes _).size ≤ _
    omega, fun a ha => by cases ha⟩
  unfold nextP at h
  split at h
  · refine no h fun t' r' e => ?_
    unfold commentP at e
    cases hf : findL [45, 45] (l.drop 4) with
    | none => rw [hf] at e; cases e
    | some k =>
      rw [hf, Option.bind_some] at e
      split at e
      · injection e with e; injection e with e1 _; rw [← e1]; exact plain _ _ _
      · cases e
  · split at h
    · refine no h fun t' r' e => ?_
      unfold cdataP at e
      cases hf : findL [93, 93, 62] (l.drop 9) with
      | none => rw [hf] at e; cases e
      | some k =>
        rw [hf, Option.bind_some] at e
        injection e with e; injection e with e1 _; rw [← e1]; exact plain _ _ _
    · split at h
      · refine no h fun t' r' e => ?_
        unfold piP at e
        simp only at e
        split at e
        · split at e
          · injection e with e; injection e with e1 _; rw [← e1]; exact named _ _ _ _
          · split at e
            · cases e
            · generalize ((l.drop 2).drop (whN partB (l.drop 2))).drop (gapL ((l.drop 2).drop (whN partB (l.drop 2)))) = L at e
              cases hf : findL [63, 62] L with
              | none => rw [hf] at e; cases e
              | some k =>
                rw [hf, Option.bind_some] at e
                injection e with e; injection e with e1 _; rw [← e1]; exact named _ _ _ _
        · cases e
      · split at h
        · refine no h fun t' r' e => ?_
          unfold endP at e
          simp only at e
          split at e
          · injection e with e; injection e with e1 _; rw [← e1]; exact named _ _ _ _
          · cases e
        · split at h
          · refine no h fun t' r' e => ?_
            unfold startP at e
            split at e
            · cases hr : attrsR ((l.drop 1).drop (whN partB (l.drop 1))) with
              | none => rw [hr] at e; cases e
              | some q =>
                rw [hr, Option.bind_some] at e
                injection e with e; injection e with e1 _; rw [← e1]
                refine ⟨(named 2 1 ⟨#[]⟩ false).1, fun a ha => ?_⟩
                have := attrsR_fit _ _ (Nat.le_refl _) q hr a ha
                simp only [List.length_drop] at this
                exact ⟨by omega, by omega⟩
            · cases e
          · split at h
            · refine no h fun t' r' e => ?_
              unfold charP at e
              cases hf : findL [59] (l.drop 2) with
              | none => rw [hf] at e; cases e
              | some k =>
                rw [hf, Option.bind_some] at e
                cases hv : refV ((l.drop 2).take k) with
                | none => rw [hv] at e; cases e
                | some cv =>
                  rw [hv, Option.bind_some] at e
                  injection e with e; injection e with e1 _
                  have h0 : t'.name = ⟨#[]⟩ ∧ t'.attrs = [] := by rw [← e1]; exact ⟨rfl, rfl⟩
                  exact ⟨by rw [h0.1]; exact Nat.zero_le _, fun a ha => by rw [h0.2] at ha; cases ha⟩
            · split at h
              · refine no h fun t' r' e => ?_
                unfold refP at e
                split at e
                · injection e with e; injection e with e1 _; rw [← e1]; exact named _ _ _ _
                · cases e
              · refine no h fun t' r' e => ?_
                unfold plainP at e
                split at e
                · injection e with e; injection e with e1 _; rw [← e1]; exact plain _ _ _
                · cases e
end Go.Proofs.YtjijjmkeehdooaaGreatDoor
