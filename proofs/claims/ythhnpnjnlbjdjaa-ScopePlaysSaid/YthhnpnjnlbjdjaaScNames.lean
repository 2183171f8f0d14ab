/-
  NAMES OF A FEW, AND HOW MANY OF THEM ARE BOUND.
-/
import Derived.Test.YthhnpnjnlbjdjaaScOps
import Derived.Deep.LoopGhost
import Derived.Sort.Walk0
namespace Go.Proofs.Ythhnpnjnlbjdjaa
open Go.RowKit

/-! ### texts that are compared -/
theorem s14eq (a l : Nm) : ((bytes a).toList == l) = decide (a = l) := by
  rw [bytesL_toList]
  by_cases h : a = l
  · subst h; simp
  · simp [h]
theorem s14t {a l : Nm} (h : a = l) : ((bytes a).toList == l) = true := by rw [s14eq]; exact decide_eq_true h
theorem s14f {a l : Nm} (h : a ≠ l) : ((bytes a).toList == l) = false := by rw [s14eq]; exact decide_eq_false h
theorem s14e (a : Nm) : (bytes a).toList.isEmpty = decide (a = []) := by
  rw [bytesL_toList]
  cases a <;> simp
theorem s14et {a : Nm} (h : a = []) : (bytes a).toList.isEmpty = true := by rw [s14e]; exact decide_eq_true h
theorem s14ef {a : Nm} (h : a ≠ []) : (bytes a).toList.isEmpty = false := by rw [s14e]; exact decide_eq_false h
theorem s14l (a b : Nm) : Op.bytesLess (bytes a).toList (bytes b).toList = decide (a < b) := by rw [bytesL_toList, bytesL_toList]; exact Go.Proofs.bytesLess_eq a b
theorem s14q (a b : Nm) : ((bytes a).toList == (bytes b).toList) = decide (a = b) := by rw [s14eq, bytesL_toList]

/-- the names of the law -/
def names7 : List Nm := [[], [112], [113], [97], [98], [114], xmlN]
def NamesD (S : List (List Bd)) : Prop := ∀ lv ∈ S, ∀ b ∈ lv, b.1 ∈ names7
theorem namesD_nil : NamesD [] := fun _ h => by cases h
theorem bindsL_of : ∀ {l : List At4} {lv lv' : List Bd}, bindsL lv l = some lv' → ∀ b ∈ lv', b ∈ lv ∨ (mayB b = true ∧ ∃ a ∈ l, declB a = some b)
  | [], lv, lv', h, b, hb => by
    unfold bindsL at h
    injection h with h
    subst h
    exact Or.inl hb
  | a :: r, lv, lv', h, b, hb => by
    unfold bindsL at h
    split at h
    · cases h
    · rename_i lv1 h1
      rcases bindsL_of h b hb with h2 | ⟨h2, x, hx, h3⟩
      · rcases addB_nice h1 with rfl | ⟨c, hc, hm, _, rfl⟩
        · exact Or.inl h2
        · rcases List.mem_append.1 h2 with h2 | h2
          · exact Or.inl h2
          · simp at h2
            subst h2
            exact Or.inr ⟨hm, a, by simp, hc⟩
      · exact Or.inr ⟨h2, x, by simp [hx], h3⟩
theorem locN_names (x : Nat) (h : locN.getD x [] ≠ xmlnsN) : locN.getD x [] ∈ names7 := by
  by_cases hx : x < 9
  · rcases (show x = 0 ∨ x = 1 ∨ x = 2 ∨ x = 3 ∨ x = 4 ∨ x = 5 ∨ x = 6 ∨ x = 7 ∨ x = 8 by omega) with rfl | rfl | rfl | rfl | rfl | rfl | rfl | rfl | rfl <;> first | (exact absurd rfl h) | decide
  · rw [List.getD_eq_getElem?_getD, List.getElem?_eq_none (by show 9 ≤ x; omega)]
    decide
theorem declZ_name {z : Int} {b : Bd} (h : declB (declZ z) = some b) (hm : mayB b = true) : b.1 ∈ names7 := by
  unfold declB at h
  split at h
  · split at h
    · rename_i hc
      injection h with h
      subst h
      have h1 : (declZ z).loc ≠ xmlnsN := by
        intro e
        unfold mayB at hm
        rw [if_neg hc.2, e] at hm
        simp at hm
      show (declZ z).loc ∈ names7
      unfold declZ declU at h1 ⊢
      dsimp only at h1 ⊢
      split at h1
      · exact absurd rfl h1
      · rename_i h2
        rw [if_neg h2]
        exact locN_names _ h1
    · split at h
      · injection h with h
        subst h
        show ([] : Nm) ∈ names7
        decide
      · cases h
  · cases h
theorem NamesD.push {S : List (List Bd)} (h : NamesD S) (zs : List Int) (most : Nat) : NamesD (pushS S (declsZ zs most)) := by
  unfold pushS
  split
  · rename_i lv hl
    intro l hm b hb
    rcases List.mem_cons.1 hm with rfl | hm
    · rcases bindsL_of hl b hb with h1 | ⟨h1, a, ha, h2⟩
      · cases h1
      · unfold declsZ at ha
        obtain ⟨z, _, rfl⟩ := List.mem_map.1 ha
        exact declZ_name h2 h1
    · exact h l hm b hb
  · exact h
theorem push_len (S : List (List Bd)) (l : List At4) : (pushS S l).length ≤ S.length + 1 := by
  unfold pushS
  split <;> simp
theorem NamesD.look {S : List (List Bd)} (h : NamesD S) {p u : Nm} (hl : lookS S p = some u) : p ∈ names7 := by
  induction S with
  | nil =>
    unfold lookS at hl
    split at hl
    · rename_i e; subst e; decide
    · cases hl
  | cons lv r ih =>
    unfold lookS at hl
    cases hi : inLv lv p with
    | none => rw [hi] at hl; exact ih (fun l hm => h l (List.mem_cons_of_mem _ hm)) hl
    | some v => exact h lv (by simp) _ (inLv_mem hi)
theorem nodup_le : ∀ {a b : List Nm}, a.Nodup → (∀ x ∈ a, x ∈ b) → a.length ≤ b.length
  | [], _, _, _ => Nat.zero_le _
  | x :: r, b, ha, h => by
    obtain ⟨h1, h2⟩ := List.nodup_cons.1 ha
    have hx := h x (by simp)
    have h3 := nodup_le (a := r) (b := b.erase x) h2 fun y hy => (List.mem_erase_of_ne (fun e => h1 (by rw [← e]; exact hy))).2 (h y (by simp [hy]))
    have h4 := List.length_erase_of_mem hx
    have h5 := List.length_pos_of_mem hx
    simp only [List.length_cons]
    omega
/-- is a name bound to something? -/
def hasS (S : List (List Bd)) (p : Nm) : Bool := decide (uriS S p ≠ [])
theorem hasS_iff (S : List (List Bd)) (p : Nm) : hasS S p = true ↔ ∃ u, lookS S p = some u ∧ u ≠ [] := by
  unfold hasS uriS
  rw [decide_eq_true_eq]
  cases lookS S p with
  | none => simp
  | some u => simp
theorem hasS_is {S : List (List Bd)} {p : Nm} (h : hasS S p = true) : isS S p = true := by
  obtain ⟨u, h1, _⟩ := (hasS_iff S p).1 h
  unfold isS
  rw [h1]
  rfl
def cntS (S : List (List Bd)) (i : Nat) : Nat := ((names7.take i).filter (hasS S)).length
theorem cntS_succ (S : List (List Bd)) (i : Nat) (hi : i < 7) : cntS S (i + 1) = cntS S i + (if hasS S (names7.getD i []) = true then 1 else 0) := by
  unfold cntS
  have e : names7.take (i + 1) = names7.take i ++ [names7.getD i []] := by
    rcases (show i = 0 ∨ i = 1 ∨ i = 2 ∨ i = 3 ∨ i = 4 ∨ i = 5 ∨ i = 6 by omega) with rfl | rfl | rfl | rfl | rfl | rfl | rfl <;> rfl
  rw [e, List.filter_append, List.length_append]
  congr 1
  by_cases h : hasS S (names7.getD i []) = true
  · rw [if_pos h, List.filter_cons_of_pos h]; rfl
  · rw [if_neg h, List.filter_cons_of_neg h]; rfl
theorem cntS_le (S : List (List Bd)) (i : Nat) : cntS S i ≤ i := by
  unfold cntS
  refine Nat.le_trans (List.length_filter_le _ _) ?_
  rw [List.length_take]
  omega
theorem cntS_all {S : List (List Bd)} (h : NamesD S) : cntS S 7 = (allS S).length := by
  have h1 : ((allS S).map (·.1)).Nodup := by
    have := (sorted_allS S).map (S := fun a b : Nm => a ≠ b) (·.1) (fun a b hab e => nm_lt_irrefl a.1 (by rw [← e] at hab; exact hab))
    exact this
  have h2 : ((names7.take 7).filter (hasS S)).Nodup := List.Pairwise.filter _ (show (names7.take 7).Nodup by decide)
  have h3 := nodup_le h1 (b := (names7.take 7).filter (hasS S)) (by
    intro x hx
    obtain ⟨b, hb, rfl⟩ := List.mem_map.1 hx
    obtain ⟨e1, e2⟩ := mem_allS.1 hb
    exact List.mem_filter.2 ⟨h.look e1, (hasS_iff S b.1).2 ⟨b.2, e1, e2⟩⟩)
  have h4 := nodup_le h2 (b := (allS S).map (·.1)) (by
    intro x hx
    obtain ⟨u, e1, e2⟩ := (hasS_iff S x).1 (List.mem_filter.1 hx).2
    exact List.mem_map.2 ⟨(x, u), mem_allS.2 ⟨e1, e2⟩, rfl⟩)
  rw [List.length_map] at h3 h4
  unfold cntS
  omega
theorem all_len {S : List (List Bd)} (h : NamesD S) : (allS S).length ≤ 7 := by
  rw [← cntS_all h]
  exact cntS_le S 7
theorem findP_le {u p : Nm} : ∀ {l : List Bd}, l.Pairwise (fun a b => a.1 < b.1) → (p, u) ∈ l → p ≠ [] → ∃ q, findP u l = some q ∧ ¬ p < q
  | b :: r, hs, hm, hp => by
    obtain ⟨h1, h2⟩ := List.pairwise_cons.1 hs
    unfold findP
    split
    · rename_i hc
      refine ⟨b.1, rfl, fun hlt => ?_⟩
      rcases List.mem_cons.1 hm with e | hm'
      · subst e
        exact nm_lt_irrefl _ hlt
      · exact nm_lt_irrefl _ (nm_lt_trans hlt (h1 _ hm'))
    · rename_i hc
      rcases List.mem_cons.1 hm with e | hm'
      · subst e
        exact absurd ⟨hp, rfl⟩ hc
      · exact findP_le h2 hm' hp
theorem pref_le {S : List (List Bd)} {p u : Nm} (h : (p, u) ∈ allS S) (hp : p ≠ []) : prefE S u = true ∧ ¬ p < prefS S u := by
  obtain ⟨q, h1, h2⟩ := findP_le (sorted_allS S) h hp
  unfold prefE prefS
  rw [h1]
  exact ⟨rfl, h2⟩
theorem uri_all {S : List (List Bd)} {p u : Nm} (h : (p, u) ∈ allS S) : uriS S p = u ∧ isS S p = true ∧ u ≠ [] := by
  obtain ⟨h1, h2⟩ := mem_allS.1 h
  have h1' : lookS S p = some u := h1
  unfold uriS isS
  rw [h1']
  exact ⟨rfl, rfl, h2⟩
theorem declA_val (b : Bd) : (declA b).val = b.2 := by
  unfold declA
  split <;> rfl
theorem declB_declA (b : Bd) : declB (declA b) = some b := by
  obtain ⟨p, u⟩ := b
  unfold declA
  split
  · rename_i h
    have h' : p = [] := h
    subst h'
    unfold declB
    simp [show ¬ ([] : Nm) = xmlnsN by decide]
  · rename_i h
    have h' : ¬ p = [] := h
    unfold declB
    simp [h']
theorem names7_len (i : Nat) : (names7.getD i []).length ≤ 8388608 := by
  by_cases h : i < 7
  · rcases (show i = 0 ∨ i = 1 ∨ i = 2 ∨ i = 3 ∨ i = 4 ∨ i = 5 ∨ i = 6 by omega) with rfl | rfl | rfl | rfl | rfl | rfl | rfl <;> decide
  · rw [List.getD_eq_getElem?_getD, List.getElem?_eq_none (by show 7 ≤ i; omega)]
    decide
section
variable {Is : (Nat → Prop) → World → Value → List (List Bd) → Prop} {w0 w w' wk : World} {v : Value} {S : List (List Bd)} {K : Nat → Prop}
/-- what has been made since is kept, too -/
theorem SAt.more (R : ScSaid Is) (h : SAt Is w0 v K wk S w) (hb : Below w.heap.size w w') : SAt Is w0 v (fun k => K k ∨ (w.heap.size ≤ k ∧ k < w'.heap.size)) w' S w' := by
  obtain ⟨F, hi, hF⟩ := h.is
  have hin := R.inn F w v S hi
  refine ⟨h.nice, ⟨F, R.keep F w w' v S hi hb.size fun k hk => hb.block k (hin k hk), fun k hk => ⟨(hF k hk).1, fun h1 => ?_⟩⟩, h.since.trans (hb.mono h.since.size), Nat.le_refl _, fun k hk => ?_, fun _ _ => rfl⟩
  · rcases h1 with h1 | h1
    · exact (hF k hk).2 h1
    · have := hin k hk; omega
  · rcases hk with hk | hk
    · have := h.inK k hk; have := h.size; have := hb.size; omega
    · exact hk.2
end
end Go.Proofs.Ythhnpnjnlbjdjaa
