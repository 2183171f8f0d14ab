/-
  PLAIN MATHEMATICS FOR LAYER 9 (a number for each text): places that are looked at one by one, round about.
-/
namespace Go.Proofs.Ytkleaedfpgaohaa

def hashL (h : Nat) : List UInt8 → Nat
  | [] => h
  | b :: t => hashL ((h ^^^ b.toNat) * 1099511628211 % 18446744073709551616) t
def hashN (s : ByteArray) : Nat := hashL 14695981039346656037 s.data.toList
def valAt (P : List Nat) (p : Nat) : Nat := P.getD p 0
def textAt (L : List ByteArray) (j : Nat) : ByteArray := L.getD j ⟨#[]⟩
/-- here a search for s ends: the place is empty, or bears s -/
def Ends (P : List Nat) (L : List ByteArray) (s : ByteArray) (p : Nat) : Prop := valAt P p = 0 ∨ textAt L (valAt P p - 1) = s
instance (P : List Nat) (L : List ByteArray) (s : ByteArray) (p : Nat) : Decidable (Ends P L s p) := by unfold Ends; exact inferInstance
/-- from place p on, of which it is the n-th: where the search ends, and how many were looked at -/
def probe (P : List Nat) (L : List ByteArray) (s : ByteArray) : Nat → Nat → Nat → Nat × Nat
  | 0, p, n => (p, n)
  | f + 1, p, n => if Ends P L s p then (p, n) else probe P L s f ((p + 1) % P.length) (n + 1)
def lookT (P : List Nat) (L : List ByteArray) (s : ByteArray) : Nat × Nat := probe P L s P.length (hashN s % P.length) 1

theorem slot_next (p d m : Nat) : ((p + 1) % m + d) % m = (p + (d + 1)) % m := by
  rw [Nat.mod_add_mod]
  congr 1
  omega
/-- THE SEARCH ENDS AT THE FIRST PLACE WHERE IT MAY. -/
theorem probe_spec (P : List Nat) (L : List ByteArray) (s : ByteArray) : ∀ (f p n : Nat), p < P.length → (∃ d, d < f ∧ Ends P L s ((p + d) % P.length)) →
    ∃ d, d < f ∧ Ends P L s ((p + d) % P.length) ∧ (∀ e, e < d → ¬ Ends P L s ((p + e) % P.length)) ∧ probe P L s f p n = ((p + d) % P.length, n + d)
  | 0, _, _, _, ⟨d, hd, _⟩ => by omega
  | f + 1, p, n, hp, ⟨d, hd, hE⟩ => by
    by_cases h0 : Ends P L s p
    · refine ⟨0, by omega, ?_, fun e he => by omega, ?_⟩
      · rw [Nat.add_zero, Nat.mod_eq_of_lt hp]; exact h0
      · unfold probe
        rw [if_pos h0, Nat.add_zero, Nat.add_zero, Nat.mod_eq_of_lt hp]
    · have hm : 0 < P.length := by omega
      obtain ⟨d', rfl⟩ : ∃ d', d = d' + 1 := by
        cases d with
        | zero =>
          rw [Nat.add_zero, Nat.mod_eq_of_lt hp] at hE
          exact absurd hE h0
        | succ d' => exact ⟨d', rfl⟩
      obtain ⟨e, he1, he2, he3, he4⟩ := probe_spec P L s f ((p + 1) % P.length) (n + 1) (Nat.mod_lt _ hm) ⟨d', by omega, by rw [slot_next]; exact hE⟩
      refine ⟨e + 1, by omega, by rw [← slot_next]; exact he2, fun x hx => ?_, ?_⟩
      · cases x with
        | zero => rw [Nat.add_zero, Nat.mod_eq_of_lt hp]; exact h0
        | succ x => rw [← slot_next]; exact he3 x (by omega)
      · unfold probe
        rw [if_neg h0, he4, slot_next]
        congr 1
        omega
theorem slot_reach (p q m : Nat) (hp : p < m) (hq : q < m) : ∃ d, d < m ∧ (p + d) % m = q := by
  by_cases h : p ≤ q
  · exact ⟨q - p, by omega, by rw [show p + (q - p) = q by omega, Nat.mod_eq_of_lt hq]⟩
  · refine ⟨q + m - p, by omega, ?_⟩
    rw [show p + (q + m - p) = q + m by omega, Nat.add_mod_right, Nat.mod_eq_of_lt hq]
theorem slot_inj (p d e m : Nat) (hd : d < m) (he : e < m) (h : (p + d) % m = (p + e) % m) : d = e := by
  have h1 := Nat.div_add_mod (p + d) m
  have h2 := Nat.div_add_mod (p + e) m
  rw [h] at h1
  have h3 : m * ((p + d) / m) + e = m * ((p + e) / m) + d := by omega
  generalize (p + d) / m = a at *
  generalize (p + e) / m = b at *
  rcases Nat.lt_trichotomy a b with hab | hab | hab
  · have : m * (a + 1) ≤ m * b := Nat.mul_le_mul_left m hab
    rw [Nat.mul_add, Nat.mul_one] at this
    omega
  · subst hab; omega
  · have : m * (b + 1) ≤ m * a := Nat.mul_le_mul_left m hab
    rw [Nat.mul_add, Nat.mul_one] at this
    omega
/-! ### how many places are taken -/
def takenN (P : List Nat) : Nat := P.countP (fun v => decide (v ≠ 0))
theorem empty_place (P : List Nat) (h : takenN P < P.length) : ∃ p, p < P.length ∧ valAt P p = 0 := by
  induction P with
  | nil => simp at h
  | cons v t ih =>
    by_cases hv : v = 0
    · exact ⟨0, by simp, by simp [valAt, hv]⟩
    · have : takenN t < t.length := by
        unfold takenN at h ⊢
        rw [List.countP_cons, if_pos (by simpa using hv), List.length_cons] at h
        omega
      obtain ⟨p, h1, h2⟩ := ih this
      exact ⟨p + 1, by simp; omega, by simpa [valAt] using h2⟩
theorem taken_set (P : List Nat) (p v : Nat) (hp : p < P.length) (h0 : valAt P p = 0) (hv : v ≠ 0) : takenN (P.set p v) = takenN P + 1 := by
  induction P generalizing p with
  | nil => simp at hp
  | cons x t ih =>
    unfold takenN at *
    cases p with
    | zero =>
      have hx : x = 0 := by simpa [valAt] using h0
      subst hx
      simp [hv]
    | succ q =>
      have := ih q (by simpa using hp) (by simpa [valAt] using h0)
      simp only [List.set_cons_succ, List.countP_cons, this]
      omega
theorem val_set (P : List Nat) (p q v : Nat) (hp : p < P.length) : valAt (P.set p v) q = if q = p then v else valAt P q := by
  unfold valAt
  by_cases h : q = p
  · subst h
    rw [if_pos rfl]
    simp [List.getD, hp]
  · rw [if_neg h]
    simp [List.getD, Ne.symm h]
theorem taken_unset (P : List Nat) (p : Nat) (hp : p < P.length) (h0 : valAt P p ≠ 0) : takenN (P.set p 0) + 1 = takenN P := by
  have h1 := taken_set (P.set p 0) p (valAt P p) (by rw [List.length_set]; exact hp) (by rw [val_set P p p 0 hp, if_pos rfl]) h0
  rw [List.set_set] at h1
  have h2 : P.set p (valAt P p) = P := by
    apply List.ext_getElem (by simp)
    intro j h3 h4
    rw [List.getElem_set]
    split
    · rename_i e
      subst e
      simp [valAt, List.getD, List.getElem?_eq_getElem h4]
    · rfl
  rw [h2] at h1
  omega
/-- so many places one behind the other are taken: no more than there are -/
theorem run_le : ∀ (n : Nat) (P : List Nat) (p : Nat), n ≤ P.length → (∀ e, e < n → valAt P ((p + e) % P.length) ≠ 0) → n ≤ takenN P
  | 0, _, _, _, _ => Nat.zero_le _
  | n + 1, P, p, hn, h => by
    have hq : (p + n) % P.length < P.length := Nat.mod_lt _ (by omega)
    have h1 := taken_unset P _ hq (h n (by omega))
    have h2 := run_le n (P.set ((p + n) % P.length) 0) p (by rw [List.length_set]; omega) (fun e he => by
      rw [List.length_set, val_set P _ _ 0 hq, if_neg (fun heq => by
        have := slot_inj p e n P.length (by omega) (by omega) heq
        omega)]
      exact h e (by omega))
    omega

/-! ### a table in which the first i texts of L stand -/
structure Part (P : List Nat) (L : List ByteArray) (i : Nat) : Prop where
  few : i ≤ L.length
  taken : takenN P = i
  vals : ∀ p, p < P.length → valAt P p ≤ i
  at' : ∀ j, j < i → ∃ d, d < P.length ∧ valAt P ((hashN (textAt L j) % P.length + d) % P.length) = j + 1 ∧ ∀ e, e < d → valAt P ((hashN (textAt L j) % P.length + e) % P.length) ≠ 0
/-- no two texts alike -/
def Apart9 (L : List ByteArray) : Prop := ∀ i j, i < L.length → j < L.length → textAt L i = textAt L j → i = j
section
variable {P : List Nat} {L : List ByteArray} {i : Nat}
theorem Part.look (h : Part P L i) (hi : i < P.length) (s : ByteArray) :
    ∃ d, d < P.length ∧ lookT P L s = ((hashN s % P.length + d) % P.length, 1 + d) ∧ Ends P L s ((hashN s % P.length + d) % P.length) ∧ ∀ e, e < d → ¬ Ends P L s ((hashN s % P.length + e) % P.length) := by
  have hm : 0 < P.length := by omega
  have hp : hashN s % P.length < P.length := Nat.mod_lt _ hm
  obtain ⟨q, hq1, hq2⟩ := empty_place P (by rw [h.taken]; exact hi)
  obtain ⟨d0, hd1, hd2⟩ := slot_reach (hashN s % P.length) q P.length hp hq1
  obtain ⟨d, h1, h2, h3, h4⟩ := probe_spec P L s P.length (hashN s % P.length) 1 hp ⟨d0, hd1, Or.inl (by rw [hd2]; exact hq2)⟩
  exact ⟨d, h1, h4, h2, h3⟩
/-- A TEXT THAT STANDS THERE IS FOUND. -/
theorem Part.found (h : Part P L i) (hL : Apart9 L) (hi : i < P.length) (j : Nat) (hj : j < i) :
    valAt P (lookT P L (textAt L j)).1 = j + 1 ∧ 1 ≤ (lookT P L (textAt L j)).2 ∧ (lookT P L (textAt L j)).2 ≤ i ∧ (lookT P L (textAt L j)).1 < P.length := by
  obtain ⟨d, h1, h2, h3, h4⟩ := h.look hi (textAt L j)
  obtain ⟨d', g1, g2, g3⟩ := h.at' j hj
  have hm : 0 < P.length := by omega
  have hf := h.few
  have hle : d ≤ d' := by
    rcases Nat.lt_or_ge d' d with hgt | hle
    · exact absurd (Or.inr (by rw [g2]; rfl)) (h4 d' hgt)
    · exact hle
  have hne : valAt P ((hashN (textAt L j) % P.length + d) % P.length) ≠ 0 := by
    by_cases e : d = d'
    · rw [e, g2]; omega
    · exact g3 d (by omega)
  have hv := h.vals ((hashN (textAt L j) % P.length + d) % P.length) (Nat.mod_lt _ hm)
  have e1 : valAt P ((hashN (textAt L j) % P.length + d) % P.length) = j + 1 := by
    rcases h3 with h3 | h3
    · exact absurd h3 hne
    · have := hL _ _ (by omega) (by omega) h3
      omega
  rw [h2]
  refine ⟨e1, by show 1 ≤ 1 + d; omega, ?_, Nat.mod_lt _ hm⟩
  have := run_le (d + 1) P (hashN (textAt L j) % P.length) (by omega) (fun e he => by
    by_cases e0 : e = d
    · rw [e0]; exact hne
    · exact g3 e (by omega))
  rw [h.taken] at this
  show 1 + d ≤ i
  omega
/-- A TEXT THAT DOES NOT STAND THERE COMES TO AN EMPTY PLACE. -/
theorem Part.missed (h : Part P L i) (hi : i < P.length) (s : ByteArray) (hs : ∀ j, j < i → textAt L j ≠ s) :
    ∃ d, d < P.length ∧ lookT P L s = ((hashN s % P.length + d) % P.length, 1 + d) ∧ valAt P ((hashN s % P.length + d) % P.length) = 0 ∧ ∀ e, e < d → valAt P ((hashN s % P.length + e) % P.length) ≠ 0 := by
  obtain ⟨d, h1, h2, h3, h4⟩ := h.look hi s
  have hm : 0 < P.length := by omega
  refine ⟨d, h1, h2, ?_, fun e he h0 => h4 e he (Or.inl h0)⟩
  rcases h3 with h3 | h3
  · exact h3
  · by_cases h0 : valAt P ((hashN s % P.length + d) % P.length) = 0
    · exact h0
    · have hv := h.vals ((hashN s % P.length + d) % P.length) (Nat.mod_lt _ hm)
      exact absurd h3 (hs _ (by omega))
/-- one text more -/
theorem Part.insert (h : Part P L i) (hi : i < P.length) (hil : i < L.length) (hs : ∀ j, j < i → textAt L j ≠ textAt L i) :
    valAt P (lookT P L (textAt L i)).1 = 0 ∧ (lookT P L (textAt L i)).1 < P.length ∧ Part (P.set (lookT P L (textAt L i)).1 (i + 1)) L (i + 1) := by
  obtain ⟨d, h1, h2, h3, h4⟩ := h.missed hi (textAt L i) hs
  have hm : 0 < P.length := by omega
  obtain ⟨p, hp⟩ : ∃ p, (hashN (textAt L i) % P.length + d) % P.length = p := ⟨_, rfl⟩
  have hpl : p < P.length := by rw [← hp]; exact Nat.mod_lt _ hm
  rw [hp] at h2 h3
  rw [h2]
  refine ⟨h3, hpl, ⟨by omega, ?_, ?_, ?_⟩⟩
  · rw [taken_set P p (i + 1) hpl h3 (by omega), h.taken]
  · intro q hq
    rw [List.length_set] at hq
    rw [val_set P p q (i + 1) hpl]
    split
    · omega
    · have := h.vals q hq
      omega
  · intro j hj
    by_cases e : j = i
    · subst e
      refine ⟨d, by rw [List.length_set]; exact h1, ?_, fun e he => ?_⟩
      · rw [List.length_set, hp, val_set P p p _ hpl, if_pos rfl]
      · rw [List.length_set, val_set P p _ _ hpl]
        split
        · omega
        · exact h4 e he
    · obtain ⟨d', g1, g2, g3⟩ := h.at' j (by omega)
      refine ⟨d', by rw [List.length_set]; exact g1, ?_, fun e he => ?_⟩
      · rw [List.length_set, val_set P p _ _ hpl, if_neg (fun heq => by rw [heq, h3] at g2; omega)]
        exact g2
      · rw [List.length_set, val_set P p _ _ hpl]
        split
        · omega
        · exact g3 e he
end
theorem text_append (L : List ByteArray) (s : ByteArray) (j : Nat) (h : j < L.length) : textAt (L ++ [s]) j = textAt L j := by
  simp [textAt, List.getD, List.getElem?_append_left h]
theorem text_last (L : List ByteArray) (s : ByteArray) : textAt (L ++ [s]) L.length = s := by
  simp [textAt, List.getD]
theorem Part.more {P : List Nat} {L : List ByteArray} {i : Nat} (h : Part P L i) (s : ByteArray) : Part P (L ++ [s]) i := by
  have hf := h.few
  refine ⟨by rw [List.length_append]; omega, h.taken, h.vals, fun j hj => ?_⟩
  rw [text_append L s j (by omega)]
  exact h.at' j hj
theorem probe_congr {P : List Nat} {L L' : List ByteArray} {s : ByteArray} (h : ∀ p, Ends P L s p ↔ Ends P L' s p) : ∀ f p n, probe P L s f p n = probe P L' s f p n
  | 0, _, _ => rfl
  | f + 1, p, n => by
    unfold probe
    rw [probe_congr h f]
    by_cases e : Ends P L s p
    · rw [if_pos e, if_pos ((h p).1 e)]
    · rw [if_neg e, if_neg (fun h' => e ((h p).2 h'))]
theorem look_more {P : List Nat} {L : List ByteArray} (h : Part P L L.length) (s : ByteArray) : lookT P (L ++ [s]) s = lookT P L s := by
  unfold lookT
  refine probe_congr (fun p => ?_) _ _ _
  unfold Ends
  by_cases h0 : valAt P p = 0
  · simp [h0]
  · have hp : p < P.length := by
      rcases Nat.lt_or_ge p P.length with hp | hp
      · exact hp
      · exact absurd (by simp [valAt, List.getD, List.getElem?_eq_none hp]) h0
    have := h.vals p hp
    rw [text_append L s _ (by omega)]

/-! ### the table: texts, places -/
/-- all put anew, the first k of them -/
def fillTo (L : List ByteArray) (P : List Nat) : Nat → List Nat
  | 0 => P
  | k + 1 => (fillTo L P k).set (lookT (fillTo L P k) L (textAt L k)).1 (k + 1)
/-- the places behind a put of s, which was not there; p: where its search ended -/
def grown9 (L : List ByteArray) (P : List Nat) (p : Nat) : List Nat :=
  if P.length < 2 * L.length then fillTo L (List.replicate (2 * P.length) 0) L.length else P.set p L.length
structure Good (L : List ByteArray) (P : List Nat) : Prop where
  part : Part P L L.length
  apart : Apart9 L
  half : 2 * L.length ≤ P.length
  eight : 8 ≤ P.length
theorem part_none (m : Nat) (L : List ByteArray) : Part (List.replicate m 0) L 0 := by
  refine ⟨Nat.zero_le _, ?_, fun p hp => ?_, fun j hj => by omega⟩
  · unfold takenN
    rw [List.countP_replicate]
    simp
  · rw [List.length_replicate] at hp
    simp [valAt, List.getD, hp]
theorem fill_length (L : List ByteArray) (P : List Nat) : ∀ k, (fillTo L P k).length = P.length
  | 0 => rfl
  | k + 1 => by unfold fillTo; rw [List.length_set, fill_length L P k]
theorem fill_part {L : List ByteArray} {P : List Nat} (hA : Apart9 L) (h0 : Part P L 0) (hm : L.length ≤ P.length) : ∀ k, k ≤ L.length → Part (fillTo L P k) L k
  | 0, _ => h0
  | k + 1, hk => by
    have ih := fill_part hA h0 hm k (by omega)
    exact (ih.insert (by rw [fill_length]; omega) (by omega) (fun j hj e => by have := hA j k (by omega) (by omega) e; omega)).2.2
theorem good_new : Good [] (List.replicate 8 0) := ⟨part_none 8 [], fun i j hi => by simp at hi, by simp, by simp⟩
theorem Good.room {L : List ByteArray} {P : List Nat} (h : Good L P) : L.length < P.length := by have := h.half; have := h.eight; omega
/-- A PUT KEEPS A GOOD TABLE GOOD. -/
theorem Good.put {L : List ByteArray} {P : List Nat} (h : Good L P) (s : ByteArray) (hs : ∀ j, j < L.length → textAt L j ≠ s) : Good (L ++ [s]) (grown9 (L ++ [s]) P (lookT P L s).1) := by
  have hA : Apart9 (L ++ [s]) := by
    intro i j hi hj e
    rw [List.length_append] at hi hj
    simp at hi hj
    by_cases h1 : i < L.length
    · by_cases h2 : j < L.length
      · rw [text_append L s i h1, text_append L s j h2] at e
        exact h.apart i j h1 h2 e
      · have : j = L.length := by omega
        subst this
        rw [text_append L s i h1, text_last] at e
        exact absurd e (hs i h1)
    · have hi2 : i = L.length := by omega
      by_cases h2 : j < L.length
      · subst hi2
        rw [text_last, text_append L s j h2] at e
        exact absurd e.symm (hs j h2)
      · omega
  have hlen : (L ++ [s]).length = L.length + 1 := by simp
  have hr := h.room
  have hh := h.half
  have he := h.eight
  unfold grown9
  split
  · rename_i hg
    refine ⟨fill_part hA (part_none _ _) (by rw [List.length_replicate]; omega) _ (Nat.le_refl _), hA, ?_, ?_⟩
    · rw [fill_length, List.length_replicate, hlen]; omega
    · rw [fill_length, List.length_replicate]; omega
  · rename_i hg
    have hins := (h.part.more s).insert hr (by rw [hlen]; omega) (fun j hj e => by
      rw [text_append L s j hj, text_last] at e
      exact hs j hj e)
    rw [text_last, look_more h.part s] at hins
    refine ⟨by rw [hlen]; exact hins.2.2, hA, ?_, ?_⟩
    · rw [List.length_set]; omega
    · rw [List.length_set]; exact he
end Go.Proofs.Ytkleaedfpgaohaa
