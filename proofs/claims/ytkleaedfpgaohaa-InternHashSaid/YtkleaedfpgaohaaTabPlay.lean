/-
  PLAIN MATHEMATICS FOR LAYER 9: what a put and a find answer, and what the table is then.
-/
import Derived.Test.YtkleaedfpgaohaaTabLaws
namespace Go.Proofs.Ytkleaedfpgaohaa

/-- what stands where the search for s ends: its number and 1; 0: nothing -/
def slotT (P : List Nat) (L : List ByteArray) (s : ByteArray) : Nat := valAt P (lookT P L s).1
theorem look_in {P : List Nat} {L : List ByteArray} (h : Good L P) (s : ByteArray) : (lookT P L s).1 < P.length ∧ 1 ≤ (lookT P L s).2 ∧ (lookT P L s).2 ≤ P.length ∧ slotT P L s ≤ L.length := by
  obtain ⟨d, h1, h2, _, _⟩ := h.part.look h.room s
  have hm : 0 < P.length := by have := h.eight; omega
  have h3 : (lookT P L s).1 < P.length := by rw [h2]; exact Nat.mod_lt _ hm
  refine ⟨h3, by rw [h2]; show 1 ≤ 1 + d; omega, by rw [h2]; show 1 + d ≤ _; omega, h.part.vals _ h3⟩
def putN (L : List ByteArray) (P : List Nat) (s : ByteArray) : Nat := if slotT P L s = 0 then L.length else slotT P L s - 1
def putL (L : List ByteArray) (P : List Nat) (s : ByteArray) : List ByteArray := if slotT P L s = 0 then L ++ [s] else L
def putP (L : List ByteArray) (P : List Nat) (s : ByteArray) : List Nat := if slotT P L s = 0 then grown9 (L ++ [s]) P (lookT P L s).1 else P
def textG (L : List ByteArray) (k : Int) : ByteArray := if 0 ≤ k ∧ k < L.length then textAt L k.toNat else ⟨#[]⟩
def textE (L : List ByteArray) (k : Int) : Int := if 0 ≤ k ∧ k < L.length then 0 else 4
theorem textG_at (L : List ByteArray) (k : Nat) (h : k < L.length) : textG L (k : Int) = textAt L k := by
  unfold textG
  rw [if_pos (by omega), Int.toNat_natCast]
theorem textE_at (L : List ByteArray) (k : Nat) (h : k < L.length) : textE L (k : Int) = 0 := by
  unfold textE
  rw [if_pos (by omega)]
theorem textG_out (L : List ByteArray) (k : Int) (h : ¬ (0 ≤ k ∧ k < L.length)) : textG L k = ⟨#[]⟩ := by unfold textG; rw [if_neg h]
theorem textE_out (L : List ByteArray) (k : Int) (h : ¬ (0 ≤ k ∧ k < L.length)) : textE L k = 4 := by unfold textE; rw [if_neg h]
section
variable {L : List ByteArray} {P : List Nat} {s : ByteArray}
theorem slot_old (h : Good L P) (j : Nat) (hj : j < L.length) (hs : textAt L j = s) : slotT P L s = j + 1 ∧ 1 ≤ (lookT P L s).2 ∧ (lookT P L s).2 ≤ L.length := by
  subst hs
  obtain ⟨h1, h2, h3, _⟩ := h.part.found h.apart h.room j hj
  exact ⟨h1, h2, h3⟩
theorem slot_new (h : Good L P) (hs : ∀ j, j < L.length → textAt L j ≠ s) : slotT P L s = 0 := by
  obtain ⟨d, _, h2, h3, _⟩ := h.part.missed h.room s hs
  unfold slotT
  rw [h2]
  exact h3
theorem slot_none (h : Good L P) (h0 : slotT P L s = 0) (j : Nat) (hj : j < L.length) : textAt L j ≠ s := fun e => by
  have := (slot_old h j hj e).1
  omega
theorem slot_some (h : Good L P) (h0 : slotT P L s ≠ 0) : slotT P L s - 1 < L.length ∧ textAt L (slotT P L s - 1) = s := by
  by_cases hx : ∃ j, j < L.length ∧ textAt L j = s
  · obtain ⟨j, hj, e⟩ := hx
    have := (slot_old h j hj e).1
    rw [this]
    exact ⟨by omega, e⟩
  · exact absurd (slot_new h fun j hj e => hx ⟨j, hj, e⟩) h0
theorem put_new (h : Good L P) (hs : ∀ j, j < L.length → textAt L j ≠ s) : putN L P s = L.length ∧ putL L P s = L ++ [s] := by
  have h0 := slot_new h hs
  unfold putN putL
  rw [if_pos h0, if_pos h0]
  exact ⟨rfl, rfl⟩
theorem put_old (h : Good L P) (j : Nat) (hj : j < L.length) (hs : textAt L j = s) : putN L P s = j ∧ putL L P s = L ∧ putP L P s = P := by
  have h0 := (slot_old h j hj hs).1
  unfold putN putL putP
  rw [if_neg (by omega), if_neg (by omega), if_neg (by omega), h0]
  exact ⟨by omega, rfl, rfl⟩
/-- behind a put the text stands under its number -/
theorem put_at (h : Good L P) : putN L P s < (putL L P s).length ∧ textAt (putL L P s) (putN L P s) = s ∧ putN L P s ≤ L.length := by
  unfold putN putL
  by_cases h0 : slotT P L s = 0
  · rw [if_pos h0, if_pos h0]
    exact ⟨by simp, text_last L s, Nat.le_refl _⟩
  · rw [if_neg h0, if_neg h0]
    obtain ⟨h1, h2⟩ := slot_some h h0
    exact ⟨h1, h2, by omega⟩
/-- what stood there stands there still -/
theorem put_keep (L : List ByteArray) (P : List Nat) (s : ByteArray) (j : Nat) (hj : j < L.length) : j < (putL L P s).length ∧ textAt (putL L P s) j = textAt L j := by
  unfold putL
  split
  · exact ⟨by rw [List.length_append]; omega, text_append L s j hj⟩
  · exact ⟨hj, rfl⟩
theorem put_len (h : Good L P) : ((putL L P s).length = L.length + 1 ∧ putN L P s = L.length) ∨ ((putL L P s).length = L.length ∧ putN L P s < L.length) := by
  unfold putL putN
  by_cases h0 : slotT P L s = 0
  · rw [if_pos h0, if_pos h0, List.length_append]
    exact Or.inl ⟨rfl, rfl⟩
  · rw [if_neg h0, if_neg h0]
    exact Or.inr ⟨rfl, (slot_some h h0).1⟩
theorem look_one (h : Good L P) (s : ByteArray) : 1 ≤ (lookT P L s).2 := (look_in h s).2.1
end
/-- A TABLE AS IT MAY BE. -/
structure Nice (L : List ByteArray) (P : List Nat) : Prop where
  good : Good L P
  room : P.length ≤ 8 + 4 * L.length
  texts : ∀ t ∈ L, t.size ≤ 1048576
theorem nice_new : Nice [] (List.replicate 8 0) := ⟨good_new, by simp, fun t h => by simp at h⟩
theorem Nice.put {L : List ByteArray} {P : List Nat} (h : Nice L P) (s : ByteArray) (hs : s.size ≤ 1048576) : Nice (putL L P s) (putP L P s) := by
  unfold putL putP
  by_cases h0 : slotT P L s = 0
  · rw [if_pos h0, if_pos h0]
    refine ⟨h.good.put s (slot_none h.good h0), ?_, fun t ht => ?_⟩
    · have hr := h.room
      rw [List.length_append]
      unfold grown9
      split
      · rename_i hg
        rw [fill_length, List.length_replicate]
        rw [List.length_append] at hg
        simp only [List.length_singleton] at *
        omega
      · rw [List.length_set]
        omega
    · rcases List.mem_append.1 ht with h1 | h1
      · exact h.texts t h1
      · rw [List.mem_singleton.1 h1]; exact hs
  · rw [if_neg h0, if_neg h0]
    exact h
theorem Nice.text {L : List ByteArray} {P : List Nat} (h : Nice L P) (j : Nat) : (textAt L j).size ≤ 1048576 := by
  unfold textAt
  by_cases hj : j < L.length
  · simp only [List.getD, List.getElem?_eq_getElem hj, Option.getD_some]
    exact h.texts _ (List.getElem_mem hj)
  · simp only [List.getD, List.getElem?_eq_none (by omega : L.length ≤ j), Option.getD_none]
    exact Nat.zero_le _
end Go.Proofs.Ytkleaedfpgaohaa
