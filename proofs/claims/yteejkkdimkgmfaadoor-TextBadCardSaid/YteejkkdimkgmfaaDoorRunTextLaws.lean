/-
  PLAIN MATHEMATICS FOR THE LANDED PACKAGE text: a text that is gone over character by character, told byte by byte.
-/
import Derived.Test.YteejkkdimkgmfaaDoorTextMore
namespace Go.Proofs.YteejkkdimkgmfaaDoor
open Go Go.Lib

/-- Behind a character's first byte no byte is below 128. -/
theorem decodeN_conts (n b0 b1 b2 b3 : Nat) : (1 < (decodeN n b0 b1 b2 b3).2 → b1 / 64 = 2) ∧ (2 < (decodeN n b0 b1 b2 b3).2 → b2 / 64 = 2) ∧ (3 < (decodeN n b0 b1 b2 b3).2 → b3 / 64 = 2) ∧ (decodeN n b0 b1 b2 b3).2 ≤ 4 := by
  unfold decodeN
  repeat' split
  all_goals (refine ⟨?_, ?_, ?_, ?_⟩ <;> simp <;> omega)
theorem decode_conts (s : ByteArray) (pos j : Nat) (h1 : 1 ≤ j) (h2 : j < (Utf8.decode s pos).2) : 128 ≤ (s.get! (pos + j)).toNat := by
  rw [decode_at] at h2
  obtain ⟨c1, c2, c3, c4⟩ := decodeN_conts (s.size - pos) (s.get! pos).toNat (s.get! (pos + 1)).toNat (s.get! (pos + 2)).toNat (s.get! (pos + 3)).toNat
  have hj : j = 1 ∨ j = 2 ∨ j = 3 := by omega
  rcases hj with rfl | rfl | rfl
  · have := c1 (by omega); omega
  · have := c2 (by omega); omega
  · have := c3 (by omega); omega
/-- A character below 128 is its byte, alone. -/
theorem char_here (s : ByteArray) (pos c : Nat) (hp : pos < s.size) (hc : c < 128) (h : (Utf8.decode s pos).1 = c) : (s.get! pos).toNat = c ∧ (Utf8.decode s pos).2 = 1 := by
  have hg : s.get! pos = s[pos]'hp := get_at s pos hp
  by_cases ha : (s[pos]'hp).toNat < 128
  · rw [decode_ascii s pos hp ha] at h ⊢
    rw [hg]; exact ⟨h, rfl⟩
  · have := (decode_high s pos hp (by omega)).1
    omega
/-- A character that is another one than c (below 128) has no byte c. -/
theorem char_none (s : ByteArray) (pos c : Nat) (hp : pos < s.size) (hc : c < 128) (h : (Utf8.decode s pos).1 ≠ c) (j : Nat) (h1 : pos ≤ j) (h2 : j < pos + (Utf8.decode s pos).2) : (s.get! j).toNat ≠ c := by
  have hg : s.get! pos = s[pos]'hp := get_at s pos hp
  by_cases hj : j = pos
  · subst hj
    by_cases ha : (s[j]'hp).toNat < 128
    · rw [decode_ascii s j hp ha] at h
      rw [hg]; exact h
    · rw [hg]; omega
  · have := decode_conts s pos (j - pos) (by omega) (by omega)
    rw [show pos + (j - pos) = j by omega] at this
    omega

/-! ### lines -/
def linesN (s : ByteArray) (k : Nat) : Nat := (s.data.toList.take k).countP (· == 10)
theorem linesN_zero (s : ByteArray) : linesN s 0 = 0 := rfl
theorem linesN_all (s : ByteArray) : linesN s s.size = linesT s := by
  unfold linesN linesT
  rw [List.take_of_length_le (by rw [← size_eq]; omega)]
theorem linesN_succ (s : ByteArray) (k : Nat) (h : k < s.size) : linesN s (k + 1) = linesN s k + if (s.get! k).toNat = 10 then 1 else 0 := by
  unfold linesN
  rw [List.take_add_one, get_list s k h, List.countP_append]
  congr 1
  show List.countP (fun x => x == 10) [s.get! k] = _
  by_cases e : (s.get! k).toNat = 10
  · rw [if_pos e, show s.get! k = 10 from UInt8.toNat_inj.1 e]; rfl
  · rw [if_neg e, List.countP_cons, List.countP_nil]
    rw [show (s.get! k == 10) = false from beq_eq_false_iff_ne.2 (fun h => e (by rw [h]; rfl))]
    rfl
theorem linesN_run (s : ByteArray) (a : Nat) : ∀ n, a + n ≤ s.size → (∀ j, a ≤ j → j < a + n → (s.get! j).toNat ≠ 10) → linesN s (a + n) = linesN s a
  | 0, _, _ => rfl
  | n + 1, h, hn => by
    rw [← Nat.add_assoc, linesN_succ s (a + n) (by omega), if_neg (hn (a + n) (by omega) (by omega)), linesN_run s a n (by omega) (fun j h1 h2 => hn j h1 (by omega))]
    rfl
theorem linesN_le (s : ByteArray) (k : Nat) : linesN s k ≤ k := by
  unfold linesN
  exact Nat.le_trans List.countP_le_length (by rw [List.length_take]; omega)
theorem linesN_char (s : ByteArray) (pos : Nat) (hp : pos < s.size) : linesN s (pos + (Utf8.decode s pos).2) = linesN s pos + if (Utf8.decode s pos).1 = 10 then 1 else 0 := by
  by_cases h : (Utf8.decode s pos).1 = 10
  · obtain ⟨h1, h2⟩ := char_here s pos 10 hp (by omega) h
    rw [h2, linesN_succ s pos hp, if_pos h1, if_pos h]
  · rw [linesN_run s pos _ (width_le s pos hp) (char_none s pos 10 hp (by omega) h), if_neg h]
    rfl

/-! ### ends of lines -/
/-- from a on, ahead of k, there is no 13 -/
def No13 (s : ByteArray) (a k : Nat) : Prop := ∀ j, a ≤ j → j < k → (s.get! j).toNat ≠ 13
theorem no13_self (s : ByteArray) (a : Nat) : No13 s a a := fun j h1 h2 => absurd h2 (by omega)
theorem no13_char (s : ByteArray) (a pos : Nat) (hp : pos < s.size) (h : No13 s a pos) (hr : (Utf8.decode s pos).1 ≠ 13) : No13 s a (pos + (Utf8.decode s pos).2) := by
  intro j h1 h2
  by_cases hj : j < pos
  · exact h j h1 hj
  · exact char_none s pos 13 hp (by omega) hr j (by omega) h2
theorem endsN_run (s : ByteArray) (a : Nat) : ∀ n, a + n ≤ s.size → No13 s a (a + n) → endsN s (a + n) = endsN s a ++ (s.data.toList.drop a).take n
  | 0, _, _ => by simp
  | n + 1, h, hn => by
    have h13 : s.get! (a + n) ≠ 13 := fun e => hn (a + n) (by omega) (by omega) (by rw [e]; rfl)
    rw [← Nat.add_assoc, endsN_succ, endsN_run s a n (by omega) (fun j h1 h2 => hn j h1 (by omega)), List.append_assoc]
    congr 1
    unfold endAt
    rw [if_neg h13, List.take_add_one, List.getElem?_drop, get_list s (a + n) (by omega)]
    rfl
/-- WHAT IS WRITTEN UP TO k, in one piece from d on. -/
theorem endsN_piece (s : ByteArray) (d k : Nat) (hd : d ≤ k) (hk : k ≤ s.size) (h : No13 s d k) : endsN s d ++ (s.extract d k).data.toList = endsN s k := by
  obtain ⟨n, rfl⟩ : ∃ n, k = d + n := ⟨k - d, by omega⟩
  rw [endsN_run s d n hk h, ByteArray.data_extract, Array.toList_extract, List.extract_eq_take_drop, show d + n - d = n by omega]
theorem endsN_cr (s : ByteArray) (k : Nat) (h : (s.get! k).toNat = 13) : endsN s (k + 1) = endsN s k ++ (if k + 1 < s.size ∧ s.get! (k + 1) = 10 then [] else [10]) := by
  rw [endsN_succ]
  unfold endAt
  rw [if_pos (show s.get! k = 13 from UInt8.toNat_inj.1 h)]
theorem extract_rest (s : ByteArray) (k : Nat) : (s.extract k s.size).data.toList = s.data.toList.drop k := by
  rw [ByteArray.data_extract, Array.toList_extract]
  exact List.take_of_length_le (by rw [List.length_drop, ← size_eq]; omega)
theorem hasPrefix_ten (s : ByteArray) (k : Nat) (hk : k ≤ s.size) : hasPrefix (s.extract k s.size).data.toList [10] = decide (k < s.size ∧ s.get! k = 10) := by
  rw [extract_rest s k]
  by_cases h : k < s.size
  · have e : s.data.toList.drop k = s.get! k :: s.data.toList.drop (k + 1) := by
      have := get_list s k h
      rw [List.drop_eq_getElem_cons (by rw [← size_eq]; exact h)]
      congr 1
      rw [List.getElem?_eq_getElem (by rw [← size_eq]; exact h)] at this
      exact Option.some.inj this
    rw [e]
    by_cases g : s.get! k = 10
    · rw [decide_eq_true ⟨h, g⟩, g]; rfl
    · rw [decide_eq_false (fun x => g x.2)]
      unfold hasPrefix
      show ((10 : UInt8) == s.get! k && _) = false
      rw [show ((10 : UInt8) == s.get! k) = false from beq_eq_false_iff_ne.2 (fun x => g x.symm)]
      rfl
  · rw [List.drop_of_length_le (by rw [← size_eq]; omega), decide_eq_false (fun x => h x.1)]
    rfl

/-! ### which bytes are characters: first whether they are UTF-8, then each -/
def allCh (s : ByteArray) : Nat → Nat → Bool
  | 0, _ => true
  | f + 1, pos => if pos < s.size then (charB ((Utf8.decode s pos).1 : Int) && allCh s f (pos + (Utf8.decode s pos).2)) else true
theorem allCh_end (s : ByteArray) (f pos : Nat) (h : ¬ pos < s.size) : allCh s f pos = true := by
  cases f <;> simp [allCh, h]
theorem allCh_step (s : ByteArray) (f pos : Nat) (hp : pos < s.size) : allCh s (f + 1) pos = (charB ((Utf8.decode s pos).1 : Int) && allCh s f (pos + (Utf8.decode s pos).2)) := by
  show (if pos < s.size then _ else _) = _
  rw [if_pos hp]
theorem okCh_two (s : ByteArray) : ∀ f pos, pos ≤ s.size → s.size ≤ pos + f → okCh s f pos = (validD (s.data.toList.drop pos) && allCh s f pos)
  | 0, pos, h, hf => by
    obtain rfl : pos = s.size := by omega
    rw [List.drop_of_length_le (by rw [← size_eq]; omega)]
    simp [okCh, allCh, validD_nil]
  | f + 1, pos, h, hf => by
    by_cases hp : pos < s.size
    · have hw := width_pos s pos
      have hle := width_le s pos hp
      rw [valid_at s pos hp, okCh_step s f pos hp, allCh_step s f pos hp, okCh_two s f _ hle (by omega)]
      cases badAt s pos <;> cases charB ((Utf8.decode s pos).1 : Int) <;> simp
    · obtain rfl : pos = s.size := by omega
      rw [okCh_end s _ _ hp, allCh_end s _ _ hp, List.drop_of_length_le (by rw [← size_eq]; omega)]
      simp [validD_nil]
theorem validT_two (s : ByteArray) : validT s = (validD s.data.toList && allCh s s.size 0) := by
  unfold validT
  rw [okCh_two s s.size 0 (Nat.zero_le _) (by omega), List.drop_zero]
end Go.Proofs.YteejkkdimkgmfaaDoor
