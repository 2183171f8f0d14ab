/-
  PLAIN MATHEMATICS FOR LAYER 2, MORE: what the laws of layer 2 say of validT, endsT, readT.
-/
import Derived.Test.YteejkkdimkgmfaaDoorTextLaws
namespace Go.Proofs.YteejkkdimkgmfaaDoor
open Go Go.Lib

/-! ### lines -/
def linesT (s : ByteArray) : Nat := s.data.toList.countP (· == 10)
theorem endAt_no13 (s : ByteArray) (k : Nat) : ∀ x ∈ endAt s k, x ≠ 13 := by
  intro x hx
  unfold endAt at hx
  split at hx
  · split at hx
    · cases hx
    · simp at hx; subst hx; decide
  · rename_i h
    simp at hx; subst hx; exact h
theorem endsN_no13 (s : ByteArray) : ∀ k, ∀ x ∈ endsN s k, x ≠ 13
  | 0, _, hx => by cases hx
  | k + 1, x, hx => by
    rw [endsN_succ] at hx
    rcases List.mem_append.1 hx with hx | hx
    · exact endsN_no13 s k x hx
    · exact endAt_no13 s k x hx
theorem endsT_list (s : ByteArray) : (endsT s).data.toList = endsN s s.size := rfl
theorem endsT_size (s : ByteArray) : (endsT s).size = (endsN s s.size).length := by rw [size_eq, endsT_list]
theorem endsT_le (s : ByteArray) : (endsT s).size ≤ s.size := by rw [endsT_size]; exact endsN_le s s.size
theorem get_list (s : ByteArray) (k : Nat) (h : k < s.size) : s.data.toList[k]? = some (s.get! k) := by
  rw [at_byte s k h, show s.get! k = _ from get_at s k h]
theorem endsN_fix (s : ByteArray) (h : ∀ x ∈ s.data.toList, x ≠ 13) : ∀ k, k ≤ s.size → endsN s k = s.data.toList.take k
  | 0, _ => rfl
  | k + 1, hk => by
    have hm : s.get! k ≠ 13 := h _ (List.mem_iff_getElem?.2 ⟨k, get_list s k (by omega)⟩)
    rw [endsN_succ, endsN_fix s h k (by omega)]
    unfold endAt
    rw [if_neg hm, List.take_add_one, get_list s k (by omega)]
    rfl
theorem endsT_fix (s : ByteArray) (h : ∀ x ∈ s.data.toList, x ≠ 13) : endsT s = s := by
  have e := endsN_fix s h s.size (Nat.le_refl _)
  rw [List.take_of_length_le (by rw [← size_eq]; omega)] at e
  unfold endsT
  rw [e]
theorem endsT_twice (s : ByteArray) : endsT (endsT s) = endsT s := endsT_fix _ (endsN_no13 s s.size)

/-- how many lines the first k bytes end, told at each line's first sign -/
def cntE (s : ByteArray) : Nat → Nat
  | 0 => 0
  | k + 1 => cntE s k + if s.get! k = 13 ∨ (s.get! k = 10 ∧ (k = 0 ∨ s.get! (k - 1) ≠ 13)) then 1 else 0
theorem cntE_lines (s : ByteArray) : ∀ k, k ≤ s.size → (endsN s k).countP (· == 10) + (if 0 < k ∧ k < s.size ∧ s.get! (k - 1) = 13 ∧ s.get! k = 10 then 1 else 0) = cntE s k
  | 0, _ => by simp [endsN, cntE]
  | k + 1, hk => by
    have ih := cntE_lines s k (by omega)
    rw [endsN_succ, List.countP_append]
    unfold cntE endAt
    rw [← ih]
    have hk' : k < s.size := by omega
    by_cases a : s.get! k = 13
    · have a10 : ¬ s.get! k = 10 := by rw [a]; decide
      by_cases b : k + 1 < s.size ∧ s.get! (k + 1) = 10
      · simp [a, b.1, b.2]
      · have b' : ¬ (0 < k + 1 ∧ k + 1 < s.size ∧ s.get! (k + 1 - 1) = 13 ∧ s.get! (k + 1) = 10) := fun e => b ⟨e.2.1, e.2.2.2⟩
        rw [if_pos a, if_neg b, if_neg b', if_neg (fun e => a10 e.2.2.2), if_pos (Or.inl a)]
        rfl
    · have b' : ¬ (0 < k + 1 ∧ k + 1 < s.size ∧ s.get! (k + 1 - 1) = 13 ∧ s.get! (k + 1) = 10) := fun e => a e.2.2.1
      rw [if_neg a, if_neg b']
      by_cases c : s.get! k = 10
      · rw [c]
        by_cases d : 0 < k ∧ s.get! (k - 1) = 13
        · rw [if_pos ⟨d.1, hk', d.2, rfl⟩, if_neg (by rintro (e | ⟨_, e | e⟩); exact absurd e (by decide); omega; exact e d.2)]
          rfl
        · rw [if_neg (fun e => d ⟨e.1, e.2.2.1⟩), if_pos (Or.inr ⟨rfl, by
            by_cases hz : k = 0
            · exact Or.inl hz
            · exact Or.inr (fun e => d ⟨by omega, e⟩)⟩)]
          rfl
      · rw [if_neg (fun e => c e.2.2.2), if_neg (by rintro (e | ⟨e, _⟩); exact a e; exact c e)]
        simp [c]
theorem lines_ends (s : ByteArray) : linesT (endsT s) = cntE s s.size := by
  have h := cntE_lines s s.size (Nat.le_refl _)
  rw [if_neg (by omega), Nat.add_zero] at h
  exact h

/-! ### side by side -/
theorem append_list (x y : ByteArray) : (x ++ y).data.toList = x.data.toList ++ y.data.toList := by
  rw [ByteArray.data_append, Array.toList_append]
theorem bytes_eq {a b : ByteArray} (h : a.data.toList = b.data.toList) : a = b := by
  cases a; cases b; congr 1; exact Array.toList_inj.1 h
theorem get_append_left (x y : ByteArray) (k : Nat) (h : k < x.size) : (x ++ y).get! k = x.get! k := by
  have h1 := get_list (x ++ y) k (by rw [ByteArray.size_append]; omega)
  rw [append_list, List.getElem?_append_left (by rw [← size_eq]; exact h), get_list x k h] at h1
  exact (Option.some.inj h1).symm
theorem get_append_right (x y : ByteArray) (k : Nat) (h : k < y.size) : (x ++ y).get! (x.size + k) = y.get! k := by
  have h1 := get_list (x ++ y) (x.size + k) (by rw [ByteArray.size_append]; omega)
  rw [append_list, List.getElem?_append_right (by rw [← size_eq]; omega), ← size_eq, Nat.add_sub_cancel_left, get_list y k h] at h1
  exact (Option.some.inj h1).symm
/-- no line end is cut between the two -/
def Parted (x y : ByteArray) : Prop := x.size = 0 ∨ x.get! (x.size - 1) ≠ 13 ∨ y.size = 0 ∨ y.get! 0 ≠ 10
theorem endsN_left (x y : ByteArray) (h : Parted x y) : ∀ k, k ≤ x.size → endsN (x ++ y) k = endsN x k
  | 0, _ => rfl
  | k + 1, hk => by
    rw [endsN_succ, endsN_succ, endsN_left x y h k (by omega)]
    congr 1
    unfold endAt
    rw [get_append_left x y k (by omega)]
    by_cases a : x.get! k = 13
    · rw [if_pos a, if_pos a]
      by_cases b : k + 1 < x.size
      · rw [get_append_left x y (k + 1) b, ByteArray.size_append]
        by_cases c : x.get! (k + 1) = 10
        · rw [if_pos ⟨by omega, c⟩, if_pos ⟨b, c⟩]
        · rw [if_neg (fun e => c e.2), if_neg (fun e => c e.2)]
      · have hk1 : k + 1 = x.size := by omega
        rw [if_neg (show ¬ (k + 1 < x.size ∧ x.get! (k + 1) = 10) from fun e => b e.1), if_neg]
        rintro ⟨e1, e2⟩
        rw [ByteArray.size_append] at e1
        have e3 := get_append_right x y 0 (by omega)
        rw [Nat.add_zero, ← hk1, e2] at e3
        rcases h with h | h | h | h
        · omega
        · exact h (by rw [show x.size - 1 = k by omega]; exact a)
        · omega
        · exact h e3.symm
    · rw [if_neg a, if_neg a]
theorem endsN_right (x y : ByteArray) (h : Parted x y) : ∀ k, k ≤ y.size → endsN (x ++ y) (x.size + k) = endsN x x.size ++ endsN y k
  | 0, _ => by rw [Nat.add_zero, endsN_left x y h _ (Nat.le_refl _)]; simp [endsN_zero]
  | k + 1, hk => by
    rw [← Nat.add_assoc, endsN_succ, endsN_succ, endsN_right x y h k (by omega), List.append_assoc]
    congr 2
    unfold endAt
    rw [get_append_right x y k (by omega), ByteArray.size_append]
    by_cases b : k + 1 < y.size
    · rw [Nat.add_assoc, get_append_right x y (k + 1) b]
      by_cases c : y.get! (k + 1) = 10
      · rw [if_pos (show x.size + (k + 1) < x.size + y.size ∧ y.get! (k + 1) = 10 from ⟨by omega, c⟩), if_pos (show k + 1 < y.size ∧ y.get! (k + 1) = 10 from ⟨b, c⟩)]
      · rw [if_neg (show ¬ (x.size + (k + 1) < x.size + y.size ∧ y.get! (k + 1) = 10) from fun e => c e.2), if_neg (show ¬ (k + 1 < y.size ∧ y.get! (k + 1) = 10) from fun e => c e.2)]
    · rw [if_neg (show ¬ (x.size + k + 1 < x.size + y.size ∧ _) from fun e => b (by omega)), if_neg (show ¬ (k + 1 < y.size ∧ y.get! (k + 1) = 10) from fun e => b e.1)]
theorem endsT_append (x y : ByteArray) (h : Parted x y) : endsT (x ++ y) = endsT x ++ endsT y := by
  apply bytes_eq
  rw [append_list, endsT_list, endsT_list, endsT_list, ByteArray.size_append, endsN_right x y h y.size (Nat.le_refl _)]
theorem validT_append (x y : ByteArray) (h : validT x = true) : validT (x ++ y) = validT y := by
  rw [validT_list] at h
  rw [validT_list, validT_list, append_list, chL_append _ _ _ (Nat.le_refl _) h]
end Go.Proofs.YteejkkdimkgmfaaDoor
