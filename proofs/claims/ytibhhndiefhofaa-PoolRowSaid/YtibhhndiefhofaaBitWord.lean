/-
  PLAIN MATHEMATICS FOR THE LANDED PACKAGE bits: words of 64 bits, how they are filled, ranks by words.
-/
import Derived.Test.YtibhhndiefhofaaBitCnt
import Derived.KernelRfl
namespace Go.Proofs.Ytibhhndiefhofaa
/-! ### words of 64 bits -/
def packN : List Bool → Nat
  | [] => 0
  | b :: t => (if b then 1 else 0) + 2 * packN t
theorem packN_bit : ∀ (l : List Bool) (i : Nat), (packN l).testBit i = l.getD i false
  | [], i => by simp [packN]
  | b :: t, 0 => by
    rw [Nat.testBit_zero]
    cases b <;> simp [packN] <;> omega
  | b :: t, i + 1 => by
    have e : packN (b :: t) / 2 = packN t := by cases b <;> simp [packN] <;> omega
    rw [Nat.testBit_succ, e, packN_bit t i]
    simp
theorem packN_lt : ∀ l : List Bool, packN l < 2 ^ l.length
  | [] => by decide
  | b :: t => by
    have := packN_lt t
    rw [List.length_cons, Nat.pow_succ]
    cases b <;> simp [packN] <;> omega
/-- word i of the bits xs -/
def wordOf (xs : List Bool) (i : Nat) : Nat := packN ((xs.drop (64 * i)).take 64)
theorem wordOf_lt (xs : List Bool) (i : Nat) : wordOf xs i < 18446744073709551616 := by
  have h1 := packN_lt ((xs.drop (64 * i)).take 64)
  have h2 : ((xs.drop (64 * i)).take 64).length ≤ 64 := List.length_take_le _ _
  exact Nat.lt_of_lt_of_le h1 (Nat.pow_le_pow_right (by decide) h2)
theorem wordOf_bit (xs : List Bool) (i t : Nat) : (wordOf xs i).testBit t = (decide (t < 64) && xs.getD (64 * i + t) false) := by
  unfold wordOf
  rw [packN_bit]
  by_cases h : t < 64
  · simp [List.getD, h, List.getElem?_drop]
  · simp [List.getD, List.getElem?_take, h]
/-- ranks within a word -/
theorem rank_word (xs : List Bool) (i : Nat) : ∀ t, t ≤ 64 → rankN xs (64 * i + t) true = rankN xs (64 * i) true + cnt (wordOf xs i) t
  | 0, _ => rfl
  | t + 1, h => by
    have ih := rank_word xs i t (by omega)
    have hb := wordOf_bit xs i t
    have e : decide (t < 64) = true := decide_eq_true (by omega)
    rw [e, Bool.true_and] at hb
    simp only [cnt_succ]
    rw [hb]
    by_cases hl : 64 * i + t < xs.length
    · rw [show 64 * i + (t + 1) = (64 * i + t) + 1 by omega, rankN_succ xs (64 * i + t) true _ hl rfl, ih]
      omega
    · rw [rankN_all xs (64 * i + (t + 1)) true (by omega), ← rankN_all xs (64 * i + t) true (by omega), ih]
      have : xs.getD (64 * i + t) false = false := by simp [List.getD, List.getElem?_eq_none (by omega : xs.length ≤ 64 * i + t)]
      rw [this]
      simp
theorem rankN_mono (xs : List Bool) (bit : Bool) {a b : Nat} (h : a ≤ b) : rankN xs a bit ≤ rankN xs b bit := by
  unfold rankN
  exact ((List.take_sublist_take_left h).countP_le)

/-! ### how words are filled, bit by bit -/
theorem take_getD (xs : List Bool) (k t : Nat) : (xs.take k).getD t false = (decide (t < k) && xs.getD t false) := by
  by_cases h : t < k
  · simp [List.getD, h]
  · simp [List.getD, List.getElem?_take, h]
theorem word_none (xs : List Bool) (i : Nat) : wordOf (xs.take 0) i = 0 := by
  unfold wordOf
  simp [packN]
theorem word_nought (xs : List Bool) (k i : Nat) (hb : xs.getD k false = false) : wordOf (xs.take (k + 1)) i = wordOf (xs.take k) i := by
  apply Nat.eq_of_testBit_eq
  intro t
  rw [wordOf_bit, wordOf_bit, take_getD, take_getD]
  by_cases h : 64 * i + t = k
  · rw [h, hb]; simp
  · congr 2
    exact decide_eq_decide.2 (by omega)
theorem word_other (xs : List Bool) (k i : Nat) (hi : i ≠ k / 64) : wordOf (xs.take (k + 1)) i = wordOf (xs.take k) i := by
  apply Nat.eq_of_testBit_eq
  intro t
  rw [wordOf_bit, wordOf_bit, take_getD, take_getD]
  by_cases h : t < 64
  · congr 2
    exact decide_eq_decide.2 (by omega)
  · simp [h]
theorem word_one (xs : List Bool) (k : Nat) (hb : xs.getD k false = true) : wordOf (xs.take (k + 1)) (k / 64) = wordOf (xs.take k) (k / 64) ||| 2 ^ (k % 64) := by
  apply Nat.eq_of_testBit_eq
  intro t
  rw [Nat.testBit_or, wordOf_bit, wordOf_bit, take_getD, take_getD, Nat.testBit_two_pow]
  by_cases h : t < 64
  · by_cases h2 : 64 * (k / 64) + t = k
    · have h3 : k % 64 = t := by omega
      rw [h2, hb]
      simp [h, h3]
    · have h3 : k % 64 ≠ t := by omega
      have e : decide (64 * (k / 64) + t < k + 1) = decide (64 * (k / 64) + t < k) := decide_eq_decide.2 (by omega)
      rw [e]
      simp [h3]
  · have h3 : k % 64 ≠ t := by omega
    simp [h, h3]
theorem word_all (xs : List Bool) (i : Nat) : wordOf (xs.take xs.length) i = wordOf xs i := by rw [List.take_length]

/-! ### ranks of words -/
/-- how many ones stand ahead of word i -/
def aheadN (xs : List Bool) (i : Nat) : Nat := rankN xs (64 * i) true
theorem ahead_next (xs : List Bool) (i : Nat) : aheadN xs (i + 1) = aheadN xs i + cnt (wordOf xs i) 64 := by
  unfold aheadN
  rw [show 64 * (i + 1) = 64 * i + 64 by omega]
  exact rank_word xs i 64 (Nat.le_refl _)
/-- how many stand ahead of word i in its own block of 8 -/
def innerN (xs : List Bool) (i : Nat) : Nat := aheadN xs i - aheadN xs (8 * (i / 8))
theorem ahead_mono (xs : List Bool) {a b : Nat} (h : a ≤ b) : aheadN xs a ≤ aheadN xs b := rankN_mono xs true (by omega)
theorem ahead_gap (xs : List Bool) (a : Nat) : ∀ n, aheadN xs (a + n) ≤ aheadN xs a + 64 * n
  | 0 => by simp
  | n + 1 => by
    have h1 := ahead_gap xs a n
    have h2 := ahead_next xs (a + n)
    have h3 := cnt_le (wordOf xs (a + n)) 64
    rw [show a + (n + 1) = (a + n) + 1 by omega]
    omega
theorem inner_le (xs : List Bool) (i : Nat) : innerN xs i ≤ 448 := by
  unfold innerN
  have := ahead_gap xs (8 * (i / 8)) (i % 8)
  rw [show 8 * (i / 8) + i % 8 = i by omega] at this
  omega
theorem inner_sum (xs : List Bool) (i : Nat) : aheadN xs (8 * (i / 8)) + innerN xs i = aheadN xs i := by
  unfold innerN
  have := ahead_mono xs (show 8 * (i / 8) ≤ i by omega)
  omega
theorem ahead_le (xs : List Bool) (i : Nat) : aheadN xs i ≤ xs.length := by
  unfold aheadN
  have h := rankN_mono xs true (show 64 * i ≤ 64 * i + xs.length by omega)
  rw [rankN_all xs (64 * i + xs.length) true (by omega)] at h
  exact Nat.le_trans h (rankN_le xs xs.length true)
end Go.Proofs.Ytibhhndiefhofaa
