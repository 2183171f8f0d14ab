/-
  PLAIN MATHEMATICS FOR THE LANDED PACKAGE ints: numbers of one width, one behind the other, in words of 64 bits.
-/
import Derived.Test.YtibhhndiefhofaaIntLaws
import Derived.Test.YtibhhndiefhofaaBitWord
namespace Go.Proofs.Ytibhhndiefhofaa

/-! ### the width of all: that of their or -/
theorem widthN_le_iff (n k : Nat) : widthN n ≤ k ↔ n < 2 ^ k := by
  constructor
  · intro h
    exact Nat.lt_of_lt_of_le (widthN_lt n) (Nat.pow_le_pow_right (by decide) h)
  · exact widthN_le n k
theorem widthN_or (a b : Nat) : widthN (a ||| b) = max (widthN a) (widthN b) := by
  have h1 : widthN (a ||| b) ≤ max (widthN a) (widthN b) := by
    rw [widthN_le_iff]
    exact Nat.or_lt_two_pow ((widthN_le_iff a _).1 (by omega)) ((widthN_le_iff b _).1 (by omega))
  have h2 : widthN a ≤ widthN (a ||| b) := by
    rw [widthN_le_iff]
    exact Nat.lt_of_le_of_lt Nat.left_le_or (widthN_lt _)
  have h3 : widthN b ≤ widthN (a ||| b) := by
    rw [widthN_le_iff]
    exact Nat.lt_of_le_of_lt Nat.right_le_or (widthN_lt _)
  omega
/-- the or of all numbers -/
def orN : List Nat → Nat
  | [] => 0
  | n :: t => n ||| orN t
def orTo (l : List Nat) (k : Nat) : Nat := orN (l.take k)
theorem orN_append (a b : List Nat) : orN (a ++ b) = orN a ||| orN b := by
  induction a with
  | nil => simp [orN]
  | cons n t ih => simp only [List.cons_append, orN, ih, Nat.or_assoc]
theorem orTo_step (zs : List Nat) (k z : Nat) (h : k < zs.length) (hz : zs.getD k 0 = z) : orTo zs (k + 1) = orTo zs k ||| z := by
  have e : zs[k]'h = z := by rw [← hz]; simp [List.getD, List.getElem?_eq_getElem h]
  unfold orTo
  rw [List.take_succ_eq_append_getElem h, orN_append, e]
  simp only [orN, Nat.or_zero]
theorem orN_width : ∀ l : List Nat, widthN (orN l) = widestN l
  | [] => rfl
  | n :: t => by
    simp only [orN, widestN]
    rw [widthN_or, orN_width t]
theorem widest_ge : ∀ (l : List Nat) (k : Nat), widthN (l.getD k 0) ≤ widestN l
  | [], k => by simp [widthN_zero]
  | n :: t, 0 => by simp only [List.getD_cons_zero, widestN]; omega
  | n :: t, k + 1 => by
    have := widest_ge t k
    simp only [List.getD_cons_succ, widestN]
    omega
theorem widest_fits (l : List Nat) (k : Nat) : l.getD k 0 < 2 ^ widestN l := (widthN_le_iff _ _).1 (widest_ge l k)

/-! ### bits of numbers that stand one behind the other -/
def bitZ (W : Nat) (zs : List Nat) (p : Nat) : Bool := (zs.getD (p / W) 0).testBit (p % W)
def wordZ (W : Nat) (zs : List Nat) (i : Nat) : Nat := packN ((List.range 64).map fun t => bitZ W zs (64 * i + t))
theorem wordZ_bit (W : Nat) (zs : List Nat) (i t : Nat) : (wordZ W zs i).testBit t = (decide (t < 64) && bitZ W zs (64 * i + t)) := by
  unfold wordZ
  rw [packN_bit]
  by_cases h : t < 64
  · simp [List.getD, h]
  · simp [List.getD, h]
theorem wordZ_lt (W : Nat) (zs : List Nat) (i : Nat) : wordZ W zs i < 18446744073709551616 := by
  have h1 := packN_lt ((List.range 64).map fun t => bitZ W zs (64 * i + t))
  rw [List.length_map, List.length_range] at h1
  exact h1
theorem take_getZ (zs : List Nat) (k j : Nat) : (zs.take k).getD j 0 = if j < k then zs.getD j 0 else 0 := by
  by_cases h : j < k
  · simp [List.getD, h]
  · simp [List.getD, List.getElem?_take, h]
theorem bit_beyond (n W s : Nat) (hn : n < 2 ^ W) (h : W ≤ s) : n.testBit s = false := Nat.testBit_lt_two_pow (Nat.lt_of_lt_of_le hn (Nat.pow_le_pow_right (by decide) h))
theorem bitZ_at (W : Nat) (zs : List Nat) (k s : Nat) (hs : s < W) : bitZ W zs (k * W + s) = (zs.getD k 0).testBit s := by
  unfold bitZ
  rw [Nat.mul_comm k W, Nat.mul_add_div (by omega), Nat.div_eq_of_lt hs, Nat.mul_add_mod, Nat.mod_eq_of_lt hs, Nat.add_zero]
theorem bitZ_next (W : Nat) (zs : List Nat) (k z p : Nat) (hW : 0 < W) (hz : zs.getD k 0 = z) (hf : z < 2 ^ W) :
    bitZ W (zs.take (k + 1)) p = (bitZ W (zs.take k) p || (decide (k * W ≤ p) && z.testBit (p - k * W))) := by
  obtain ⟨q, hq⟩ : ∃ q, p / W = q := ⟨_, rfl⟩
  obtain ⟨s, hs⟩ : ∃ s, p % W = s := ⟨_, rfl⟩
  have hp : q * W + s = p := by
    have := Nat.div_add_mod p W
    rw [hq, hs, Nat.mul_comm] at this
    exact this
  have hsW : s < W := by rw [← hs]; exact Nat.mod_lt _ hW
  rw [← hp, bitZ_at W _ q s hsW, bitZ_at W _ q s hsW, take_getZ, take_getZ]
  rcases Nat.lt_trichotomy q k with h | h | h
  · rw [if_pos (by omega), if_pos h]
    have : (q + 1) * W ≤ k * W := Nat.mul_le_mul_right W h
    rw [Nat.add_mul, Nat.one_mul] at this
    rw [decide_eq_false (by omega)]
    simp
  · subst h
    rw [if_pos (by omega), if_neg (by omega), hz, decide_eq_true (by omega), show q * W + s - q * W = s by omega]
    simp
  · rw [if_neg (by omega), if_neg (by omega)]
    have : (k + 1) * W ≤ q * W := Nat.mul_le_mul_right W h
    rw [Nat.add_mul, Nat.one_mul] at this
    rw [bit_beyond z W _ hf (by omega)]
    simp
theorem wordZ_none (W : Nat) (zs : List Nat) (i : Nat) : wordZ W (zs.take 0) i = 0 := by
  apply Nat.eq_of_testBit_eq
  intro t
  rw [wordZ_bit]
  simp [bitZ]
section
variable (W : Nat) (zs : List Nat) (k z i a : Nat)
theorem wordZ_low (hW : 0 < W) (hz : zs.getD k 0 = z) (hf : z < 2 ^ W) (hp : 64 * i + a = k * W) :
    wordZ W (zs.take (k + 1)) i = wordZ W (zs.take k) i ||| z * 2 ^ a % 2 ^ 64 := by
  apply Nat.eq_of_testBit_eq
  intro t
  rw [Nat.testBit_or, wordZ_bit, wordZ_bit, bitZ_next W zs k z _ hW hz hf, Nat.testBit_mod_two_pow, Nat.testBit_mul_two_pow, ← hp,
    show decide (64 * i + a ≤ 64 * i + t) = decide (a ≤ t) from decide_eq_decide.2 (by omega), show 64 * i + t - (64 * i + a) = t - a by omega]
  by_cases h : t < 64 <;> simp [h]
theorem wordZ_high (hW : 0 < W) (h64 : W ≤ 64) (hz : zs.getD k 0 = z) (hf : z < 2 ^ W) (ha : a < 64) (hp : 64 * i + a = k * W) :
    wordZ W (zs.take (k + 1)) (i + 1) = wordZ W (zs.take k) (i + 1) ||| z / 2 ^ (64 - a) := by
  apply Nat.eq_of_testBit_eq
  intro t
  rw [Nat.testBit_or, wordZ_bit, wordZ_bit, bitZ_next W zs k z _ hW hz hf, Nat.testBit_div_two_pow, ← hp,
    decide_eq_true (show 64 * i + a ≤ 64 * (i + 1) + t by omega), show 64 * (i + 1) + t - (64 * i + a) = t + (64 - a) by omega]
  by_cases h : t < 64
  · simp [h]
  · rw [bit_beyond z W (t + (64 - a)) hf (by omega)]
    simp [h]
theorem wordZ_other (hW : 0 < W) (hz : zs.getD k 0 = z) (hf : z < 2 ^ W) (hp : 64 * i + a = k * W) (j : Nat) (hj : j < i ∨ i + 1 < j ∨ (j = i + 1 ∧ a + W ≤ 64)) (h64 : W ≤ 64) (ha : a < 64) :
    wordZ W (zs.take (k + 1)) j = wordZ W (zs.take k) j := by
  apply Nat.eq_of_testBit_eq
  intro t
  rw [wordZ_bit, wordZ_bit, bitZ_next W zs k z _ hW hz hf, ← hp]
  by_cases h : t < 64
  · by_cases h2 : 64 * i + a ≤ 64 * j + t
    · rw [bit_beyond z W (64 * j + t - (64 * i + a)) hf (by omega)]
      simp
    · simp [h2]
  · simp [h]
/-- WHAT IS READ OF NUMBER k. -/
theorem wordZ_read_low (hz : zs.getD k 0 = z) (hf : z < 2 ^ W) (hp : 64 * i + a = k * W) (hl : a + W ≤ 64) :
    wordZ W zs i / 2 ^ a &&& (2 ^ W - 1) = z := by
  apply Nat.eq_of_testBit_eq
  intro t
  rw [Nat.testBit_and, Nat.testBit_div_two_pow, Nat.testBit_two_pow_sub_one, wordZ_bit]
  by_cases h : t < W
  · rw [show 64 * i + (t + a) = k * W + t by omega, bitZ_at W zs k t h, hz, decide_eq_true h, decide_eq_true (show t + a < 64 by omega)]
    simp
  · rw [bit_beyond z W t hf (by omega)]
    simp [h]
theorem wordZ_read_high (hz : zs.getD k 0 = z) (hf : z < 2 ^ W) (hp : 64 * i + a = k * W) (ha : a < 64) (h64 : W ≤ 64) :
    (wordZ W zs i / 2 ^ a ||| wordZ W zs (i + 1) * 2 ^ (64 - a) % 2 ^ 64) &&& (2 ^ W - 1) = z := by
  apply Nat.eq_of_testBit_eq
  intro t
  rw [Nat.testBit_and, Nat.testBit_or, Nat.testBit_div_two_pow, Nat.testBit_two_pow_sub_one, wordZ_bit, Nat.testBit_mod_two_pow, Nat.testBit_mul_two_pow, wordZ_bit]
  by_cases h : t < W
  · have hb := bitZ_at W zs k t h
    rw [hz] at hb
    by_cases h2 : t + a < 64
    · rw [show 64 * i + (t + a) = k * W + t by omega, hb, decide_eq_true h, decide_eq_true h2, decide_eq_false (show ¬ (64 - a ≤ t) by omega)]
      simp
    · rw [decide_eq_false h2, decide_eq_true h, decide_eq_true (show t < 64 by omega), decide_eq_true (show 64 - a ≤ t by omega), decide_eq_true (show t - (64 - a) < 64 by omega), show 64 * (i + 1) + (t - (64 - a)) = k * W + t by omega, hb]
      simp
  · rw [bit_beyond z W t hf (by omega)]
    simp [h]
end
/-- where number k begins -/
theorem place_in (n W k : Nat) (hW : 0 < W) (hk : k < n) : k * W / 64 < begunN (n * W) 64 := by
  unfold begunN
  have : (k + 1) * W ≤ n * W := Nat.mul_le_mul_right W hk
  rw [Nat.add_mul, Nat.one_mul] at this
  omega
theorem place_next (n W k : Nat) (hk : k < n) (h : 64 < k * W % 64 + W) : k * W / 64 + 1 < begunN (n * W) 64 := by
  unfold begunN
  have : (k + 1) * W ≤ n * W := Nat.mul_le_mul_right W hk
  rw [Nat.add_mul, Nat.one_mul] at this
  omega
end Go.Proofs.Ytibhhndiefhofaa
