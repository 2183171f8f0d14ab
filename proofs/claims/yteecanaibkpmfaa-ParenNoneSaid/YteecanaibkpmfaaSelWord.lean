/-
  PLAIN MATHEMATICS FOR Select OF THE LANDED PACKAGE bits: a place by its word.
-/
import Derived.Test.YteecanaibkpmfaaRunNth
namespace Go.Proofs.Yteecanaibkpmfaa
open Go.RowKit

/-- word i, all bits turned where noughts are looked for -/
def wordB (xs : List Bool) (i : Nat) (bit : Bool) : Nat := if bit then wordOf xs i else 18446744073709551615 - wordOf xs i
theorem wordB_lt (xs : List Bool) (i : Nat) (bit : Bool) : wordB xs i bit < 18446744073709551616 := by
  have := wordOf_lt xs i
  cases bit
  · show 18446744073709551615 - wordOf xs i < _; omega
  · exact this
theorem rank_wordB (xs : List Bool) (i t : Nat) (bit : Bool) (ht : t ≤ 64) (h : 64 * i + t ≤ xs.length) : rankN xs (64 * i + t) bit = aheadB xs i bit + cnt (wordB xs i bit) t := by
  have h1 := rank_word xs i t ht
  cases bit
  · have h2 := rank_both xs (64 * i + t) h
    have h3 := cnt_not (wordOf xs i) (wordOf_lt xs i) t ht
    have h4 := aheadN_small xs i
    have e : wordB xs i false = 2 ^ 64 - (wordOf xs i + 1) := by
      show 18446744073709551615 - wordOf xs i = 18446744073709551616 - (wordOf xs i + 1)
      omega
    rw [e, show aheadB xs i false = 64 * i - aheadN xs i from rfl]
    rw [show rankN xs (64 * i) true = aheadN xs i from rfl] at h1
    have h5 := cnt_le (wordOf xs i) t
    omega
  · exact h1
theorem aheadB_rank (xs : List Bool) (i : Nat) (bit : Bool) (h : 64 * i ≤ xs.length) : aheadB xs i bit = rankN xs (64 * i) bit := (rank_wordB xs i 0 bit (by omega) h).symm
theorem sel_at (xs : List Bool) (k j : Nat) (bit : Bool) (h1 : rankN xs k bit ≤ j) (h2 : j < rankN xs (k + 1) bit) : selL xs j bit = (k : Int) := by
  by_cases hk : k < xs.length
  · obtain ⟨b, hb⟩ : ∃ b, xs.getD k false = b := ⟨_, rfl⟩
    rw [rankN_succ xs k bit b hk hb] at h2
    by_cases e : b = bit
    · rw [if_pos e] at h2
      rw [show j = rankN xs k bit by omega]
      exact select_rank xs k bit hk (by rw [hb, e])
    · rw [if_neg e] at h2
      omega
  · rw [rankN_all xs (k + 1) bit (by omega), ← rankN_all xs k bit (by omega)] at h2
    omega
theorem words_len (xs : List Bool) (i : Nat) (h : i < nWords xs) : 64 * i < xs.length := by
  unfold nWords begunN at h
  omega
/-- the word that the search finds holds what is looked for -/
theorem word_holds (xs : List Bool) (i j : Nat) (bit : Bool) (hi : i < nWords xs) (hj : j < rankN xs xs.length bit) (hm : i + 1 = nWords xs ∨ j < aheadB xs (i + 1) bit) (ha : aheadB xs i bit ≤ j) : j - aheadB xs i bit < cnt (wordB xs i bit) 64 := by
  have hl := words_len xs i hi
  by_cases h : xs.length ≤ 64 * i + 64
  · have := rank_wordB xs i (xs.length - 64 * i) bit (by omega) (by omega)
    rw [show 64 * i + (xs.length - 64 * i) = xs.length by omega] at this
    have hc := cnt_mono (wordB xs i bit) (show xs.length - 64 * i ≤ 64 by omega)
    omega
  · have h2 : i + 1 ≠ nWords xs := by unfold nWords begunN; omega
    have h3 : j < aheadB xs (i + 1) bit := by
      rcases hm with h | h
      · exact absurd h h2
      · exact h
    rw [aheadB_rank xs (i + 1) bit (by omega), show 64 * (i + 1) = 64 * i + 64 by omega, rank_wordB xs i 64 bit (by omega) (by omega)] at h3
    omega
theorem place_found (xs : List Bool) (i p j : Nat) (bit : Bool) (hi : i < nWords xs) (hj : j < rankN xs xs.length bit) (ha : aheadB xs i bit ≤ j) (hp : p ≤ 63)
    (h1 : cnt (wordB xs i bit) p ≤ j - aheadB xs i bit) (h2 : j - aheadB xs i bit < cnt (wordB xs i bit) (p + 1)) : selL xs j bit = ((64 * i + p : Nat) : Int) := by
  have hl := words_len xs i hi
  by_cases hk : 64 * i + p < xs.length
  · refine sel_at xs (64 * i + p) j bit ?_ ?_
    · rw [rank_wordB xs i p bit (by omega) (by omega)]; omega
    · rw [show 64 * i + p + 1 = 64 * i + (p + 1) by omega, rank_wordB xs i (p + 1) bit (by omega) (by omega)]; omega
  · exfalso
    have := rank_wordB xs i (xs.length - 64 * i) bit (by omega) (by omega)
    rw [show 64 * i + (xs.length - 64 * i) = xs.length by omega] at this
    have hc := cnt_mono (wordB xs i bit) (show xs.length - 64 * i ≤ p by omega)
    omega
theorem place_ex (u j : Nat) : ∀ n, j < cnt u n → ∃ p, p < n ∧ cnt u p ≤ j ∧ j < cnt u (p + 1)
  | 0, h => absurd h (Nat.not_lt_zero _)
  | n + 1, h => by
    by_cases h1 : j < cnt u n
    · obtain ⟨p, hp, h2, h3⟩ := place_ex u j n h1
      exact ⟨p, by omega, h2, h3⟩
    · exact ⟨n, by omega, by omega, h⟩
theorem nth_at (u j p : Nat) (w : World) (hu : u < 18446744073709551616) (hp : p ≤ 63) (h1 : cnt u p ≤ j) (h2 : j < cnt u (p + 1)) :
    Calls Try.prog 65 #[.int .u64 u, .int .i64 j] w fun e w' => e = .returned (.int .i64 p) ∧ ∃ n, w' = w.drewN n := by
  refine (nth_any u j w hu (Nat.lt_of_lt_of_le h2 (cnt_mono u (by omega)))).mono ?_
  rintro e w' ⟨q, rfl, hq, h3, h4, hw⟩
  have e : q = p := by
    by_cases hlt : q < p
    · have := cnt_mono u (show q + 1 ≤ p by omega)
      omega
    · by_cases hgt : p < q
      · have := cnt_mono u (show p + 1 ≤ q by omega)
        omega
      · omega
  rw [e]
  exact ⟨rfl, hw⟩
end Go.Proofs.Yteecanaibkpmfaa
