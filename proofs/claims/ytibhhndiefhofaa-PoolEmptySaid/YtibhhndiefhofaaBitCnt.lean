/-
  PLAIN MATHEMATICS FOR THE LANDED PACKAGE bits: the ones of a number.
-/
import Derived.Test.YtibhhndiefhofaaBitLaws
import Derived.KernelRfl
namespace Go.Proofs.Ytibhhndiefhofaa

/-- how many of the n lowest bits of u are ones -/
def cnt (u : Nat) : Nat → Nat
  | 0 => 0
  | n + 1 => cnt u n + if u.testBit n then 1 else 0
theorem cnt_succ (u n : Nat) : cnt u (n + 1) = cnt u n + if u.testBit n then 1 else 0 := rfl
theorem cnt_le (u : Nat) : ∀ n, cnt u n ≤ n
  | 0 => Nat.le_refl _
  | n + 1 => by
    have := cnt_le u n
    simp only [cnt_succ]
    split <;> omega
theorem cnt_step (u n : Nat) : cnt u n ≤ cnt u (n + 1) ∧ cnt u (n + 1) ≤ cnt u n + 1 := by
  rw [cnt_succ]
  split <;> omega
theorem cnt_mono (u : Nat) {n m : Nat} (h : n ≤ m) : cnt u n ≤ cnt u m := by
  induction h with
  | refl => exact Nat.le_refl _
  | step _ ih => exact Nat.le_trans ih (cnt_step u _).1
theorem cnt_congr (u v : Nat) : ∀ n, (∀ i, i < n → u.testBit i = v.testBit i) → cnt u n = cnt v n
  | 0, _ => rfl
  | n + 1, h => by
    simp only [cnt_succ]
    rw [cnt_congr u v n (fun i hi => h i (by omega)), h n (by omega)]
theorem cnt_mod (u h n : Nat) (hn : n ≤ h) : cnt (u % 2 ^ h) n = cnt u n :=
  cnt_congr _ _ n fun i hi => by rw [Nat.testBit_mod_two_pow]; simp; omega
theorem cnt_shr (u p : Nat) : ∀ n, cnt u p + cnt (u / 2 ^ p) n = cnt u (p + n)
  | 0 => rfl
  | n + 1 => by
    have ih := cnt_shr u p n
    have e : (u / 2 ^ p).testBit n = u.testBit (p + n) := by rw [Nat.testBit_div_two_pow, Nat.add_comm]
    rw [show p + (n + 1) = (p + n) + 1 by omega]
    simp only [cnt_succ]
    rw [e]
    omega
/-- noughts above -/
theorem cnt_top (u h : Nat) (hu : u < 2 ^ h) : ∀ n, cnt u (h + n) = cnt u h
  | 0 => rfl
  | n + 1 => by
    rw [show h + (n + 1) = (h + n) + 1 by omega]
    have e : u.testBit (h + n) = false := Nat.testBit_lt_two_pow (Nat.lt_of_lt_of_le hu (Nat.pow_le_pow_right (by decide) (by omega)))
    simp only [cnt_succ]
    rw [e, cnt_top u h hu n]
    simp
/-- of a window of h bits from place p on -/
theorem cnt_window (u p h n : Nat) (hn : h ≤ n) : cnt u p + cnt (u / 2 ^ p % 2 ^ h) n = cnt u (p + h) := by
  obtain ⟨m, rfl⟩ : ∃ m, n = h + m := ⟨n - h, by omega⟩
  rw [cnt_top _ h (Nat.mod_lt _ (Nat.two_pow_pos h)), cnt_mod _ _ _ (Nat.le_refl _), cnt_shr]
theorem cnt_shl (u s : Nat) : ∀ n, cnt (u * 2 ^ s) (s + n) = cnt u n
  | 0 => by
    have h : ∀ m, m ≤ s → cnt (u * 2 ^ s) m = 0 := by
      intro m
      induction m with
      | zero => intro _; rfl
      | succ k ih =>
        intro hk
        have e : (u * 2 ^ s).testBit k = false := by rw [Nat.testBit_mul_two_pow]; simp; omega
        simp only [cnt_succ]
        rw [ih (by omega), e]
        simp
    exact h s (Nat.le_refl _)
  | n + 1 => by
    have ih := cnt_shl u s n
    have e : (u * 2 ^ s).testBit (s + n) = u.testBit n := by rw [Nat.testBit_mul_two_pow]; simp
    rw [show s + (n + 1) = (s + n) + 1 by omega]
    simp only [cnt_succ]
    rw [ih, e]
/-- what is shifted to the top of 64 bits: the lowest t + 1 bits are left -/
theorem cnt_upTo (u t : Nat) (h : t < 64) : cnt (u * 2 ^ (63 - t) % 2 ^ 64) 64 = cnt u (t + 1) := by
  rw [cnt_mod _ _ _ (Nat.le_refl _)]
  have := cnt_shl u (63 - t) (t + 1)
  rwa [show 63 - t + (t + 1) = 64 by omega] at this
/-- all 64 turned -/
theorem cnt_not (u : Nat) (hu : u < 2 ^ 64) : ∀ n, n ≤ 64 → cnt (2 ^ 64 - (u + 1)) n + cnt u n = n
  | 0, _ => rfl
  | n + 1, h => by
    have ih := cnt_not u hu n (by omega)
    have e : (2 ^ 64 - (u + 1)).testBit n = !u.testBit n := by rw [Nat.testBit_two_pow_sub_succ hu]; simp; omega
    simp only [cnt_succ]
    rw [e]
    generalize cnt (2 ^ 64 - (u + 1)) n = a at *
    cases u.testBit n
    · have e1 : (if (!false) = true then 1 else 0 : Nat) = 1 := rfl
      have e2 : (if false = true then 1 else 0 : Nat) = 0 := rfl
      rw [e1, e2]; omega
    · have e1 : (if (!true) = true then 1 else 0 : Nat) = 0 := rfl
      have e2 : (if true = true then 1 else 0 : Nat) = 1 := rfl
      rw [e1, e2]; omega

end Go.Proofs.Ytibhhndiefhofaa
