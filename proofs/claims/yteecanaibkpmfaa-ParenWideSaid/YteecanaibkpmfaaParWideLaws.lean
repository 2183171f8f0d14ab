/-
  PLAIN MATHEMATICS FOR LAYER 5: n pairs side by side in one.
-/
import Derived.Test.YteecanaibkpmfaaParDeepLaws
namespace Go.Proofs.Yteecanaibkpmfaa

def wbit (a n : Nat) : Bool := decide (n = 0 ∨ (n % 2 = 1 ∧ n < 2 * a))
/-- a pairs side by side in one -/
def wideL (a : Nat) : List Bool := (List.range (2 * a + 2)).map (wbit a)
theorem wideL_len (a : Nat) : (wideL a).length = 2 * a + 2 := by simp [wideL]
theorem wideL_get (a n : Nat) (h : n < 2 * a + 2) : (wideL a).getD n false = wbit a n := by
  unfold wideL
  simp [List.getD, h]
theorem wide_exc (a : Nat) : ∀ n, n ≤ 2 * a + 2 → exc (wideL a) n = if n = 0 ∨ n = 2 * a + 2 then 0 else if n % 2 = 0 then 2 else 1
  | 0, _ => by simp [exc]
  | n + 1, h => by
    have ih := wide_exc a n (by omega)
    rw [exc_succ (wideL a) n (wbit a n) (by rw [wideL_len]; omega) (wideL_get a n (by omega)), ih]
    unfold wbit
    by_cases h1 : n = 0 ∨ (n % 2 = 1 ∧ n < 2 * a)
    · rw [decide_eq_true h1]
      show _ + (1 : Int) = _
      split <;> split <;> (try split) <;> omega
    · rw [decide_eq_false h1]
      show _ + (-1 : Int) = _
      split <;> split <;> (try split) <;> (try split) <;> omega
theorem wide_odd (a n : Nat) (h : n < 2 * a + 2) (h1 : n % 2 = 1) : exc (wideL a) n = 1 := by
  rw [wide_exc a n (by omega), if_neg (by omega), if_neg (by omega)]
theorem wide_even (a n : Nat) (h : n < 2 * a + 2) (h1 : n % 2 = 0) (h0 : n ≠ 0) : exc (wideL a) n = 2 := by
  rw [wide_exc a n (by omega), if_neg (by omega), if_pos h1]
theorem wide_may (a : Nat) : mayL (wideL a) = true := by
  refine may_of (fun n hn => ?_) ?_
  · rw [wideL_len] at hn
    rw [wide_exc a n hn]
    split
    · omega
    · split <;> omega
  · rw [wideL_len, wide_exc a (2 * a + 2) (Nat.le_refl _), if_pos (Or.inr rfl)]
theorem wide_first (a : Nat) : 0 < (wideL a).length ∧ (wideL a).getD 0 false = true := ⟨by rw [wideL_len]; omega, by rw [wideL_get a 0 (by omega)]; rfl⟩
theorem wide_at (a t : Nat) (h : t < a) : 1 + 2 * t < (wideL a).length ∧ (wideL a).getD (1 + 2 * t) false = true :=
  ⟨by rw [wideL_len]; omega, by rw [wideL_get a _ (by omega)]; exact decide_eq_true (by omega)⟩
theorem wide_close0 (a : Nat) : closeL (wideL a) 0 = 2 * (a : Int) + 1 := by
  obtain ⟨h1, h2⟩ := wide_first a
  have ho := (open_nat h1 h2).1
  unfold closeL
  rw [show (0 : Int) = ((0 : Nat) : Int) from rfl, ho, if_pos rfl, Int.toNat_natCast, wideL_len, show 2 * (a : Int) + 1 = ((2 * a + 1 : Nat) : Int) by omega]
  refine fwdGo_is (wideL a) _ _ 0 (2 * a + 1) (by omega) (by omega) ?_ (fun t _ ht => ?_)
  · rw [wide_exc a _ (by omega), wide_exc a 0 (by omega), if_pos (Or.inr rfl), if_pos (Or.inl rfl)]
  · rw [wide_exc a _ (by omega), wide_exc a 0 (by omega), if_neg (by omega), if_pos (Or.inl rfl)]
    split <;> omega
theorem wide_begin (a : Nat) : beginL (wideL a) (2 * (a : Int) + 1) = 0 := by
  obtain ⟨h1, h2⟩ := wide_first a
  have h := begin_close (wide_may a) 0 (2 * a + 1) h1 h2 (by
    rw [show ((2 * a + 1 : Nat) : Int) = 2 * (a : Int) + 1 by omega]
    exact wide_close0 a)
  rw [show ((2 * a + 1 : Nat) : Int) = 2 * (a : Int) + 1 by omega] at h
  exact h
theorem wide_close (a t : Nat) (h : t < a) : closeL (wideL a) ((1 + 2 * t : Nat) : Int) = ((1 + 2 * t + 1 : Nat) : Int) := by
  obtain ⟨h1, h2⟩ := wide_at a t h
  unfold closeL
  rw [(open_nat h1 h2).1, if_pos rfl, Int.toNat_natCast, wideL_len]
  refine fwdGo_is (wideL a) _ _ (1 + 2 * t) (1 + 2 * t + 1) (by omega) (by omega) ?_ (fun x hx1 hx2 => ?_)
  · rw [wide_odd a (1 + 2 * t + 1 + 1) (by omega) (by omega), wide_odd a (1 + 2 * t) (by omega) (by omega)]
  · obtain rfl : x = 1 + 2 * t := by omega
    rw [wide_even a (1 + 2 * t + 1) (by omega) (by omega) (by omega), wide_odd a (1 + 2 * t) (by omega) (by omega)]
    omega
theorem wide_enclose (a t : Nat) (h : t < a) : encloseL (wideL a) ((1 + 2 * t : Nat) : Int) = 0 := by
  obtain ⟨h1, h2⟩ := wide_at a t h
  unfold encloseL
  rw [(open_nat h1 h2).1, if_pos rfl, Int.toNat_natCast]
  rw [wide_odd a (1 + 2 * t) (by omega) (by omega)]
  refine bwdGo_is (wideL a) _ (1 + 2 * t) 0 (by omega) rfl (fun x hx1 hx2 => ?_)
  by_cases hp : x % 2 = 0
  · rw [wide_even a x (by omega) hp (by omega)]
    omega
  · rw [wide_odd a x (by omega) (by omega)]
    omega
theorem wide_up (a t : Nat) (h : t < a) : upL (wideL a) ((1 + 2 * t : Nat) : Int) 1 = 0 := by
  obtain ⟨h1, h2⟩ := wide_at a t h
  rw [show (1 : Int) = ((1 : Nat) : Int) from rfl, upL_nat _ 1 (open_nat h1 h2).1, upGo_step _ 0 _ (by omega), wide_enclose a t h]
  rfl
theorem wide_span (a : Nat) : spanL (wideL a) 0 = (a : Int) + 1 := by
  obtain ⟨h1, h2⟩ := wide_first a
  have h := spanL_nat (l := wideL a) 0 (2 * a + 1) h1 h2 (by
    rw [show ((2 * a + 1 : Nat) : Int) = 2 * (a : Int) + 1 by omega]
    exact wide_close0 a) (by omega)
  rw [show (0 : Int) = ((0 : Nat) : Int) from rfl, h]
  omega
theorem wide_rank (a t : Nat) (h : t < a) : rankN (wideL a) (1 + 2 * t) true = t + 1 := by
  have h1 := exc_rank (wideL a) (1 + 2 * t) (by rw [wideL_len]; omega)
  have h2 := rank_both (wideL a) (1 + 2 * t) (by rw [wideL_len]; omega)
  rw [wide_exc a _ (by omega), if_neg (by omega), if_neg (by omega)] at h1
  omega
theorem wide_number (a t : Nat) (h : t < a) : numberL (wideL a) ((1 + 2 * t : Nat) : Int) = (((1 + 2 * t : Nat) : Int) + 1) / 2 := by
  obtain ⟨h1, h2⟩ := wide_at a t h
  rw [numberL_nat _ h1 h2, wide_rank a t h]
  omega
theorem wide_place (a t : Nat) (h : t < a) : selL (wideL a) ((((1 + 2 * t : Nat) : Int) + 1) / 2) true = ((1 + 2 * t : Nat) : Int) := by
  obtain ⟨h1, h2⟩ := wide_at a t h
  have e := select_rank (wideL a) (1 + 2 * t) true h1 h2
  rw [wide_rank a t h] at e
  rw [show (((1 + 2 * t : Nat) : Int) + 1) / 2 = ((t + 1 : Nat) : Int) by omega]
  exact e
theorem wide_take0 (a : Nat) : (wideL a).take 1 = [true] := by
  rw [take_next (wideL a) 0 true (wide_first a).1 (wide_first a).2]
  rfl
theorem wide_take (a t : Nat) (h : t < a) : (wideL a).take (1 + 2 * (t + 1)) = (wideL a).take (1 + 2 * t) ++ [true, false] := by
  obtain ⟨h1, h2⟩ := wide_at a t h
  have h3 : (wideL a).getD (1 + 2 * t + 1) false = false := by rw [wideL_get a _ (by omega)]; exact decide_eq_false (by omega)
  rw [show 1 + 2 * (t + 1) = (1 + 2 * t + 1) + 1 by omega, take_next (wideL a) (1 + 2 * t + 1) false (by rw [wideL_len]; omega) h3, take_next (wideL a) (1 + 2 * t) true h1 h2]
  simp
theorem wide_take_end (a : Nat) : wideL a = (wideL a).take (1 + 2 * a) ++ [false] := by
  have h3 : (wideL a).getD (1 + 2 * a) false = false := by rw [wideL_get a _ (by omega)]; exact decide_eq_false (by omega)
  rw [← take_next (wideL a) (1 + 2 * a) false (by rw [wideL_len]; omega) h3, List.take_of_length_le (by rw [wideL_len]; omega)]
end Go.Proofs.Yteecanaibkpmfaa
