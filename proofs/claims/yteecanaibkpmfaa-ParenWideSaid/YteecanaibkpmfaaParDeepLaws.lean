/-
  PLAIN MATHEMATICS FOR LAYER 5: n pairs within one another.
-/
import Derived.Test.YteecanaibkpmfaaParPairLaws
namespace Go.Proofs.Yteecanaibkpmfaa

/-- a pairs within one another -/
def deepL (a : Nat) : List Bool := List.replicate a true ++ List.replicate a false
theorem deepL_len (a : Nat) : (deepL a).length = 2 * a := by simp [deepL]; omega
theorem deepL_get (a n : Nat) : (deepL a).getD n false = decide (n < a) := by
  unfold deepL
  by_cases h : n < a
  · simp [List.getD, List.getElem?_append, h]
  · by_cases h2 : n - a < a
    · simp [List.getD, List.getElem?_append, h, h2]
    · simp [List.getD, List.getElem?_append, h, h2]
theorem deep_exc (a : Nat) : ∀ n, n ≤ 2 * a → exc (deepL a) n = if n ≤ a then (n : Int) else 2 * (a : Int) - (n : Int)
  | 0, _ => by simp [exc]
  | n + 1, h => by
    have ih := deep_exc a n (by omega)
    rw [exc_succ (deepL a) n (decide (n < a)) (by rw [deepL_len]; omega) (deepL_get a n), ih]
    by_cases h1 : n < a
    · rw [decide_eq_true h1, if_pos (by omega), if_pos (by omega)]
      show (n : Int) + 1 = _
      omega
    · rw [decide_eq_false h1, if_neg (show ¬ n + 1 ≤ a by omega)]
      show (if n ≤ a then (n : Int) else 2 * (a : Int) - (n : Int)) + -1 = _
      split <;> omega
theorem deep_may (a : Nat) : mayL (deepL a) = true := by
  refine may_of (fun n hn => ?_) ?_
  · rw [deepL_len] at hn
    rw [deep_exc a n hn]
    split <;> omega
  · rw [deepL_len, deep_exc a (2 * a) (Nat.le_refl _)]
    split <;> omega
theorem deep_open (a x : Nat) (h : x < a) : x < (deepL a).length ∧ (deepL a).getD x false = true := ⟨by rw [deepL_len]; omega, by rw [deepL_get]; exact decide_eq_true h⟩
theorem deep_close (a x : Nat) (h : x < a) : closeL (deepL a) (x : Int) = ((2 * a - 1 - x : Nat) : Int) := by
  obtain ⟨h1, h2⟩ := deep_open a x h
  unfold closeL
  rw [(open_nat h1 h2).1, if_pos rfl, Int.toNat_natCast, deepL_len]
  refine fwdGo_is (deepL a) _ _ x (2 * a - 1 - x) (by omega) (by omega) ?_ (fun t ht1 ht2 => ?_)
  · rw [deep_exc a _ (by omega), deep_exc a x (by omega), if_pos (show x ≤ a by omega)]
    split <;> omega
  · rw [deep_exc a _ (by omega), deep_exc a x (by omega), if_pos (show x ≤ a by omega)]
    split <;> omega
theorem deep_span (a x : Nat) (h : x < a) : spanL (deepL a) (x : Int) = (a : Int) - (x : Int) := by
  obtain ⟨h1, h2⟩ := deep_open a x h
  rw [spanL_nat x _ h1 h2 (deep_close a x h) (by omega)]
  omega
theorem deep_excess (a x : Nat) (h : x < a) : excL (deepL a) (x : Int) = (x : Int) + 1 := by
  obtain ⟨h1, h2⟩ := deep_open a x h
  rw [excL_open x h1 h2, deep_exc a x (by omega), if_pos (by omega)]
theorem deep_up (a x y : Nat) (h : x < a) (hy : y ≤ x) : upL (deepL a) (x : Int) ((x : Int) - (y : Int)) = (y : Int) := by
  obtain ⟨h1, h2⟩ := deep_open a x h
  rw [show (x : Int) - (y : Int) = ((x - y : Nat) : Int) by omega, upL_nat _ _ (open_nat h1 h2).1]
  have e := deep_exc a x (by omega)
  rw [if_pos (show x ≤ a by omega)] at e
  rcases up_spec (deep_may a) (x - y) x h1 h2 with ⟨_, b, g1, g2, g3, g4⟩ | ⟨g, _⟩
  · rw [deepL_get] at g2
    have hb := of_decide_eq_true g2
    rw [deep_exc a b (by omega), if_pos (by omega), e] at g4
    rw [g3]
    omega
  · omega
theorem deep_far (a x : Nat) (h : x < a) : upL (deepL a) (x : Int) ((x : Int) + 1) = -1 := by
  obtain ⟨h1, h2⟩ := deep_open a x h
  rw [show (x : Int) + 1 = ((x + 1 : Nat) : Int) by omega, upL_nat _ _ (open_nat h1 h2).1]
  have e := deep_exc a x (by omega)
  rw [if_pos (show x ≤ a by omega)] at e
  rcases up_spec (deep_may a) (x + 1) x h1 h2 with ⟨g, _⟩ | ⟨_, g⟩
  · omega
  · exact g
theorem take_next (l : List Bool) (i : Nat) (b : Bool) (h : i < l.length) (hb : l.getD i false = b) : l.take (i + 1) = l.take i ++ [b] := by
  rw [List.take_succ_eq_append_getElem h, ← hb]
  simp [List.getD, List.getElem?_eq_getElem h]
end Go.Proofs.Yteecanaibkpmfaa
