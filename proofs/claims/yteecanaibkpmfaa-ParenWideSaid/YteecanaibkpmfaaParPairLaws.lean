/-
  PLAIN MATHEMATICS FOR LAYER 5: what lies between a pair, and around it.
-/
import Derived.Test.YteecanaibkpmfaaParUpLaws
namespace Go.Proofs.Yteecanaibkpmfaa

def subL (l : List Bool) (s m : Nat) : List Bool := (l.drop s).take m
theorem subL_len (l : List Bool) (s m : Nat) (h : s + m ≤ l.length) : (subL l s m).length = m := by
  unfold subL
  rw [List.length_take, List.length_drop]
  omega
theorem subL_get (l : List Bool) (s m n : Nat) (h : n < m) : (subL l s m).getD n false = l.getD (s + n) false := by
  unfold subL
  simp [List.getD, List.getElem?_drop, h]
theorem exc_sub (l : List Bool) (s m : Nat) (h : s + m ≤ l.length) : ∀ n, n ≤ m → exc (subL l s m) n = exc l (s + n) - exc l s
  | 0, _ => by
    show (0 : Int) = _
    rw [Nat.add_zero]
    omega
  | n + 1, hn => by
    have hl := subL_len l s m h
    rw [exc_succ (subL l s m) n (l.getD (s + n) false) (by omega) (subL_get l s m n (by omega)), exc_sub l s m h n (by omega), show s + (n + 1) = (s + n) + 1 by omega, exc_succ l (s + n) (l.getD (s + n) false) (by omega) rfl]
    omega
/-- BETWEEN A PAIR LIES A BALANCED ROW. -/
theorem between_may {l : List Bool} (hm : mayL l = true) (k c : Nat) (hk : k < l.length) (hb : l.getD k false = true) (hc : closeL l (k : Int) = (c : Int)) : k < c ∧ c < l.length ∧ mayL (subL l (k + 1) (c - (k + 1))) = true := by
  obtain ⟨c', g1, g2, g3, g4, g5, g6⟩ := close_spec hm k hk hb
  obtain rfl : c' = c := by omega
  have e1 : exc l (k + 1) = exc l k + 1 := by
    rcases exc_one l k hk with h | h
    · exact h.1
    · rw [hb] at h; exact absurd h.2 (by decide)
  have e2 : exc l c' = exc l k + 1 := by
    rcases exc_one l c' g2 with h | h
    · rw [g6] at h; exact absurd h.2 (by decide)
    · omega
  refine ⟨g1, g2, may_of (fun n hn => ?_) ?_⟩
  · rw [subL_len l (k + 1) (c' - (k + 1)) (by omega)] at hn
    rw [exc_sub l (k + 1) (c' - (k + 1)) (by omega) n hn]
    have := g5 (k + 1 + n) (by omega) (by omega)
    omega
  · rw [subL_len l (k + 1) (c' - (k + 1)) (by omega), exc_sub l (k + 1) (c' - (k + 1)) (by omega) _ (Nat.le_refl _), show k + 1 + (c' - (k + 1)) = c' by omega]
    omega
/-- WHAT ENCLOSES A PAIR CLOSES BEHIND IT. -/
theorem around {l : List Bool} (hm : mayL l = true) (k c b : Nat) (hk : k < l.length) (hb : l.getD k false = true) (hc : closeL l (k : Int) = (c : Int)) (he : encloseL l (k : Int) = (b : Int)) :
    b < k ∧ l.getD b false = true ∧ exc l b = exc l k - 1 ∧ ∃ c2 : Nat, closeL l (b : Int) = (c2 : Int) ∧ c < c2 := by
  obtain ⟨c', g1, g2, g3, g4, g5, g6⟩ := close_spec hm k hk hb
  obtain rfl : c' = c := by omega
  have h0 : exc l k ≠ 0 := by
    intro h
    rw [enclose_none hm k hk hb h] at he
    omega
  obtain ⟨b', f1, f2, f3, f4, f5⟩ := enclose_spec hm k hk hb h0
  obtain rfl : b' = b := by omega
  obtain ⟨c2, d1, d2, d3, d4, d5, d6⟩ := close_spec hm b' (by omega) f5
  refine ⟨f1, f5, f3, c2, d3, ?_⟩
  by_cases hlt : c' < c2
  · exact hlt
  · exfalso
    by_cases h1 : c2 + 1 ≤ k
    · have := f4 (c2 + 1) (by omega) h1
      omega
    · by_cases h2 : c2 = c'
      · subst h2; omega
      · have := g5 (c2 + 1) (by omega) (by omega)
        omega
theorem excL_open {l : List Bool} (k : Nat) (hk : k < l.length) (hb : l.getD k false = true) : excL l (k : Int) = exc l k + 1 := by
  rw [excL_nat k hk]
  rcases exc_one l k hk with h | h
  · exact h.1
  · rw [hb] at h; exact absurd h.2 (by decide)
theorem spanL_int {l : List Bool} (k c : Nat) (hk : k < l.length) (hb : l.getD k false = true) (hc : closeL l (k : Int) = (c : Int)) (hkc : k < c) : spanL l (k : Int) = ((c : Int) - (k : Int) + 1) / 2 := by
  rw [spanL_nat k c hk hb hc hkc]
  omega
end Go.Proofs.Yteecanaibkpmfaa
