/-
  PLAIN MATHEMATICS FOR LAYER 5: what closes, begins, encloses, in a balanced row.
-/
import Derived.Test.YteecanaibkpmfaaParLaws
namespace Go.Proofs.Yteecanaibkpmfaa

theorem may_ge {l : List Bool} (h : mayL l = true) (n : Nat) (hn : n ≤ l.length) : 0 ≤ exc l n := by
  unfold mayL at h
  rw [Bool.and_eq_true] at h
  cases n with
  | zero => exact Int.le_refl _
  | succ m =>
    have h1 : mayN l (m + 1) = true := by
      cases hb : mayN l (m + 1) with
      | true => rfl
      | false => rw [mayN_later l l.length (m + 1) hn hb] at h; exact absurd h.1 (by decide)
    have h2 : (mayN l m && decide (0 ≤ exc l (m + 1))) = true := h1
    rw [Bool.and_eq_true] at h2
    exact of_decide_eq_true h2.2
theorem may_end {l : List Bool} (h : mayL l = true) : exc l l.length = 0 := by
  unfold mayL at h
  rw [Bool.and_eq_true] at h
  exact of_decide_eq_true h.2
theorem may_of {l : List Bool} (h1 : ∀ n, n ≤ l.length → 0 ≤ exc l n) (h2 : exc l l.length = 0) : mayL l = true := by
  have h3 : ∀ n, n ≤ l.length → mayN l n = true := by
    intro n
    induction n with
    | zero => intro _; rfl
    | succ m ih => intro hm; exact mayN_next l m true (decide_eq_true (h1 (m + 1) hm)) (ih (by omega))
  unfold mayL
  rw [h3 _ (Nat.le_refl _), h2]
  rfl
theorem exc_one (l : List Bool) (n : Nat) (h : n < l.length) : exc l (n + 1) = exc l n + 1 ∧ l.getD n false = true ∨ exc l (n + 1) = exc l n - 1 ∧ l.getD n false = false := by
  cases hb : l.getD n false with
  | true => left; exact ⟨by rw [exc_succ l n true h hb]; rfl, rfl⟩
  | false => right; exact ⟨by rw [exc_succ l n false h hb]; rfl, rfl⟩
theorem open_nat {l : List Bool} {n : Nat} (h : n < l.length) (hb : l.getD n false = true) : openB l (n : Int) = true ∧ shutB l (n : Int) = false := by
  unfold openB shutB
  rw [Int.toNat_natCast, hb]
  simp
  omega
theorem shut_nat {l : List Bool} {n : Nat} (h : n < l.length) (hb : l.getD n false = false) : openB l (n : Int) = false ∧ shutB l (n : Int) = true := by
  unfold openB shutB
  rw [Int.toNat_natCast, hb]
  simp
  omega
theorem none_nat {l : List Bool} {k : Int} (h : ¬ (0 ≤ k ∧ k < l.length)) : openB l k = false ∧ shutB l k = false := by
  unfold openB shutB
  by_cases h0 : 0 ≤ k
  · have h1 : ¬ k < l.length := fun h2 => h ⟨h0, h2⟩
    simp [h1]
  · simp [h0]

/-- from above t at place i down to at most t at the end: there is a first place behind which it is t -/
theorem down_to (l : List Bool) (t : Int) : ∀ d i, i + d = l.length → t < exc l i → exc l l.length ≤ t → ∃ c, i ≤ c ∧ c < l.length ∧ exc l (c + 1) = t ∧ ∀ x, i ≤ x → x < c → t < exc l (x + 1)
  | 0, i, h, h1, h2 => by
    rw [show i = l.length by omega] at h1
    omega
  | d + 1, i, h, h1, h2 => by
    have hs := exc_one l i (by omega)
    by_cases e : exc l (i + 1) = t
    · exact ⟨i, Nat.le_refl _, by omega, e, fun x hx hxc => by omega⟩
    · obtain ⟨c, h3, h4, h5, h6⟩ := down_to l t d (i + 1) (by omega) (by omega) h2
      refine ⟨c, by omega, h4, h5, fun x hx hxc => ?_⟩
      by_cases ex : x = i
      · subst ex; omega
      · exact h6 x (by omega) hxc
/-- from at most t at the beginning up to above t at m: there is a last place ahead of which it is t -/
theorem up_from (l : List Bool) (t : Int) (h0 : 0 ≤ t) : ∀ m, m ≤ l.length → t < exc l m → ∃ b, b < m ∧ exc l b = t ∧ ∀ x, b < x → x ≤ m → t < exc l x
  | 0, _, h => by
    have : exc l 0 = 0 := rfl
    omega
  | m + 1, hm, h => by
    have hs := exc_one l m (by omega)
    by_cases e : exc l m = t
    · exact ⟨m, by omega, e, fun x hx hxm => by rw [show x = m + 1 by omega]; exact h⟩
    · obtain ⟨b, h1, h2, h3⟩ := up_from l t h0 m (by omega) (by omega)
      refine ⟨b, by omega, h2, fun x hx hxm => ?_⟩
      by_cases ex : x = m + 1
      · subst ex; exact h
      · exact h3 x hx (by omega)

/-- WHAT CLOSES. -/
theorem close_spec {l : List Bool} (hm : mayL l = true) (k : Nat) (hk : k < l.length) (hb : l.getD k false = true) :
    ∃ c, k < c ∧ c < l.length ∧ closeL l (k : Int) = (c : Int) ∧ exc l (c + 1) = exc l k ∧ (∀ x, k < x → x ≤ c → exc l k < exc l x) ∧ l.getD c false = false := by
  have h1 := exc_one l k hk
  rw [hb] at h1
  have h2 : exc l (k + 1) = exc l k + 1 := by
    rcases h1 with h | h
    · exact h.1
    · exact absurd h.2 (by decide)
  have h3 := may_ge hm k (by omega)
  obtain ⟨c, g1, g2, g3, g4⟩ := down_to l (exc l k) (l.length - (k + 1)) (k + 1) (by omega) (by omega) (by rw [may_end hm]; exact h3)
  have g5 : ∀ x, k < x → x ≤ c → exc l k < exc l x := by
    intro x hx hxc
    by_cases e : x = k + 1
    · subst e; omega
    · have := g4 (x - 1) (by omega) (by omega)
      rwa [show x - 1 + 1 = x by omega] at this
  refine ⟨c, by omega, g2, ?_, g3, g5, ?_⟩
  · unfold closeL
    rw [(open_nat hk hb).1, if_pos rfl, Int.toNat_natCast]
    refine fwdGo_is l _ _ k c (by omega) (by omega) g3 (fun x hx hxc => ?_)
    have := g5 (x + 1) (by omega) (by omega)
    omega
  · rcases exc_one l c g2 with h | h
    · have := g5 c (by omega) (Nat.le_refl _)
      omega
    · exact h.2
/-- WHAT BEGINS. -/
theorem begin_spec {l : List Bool} (hm : mayL l = true) (k : Nat) (hk : k < l.length) (hb : l.getD k false = false) :
    ∃ b, b < k ∧ beginL l (k : Int) = (b : Int) ∧ exc l b = exc l (k + 1) ∧ (∀ x, b < x → x ≤ k → exc l b < exc l x) ∧ l.getD b false = true := by
  have h1 := exc_one l k hk
  rw [hb] at h1
  have h2 : exc l (k + 1) = exc l k - 1 := by
    rcases h1 with h | h
    · exact absurd h.2 (by decide)
    · exact h.1
  obtain ⟨b, g1, g2, g3⟩ := up_from l (exc l (k + 1)) (may_ge hm _ (by omega)) k (by omega) (by omega)
  refine ⟨b, g1, ?_, g2, fun x hx hxk => by rw [g2]; exact g3 x hx hxk, ?_⟩
  · unfold beginL
    rw [(shut_nat hk hb).2, if_pos rfl, Int.toNat_natCast]
    refine bwdGo_is l _ (k + 1) b (by omega) g2 (fun x hx hxk => ?_)
    have := g3 x hx (by omega)
    omega
  · rcases exc_one l b (by omega) with h | h
    · exact h.2
    · have := g3 (b + 1) (by omega) (by omega)
      omega
/-- WHAT ENCLOSES. -/
theorem enclose_none {l : List Bool} (hm : mayL l = true) (k : Nat) (hk : k < l.length) (hb : l.getD k false = true) (h0 : exc l k = 0) : encloseL l (k : Int) = -1 := by
  unfold encloseL
  rw [(open_nat hk hb).1, if_pos rfl, Int.toNat_natCast]
  refine bwdGo_miss l _ k (fun x hx => ?_)
  have := may_ge hm x (by omega)
  omega
theorem enclose_spec {l : List Bool} (hm : mayL l = true) (k : Nat) (hk : k < l.length) (hb : l.getD k false = true) (h0 : exc l k ≠ 0) :
    ∃ b, b < k ∧ encloseL l (k : Int) = (b : Int) ∧ exc l b = exc l k - 1 ∧ (∀ x, b < x → x ≤ k → exc l b < exc l x) ∧ l.getD b false = true := by
  have h1 := may_ge hm k (by omega)
  obtain ⟨b, g1, g2, g3⟩ := up_from l (exc l k - 1) (by omega) k (by omega) (by omega)
  refine ⟨b, g1, ?_, g2, fun x hx hxk => by rw [g2]; exact g3 x hx hxk, ?_⟩
  · unfold encloseL
    rw [(open_nat hk hb).1, if_pos rfl, Int.toNat_natCast]
    refine bwdGo_is l _ k b g1 g2 (fun x hx hxk => ?_)
    have := g3 x hx (by omega)
    omega
  · rcases exc_one l b (by omega) with h | h
    · exact h.2
    · have := g3 (b + 1) (by omega) (by omega)
      omega
/-- what begins what closes, and the other way round -/
theorem begin_close {l : List Bool} (hm : mayL l = true) (k c : Nat) (hk : k < l.length) (hb : l.getD k false = true) (hc : closeL l (k : Int) = (c : Int)) : beginL l (c : Int) = (k : Int) := by
  obtain ⟨c', g1, g2, g3, g4, g5, g6⟩ := close_spec hm k hk hb
  obtain rfl : c' = c := by omega
  unfold beginL
  rw [(shut_nat g2 g6).2, if_pos rfl, Int.toNat_natCast]
  refine bwdGo_is l _ (c' + 1) k (by omega) g4.symm (fun x hx hxk => ?_)
  have := g5 x hx (by omega)
  omega
theorem close_begin {l : List Bool} (hm : mayL l = true) (k b : Nat) (hk : k < l.length) (hb : l.getD k false = false) (hc : beginL l (k : Int) = (b : Int)) : closeL l (b : Int) = (k : Int) := by
  obtain ⟨b', g1, g2, g3, g4, g5⟩ := begin_spec hm k hk hb
  obtain rfl : b' = b := by omega
  unfold closeL
  rw [(open_nat (by omega) g5).1, if_pos rfl, Int.toNat_natCast]
  refine fwdGo_is l _ _ b' k (by omega) (by omega) g3.symm (fun x hx hxk => ?_)
  have := g4 (x + 1) (by omega) (by omega)
  omega
theorem excL_nat {l : List Bool} (k : Nat) (hk : k < l.length) : excL l (k : Int) = exc l (k + 1) := by
  unfold excL
  rw [if_pos (by omega), Int.toNat_natCast]
theorem excL_none {l : List Bool} (k : Int) (h : ¬ (0 ≤ k ∧ k < l.length)) : excL l k = -1 := by
  unfold excL
  rw [if_neg h]
theorem closeL_none {l : List Bool} (k : Int) (h : openB l k = false) : closeL l k = -1 := by unfold closeL; rw [h]; rfl
theorem beginL_none {l : List Bool} (k : Int) (h : shutB l k = false) : beginL l k = -1 := by unfold beginL; rw [h]; rfl
theorem encloseL_none {l : List Bool} (k : Int) (h : openB l k = false) : encloseL l k = -1 := by unfold encloseL; rw [h]; rfl
theorem numberL_none {l : List Bool} (k : Int) (h : openB l k = false) : numberL l k = -1 := by unfold numberL; rw [h]; rfl
theorem spanL_none {l : List Bool} (k : Int) (h : openB l k = false) : spanL l k = 0 := by unfold spanL; rw [h]; rfl
theorem upL_none {l : List Bool} (k n : Int) (h : openB l k = false) : upL l k n = -1 := by
  unfold upL
  rw [if_neg (by rw [h]; rintro ⟨h1, _⟩; cases h1)]
theorem upL_neg {l : List Bool} (k n : Int) (h : n < 0) : upL l k n = -1 := by
  unfold upL
  rw [if_neg (by rintro ⟨_, h1⟩; omega)]
theorem upL_nat {l : List Bool} (k : Int) (n : Nat) (h : openB l k = true) : upL l k (n : Int) = upGo l n k := by
  unfold upL
  rw [if_pos ⟨h, by omega⟩, Int.toNat_natCast]
theorem numberL_nat {l : List Bool} (k : Nat) (hk : k < l.length) (hb : l.getD k false = true) : numberL l (k : Int) = (rankN l k true : Int) := by
  unfold numberL rankL
  rw [(open_nat hk hb).1, if_pos rfl, Int.toNat_natCast]
theorem spanL_nat {l : List Bool} (k c : Nat) (hk : k < l.length) (hb : l.getD k false = true) (hc : closeL l (k : Int) = (c : Int)) (hkc : k < c) : spanL l (k : Int) = ((c - k + 1) / 2 : Nat) := by
  unfold spanL
  rw [(open_nat hk hb).1, if_pos rfl, hc, Int.tdiv_eq_ediv_of_nonneg (by omega)]
  omega
/-- places by their numbers -/
theorem sel_exists (l : List Bool) (j : Nat) (bit : Bool) : ∀ n, n ≤ l.length → j < rankN l n bit → ∃ k, k < n ∧ l.getD k false = bit ∧ rankN l k bit = j
  | 0, _, h => absurd h (Nat.not_lt_zero _)
  | n + 1, hn, h => by
    by_cases h1 : j < rankN l n bit
    · obtain ⟨k, hk, h2⟩ := sel_exists l j bit n (by omega) h1
      exact ⟨k, by omega, h2⟩
    · obtain ⟨b, hb⟩ : ∃ b, l.getD n false = b := ⟨_, rfl⟩
      rw [rankN_succ l n bit b (by omega) hb] at h
      by_cases e : b = bit
      · rw [if_pos e] at h
        exact ⟨n, by omega, by rw [hb, e], by omega⟩
      · rw [if_neg e] at h
        omega
theorem sel_found (l : List Bool) (j : Nat) (bit : Bool) (h : j < rankN l l.length bit) : ∃ k : Nat, k < l.length ∧ l.getD k false = bit ∧ rankN l k bit = j ∧ selL l (j : Int) bit = (k : Int) := by
  obtain ⟨k, hk, hb, hr⟩ := sel_exists l j bit l.length (Nat.le_refl _) h
  exact ⟨k, hk, hb, hr, by rw [← hr]; exact select_rank l k bit hk hb⟩
theorem opens_half {l : List Bool} (hm : mayL l = true) : 2 * rankN l l.length true = l.length := by
  have h1 := exc_rank l l.length (Nat.le_refl _)
  have h2 := rank_both l l.length (Nat.le_refl _)
  have h3 := may_end hm
  omega
end Go.Proofs.Yteecanaibkpmfaa
