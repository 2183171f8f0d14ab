/-
  PLAIN MATHEMATICS OF THE LANDED PACKAGE paren: levels of least excesses over a row, and what is found by them.
-/
import Derived.Test.YteecanaibkpmfaaParLaws
namespace Go.Proofs.Yteecanaibkpmfaa

/-- the least of f a .. f (a + m) -/
def lowF (f : Nat → Int) (a : Nat) : Nat → Int
  | 0 => f a
  | m + 1 => min (lowF f a m) (f (a + m + 1))
theorem lowF_le (f : Nat → Int) (a : Nat) : ∀ m j, a ≤ j → j ≤ a + m → lowF f a m ≤ f j
  | 0, j, h1, h2 => by obtain rfl : j = a := by omega
                       exact Int.le_refl _
  | m + 1, j, h1, h2 => by
    show min (lowF f a m) (f (a + m + 1)) ≤ f j
    by_cases e : j = a + m + 1
    · subst e; omega
    · have := lowF_le f a m j h1 (by omega)
      omega
theorem lowF_at (f : Nat → Int) (a : Nat) : ∀ m, ∃ j, a ≤ j ∧ j ≤ a + m ∧ lowF f a m = f j
  | 0 => ⟨a, Nat.le_refl _, Nat.le_refl _, rfl⟩
  | m + 1 => by
    obtain ⟨j, h1, h2, h3⟩ := lowF_at f a m
    by_cases h : lowF f a m ≤ f (a + m + 1)
    · exact ⟨j, h1, by omega, by show min (lowF f a m) (f (a + m + 1)) = _; omega⟩
    · exact ⟨a + m + 1, by omega, by omega, by show min (lowF f a m) (f (a + m + 1)) = _; omega⟩

/-- how many things of level l make one of the next -/
def grpP (l : Nat) : Nat := if l = 0 then 128 else 8
/-- how many places a thing of level l stands for -/
def widP : Nat → Nat
  | 0 => 1
  | l + 1 => widP l * grpP l
/-- how many things of level l there are over n places -/
def cntP (n : Nat) : Nat → Nat
  | 0 => n
  | l + 1 => begunN (cntP n l) (grpP l)
/-- the least excess of the i-th thing of level l -/
def leastP (xs : List Bool) : Nat → Nat → Int
  | 0, i => exc xs (i + 1)
  | l + 1, i => lowF (leastP xs l) (grpP l * i) (min (grpP l * i + grpP l) (cntP xs.length l) - grpP l * i - 1)
theorem grp_pos (l : Nat) : 0 < grpP l := by unfold grpP; split <;> omega
theorem wid_pos : ∀ l, 0 < widP l
  | 0 => Nat.one_pos
  | l + 1 => Nat.mul_pos (wid_pos l) (grp_pos l)
theorem cnt_next (n l : Nat) : cntP n (l + 1) = (cntP n l + grpP l - 1) / grpP l := rfl
theorem lt_begun {i n g : Nat} (hg : 0 < g) : i < (n + g - 1) / g ↔ g * i < n := by
  rw [Nat.lt_iff_add_one_le, Nat.le_div_iff_mul_le hg, Nat.add_mul, Nat.one_mul, Nat.mul_comm i g]
  omega
theorem lt_cnt (n : Nat) : ∀ l i, i < cntP n l ↔ widP l * i < n
  | 0, i => by show i < n ↔ 1 * i < n; rw [Nat.one_mul]
  | l + 1, i => by
    rw [cnt_next, lt_begun (grp_pos l), lt_cnt n l]
    show widP l * (grpP l * i) < n ↔ widP l * grpP l * i < n
    rw [Nat.mul_assoc]
theorem least_ge (xs : List Bool) : ∀ l i p, widP l * i ≤ p → p < widP l * (i + 1) → p < xs.length → leastP xs l i ≤ exc xs (p + 1)
  | 0, i, p, h1, h2, h3 => by
    obtain rfl : p = i := by simp only [widP] at h1 h2; omega
    exact Int.le_refl _
  | l + 1, i, p, h1, h2, h3 => by
    have hw := wid_pos l
    have hg := grp_pos l
    have e1 : widP (l + 1) * i = widP l * (grpP l * i) := Nat.mul_assoc _ _ _
    have e2 : widP (l + 1) * (i + 1) = widP l * (grpP l * i + grpP l) := by show widP l * grpP l * (i + 1) = _; rw [Nat.mul_assoc, Nat.mul_add, Nat.mul_one]
    rw [e1] at h1; rw [e2] at h2
    have d1 : grpP l * i ≤ p / widP l := (Nat.le_div_iff_mul_le hw).2 (by rw [Nat.mul_comm]; exact h1)
    have d2 : p / widP l < grpP l * i + grpP l := (Nat.div_lt_iff_lt_mul hw).2 (by rw [Nat.mul_comm]; exact h2)
    have m1 := Nat.div_add_mod p (widP l)
    have m2 := Nat.mod_lt p hw
    have d3 : p / widP l < cntP xs.length l := (lt_cnt _ _ _).2 (by omega)
    have ih := least_ge xs l (p / widP l) p (by omega) (by rw [Nat.mul_add, Nat.mul_one]; omega) h3
    refine Int.le_trans (lowF_le (leastP xs l) (grpP l * i) _ (p / widP l) d1 (by omega)) ih
theorem least_child (xs : List Bool) (l i : Nat) (hi : i < cntP xs.length (l + 1)) : ∃ j, grpP l * i ≤ j ∧ j < min (grpP l * i + grpP l) (cntP xs.length l) ∧ leastP xs (l + 1) i = leastP xs l j := by
  rw [cnt_next, lt_begun (grp_pos l)] at hi
  have hg := grp_pos l
  obtain ⟨j, h1, h2, h3⟩ := lowF_at (leastP xs l) (grpP l * i) (min (grpP l * i + grpP l) (cntP xs.length l) - grpP l * i - 1)
  exact ⟨j, h1, by omega, h3⟩
theorem exc_bound (xs : List Bool) : ∀ m : Nat, -(xs.length : Int) ≤ exc xs m ∧ exc xs m ≤ xs.length
  | 0 => by simp [exc]
  | m + 1 => by
    have h1 := exc_abs xs (m + 1)
    by_cases h : m < xs.length
    · omega
    · have : exc xs (m + 1) = exc xs m := by show exc xs m + (if m < xs.length then _ else 0) = _; rw [if_neg h, Int.add_zero]
      rw [this]
      exact exc_bound xs m
theorem lowF_bound (f : Nat → Int) (N : Int) (h : ∀ i, -N ≤ f i ∧ f i ≤ N) (a m : Nat) : -N ≤ lowF f a m ∧ lowF f a m ≤ N := by
  obtain ⟨j, _, _, e⟩ := lowF_at f a m
  rw [e]; exact h j
theorem least_bound (xs : List Bool) : ∀ l i, -(xs.length : Int) ≤ leastP xs l i ∧ leastP xs l i ≤ xs.length
  | 0, i => exc_bound xs (i + 1)
  | l + 1, _ => lowF_bound _ _ (least_bound xs l) _ _

/-! ### searches -/
/-- r is the first of from .. to (less to) whose f comes down to e; to, if there is none -/
structure FirstP (f : Nat → Int) (e : Int) (a z r : Nat) : Prop where
  lo : a ≤ r
  hi : r ≤ z
  none : ∀ i, a ≤ i → i < r → e < f i
  found : r < z → f r ≤ e
/-- r - 1 is the last of a .. z (less z) whose f comes down to e; a - 1, if there is none -/
structure LastP (f : Nat → Int) (e : Int) (a z r : Nat) : Prop where
  lo : a ≤ r
  hi : r ≤ z
  none : ∀ i, r ≤ i → i < z → e < f i
  found : a < r → f (r - 1) ≤ e
/-- behind none of the places a .. z (less z) does the excess come down to e -/
def HighP (xs : List Bool) (e : Int) (a z : Nat) : Prop := ∀ p, a ≤ p → p < z → p < xs.length → e < exc xs (p + 1)
theorem HighP.join {xs : List Bool} {e : Int} {a m z : Nat} (h1 : HighP xs e a m) (h2 : HighP xs e m z) : HighP xs e a z := fun p ha hz hn => by
  by_cases h : p < m
  · exact h1 p ha h hn
  · exact h2 p (by omega) hz hn
theorem high_of (xs : List Bool) (e : Int) (l a z : Nat) (h : ∀ i, a ≤ i → i < z → e < leastP xs l i) : HighP xs e (widP l * a) (widP l * z) := fun p ha hz hn => by
  have hw := wid_pos l
  have d1 : a ≤ p / widP l := (Nat.le_div_iff_mul_le hw).2 (by rw [Nat.mul_comm]; exact ha)
  have d2 : p / widP l < z := (Nat.div_lt_iff_lt_mul hw).2 (by rw [Nat.mul_comm]; exact hz)
  have m1 := Nat.div_add_mod p (widP l)
  have m2 := Nat.mod_lt p hw
  have h1 := h _ d1 d2
  have h2 := least_ge xs l (p / widP l) p (by omega) (by rw [Nat.mul_add, Nat.mul_one]; omega) hn
  omega
/-- FROM A THING DOWN TO THE FIRST OF ITS PARTS. -/
theorem first_down {xs : List Bool} {e : Int} {l i r : Nat} (hi : i < cntP xs.length (l + 1)) (hl : leastP xs (l + 1) i ≤ e) (h : FirstP (leastP xs l) e (grpP l * i) (min (grpP l * i + grpP l) (cntP xs.length l)) r) :
    r < cntP xs.length l ∧ leastP xs l r ≤ e ∧ widP (l + 1) * i ≤ widP l * r ∧ HighP xs e (widP (l + 1) * i) (widP l * r) := by
  obtain ⟨j, h1, h2, h3⟩ := least_child xs l i hi
  have hr : r < min (grpP l * i + grpP l) (cntP xs.length l) := by
    by_cases hc : r < min (grpP l * i + grpP l) (cntP xs.length l)
    · exact hc
    · have := h.none j h1 (by have := h.hi; omega)
      omega
  have e1 : widP (l + 1) * i = widP l * (grpP l * i) := Nat.mul_assoc _ _ _
  rw [e1]
  exact ⟨by omega, h.found hr, Nat.mul_le_mul_left _ h.lo, high_of xs e l _ _ h.none⟩
/-- FROM A THING DOWN TO THE LAST OF ITS PARTS. -/
theorem last_down {xs : List Bool} {e : Int} {l i r : Nat} (hi : i < cntP xs.length (l + 1)) (hl : leastP xs (l + 1) i ≤ e) (h : LastP (leastP xs l) e (grpP l * i) (min (grpP l * i + grpP l) (cntP xs.length l)) r) :
    0 < r ∧ r - 1 < cntP xs.length l ∧ leastP xs l (r - 1) ≤ e ∧ widP l * r ≤ widP (l + 1) * (i + 1) ∧ HighP xs e (widP l * r) (widP (l + 1) * (i + 1)) := by
  obtain ⟨j, h1, h2, h3⟩ := least_child xs l i hi
  have hr : grpP l * i < r := by
    by_cases hc : grpP l * i < r
    · exact hc
    · have := h.none j (by have := h.lo; omega) h2
      omega
  have e2 : widP (l + 1) * (i + 1) = widP l * (grpP l * i + grpP l) := by show widP l * grpP l * (i + 1) = _; rw [Nat.mul_assoc, Nat.mul_add, Nat.mul_one]
  have hh := h.hi
  refine ⟨by omega, by omega, h.found hr, by rw [e2]; exact Nat.mul_le_mul_left _ (by omega), ?_⟩
  rw [e2]
  intro p ha hz hn
  refine high_of xs e l r (min (grpP l * i + grpP l) (cntP xs.length l)) h.none p ha ?_ hn
  by_cases hc : cntP xs.length l ≤ grpP l * i + grpP l
  · rw [Nat.min_eq_right hc]
    by_cases hq : p < widP l * cntP xs.length l
    · exact hq
    · exact absurd ((lt_cnt xs.length l (cntP xs.length l)).2 (by omega)) (Nat.lt_irrefl _)
  · rw [Nat.min_eq_left (by omega)]; exact hz

/-! ### the levels that there are -/
/-- P parts: the row, and levels of leasts up to one of at most eight -/
structure TopP (n P : Nat) : Prop where
  one : 1 ≤ P
  none : n = 0 → P = 1
  some : 0 < n → 2 ≤ P
  more : ∀ l, 1 ≤ l → l + 1 < P → 8 < cntP n l
  top : 2 ≤ P → cntP n (P - 1) ≤ 8
theorem cnt_one (n : Nat) : cntP n 1 = (n + 127) / 128 := by
  show (n + 128 - 1) / 128 = _
  rw [show n + 128 - 1 = n + 127 by omega]
theorem cnt_two (n l : Nat) : cntP n (l + 2) = (cntP n (l + 1) + 7) / 8 := by
  rw [cnt_next, show grpP (l + 1) = 8 from if_neg (Nat.succ_ne_zero l)]
  rw [show cntP n (l + 1) + 8 - 1 = cntP n (l + 1) + 7 by omega]
theorem top_few {n P : Nat} (h : TopP n P) (hn : n ≤ 4194304) : P ≤ 6 := by
  by_cases hc : P ≤ 6
  · exact hc
  · have h5 := h.more 5 (by omega) (by omega)
    rw [show (5 : Nat) = 3 + 2 from rfl, cnt_two, show (3 : Nat) + 1 = 2 + 2 from rfl, cnt_two, show (2 : Nat) + 1 = 1 + 2 from rfl, cnt_two, show (1 : Nat) + 1 = 0 + 2 from rfl, cnt_two, show (0 : Nat) + 1 = 1 from rfl, cnt_one] at h5
    omega
end Go.Proofs.Yteecanaibkpmfaa
