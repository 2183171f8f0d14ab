/-
  PLAIN MATHEMATICS FOR LAYER 5 (balanced parentheses): excesses, and the searches that closing, beginning, enclosing are.
-/
import Derived.Test.YteecanaibkpmfaaBitLaws
namespace Go.Proofs.Yteecanaibkpmfaa

def sgn (b : Bool) : Int := if b = true then 1 else -1
/-- how many of the first n open less how many close -/
def exc (l : List Bool) : Nat → Int
  | 0 => 0
  | n + 1 => exc l n + if n < l.length then sgn (l.getD n false) else 0
theorem exc_succ (l : List Bool) (n : Nat) (b : Bool) (h : n < l.length) (hb : l.getD n false = b) : exc l (n + 1) = exc l n + sgn b := by
  show exc l n + (if n < l.length then _ else 0) = _
  rw [if_pos h, hb]
theorem exc_rank (l : List Bool) : ∀ n, n ≤ l.length → exc l n = (rankN l n true : Int) - (rankN l n false : Int)
  | 0, _ => rfl
  | n + 1, h => by
    obtain ⟨b, hb⟩ : ∃ b, l.getD n false = b := ⟨_, rfl⟩
    rw [exc_succ l n b (by omega) hb, exc_rank l n (by omega), rankN_succ l n true b (by omega) hb, rankN_succ l n false b (by omega) hb]
    cases b <;> simp [sgn] <;> omega
theorem exc_abs (l : List Bool) : ∀ n : Nat, -(n : Int) ≤ exc l n ∧ exc l n ≤ n
  | 0 => by simp [exc]
  | n + 1 => by
    have ih := exc_abs l n
    have hs : ∀ b, sgn b = 1 ∨ sgn b = -1 := by intro b; cases b <;> simp [sgn]
    show -((n + 1 : Nat) : Int) ≤ exc l n + (if n < l.length then sgn (l.getD n false) else 0) ∧ exc l n + (if n < l.length then sgn (l.getD n false) else 0) ≤ ((n + 1 : Nat) : Int)
    have := hs (l.getD n false)
    split <;> omega

/-- the first place from i on (f places are left) behind which the excess is t -/
def fwdGo (l : List Bool) (t : Int) : Nat → Nat → Int
  | 0, _ => -1
  | f + 1, i => if exc l (i + 1) = t then (i : Int) else fwdGo l t f (i + 1)
/-- the last place below m ahead of which the excess is t -/
def bwdGo (l : List Bool) (t : Int) : Nat → Int
  | 0 => -1
  | i + 1 => if exc l i = t then (i : Int) else bwdGo l t i
/-- is the k-th an opening one, a closing one? -/
def openB (l : List Bool) (k : Int) : Bool := decide (0 ≤ k) && (decide (k < l.length) && l.getD k.toNat false)
def shutB (l : List Bool) (k : Int) : Bool := decide (0 ≤ k) && (decide (k < l.length) && !l.getD k.toNat false)
def excL (l : List Bool) (k : Int) : Int := if 0 ≤ k ∧ k < l.length then exc l (k.toNat + 1) else -1
def closeL (l : List Bool) (k : Int) : Int := if openB l k = true then fwdGo l (exc l k.toNat) (l.length - k.toNat) k.toNat else -1
def beginL (l : List Bool) (k : Int) : Int := if shutB l k = true then bwdGo l (exc l (k.toNat + 1)) (k.toNat + 1) else -1
def encloseL (l : List Bool) (k : Int) : Int := if openB l k = true then bwdGo l (exc l k.toNat - 1) k.toNat else -1
def upGo (l : List Bool) : Nat → Int → Int
  | 0, k => k
  | n + 1, k => if k < 0 then k else upGo l n (encloseL l k)
def upL (l : List Bool) (k n : Int) : Int := if openB l k = true ∧ 0 ≤ n then upGo l n.toNat k else -1
def numberL (l : List Bool) (k : Int) : Int := if openB l k = true then (rankL l k true : Int) else -1
def spanL (l : List Bool) (k : Int) : Int := if openB l k = true then (closeL l k - k + 1).tdiv 2 else 0
/-- no beginning of the first n closes more than it opens -/
def mayN (l : List Bool) : Nat → Bool
  | 0 => true
  | n + 1 => mayN l n && decide (0 ≤ exc l (n + 1))
def mayL (l : List Bool) : Bool := mayN l l.length && decide (exc l l.length = 0)

theorem fwdGo_range (l : List Bool) (t : Int) : ∀ f i, fwdGo l t f i = -1 ∨ ((i : Int) ≤ fwdGo l t f i ∧ fwdGo l t f i < ((i + f : Nat) : Int))
  | 0, _ => Or.inl rfl
  | f + 1, i => by
    unfold fwdGo
    split
    · exact Or.inr ⟨Int.le_refl _, by omega⟩
    · rcases fwdGo_range l t f (i + 1) with h | h
      · exact Or.inl h
      · exact Or.inr ⟨by omega, by omega⟩
theorem bwdGo_range (l : List Bool) (t : Int) : ∀ m, bwdGo l t m = -1 ∨ (0 ≤ bwdGo l t m ∧ bwdGo l t m < (m : Int))
  | 0 => Or.inl rfl
  | i + 1 => by
    unfold bwdGo
    split
    · exact Or.inr ⟨by omega, by omega⟩
    · rcases bwdGo_range l t i with h | h
      · exact Or.inl h
      · exact Or.inr ⟨h.1, by omega⟩
/-- what a search finds, said without it -/
theorem fwdGo_is (l : List Bool) (t : Int) : ∀ f i j, i ≤ j → j < i + f → exc l (j + 1) = t → (∀ x, i ≤ x → x < j → exc l (x + 1) ≠ t) → fwdGo l t f i = (j : Int)
  | 0, i, j, h1, h2, _, _ => by omega
  | f + 1, i, j, h1, h2, h3, h4 => by
    unfold fwdGo
    by_cases e : i = j
    · subst e; rw [if_pos h3]
    · rw [if_neg (h4 i (Nat.le_refl _) (by omega))]
      exact fwdGo_is l t f (i + 1) j (by omega) (by omega) h3 (fun x hx hxj => h4 x (by omega) hxj)
theorem fwdGo_miss (l : List Bool) (t : Int) : ∀ f i, (∀ x, i ≤ x → x < i + f → exc l (x + 1) ≠ t) → fwdGo l t f i = -1
  | 0, _, _ => rfl
  | f + 1, i, h => by
    unfold fwdGo
    rw [if_neg (h i (Nat.le_refl _) (by omega))]
    exact fwdGo_miss l t f (i + 1) (fun x hx hxf => h x (by omega) (by omega))
theorem bwdGo_is (l : List Bool) (t : Int) : ∀ m j, j < m → exc l j = t → (∀ x, j < x → x < m → exc l x ≠ t) → bwdGo l t m = (j : Int)
  | 0, j, h, _, _ => by omega
  | i + 1, j, h, h1, h2 => by
    unfold bwdGo
    by_cases e : i = j
    · subst e; rw [if_pos h1]
    · rw [if_neg (h2 i (by omega) (by omega))]
      exact bwdGo_is l t i j (by omega) h1 (fun x hx hxm => h2 x hx (by omega))
theorem bwdGo_miss (l : List Bool) (t : Int) : ∀ m, (∀ x, x < m → exc l x ≠ t) → bwdGo l t m = -1
  | 0, _ => rfl
  | i + 1, h => by
    unfold bwdGo
    rw [if_neg (h i (by omega))]
    exact bwdGo_miss l t i (fun x hx => h x (by omega))
theorem mayN_later (l : List Bool) : ∀ m n, n ≤ m → mayN l n = false → mayN l m = false
  | 0, n, h, hn => by obtain rfl : n = 0 := by omega
                      exact hn
  | m + 1, n, h, hn => by
    by_cases e : n = m + 1
    · subst e; exact hn
    · show (mayN l m && _) = false
      rw [mayN_later l m n (by omega) hn]; rfl
theorem mayN_next (l : List Bool) (n : Nat) (x : Bool) (h : decide (0 ≤ exc l (n + 1)) = x) (hn : mayN l n = true) : mayN l (n + 1) = x := by
  show (mayN l n && decide (0 ≤ exc l (n + 1))) = x
  rw [hn, h]; rfl
theorem mayL_no (l : List Bool) (n : Nat) (h : n ≤ l.length) (hn : mayN l n = false) : mayL l = false := by
  unfold mayL
  rw [mayN_later l _ n h hn]; rfl
theorem upGo_neg (l : List Bool) : ∀ (n : Nat) (k : Int), k < 0 → upGo l n k = k
  | 0, _, _ => rfl
  | n + 1, k, h => by show (if k < 0 then k else _) = k; rw [if_pos h]
theorem upGo_step (l : List Bool) (n : Nat) (k : Int) (h : ¬ k < 0) : upGo l (n + 1) k = upGo l n (encloseL l k) := by
  show (if k < 0 then k else _) = _; rw [if_neg h]
theorem close_range (l : List Bool) (n : Nat) (h : n < l.length) : closeL l n = -1 ∨ ((n : Int) ≤ closeL l n ∧ closeL l n < l.length) := by
  unfold closeL
  split
  · rcases fwdGo_range l (exc l (n : Int).toNat) (l.length - (n : Int).toNat) (n : Int).toNat with h1 | h1
    · exact Or.inl h1
    · right
      rw [Int.toNat_natCast] at h1 ⊢
      omega
  · exact Or.inl rfl
theorem enclose_range (l : List Bool) (k : Int) : -1 ≤ encloseL l k ∧ encloseL l k ≤ l.length := by
  unfold encloseL
  split
  · rename_i ho
    rcases bwdGo_range l (exc l k.toNat - 1) k.toNat with h1 | h1
    · omega
    · simp only [openB, Bool.and_eq_true, decide_eq_true_eq] at ho
      omega
  · omega

/-! ### rows that are made sign by sign -/
theorem getD_append (xs ys : List Bool) (n : Nat) (h : n < xs.length) : (xs ++ ys).getD n false = xs.getD n false := by
  simp only [List.getD_eq_getElem?_getD]
  rw [List.getElem?_append_left h]
theorem exc_append (xs ys : List Bool) : ∀ n, n ≤ xs.length → exc (xs ++ ys) n = exc xs n
  | 0, _ => rfl
  | n + 1, h => by
    rw [exc_succ (xs ++ ys) n _ (by rw [List.length_append]; omega) rfl, exc_succ xs n _ (by omega) rfl, exc_append xs ys n (by omega), getD_append xs ys n (by omega)]
theorem mayN_append (xs ys : List Bool) : ∀ n, n ≤ xs.length → mayN (xs ++ ys) n = mayN xs n
  | 0, _ => rfl
  | n + 1, h => by
    show (mayN (xs ++ ys) n && decide (0 ≤ exc (xs ++ ys) (n + 1))) = (mayN xs n && decide (0 ≤ exc xs (n + 1)))
    rw [mayN_append xs ys n (by omega), exc_append xs ys (n + 1) h]
theorem exc_snoc (xs : List Bool) (x : Bool) : exc (xs ++ [x]) (xs.length + 1) = exc xs xs.length + sgn x := by
  rw [exc_succ (xs ++ [x]) xs.length x (by simp) (by simp [List.getD]), exc_append xs [x] _ (Nat.le_refl _)]
theorem rank_snoc (xs : List Bool) (x : Bool) : rankN (xs ++ [x]) (xs.length + 1) true = rankN xs xs.length true + if x = true then 1 else 0 := by
  unfold rankN
  rw [List.take_of_length_le (by simp), List.take_of_length_le (Nat.le_refl _), List.countP_append]
  congr 1
  cases x <;> rfl
/-- xs closes nothing that it has not opened; e of them are open; p pairs have been begun -/
def Bal (xs : List Bool) (e p : Nat) : Prop := mayN xs xs.length = true ∧ exc xs xs.length = (e : Int) ∧ rankN xs xs.length true = p
theorem bal_nil : Bal [] 0 0 := ⟨rfl, rfl, rfl⟩
theorem bal_open {xs : List Bool} {e p : Nat} (h : Bal xs e p) : Bal (xs ++ [true]) (e + 1) (p + 1) := by
  obtain ⟨h1, h2, h3⟩ := h
  have e1 := exc_snoc xs true
  rw [h2] at e1
  simp only [sgn, if_true] at e1
  have hl : (xs ++ [true]).length = xs.length + 1 := by simp
  refine ⟨?_, ?_, ?_⟩
  · rw [hl]
    refine mayN_next _ xs.length true (decide_eq_true (by rw [e1]; omega)) ?_
    rw [mayN_append xs [true] _ (Nat.le_refl _)]; exact h1
  · rw [hl, e1]; omega
  · rw [hl, rank_snoc, h3]; rfl
theorem bal_shut {xs : List Bool} {e p : Nat} (h : Bal xs (e + 1) p) : Bal (xs ++ [false]) e p := by
  obtain ⟨h1, h2, h3⟩ := h
  have e1 := exc_snoc xs false
  rw [h2] at e1
  simp only [sgn, Bool.false_eq_true, if_false] at e1
  have hl : (xs ++ [false]).length = xs.length + 1 := by simp
  refine ⟨?_, ?_, ?_⟩
  · rw [hl]
    refine mayN_next _ xs.length true (decide_eq_true (by rw [e1]; omega)) ?_
    rw [mayN_append xs [false] _ (Nat.le_refl _)]; exact h1
  · rw [hl, e1]; omega
  · rw [hl, rank_snoc, h3]; rfl
theorem bal_length {xs : List Bool} {e p : Nat} (h : Bal xs e p) : xs.length + e = 2 * p := by
  obtain ⟨_, h2, h3⟩ := h
  have h4 := exc_rank xs xs.length (Nat.le_refl _)
  have h5 := rank_both xs xs.length (Nat.le_refl _)
  omega
theorem bal_may {xs : List Bool} {p : Nat} (h : Bal xs 0 p) : mayL xs = true := by
  unfold mayL
  rw [h.1, h.2.1]; rfl
end Go.Proofs.Yteecanaibkpmfaa
