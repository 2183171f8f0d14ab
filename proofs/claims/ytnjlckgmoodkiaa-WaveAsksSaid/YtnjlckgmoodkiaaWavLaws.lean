/-
  PLAIN MATHEMATICS FOR LAYER 6 (symbols): how often, and where, a symbol stands.
-/
import Derived.Test.YtnjlckgmoodkiaaBitLaws
import Derived.Test.YtnjlckgmoodkiaaIntLaws
import Derived.Test.YtnjlckgmoodkiaaGetW
namespace Go.Proofs.Ytnjlckgmoodkiaa

/-- where s stands -/
def isSym (xs : List Int) (s : Int) : List Bool := xs.map (· == s)
/-- the part from lo on, below hi -/
def partW (xs : List Int) (s lo hi : Int) : List Bool := ((isSym xs s).take hi.toNat).drop lo.toNat
def countL (xs : List Int) (lo hi s : Int) : Nat := (partW xs s lo hi).countP (· == true)
def nthL (xs : List Int) (lo hi s j : Int) : Int := selFrom true j (partW xs s lo hi) lo.toNat 0
/-- symbols that may be -/
def maySyms (xs : List Int) (sigma : Int) : Bool := xs.all (fun x => decide (0 ≤ x) && decide (x < sigma)) && (decide (1 ≤ sigma) && decide (sigma ≤ 1048576))
def levelsN (sigma : Int) : Nat := widthN (sigma - 1).toNat
def waveN (n : Nat) (sigma : Int) : Nat := levelsN sigma * bitsN n
def stepsW (sigma : Int) : Nat := 6 * (levelsN sigma + 1)

theorem isSym_length (xs : List Int) (s : Int) : (isSym xs s).length = xs.length := by simp [isSym]
theorem isSym_getD (xs : List Int) (s : Int) (k : Nat) (h : k < xs.length) : (isSym xs s).getD k false = (xs.getD k 0 == s) := by
  simp [isSym, List.getD, List.getElem?_eq_getElem h]
theorem may_at {xs : List Int} {sigma : Int} (h : maySyms xs sigma = true) (k : Nat) (hk : k < xs.length) : 0 ≤ xs.getD k 0 ∧ xs.getD k 0 < sigma := by
  simp only [maySyms, Bool.and_eq_true, List.all_eq_true, decide_eq_true_eq] at h
  have e : xs.getD k 0 = xs[k]'hk := by simp [List.getD, List.getElem?_eq_getElem hk]
  rw [e]
  exact h.1 _ (List.getElem_mem hk)
theorem may_sigma {xs : List Int} {sigma : Int} (h : maySyms xs sigma = true) : 1 ≤ sigma ∧ sigma ≤ 1048576 := by
  simp only [maySyms, Bool.and_eq_true, decide_eq_true_eq] at h
  exact h.2
theorem may_ofW {xs : List Int} {sigma : Int} (h : ∀ x ∈ xs, 0 ≤ x ∧ x < sigma) (h1 : 1 ≤ sigma) (h2 : sigma ≤ 1048576) : maySyms xs sigma = true := by
  simp only [maySyms, Bool.and_eq_true, List.all_eq_true, decide_eq_true_eq]
  exact ⟨h, h1, h2⟩
theorem maySyms_next (xs : List Int) (sigma : Int) (j : Nat) (x : Int) (h : j < xs.length) (hx : xs.getD j 0 = x) : maySyms (xs.drop j) sigma = (decide (0 ≤ x) && decide (x < sigma) && maySyms (xs.drop (j + 1)) sigma) := by
  have e : xs[j]'h = x := by rw [← hx]; simp [List.getD, List.getElem?_eq_getElem h]
  rw [List.drop_eq_getElem_cons h, e]
  simp only [maySyms, List.all_cons, Bool.and_assoc]
/-! ### parts -/
theorem partW_next (xs : List Int) (s : Int) (k H : Nat) (h1 : k < H) (h2 : k < xs.length) :
    ((isSym xs s).take H).drop k = (xs.getD k 0 == s) :: ((isSym xs s).take H).drop (k + 1) := by
  have hl : k < ((isSym xs s).take H).length := by rw [List.length_take, isSym_length]; omega
  refine drop_next _ k _ hl ?_
  rw [← isSym_getD xs s k h2]
  simp [List.getD, h1]
theorem partW_end (xs : List Int) (s : Int) (k H : Nat) (h : H ≤ k ∨ xs.length ≤ k) : ((isSym xs s).take H).drop k = [] := by
  refine List.drop_of_length_le ?_
  rw [List.length_take, isSym_length]
  omega
theorem take_drop_split {α : Type} (l : List α) {a b c : Nat} (h1 : a ≤ b) (h2 : b ≤ c) : (l.take c).drop a = (l.take b).drop a ++ (l.take c).drop b := by
  have e : (l.take c) = l.take b ++ (l.take c).drop b := by
    have h3 := (List.take_append_drop b (l.take c)).symm
    rw [List.take_take, Nat.min_eq_left h2] at h3
    exact h3
  by_cases hb : b ≤ l.length
  · conv => lhs; rw [e]
    rw [List.drop_append_of_le_length (by rw [List.length_take]; omega)]
  · rw [List.take_of_length_le (by omega : l.length ≤ b), List.take_of_length_le (by omega : l.length ≤ c), List.drop_of_length_le (by omega : l.length ≤ b), List.append_nil]
theorem count_split (xs : List Int) (s : Int) (a b c : Nat) (h1 : a ≤ b) (h2 : b ≤ c) : countL xs a b s + countL xs b c s = countL xs a c s := by
  unfold countL partW
  simp only [Int.toNat_natCast]
  rw [take_drop_split (isSym xs s) h1 h2, List.countP_append]
theorem count_same (xs : List Int) (s : Int) (a : Nat) : countL xs a a s = 0 := by
  unfold countL partW
  simp only [Int.toNat_natCast]
  rw [partW_end xs s a a (Or.inl (Nat.le_refl _))]
  rfl
theorem count_leW (xs : List Int) (s lo hi : Int) : countL xs lo hi s ≤ xs.length := by
  unfold countL partW
  refine Nat.le_trans List.countP_le_length ?_
  rw [List.length_drop, List.length_take, isSym_length]
  omega
theorem count_none (xs : List Int) (s lo hi : Int) (h : ∀ k, k < xs.length → xs.getD k 0 ≠ s) : countL xs lo hi s = 0 := by
  unfold countL
  rw [List.countP_eq_zero]
  intro b hb
  have hm : b ∈ isSym xs s := List.mem_of_mem_take (List.mem_of_mem_drop hb)
  unfold isSym at hm
  obtain ⟨x, hx, rfl⟩ := List.mem_map.1 hm
  obtain ⟨k, hk, rfl⟩ := List.mem_iff_getElem.1 hx
  have := h k hk
  simp only [List.getD, List.getElem?_eq_getElem hk, Option.getD_some] at this
  simp [this]
theorem count_out {xs : List Int} {sigma : Int} (h : maySyms xs sigma = true) (s lo hi : Int) (hs : ¬ (0 ≤ s ∧ s < sigma)) : countL xs lo hi s = 0 :=
  count_none xs s lo hi fun k hk e => by
    have := may_at h k hk
    rw [e] at this
    exact hs this
theorem nthL_ge (xs : List Int) (lo hi s j : Int) : nthL xs lo hi s j = -1 ∨ ((lo.toNat : Nat) : Int) ≤ nthL xs lo hi s j := selFrom_ge true j _ _ 0
theorem selFrom_top (bit : Bool) (j : Int) : ∀ (l : List Bool) (i n : Nat), selFrom bit j l i n ≤ ((i + l.length : Nat) : Int)
  | [], i, _ => by simp [selFrom]
  | b :: t, i, n => by
    unfold selFrom
    have h1 := selFrom_top bit j t (i + 1) (n + 1)
    have h2 := selFrom_top bit j t (i + 1) n
    simp only [List.length_cons]
    split
    · split <;> omega
    · omega
theorem nthL_bound (xs : List Int) (lo hi s j : Int) : -1 ≤ nthL xs lo hi s j ∧ nthL xs lo hi s j ≤ xs.length := by
  constructor
  · rcases nthL_ge xs lo hi s j with h | h <;> omega
  · by_cases hl : lo.toNat ≤ xs.length
    · have := selFrom_top true j (partW xs s lo hi) lo.toNat 0
      unfold nthL
      have e : (partW xs s lo hi).length ≤ xs.length - lo.toNat := by
        unfold partW
        rw [List.length_drop, List.length_take, isSym_length]
        omega
      omega
    · unfold nthL partW
      rw [partW_end xs s lo.toNat hi.toNat (Or.inr (by omega))]
      simp [selFrom]
/-- EACH PLACE IS FOUND AGAIN BY ITS NUMBER IN ITS PART. -/
theorem nth_count (xs : List Int) (x k y : Nat) (h1 : x ≤ k) (h2 : k < y) (h3 : k < xs.length) : nthL xs x y (xs.getD k 0) (countL xs x k (xs.getD k 0)) = (k : Int) := by
  generalize hs : xs.getD k 0 = s
  unfold nthL countL partW
  simp only [Int.toNat_natCast]
  have hl : k - x < (((isSym xs s).take y).drop x).length := by rw [List.length_drop, List.length_take, isSym_length]; omega
  have hb : (((isSym xs s).take y).drop x).getD (k - x) false = true := by
    have := isSym_getD xs s k h3
    rw [hs] at this
    simp only [List.getD, List.getElem?_drop, show x + (k - x) = k by omega, List.getElem?_take, if_pos h2]
    simpa [List.getD] using this
  have := selFrom_rank true (((isSym xs s).take y).drop x) (k - x) x 0 hl hb
  rw [show x + (k - x) = k by omega, Nat.zero_add] at this
  rw [← this]
  congr 2
  rw [List.take_drop, List.take_take, show min (x + (k - x)) y = k by omega]
theorem nth_many (xs : List Int) (lo hi s j : Int) (h : (countL xs lo hi s : Int) ≤ j) : nthL xs lo hi s j = -1 := selFrom_many true j _ _ 0 (by rw [Nat.zero_add]; exact h)
theorem nth_after (xs : List Int) (i : Nat) (hi s j : Int) : nthL xs ((i + 1 : Nat) : Int) hi s j ≠ (i : Int) := by
  rcases nthL_ge xs ((i + 1 : Nat) : Int) hi s j with h | h <;> omega
/-! ### all symbols together -/
/-- the symbols 0 to n - 1 together -/
def allW (xs : List Int) (lo hi : Int) : Nat → Nat
  | 0 => 0
  | n + 1 => allW xs lo hi n + countL xs lo hi (n : Int)
theorem countP_isSym (ys : List Int) (s : Int) : (ys.map (· == s)).countP (· == true) = ys.countP (· == s) := by
  rw [List.countP_map]
  congr 1
  funext x
  simp
theorem countL_part (xs : List Int) (s : Int) (a b : Nat) : countL xs a b s = ((xs.take b).drop a).countP (· == s) := by
  unfold countL partW isSym
  simp only [Int.toNat_natCast]
  rw [← List.map_take, ← List.map_drop, countP_isSym]
theorem below_step (ys : List Int) (n : Nat) : ys.countP (fun x => decide (0 ≤ x) && decide (x < ((n + 1 : Nat) : Int))) = ys.countP (fun x => decide (0 ≤ x) && decide (x < (n : Int))) + ys.countP (· == (n : Int)) := by
  induction ys with
  | nil => rfl
  | cons y t ih =>
    simp only [List.countP_cons, ih]
    by_cases h : y = (n : Int)
    · subst h
      have e1 : (decide ((0 : Int) ≤ (n : Int)) && decide ((n : Int) < ((n + 1 : Nat) : Int))) = true := by
        rw [decide_eq_true (by omega), decide_eq_true (by omega)]; rfl
      have e2 : (decide ((0 : Int) ≤ (n : Int)) && decide ((n : Int) < (n : Int))) = false := by
        rw [decide_eq_false (show ¬ (n : Int) < (n : Int) by omega), Bool.and_false]
      rw [e1, e2]
      simp
      omega
    · have e1 : (decide (0 ≤ y) && decide (y < ((n + 1 : Nat) : Int))) = (decide (0 ≤ y) && decide (y < (n : Int))) := by
        congr 1
        exact decide_eq_decide.2 (by omega)
      have e2 : (y == (n : Int)) = false := beq_eq_false_iff_ne.2 h
      rw [e1, e2]
      simp
      omega
theorem allW_below (xs : List Int) (a b : Nat) : ∀ n : Nat, allW xs a b n = ((xs.take b).drop a).countP (fun x => decide (0 ≤ x) && decide (x < (n : Int)))
  | 0 => by
    refine (List.countP_eq_zero.2 fun y _ => ?_).symm
    by_cases h : 0 ≤ y
    · rw [decide_eq_true h, decide_eq_false (show ¬ y < ((0 : Nat) : Int) by omega)]; simp
    · rw [decide_eq_false h]; simp
  | n + 1 => by
    show allW xs a b n + countL xs a b (n : Int) = _
    rw [allW_below xs a b n, below_step, countL_part]
/-- ALL SYMBOLS TOGETHER ARE ALL PLACES. -/
theorem allW_all {xs : List Int} {n : Nat} (h : ∀ x ∈ xs, 0 ≤ x ∧ x < (n : Int)) (a b : Nat) (hb : b ≤ xs.length) : allW xs a b n = b - a := by
  rw [allW_below, List.countP_eq_length.2, List.length_drop, List.length_take, Nat.min_eq_left hb]
  intro y hy
  have := h y (List.mem_of_mem_take (List.mem_of_mem_drop hy))
  simp only [Bool.and_eq_true, decide_eq_true_eq]
  exact this
theorem allW_le (xs : List Int) (a b m : Nat) : allW xs a b m ≤ xs.length := by
  rw [allW_below]
  refine Nat.le_trans List.countP_le_length ?_
  rw [List.length_drop, List.length_take]
  omega
/-! ### one symbol alone -/
theorem isSym_one (k : Nat) (c : Int) : isSym (List.replicate k c) c = List.replicate k true := by simp [isSym]
theorem one_count (k : Nat) (c : Int) (a b : Nat) (h1 : a ≤ b) (h2 : b ≤ k) : countL (List.replicate k c) a b c = b - a := by
  unfold countL partW
  simp only [Int.toNat_natCast]
  rw [isSym_one, List.take_replicate, List.drop_replicate, List.countP_replicate]
  simp
  omega
end Go.Proofs.Ytnjlckgmoodkiaa
