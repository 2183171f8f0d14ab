/-
  PLAIN MATHEMATICS OF THE LANDED PACKAGE wave: levels of bits, each row parted by its bit.
-/
import Derived.Test.YtnjlckgmoodkiaaWavLaws
namespace Go.Proofs.Ytnjlckgmoodkiaa

/-- the bit of a symbol -/
def bitW (x : Int) (b : Nat) : Bool := x.toNat.testBit b
/-- the row parted by bit b: those with a nought ahead -/
def partB (l : List Int) (b : Nat) : List Int := l.filter (fun x => bitW x b == false) ++ l.filter (fun x => bitW x b == true)
/-- the row of level i of L -/
def rowL (xs : List Int) (L : Nat) : Nat → List Int
  | 0 => xs
  | i + 1 => partB (rowL xs L i) (L - 1 - i)
/-- its bits -/
def bitsOf (l : List Int) (b : Nat) : List Bool := l.map (fun x => bitW x b)
def bitsL (xs : List Int) (L i : Nat) : List Bool := bitsOf (rowL xs L i) (L - 1 - i)
/-- how many stand ahead in the level below -/
def aheadL (bs : List Bool) (b : Bool) : Nat := if b then rankN bs bs.length false else 0
/-- where the place k comes to on the way of s -/
def downL (xs : List Int) (L : Nat) (s : Int) (k : Nat) : Nat → Nat
  | 0 => k
  | i + 1 => aheadL (bitsL xs L i) (bitW s (L - 1 - i)) + rankN (bitsL xs L i) (downL xs L s k i) (bitW s (L - 1 - i))

theorem countP_two (l : List Int) (f : Int → Bool) : l.countP (fun x => f x == false) + l.countP (fun x => f x == true) = l.length := by
  induction l with
  | nil => rfl
  | cons x t ih =>
    rw [List.countP_cons, List.countP_cons, List.length_cons, ← ih]
    cases h : f x
    · show _ + 1 + (_ + 0) = _; omega
    · show _ + 0 + (_ + 1) = _; omega
theorem partB_length (l : List Int) (b : Nat) : (partB l b).length = l.length := by
  unfold partB
  rw [List.length_append, ← List.countP_eq_length_filter, ← List.countP_eq_length_filter]
  exact countP_two l (fun x => bitW x b)
theorem rowL_length (xs : List Int) (L : Nat) : ∀ i, (rowL xs L i).length = xs.length
  | 0 => rfl
  | i + 1 => by rw [rowL, partB_length, rowL_length xs L i]
theorem bitsOf_length (l : List Int) (b : Nat) : (bitsOf l b).length = l.length := by simp [bitsOf]
theorem bitsL_length (xs : List Int) (L i : Nat) : (bitsL xs L i).length = xs.length := by rw [bitsL, bitsOf_length, rowL_length]
theorem bitsL_getD (xs : List Int) (L i k : Nat) (h : k < xs.length) : (bitsL xs L i).getD k false = bitW ((rowL xs L i).getD k 0) (L - 1 - i) := by
  have h2 : k < (rowL xs L i).length := by rw [rowL_length]; exact h
  simp [bitsL, bitsOf, List.getD, List.getElem?_eq_getElem h2]
theorem partB_mem {l : List Int} {b : Nat} {x : Int} : x ∈ partB l b ↔ x ∈ l := by
  unfold partB
  rw [List.mem_append, List.mem_filter, List.mem_filter]
  cases h : bitW x b <;> simp
theorem rowL_mem (xs : List Int) (L : Nat) (x : Int) : ∀ i, x ∈ rowL xs L i ↔ x ∈ xs
  | 0 => Iff.rfl
  | i + 1 => by rw [rowL, partB_mem, rowL_mem xs L x i]
/-! ### the parting is stable -/
theorem filter_slice (l : List Int) (g : Int → Bool) (lo hi : Nat) (h : lo ≤ hi) :
    ((l.filter g).take ((l.take hi).countP g)).drop ((l.take lo).countP g) = ((l.take hi).drop lo).filter g := by
  have e1 : (l.filter g).take ((l.take hi).countP g) = (l.take hi).filter g := by
    have := List.take_append_drop hi l
    conv => lhs; arg 2; rw [← this]
    rw [List.filter_append, List.countP_eq_length_filter, List.take_left']
    rfl
  rw [e1]
  have e2 : l.take lo = (l.take hi).take lo := by rw [List.take_take, Nat.min_eq_left h]
  rw [e2]
  generalize l.take hi = m
  have := List.take_append_drop lo m
  conv => lhs; arg 2; rw [← this]
  rw [List.filter_append, List.countP_eq_length_filter, List.drop_left']
  rfl
theorem rank_bits (l : List Int) (b k : Nat) (v : Bool) : rankN (bitsOf l b) k v = (l.take k).countP (fun x => bitW x b == v) := by
  unfold rankN bitsOf
  rw [← List.map_take, List.countP_map]
  rfl
/-- WHAT STANDS FROM lo TO hi, WITH THAT BIT, STANDS TOGETHER BELOW. -/
theorem part_slice (l : List Int) (b : Nat) (v : Bool) (lo hi : Nat) (h : lo ≤ hi) :
    ((partB l b).take (aheadL (bitsOf l b) v + rankN (bitsOf l b) hi v)).drop (aheadL (bitsOf l b) v + rankN (bitsOf l b) lo v) = ((l.take hi).drop lo).filter (fun x => bitW x b == v) := by
  rw [rank_bits, rank_bits, ← filter_slice l _ lo hi h]
  unfold partB aheadL
  cases v with
  | false =>
    simp only [Bool.false_eq_true, if_false, Nat.zero_add]
    rw [List.take_append_of_le_length]
    rw [← List.countP_eq_length_filter]
    exact List.Sublist.countP_le (List.take_sublist _ _)
  | true =>
    simp only [if_true]
    rw [rank_bits, bitsOf_length, List.take_length, List.countP_eq_length_filter (p := fun x => bitW x b == false), List.take_length_add_append, List.drop_length_add_append]
theorem rankW_mono (l : List Bool) (a b : Nat) (v : Bool) (h : a ≤ b) : rankN l a v ≤ rankN l b v := by
  unfold rankN
  refine List.Sublist.countP_le ?_
  rw [show l.take a = (l.take b).take a by rw [List.take_take, Nat.min_eq_left h]]
  exact List.take_sublist _ _
theorem ahead_rank_le (bs : List Bool) (k : Nat) (v : Bool) : aheadL bs v + rankN bs k v ≤ bs.length := by
  have h1 := rank_both bs bs.length (Nat.le_refl _)
  have h2 : rankN bs k v ≤ rankN bs bs.length v := by
    by_cases h : k ≤ bs.length
    · exact rankW_mono bs _ _ v h
    · rw [rankN_all bs k v (by omega)]; exact Nat.le_refl _
  unfold aheadL
  cases v with
  | false => simp only [Bool.false_eq_true, if_false]; omega
  | true => simp only [if_true]; omega
theorem downL_le (xs : List Int) (L : Nat) (s : Int) (k : Nat) (hk : k ≤ xs.length) : ∀ i, downL xs L s k i ≤ xs.length
  | 0 => hk
  | i + 1 => by
    have := ahead_rank_le (bitsL xs L i) (downL xs L s k i) (bitW s (L - 1 - i))
    rw [bitsL_length] at this
    exact this
theorem downL_mono (xs : List Int) (L : Nat) (s : Int) (a b : Nat) (h : a ≤ b) : ∀ i, downL xs L s a i ≤ downL xs L s b i
  | 0 => h
  | i + 1 => Nat.add_le_add_left (rankW_mono _ _ _ _ (downL_mono xs L s a b h i)) _
/-! ### the way of a symbol -/
/-- do they agree but for the lowest n bits? -/
def agreeW (s : Int) (n : Nat) (x : Int) : Bool := x.toNat / 2 ^ n == s.toNat / 2 ^ n
theorem half_bit (x n : Nat) : x / 2 ^ n = 2 * (x / 2 ^ (n + 1)) + (x.testBit n).toNat := by
  have h1 : x / 2 ^ (n + 1) = x / 2 ^ n / 2 := by rw [Nat.pow_succ, Nat.div_div_eq_div_mul]
  have h2 : (x.testBit n).toNat = x / 2 ^ n % 2 := by
    rw [Nat.testBit_eq_decide_div_mod_eq]
    rcases Nat.mod_two_eq_zero_or_one (x / 2 ^ n) with h | h <;> simp [h]
  rw [h1, h2]
  omega
theorem agree_next (s x : Int) (n : Nat) : (agreeW s (n + 1) x && (bitW x n == bitW s n)) = agreeW s n x := by
  unfold agreeW bitW
  have h1 := half_bit x.toNat n
  have h2 := half_bit s.toNat n
  cases hx : x.toNat.testBit n <;> cases hs : s.toNat.testBit n <;> rw [hx] at h1 <;> rw [hs] at h2 <;>
    simp only [Bool.toNat_false, Bool.toNat_true] at h1 h2 <;>
    rw [Bool.eq_iff_iff] <;> simp <;> omega
theorem way_slice (xs : List Int) (L : Nat) (s : Int) (lo hi : Nat) (h : lo ≤ hi) (h0 : ∀ x ∈ xs, agreeW s L x = true) : ∀ i, i ≤ L →
    ((rowL xs L i).take (downL xs L s hi i)).drop (downL xs L s lo i) = ((xs.take hi).drop lo).filter (agreeW s (L - i))
  | 0, _ => by
    show (xs.take hi).drop lo = _
    rw [Nat.sub_zero, List.filter_eq_self.2]
    intro x hx
    exact h0 x (List.mem_of_mem_take (List.mem_of_mem_drop hx))
  | i + 1, hi' => by
    have h1 := part_slice (rowL xs L i) (L - 1 - i) (bitW s (L - 1 - i)) (downL xs L s lo i) (downL xs L s hi i) (downL_mono xs L s lo hi h i)
    show ((partB (rowL xs L i) (L - 1 - i)).take _).drop _ = _
    refine h1.trans ?_
    rw [way_slice xs L s lo hi h h0 i (by omega), List.filter_filter]
    congr 1
    funext x
    rw [Bool.and_comm]
    have := agree_next s x (L - 1 - i)
    rw [show L - 1 - i + 1 = L - i by omega] at this
    rw [this, show L - (i + 1) = L - 1 - i by omega]
theorem agree_all {xs : List Int} {sigma s : Int} (h : maySyms xs sigma = true) (hs : s < sigma) : ∀ x ∈ xs, agreeW s (levelsN sigma) x = true := by
  intro x hx
  simp only [maySyms, Bool.and_eq_true, List.all_eq_true, decide_eq_true_eq] at h
  obtain ⟨h1, h2⟩ := h.1 x hx
  have h3 := widthN_lt (sigma - 1).toNat
  have e1 : x.toNat < 2 ^ levelsN sigma := by unfold levelsN; omega
  have e2 : s.toNat < 2 ^ levelsN sigma := by unfold levelsN; omega
  unfold agreeW
  rw [Nat.div_eq_of_lt e1, Nat.div_eq_of_lt e2]
  rfl
/-- WHAT IS BETWEEN, BELOW THE LAST LEVEL, ARE ALL THOSE s. -/
theorem way_count {xs : List Int} {sigma s : Int} (h : maySyms xs sigma = true) (h0 : 0 ≤ s) (hs : s < sigma) (lo hi : Nat) (hl : lo ≤ hi) (hh : hi ≤ xs.length) :
    downL xs (levelsN sigma) s hi (levelsN sigma) = downL xs (levelsN sigma) s lo (levelsN sigma) + countL xs lo hi s := by
  have h1 := congrArg List.length (way_slice xs (levelsN sigma) s lo hi hl (agree_all h hs) (levelsN sigma) (Nat.le_refl _))
  have h2 := downL_le xs (levelsN sigma) s hi hh (levelsN sigma)
  have h3 := downL_mono xs (levelsN sigma) s lo hi hl (levelsN sigma)
  rw [List.length_drop, List.length_take, rowL_length, Nat.min_eq_left h2, Nat.sub_self, ← List.countP_eq_length_filter] at h1
  rw [countL_part]
  have e : ((xs.take hi).drop lo).countP (agreeW s 0) = ((xs.take hi).drop lo).countP (· == s) := by
    refine List.countP_congr fun x hx => ?_
    simp only [maySyms, Bool.and_eq_true, List.all_eq_true, decide_eq_true_eq] at h
    have := (h.1 x (List.mem_of_mem_take (List.mem_of_mem_drop hx))).1
    unfold agreeW
    simp only [Nat.pow_zero, Nat.div_one, beq_iff_eq]
    omega
  omega
theorem slice_one {l : List Int} {a b : Nat} {x : Int} (h : (l.take b).drop a = [x]) : a < l.length ∧ l.getD a 0 = x ∧ a < b := by
  have h1 := congrArg List.length h
  rw [List.length_drop, List.length_take, List.length_singleton] at h1
  have h2 : a < l.length := by omega
  have h3 : a < b := by omega
  have h4 : ((l.take b).drop a)[0]? = some x := by rw [h]; rfl
  rw [List.getElem?_drop, Nat.add_zero, List.getElem?_take, if_pos h3] at h4
  exact ⟨h2, by simp [List.getD, h4], h3⟩
theorem take_drop_one (xs : List Int) (k : Nat) (h : k < xs.length) : (xs.take (k + 1)).drop k = [xs.getD k 0] := by
  have h1 : k < (xs.take (k + 1)).length := by rw [List.length_take]; omega
  rw [List.drop_eq_getElem_cons h1, List.drop_of_length_le (by rw [List.length_take]; omega)]
  simp [List.getD, List.getElem?_eq_getElem h]
/-- THE SYMBOL ITSELF IS MET AT EACH LEVEL OF ITS WAY. -/
theorem way_here {xs : List Int} {sigma : Int} (h : maySyms xs sigma = true) (k : Nat) (hk : k < xs.length) (i : Nat) (hi : i ≤ levelsN sigma) :
    downL xs (levelsN sigma) (xs.getD k 0) k i < xs.length ∧ (rowL xs (levelsN sigma) i).getD (downL xs (levelsN sigma) (xs.getD k 0) k i) 0 = xs.getD k 0 := by
  have h1 := way_slice xs (levelsN sigma) (xs.getD k 0) k (k + 1) (by omega) (agree_all h (may_at h k hk).2) i hi
  rw [take_drop_one xs k hk] at h1
  have e : [xs.getD k 0].filter (agreeW (xs.getD k 0) (levelsN sigma - i)) = [xs.getD k 0] := by simp [agreeW]
  rw [e] at h1
  obtain ⟨g1, g2, _⟩ := slice_one h1
  rw [rowL_length] at g1
  exact ⟨g1, g2⟩
theorem way_bit {xs : List Int} {sigma : Int} (h : maySyms xs sigma = true) (k : Nat) (hk : k < xs.length) (i : Nat) (hi : i ≤ levelsN sigma) :
    (bitsL xs (levelsN sigma) i).getD (downL xs (levelsN sigma) (xs.getD k 0) k i) false = bitW (xs.getD k 0) (levelsN sigma - 1 - i) := by
  obtain ⟨h1, h2⟩ := way_here h k hk i hi
  rw [bitsL_getD xs _ i _ h1, h2]
/-- and back -/
theorem way_back {xs : List Int} {sigma : Int} (h : maySyms xs sigma = true) (k : Nat) (hk : k < xs.length) (i : Nat) (hi : i < levelsN sigma) :
    selL (bitsL xs (levelsN sigma) i) ((downL xs (levelsN sigma) (xs.getD k 0) k (i + 1) - aheadL (bitsL xs (levelsN sigma) i) (bitW (xs.getD k 0) (levelsN sigma - 1 - i)) : Nat) : Int) (bitW (xs.getD k 0) (levelsN sigma - 1 - i)) = (downL xs (levelsN sigma) (xs.getD k 0) k i : Int) := by
  have h1 := way_bit h k hk i (Nat.le_of_lt hi)
  have h2 := (way_here h k hk i (Nat.le_of_lt hi)).1
  rw [downL, Nat.add_sub_cancel_left]
  exact select_rank _ _ _ (by rw [bitsL_length]; exact h2) h1
/-- the j-th there is somewhere -/
theorem nth_there (xs : List Int) (s : Int) (lo : Nat) : ∀ hi j : Nat, hi ≤ xs.length → j < countL xs lo hi s → ∃ q, lo ≤ q ∧ q < hi ∧ xs.getD q 0 = s ∧ countL xs lo q s = j
  | 0, j, _, h => by
    rw [countL_part] at h
    simp at h
  | hi + 1, j, hh, h => by
    by_cases hl : lo ≤ hi
    · have h1 := count_split xs s lo hi (hi + 1) hl (by omega)
      have h2 : countL xs hi (hi + 1 : Nat) s = if xs.getD hi 0 = s then 1 else 0 := by
        rw [countL_part, take_drop_one xs hi (by omega)]
        by_cases e : xs.getD hi 0 = s
        · rw [if_pos e, e]; simp
        · rw [if_neg e]; simp only [List.countP_cons, List.countP_nil, beq_iff_eq, if_neg e]
      by_cases hj : j < countL xs lo hi s
      · obtain ⟨q, g1, g2, g3, g4⟩ := nth_there xs s lo hi j (by omega) hj
        exact ⟨q, g1, by omega, g3, g4⟩
      · by_cases e : xs.getD hi 0 = s
        · rw [if_pos e] at h2
          exact ⟨hi, hl, by omega, e, by omega⟩
        · rw [if_neg e] at h2
          omega
    · rw [countL_part, List.drop_of_length_le (by rw [List.length_take]; omega)] at h
      simp at h
/-- THE j-TH s OF A PART, BY THE WAY. -/
theorem way_nth {xs : List Int} {sigma s : Int} (h : maySyms xs sigma = true) (h0 : 0 ≤ s) (hs : s < sigma) (lo hi j : Nat) (hh : hi ≤ xs.length) (hj : j < countL xs lo hi s) :
    ∃ q, q < xs.length ∧ xs.getD q 0 = s ∧ nthL xs lo hi s j = (q : Int) ∧ downL xs (levelsN sigma) s lo (levelsN sigma) + j = downL xs (levelsN sigma) s q (levelsN sigma) := by
  obtain ⟨q, g1, g2, g3, g4⟩ := nth_there xs s lo hi j hh hj
  refine ⟨q, by omega, g3, ?_, ?_⟩
  · have := nth_count xs lo q hi g1 g2 (by omega)
    rw [g3, g4] at this
    exact this
  · rw [way_count h h0 hs lo q g1 (by omega), g4]
/-! ### the part that is asked for -/
theorem part_clamp (xs : List Int) (s lo hi : Int) (a b : Nat) (ha : (a : Int) = max lo 0) (hb : (b : Int) = min hi xs.length) : countL xs lo hi s = countL xs a b s ∧ ∀ j, nthL xs lo hi s j = nthL xs a b s j := by
  have e1 : lo.toNat = a := by omega
  have e2 : partW xs s lo hi = partW xs s a b := by
    unfold partW
    rw [e1, Int.toNat_natCast, Int.toNat_natCast]
    congr 1
    by_cases h : hi ≤ xs.length
    · rw [show hi.toNat = b by omega]
    · rw [List.take_of_length_le (by rw [isSym_length]; omega), List.take_of_length_le (by rw [isSym_length]; omega)]
  exact ⟨by unfold countL; rw [e2], fun j => by unfold nthL; rw [e2, e1, Int.toNat_natCast]⟩
theorem part_none (xs : List Int) (s lo hi : Int) (h : min hi xs.length ≤ max lo 0) : countL xs lo hi s = 0 := by
  unfold countL partW
  rw [List.drop_of_length_le (by rw [List.length_take, isSym_length]; omega)]
  rfl
/-! ### Get -/
theorem top_none {x sigma : Int} (h : x < sigma) : x.toNat / 2 ^ levelsN sigma = 0 := by
  have h3 := widthN_lt (sigma - 1).toNat
  exact Nat.div_eq_of_lt (by unfold levelsN; omega)
theorem levels_few {sigma : Int} (h : sigma ≤ 1048576) : levelsN sigma ≤ 20 := widthN_le _ 20 (by
  have : (sigma - 1).toNat < 1048576 := by omega
  omega)
theorem get_next (x : Int) (L i : Nat) (h : i < L) : x.toNat / 2 ^ (L - (i + 1)) = 2 * (x.toNat / 2 ^ (L - i)) + (bitW x (L - 1 - i)).toNat := by
  have := half_bit x.toNat (L - 1 - i)
  rw [show L - 1 - i + 1 = L - i by omega] at this
  rw [show L - (i + 1) = L - 1 - i by omega]
  exact this
end Go.Proofs.Ytnjlckgmoodkiaa
