/-
  PLAIN MATHEMATICS FOR LAYER 3 (bits): ranks, places, sizes over lists of Bools.
  NUMBERS OF 64 BITS, AS THE LAWS TAKE THEM.
-/
import Derived.Test.YthhnpnjnlbjdjaaChecked
import Derived.WalkKit
namespace Go.Proofs.Ythhnpnjnlbjdjaa

/-- how many of the first k have that bit -/
def rankN (l : List Bool) (k : Nat) (bit : Bool) : Nat := (l.take k).countP (· == bit)
/-- the same of any number -/
def rankL (l : List Bool) (k : Int) (bit : Bool) : Nat := rankN l k.toNat bit
/-- the place of the j-th that has that bit, reckoned from place i on, ahead of which there are n -/
def selFrom (bit : Bool) (j : Int) : List Bool → Nat → Nat → Int
  | [], _, _ => -1
  | b :: t, i, n => if b = bit then (if (n : Int) = j then (i : Int) else selFrom bit j t (i + 1) (n + 1)) else selFrom bit j t (i + 1) n
def selL (l : List Bool) (j : Int) (bit : Bool) : Int := selFrom bit j l 0 0
def begunN (n by' : Nat) : Nat := (n + by' - 1) / by'
def bitsN (n : Nat) : Nat := 64 * begunN n 64 + 32 * begunN n 512 + 16 * begunN n 64

theorem rankN_zero (l : List Bool) (bit : Bool) : rankN l 0 bit = 0 := rfl
theorem rankN_le (l : List Bool) (k : Nat) (bit : Bool) : rankN l k bit ≤ k := by
  unfold rankN
  have h1 := List.countP_le_length (p := (· == bit)) (l := l.take k)
  have h2 : (l.take k).length ≤ k := List.length_take_le _ _
  omega
theorem rankN_succ (l : List Bool) (k : Nat) (bit b : Bool) (h : k < l.length) (hb : l.getD k false = b) : rankN l (k + 1) bit = rankN l k bit + if b = bit then 1 else 0 := by
  have e : l[k]'h = b := by rw [← hb]; simp [List.getD, List.getElem?_eq_getElem h]
  unfold rankN
  rw [List.take_succ_eq_append_getElem h, List.countP_append, e]
  congr 1
  cases b <;> cases bit <;> rfl
theorem rankN_all (l : List Bool) (k : Nat) (bit : Bool) (h : l.length ≤ k) : rankN l k bit = rankN l l.length bit := by
  unfold rankN
  rw [List.take_of_length_le h, List.take_of_length_le (Nat.le_refl _)]
theorem drop_next (l : List Bool) (k : Nat) (b : Bool) (h : k < l.length) (hb : l.getD k false = b) : l.drop k = b :: l.drop (k + 1) := by
  have e : l[k]'h = b := by rw [← hb]; simp [List.getD, List.getElem?_eq_getElem h]
  rw [List.drop_eq_getElem_cons h, e]

/-! ### ranks and places are one another's -/
theorem selFrom_ge (bit : Bool) (j : Int) : ∀ (l : List Bool) (i n : Nat), selFrom bit j l i n = -1 ∨ (i : Int) ≤ selFrom bit j l i n
  | [], _, _ => Or.inl rfl
  | b :: t, i, n => by
    unfold selFrom
    split
    · split
      · exact Or.inr (Int.le_refl _)
      · rcases selFrom_ge bit j t (i + 1) (n + 1) with h | h
        · exact Or.inl h
        · exact Or.inr (by omega)
    · rcases selFrom_ge bit j t (i + 1) n with h | h
      · exact Or.inl h
      · exact Or.inr (by omega)
theorem selFrom_none (bit : Bool) (j : Int) : ∀ (l : List Bool) (i n : Nat), j < n → selFrom bit j l i n = -1
  | [], _, _, _ => rfl
  | b :: t, i, n, h => by
    unfold selFrom
    split
    · rw [if_neg (by omega)]
      exact selFrom_none bit j t (i + 1) (n + 1) (by omega)
    · exact selFrom_none bit j t (i + 1) n h
theorem selFrom_many (bit : Bool) (j : Int) : ∀ (l : List Bool) (i n : Nat), (n + l.countP (· == bit) : Nat) ≤ j → selFrom bit j l i n = -1
  | [], _, _, _ => rfl
  | b :: t, i, n, h => by
    unfold selFrom
    rw [List.countP_cons] at h
    split
    · rename_i hb
      rw [if_pos (by rw [hb]; simp)] at h
      rw [if_neg (by omega)]
      exact selFrom_many bit j t (i + 1) (n + 1) (by omega)
    · rename_i hb
      rw [if_neg (by simpa using hb)] at h
      exact selFrom_many bit j t (i + 1) n (by omega)
/-- THE PLACE OF WHAT STANDS AT PLACE k, BY ITS RANK. -/
theorem selFrom_rank (bit : Bool) : ∀ (l : List Bool) (k i n : Nat), k < l.length → l.getD k false = bit → selFrom bit ((n + (l.take k).countP (· == bit) : Nat) : Int) l i n = ((i + k : Nat) : Int)
  | [], k, _, _, h, _ => by simp at h
  | b :: t, 0, i, n, _, hb => by
    simp at hb
    unfold selFrom
    rw [if_pos hb]
    simp
  | b :: t, k + 1, i, n, h, hb => by
    simp only [List.getD_cons_succ] at hb
    simp only [List.length_cons] at h
    have ih := fun i n => selFrom_rank bit t k i n (by omega) hb
    rw [List.take_succ_cons, List.countP_cons]
    by_cases e : b = bit
    · have e2 : (b == bit) = true := by rw [e]; simp
      simp only [e2, if_true]
      unfold selFrom
      rw [if_pos e, if_neg (by omega)]
      have := ih (i + 1) (n + 1)
      rw [show n + 1 + (t.take k).countP (· == bit) = n + ((t.take k).countP (· == bit) + 1) by omega] at this
      rw [this]
      omega
    · have e2 : (b == bit) = false := by simpa using e
      simp only [e2, Bool.false_eq_true, if_false, Nat.add_zero]
      unfold selFrom
      rw [if_neg e, ih (i + 1) n]
      omega
theorem select_rank (l : List Bool) (k : Nat) (bit : Bool) (h : k < l.length) (hb : l.getD k false = bit) : selL l (rankN l k bit : Nat) bit = (k : Int) := by
  have := selFrom_rank bit l k 0 0 h hb
  rw [Nat.zero_add, Nat.zero_add] at this
  exact this
theorem select_neg (l : List Bool) (j : Int) (bit : Bool) (h : j < 0) : selL l j bit = -1 := selFrom_none bit j l 0 0 (by omega)
theorem select_many (l : List Bool) (j : Int) (bit : Bool) (h : (rankN l l.length bit : Int) ≤ j) : selL l j bit = -1 := by
  refine selFrom_many bit j l 0 0 ?_
  unfold rankN at h
  rw [List.take_of_length_le (Nat.le_refl _)] at h
  omega
theorem rank_both (l : List Bool) : ∀ k, k ≤ l.length → rankN l k true + rankN l k false = k
  | 0, _ => rfl
  | k + 1, h => by
    have ih := rank_both l k (by omega)
    obtain ⟨b, hb⟩ : ∃ b, l.getD k false = b := ⟨_, rfl⟩
    rw [rankN_succ l k true b (by omega) hb, rankN_succ l k false b (by omega) hb]
    cases b <;> simp <;> omega

/-! ### sizes -/
theorem bitsN_mono (a b : Nat) (h : a ≤ b) : bitsN a ≤ bitsN b := by
  unfold bitsN begunN
  have h1 : (a + 64 - 1) / 64 ≤ (b + 64 - 1) / 64 := Nat.div_le_div_right (by omega)
  have h2 : (a + 512 - 1) / 512 ≤ (b + 512 - 1) / 512 := Nat.div_le_div_right (by omega)
  omega
theorem bitsN_ge (a : Nat) : a ≤ bitsN a := by unfold bitsN begunN; omega
theorem bitsN_le (a : Nat) : 3 * bitsN a ≤ 4 * a + 400 := by unfold bitsN begunN; omega
end Go.Proofs.Ythhnpnjnlbjdjaa

namespace Go.Proofs.Ythhnpnjnlbjdjaa

def In64 (k : Int) : Prop := -9223372036854775808 ≤ k ∧ k ≤ 9223372036854775807
theorem in64_small (k : Int) (h : -1000000000000 ≤ k ∧ k ≤ 1000000000000 := by decide) : In64 k := ⟨by omega, by omega⟩
theorem wrap_mod (a : Int) (m : Nat) (h0 : 0 < m) (hm : m ≤ 1000000) : ∃ u x : Nat, IntKind.u64.wrap a = (u : Int) ∧ Int.tmod (u : Int) (m : Int) = (x : Int) ∧ x < m ∧ IntKind.u64.wrap (x : Int) = (x : Int) ∧ IntKind.i64.wrap (x : Int) = (x : Int) := by
  have hu : 0 ≤ IntKind.u64.wrap a := by simp [IntKind.wrap, IntKind.bits, IntKind.signed]; omega
  refine ⟨(IntKind.u64.wrap a).toNat, (IntKind.u64.wrap a).toNat % m, by omega, ?_, Nat.mod_lt _ h0, ?_, ?_⟩
  · rw [Int.tmod_eq_emod_of_nonneg (by omega)]; omega
  · have := Nat.mod_lt (IntKind.u64.wrap a).toNat h0
    generalize (IntKind.u64.wrap a).toNat % m = t at *
    simp [IntKind.wrap, IntKind.bits, IntKind.signed]; omega
  · have := Nat.mod_lt (IntKind.u64.wrap a).toNat h0
    generalize (IntKind.u64.wrap a).toNat % m = t at *
    simp [IntKind.wrap, IntKind.bits, IntKind.signed]; omega
theorem wrap_mod2 (a : Int) (n : Nat) (h0 : 0 < n) (hn : n ≤ 1000000) : ∃ u x : Nat, IntKind.u64.wrap a = (u : Int) ∧ IntKind.u64.wrap (n : Int) = (n : Int) ∧ Int.tmod (u : Int) (n : Int) = (x : Int) ∧ x < n ∧ IntKind.u64.wrap (x : Int) = (x : Int) ∧ IntKind.i64.wrap (x : Int) = (x : Int) := by
  obtain ⟨u, x, h1, h2, h3, h4, h5⟩ := wrap_mod a n h0 hn
  refine ⟨u, x, h1, ?_, h2, h3, h4, h5⟩
  simp [IntKind.wrap, IntKind.bits, IntKind.signed]; omega
end Go.Proofs.Ythhnpnjnlbjdjaa
