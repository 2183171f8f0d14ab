/-
  PLAIN MATHEMATICS FOR THE LANDED offs: a one for each place, behind as many noughts as its upper part tells.
-/
import Derived.Test.YtibhhndiefhofaaOffLaws
namespace Go.Proofs.Ytibhhndiefhofaa

/-- NONE IS LESS THAN THE ONE AHEAD OF IT, from place i on. -/
def SortedFrom (xs : List Int) (i : Nat) : Prop := ∀ j, i < j → j < xs.length → xs.getD (j - 1) 0 ≤ xs.getD j 0
theorem sorted_cons (x y : Int) (t : List Int) : SortedFrom (x :: y :: t) 0 ↔ x ≤ y ∧ SortedFrom (y :: t) 0 := by
  constructor
  · intro h
    refine ⟨by simpa using h 1 (by omega) (by simp), fun j h1 h2 => ?_⟩
    have h3 := h (j + 1) (by omega) (by simp only [List.length_cons] at h2 ⊢; omega)
    obtain ⟨i, rfl⟩ : ∃ i, j = i + 1 := ⟨j - 1, by omega⟩
    simpa using h3
  · rintro ⟨h0, h⟩ j h1 h2
    obtain ⟨i, rfl⟩ : ∃ i, j = i + 1 := ⟨j - 1, by omega⟩
    by_cases hi : i = 0
    · subst hi
      simpa using h0
    · obtain ⟨m, rfl⟩ : ∃ m, i = m + 1 := ⟨i - 1, by omega⟩
      have := h (m + 1) (by omega) (by simp only [List.length_cons] at h2 ⊢; omega)
      simpa using this
theorem mayO_iff : ∀ (xs : List Int) (a : Int), xs ≠ [] → (mayO a xs = true ↔ a ≤ xs.getD 0 0 ∧ SortedFrom xs 0 ∧ xs.getD (xs.length - 1) 0 ≤ 8388608)
  | [], _, h => absurd rfl h
  | [x], a, _ => by
    have hs : SortedFrom [x] 0 := fun j h1 h2 => by simp at h2; omega
    unfold mayO mayO
    simp [hs]
  | x :: y :: t, a, _ => by
    have ih := mayO_iff (y :: t) x (by simp)
    have e : mayO a (x :: y :: t) = (decide (a ≤ x) && mayO x (y :: t)) := rfl
    rw [e, Bool.and_eq_true, ih, sorted_cons, decide_eq_true_eq]
    have e1 : (x :: y :: t).getD ((x :: y :: t).length - 1) 0 = (y :: t).getD ((y :: t).length - 1) 0 := by simp
    have e2 : (y :: t).getD 0 0 = y := rfl
    have e3 : (x :: y :: t).getD 0 0 = x := rfl
    rw [e1, e2, e3]
    constructor
    · rintro ⟨h1, h2, h3, h4⟩; exact ⟨h1, ⟨h2, h3⟩, h4⟩
    · rintro ⟨h1, ⟨h2, h3⟩, h4⟩; exact ⟨h1, h2, h3, h4⟩

theorem sorted_le {xs : List Int} (h : SortedFrom xs 0) (j : Nat) : ∀ d, j + d < xs.length → xs.getD j 0 ≤ xs.getD (j + d) 0
  | 0, _ => Int.le_refl _
  | d + 1, hd => Int.le_trans (sorted_le h j d (by omega)) (h (j + (d + 1)) (by omega) hd)
/-- the low bits of a place -/
def lowOf (W : Nat) (x : Int) : Nat := x.toNat % 2 ^ W
def upN (W : Nat) (xs : List Int) (k : Nat) : Nat := (xs.getD k 0).toNat / 2 ^ W
/-- where the one of place k stands -/
def plN (W : Nat) (xs : List Int) (k : Nat) : Nat := k + upN W xs k
def markTo (W : Nat) (xs : List Int) (k i : Nat) : Bool := (List.range k).any fun j => plN W xs j == i
def lenH (W : Nat) (xs : List Int) : Nat := xs.length + lastN xs / 2 ^ W + 1
def highB (W : Nat) (xs : List Int) : List Bool := (List.range (lenH W xs)).map (markTo W xs xs.length)
theorem markTo_zero (W : Nat) (xs : List Int) (i : Nat) : markTo W xs 0 i = false := rfl
theorem markTo_succ (W : Nat) (xs : List Int) (k i : Nat) : markTo W xs (k + 1) i = (markTo W xs k i || plN W xs k == i) := by
  unfold markTo
  rw [List.range_succ, List.any_append]
  simp
theorem highB_len (W : Nat) (xs : List Int) : (highB W xs).length = lenH W xs := by unfold highB; rw [List.length_map, List.length_range]
theorem highB_at (W : Nat) (xs : List Int) (i : Nat) (h : i < lenH W xs) : (highB W xs).getD i false = markTo W xs xs.length i := by
  unfold highB
  simp [List.getD, h]
theorem mark_true (W : Nat) (xs : List Int) (k i : Nat) : markTo W xs k i = true ↔ ∃ j, j < k ∧ plN W xs j = i := by
  unfold markTo
  simp
section
variable {W : Nat} {xs : List Int}
theorem up_le (hm : mayOffs xs = true) (j k : Nat) (h : j ≤ k) (hk : k < xs.length) : upN W xs j ≤ upN W xs k := by
  have hne : xs ≠ [] := by rintro rfl; cases hk
  obtain ⟨d, rfl⟩ : ∃ d, k = j + d := ⟨k - j, by omega⟩
  have := sorted_le ((mayO_iff xs 0 hne).1 hm).2.1 j d hk
  unfold upN
  exact Nat.div_le_div_right (by omega)
theorem pl_lt (hm : mayOffs xs = true) (j k : Nat) (h : j < k) (hk : k < xs.length) : plN W xs j < plN W xs k := by
  have := up_le (W := W) hm j k (by omega) hk
  unfold plN
  omega
theorem pl_len (hm : mayOffs xs = true) (k : Nat) (hk : k < xs.length) : plN W xs k < lenH W xs := by
  have h := up_le (W := W) hm k (xs.length - 1) (by omega) (by omega)
  have e : upN W xs (xs.length - 1) = lastN xs / 2 ^ W := rfl
  unfold plN lenH
  omega
theorem rank_high (hm : mayOffs xs = true) : ∀ p, p ≤ lenH W xs → ∃ c, c ≤ xs.length ∧ rankN (highB W xs) p true = c ∧ ∀ j, j < xs.length → (j < c ↔ plN W xs j < p)
  | 0, _ => ⟨0, Nat.zero_le _, rfl, fun j _ => by omega⟩
  | p + 1, hp => by
    obtain ⟨c, hc, hr, hj⟩ := rank_high hm p (by omega)
    have hs := rankN_succ (highB W xs) p true _ (by rw [highB_len]; omega) rfl
    rw [highB_at W xs p (by omega), hr] at hs
    by_cases h : markTo W xs xs.length p = true
    · obtain ⟨j0, h0, h1⟩ := (mark_true W xs xs.length p).1 h
      have hcj : c = j0 := by
        have h2 : ¬ j0 < c := fun h3 => by have := (hj j0 h0).1 h3; omega
        by_cases h3 : c < j0
        · have h4 := pl_lt (W := W) hm c j0 h3 h0
          have := (hj c (by omega)).2 (by omega)
          omega
        · omega
      subst hcj
      refine ⟨c + 1, h0, by rw [hs, if_pos h], fun j h2 => ?_⟩
      constructor
      · intro h3
        by_cases h4 : j = c
        · subst h4; omega
        · have := (hj j h2).1 (by omega); omega
      · intro h3
        by_cases h4 : c < j
        · have := pl_lt (W := W) hm c j h4 h2
          omega
        · omega
    · refine ⟨c, hc, by rw [hs, if_neg h]; rfl, fun j h2 => ?_⟩
      have h3 : plN W xs j ≠ p := fun e => h ((mark_true W xs xs.length p).2 ⟨j, h2, e⟩)
      rw [hj j h2]
      omega
theorem sel_high (hm : mayOffs xs = true) (k : Nat) (hk : k < xs.length) : selL (highB W xs) (k : Int) true = (plN W xs k : Int) := by
  have hl := pl_len (W := W) hm k hk
  obtain ⟨c, hc, hr, hj⟩ := rank_high (W := W) hm (plN W xs k) (by omega)
  have e : c = k := by
    have h1 : ¬ k < c := fun h => by have := (hj k hk).1 h; omega
    by_cases h2 : c < k
    · have := (hj c (by omega)).2 (pl_lt (W := W) hm c k h2 hk)
      omega
    · omega
  have h1 : (highB W xs).getD (plN W xs k) false = true := by
    rw [highB_at W xs _ hl]
    exact (mark_true W xs xs.length _).2 ⟨k, hk, rfl⟩
  have := select_rank (highB W xs) (plN W xs k) true (by rw [highB_len]; exact hl) h1
  rw [hr, e] at this
  exact this
end
theorem up_low (W : Nat) (xs : List Int) (k : Nat) (h : 0 ≤ xs.getD k 0) : ((upN W xs k * 2 ^ W + lowOf W (xs.getD k 0) : Nat) : Int) = xs.getD k 0 := by
  unfold upN lowOf
  have := Nat.div_add_mod (xs.getD k 0).toNat (2 ^ W)
  rw [Nat.mul_comm] at this
  rw [this]
  omega
theorem lenH_small {xs : List Int} (hx : xs.length ≤ 1048576) : lenH (lowN xs) xs ≤ 4194304 := by
  unfold lenH
  by_cases h0 : xs.length = 0
  · have : xs = [] := List.eq_nil_of_length_eq_zero h0
    subst this
    decide
  · have := (low_few xs.length (lastN xs) (lowN xs) (by omega) rfl).1
    omega
theorem offsN_parts (xs : List Int) : offsN xs = intsN xs.length (lowN xs) + bitsN (lenH (lowN xs) xs) := by
  unfold offsN lenH
  by_cases h0 : xs.length = 0
  · have : xs = [] := List.eq_nil_of_length_eq_zero h0
    subst this
    decide
  · rw [if_neg h0]
end Go.Proofs.Ytibhhndiefhofaa
