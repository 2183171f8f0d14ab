/-
  PLAIN MATHEMATICS FOR LAYER 10: searches, and what texts, comments, PIs and CDATA are read as.
  PLAIN MATHEMATICS FOR LAYER 10: what a reader that goes over a text from the left takes (while, up to a mark, a name), and that it comes to the document's pieces.
-/
import Derived.Test.YtjijjmkeehdooaaGreatDoorTokDefs
import Derived.Lib.IndexMore
import Derived.Lib.MapLaws
namespace Go.Proofs.YtjijjmkeehdooaaGreatDoor
open Go Go.Lib

theorem sw_iff (w l : List UInt8) : swB w l = true ↔ ∃ t, l = w ++ t := by
  unfold swB
  rw [List.isPrefixOf_iff_prefix]
  exact ⟨fun ⟨t, h⟩ => ⟨t, h.symm⟩, fun ⟨t, h⟩ => ⟨t, h.symm⟩⟩
theorem sw_append (w t : List UInt8) : swB w (w ++ t) = true := (sw_iff _ _).2 ⟨t, rfl⟩
theorem sw_length {w l : List UInt8} (h : swB w l = true) : w.length ≤ l.length := by
  obtain ⟨t, rfl⟩ := (sw_iff _ _).1 h
  simp
theorem sw_head {a b : UInt8} {w t : List UInt8} (h : a ≠ b) : swB (a :: w) (b :: t) = false := by
  rw [Bool.eq_false_iff]
  intro e
  obtain ⟨u, hu⟩ := (sw_iff _ _).1 e
  injection hu with h1 _
  exact h h1.symm
theorem sw_nil {a : UInt8} {w : List UInt8} : swB (a :: w) [] = false := rfl
theorem sw_take {w l : List UInt8} {k : Nat} (h : w.length ≤ k) : swB w (l.take k) = swB w l := by
  rw [Bool.eq_iff_iff, sw_iff, sw_iff]
  constructor
  · rintro ⟨t, ht⟩
    exact ⟨t ++ l.drop k, by rw [← List.append_assoc, ← ht, List.take_append_drop]⟩
  · rintro ⟨t, rfl⟩
    exact ⟨t.take (k - w.length), by rw [List.take_append, List.take_of_length_le h]⟩
theorem find_some {w : List UInt8} : ∀ {l : List UInt8} {k : Nat}, findL w l = some k → k < l.length ∧ swB w (l.drop k) = true ∧ ∀ j, j < k → swB w (l.drop j) = false
  | [], k, h => by cases h
  | b :: t, k, h => by
    unfold findL at h
    split at h
    · rename_i hs
      injection h with h
      subst h
      exact ⟨by simp, hs, fun j hj => by omega⟩
    · rename_i hs
      cases hf : findL w t with
      | none => rw [hf] at h; cases h
      | some m =>
        rw [hf] at h
        injection h with h
        have h : m + 1 = k := h
        subst h
        obtain ⟨h1, h2, h3⟩ := find_some hf
        refine ⟨by simp; omega, h2, fun j hj => ?_⟩
        cases j with
        | zero => rw [Bool.eq_false_iff]; exact hs
        | succ j => exact h3 j (by omega)
theorem find_none {w : List UInt8} : ∀ {l : List UInt8}, findL w l = none ↔ ∀ j, j < l.length → swB w (l.drop j) = false
  | [] => ⟨fun _ j hj => by simp at hj, fun _ => rfl⟩
  | b :: t => by
    unfold findL
    constructor
    · intro h j hj
      split at h
      · cases h
      · rename_i hs
        have ht : findL w t = none := by
          cases hf : findL w t with
          | none => rfl
          | some m => rw [hf] at h; cases h
        cases j with
        | zero => rw [Bool.eq_false_iff]; exact hs
        | succ j => exact find_none.1 ht j (by simpa using hj)
    · intro h
      have h0 := h 0 (by simp)
      rw [List.drop_zero] at h0
      rw [if_neg (by rw [h0]; decide), find_none.2 fun j hj => h (j + 1) (by simpa using hj)]
      rfl
/-- it is found where it stands, if nowhere ahead -/
theorem find_at {w l : List UInt8} {k : Nat} (hk : k < l.length) (h : swB w (l.drop k) = true) (hn : ∀ j, j < k → swB w (l.drop j) = false) : findL w l = some k := by
  cases hf : findL w l with
  | none =>
    have := find_none.1 hf k hk
    rw [h] at this
    cases this
  | some m =>
    obtain ⟨_, h2, h3⟩ := find_some hf
    rcases Nat.lt_trichotomy m k with h1 | h1 | h1
    · rw [hn m h1] at h2; cases h2
    · rw [h1]
    · rw [h3 k h1] at h; cases h
theorem find_le {w l : List UInt8} {j : Nat} (hj : j < l.length) (h : swB w (l.drop j) = true) : ∃ k, findL w l = some k ∧ k ≤ j := by
  cases hf : findL w l with
  | none =>
    have := find_none.1 hf j hj
    rw [h] at this
    cases this
  | some m =>
    obtain ⟨_, _, h3⟩ := find_some hf
    refine ⟨m, rfl, ?_⟩
    rcases Nat.lt_or_ge j m with h1 | h1
    · rw [h3 j h1] at h; cases h
    · exact h1

/-! ### texts -/
theorem plain_le : ∀ l : List UInt8, plainN l ≤ l.length
  | [] => Nat.le_refl _
  | b :: t => by
    unfold plainN
    split
    · exact Nat.zero_le _
    · have := plain_le t; simp; exact this
theorem plain_append : ∀ (s rest : List UInt8), (∀ b ∈ s, ¬ (b = 60 ∨ b = 38)) → plainN (s ++ rest) = s.length + plainN rest
  | [], rest, _ => by simp
  | b :: t, rest, h => by
    rw [List.cons_append, plainN, if_neg (h b (by simp)), plain_append t rest (fun x hx => h x (by simp [hx]))]
    simp; omega
theorem next_text (s rest : List UInt8) (hs : s ≠ []) (hp : ∀ b ∈ s, ¬ (b = 60 ∨ b = 38)) (hr : plainN rest = 0) :
    nextL (s ++ rest) = if findL [93, 93, 62] s = none then some (⟨1, ⟨#[]⟩, bytes s, [], false⟩, s.length) else none := by
  cases s with
  | nil => exact absurd rfl hs
  | cons b t =>
    have hb := hp b (by simp)
    have h60 : (60 : UInt8) ≠ b := fun e => hb (Or.inl e.symm)
    have h38 : (38 : UInt8) ≠ b := fun e => hb (Or.inr e.symm)
    unfold nextL
    rw [List.cons_append, sw_head h60, sw_head h60, sw_head h60, sw_head h60, sw_head h60, sw_head h38]
    simp only [Bool.false_eq_true, if_false]
    unfold textL
    rw [← List.cons_append, plain_append _ _ hp, hr, Nat.add_zero]
    simp only [List.take_left]

/-! ### what stands aside -/
theorem drop_more {s rest : List UInt8} {j : Nat} (h : j ≤ s.length) : (s ++ rest).drop j = s.drop j ++ rest := List.drop_append_of_le_length h
/-- of two bytes: where the second list's sign stands -/
theorem sw_two {a b : UInt8} {l : List UInt8} : swB [a, b] l = true ↔ l[0]? = some a ∧ l[1]? = some b := by
  rw [sw_iff]
  constructor
  · rintro ⟨t, rfl⟩; exact ⟨rfl, rfl⟩
  · rintro ⟨h0, h1⟩
    match l, h0, h1 with
    | x :: y :: t, h0, h1 =>
      simp at h0 h1
      exact ⟨t, by rw [h0, h1]; rfl⟩
theorem sw_three {a b c : UInt8} {l : List UInt8} : swB [a, b, c] l = true ↔ l[0]? = some a ∧ l[1]? = some b ∧ l[2]? = some c := by
  rw [sw_iff]
  constructor
  · rintro ⟨t, rfl⟩; exact ⟨rfl, rfl, rfl⟩
  · rintro ⟨h0, h1, h2⟩
    match l, h0, h1, h2 with
    | x :: y :: z :: t, h0, h1, h2 =>
      simp at h0 h1 h2
      exact ⟨t, by rw [h0, h1, h2]; rfl⟩
/-- two bytes that are not in s, nor is the first of them at its end, are found behind it -/
theorem find_behind2 {a b : UInt8} {s rest : List UInt8} (hn : findL [a, b] s = none) (hl : ∀ k, k + 1 = s.length → s[k]? ≠ some a) : findL [a, b] (s ++ a :: b :: rest) = some s.length := by
  refine find_at (by simp) (by rw [List.drop_left]; exact (sw_iff _ _).2 ⟨rest, rfl⟩) fun j hj => ?_
  rw [Bool.eq_false_iff]
  intro e
  rw [drop_more (by omega)] at e
  rw [sw_two] at e
  obtain ⟨e0, e1⟩ := e
  rw [List.getElem?_append_left (by rw [List.length_drop]; omega), List.getElem?_drop] at e0
  by_cases h2 : j + 1 = s.length
  · exact hl j h2 e0
  · rw [List.getElem?_append_left (by rw [List.length_drop]; omega), List.getElem?_drop] at e1
    have := find_none.1 hn j hj
    rw [show swB [a, b] (s.drop j) = true from sw_two.2 ⟨by rw [List.getElem?_drop]; exact e0, by rw [List.getElem?_drop]; exact e1⟩] at this
    cases this
/-- "]]>" is found behind what does not hold it -/
theorem find_behind3 {a b : UInt8} {s rest : List UInt8} (hab : a ≠ b) (hn : findL [a, a, b] s = none) : findL [a, a, b] (s ++ a :: a :: b :: rest) = some s.length := by
  refine find_at (by simp) (by rw [List.drop_left]; exact (sw_iff _ _).2 ⟨rest, rfl⟩) fun j hj => ?_
  rw [Bool.eq_false_iff]
  intro e
  rw [drop_more (by omega)] at e
  rw [sw_three] at e
  obtain ⟨e0, e1, e2⟩ := e
  have hl := List.length_drop (i := j) (l := s)
  by_cases h3 : j + 2 < s.length
  · rw [List.getElem?_append_left (by omega)] at e0 e1 e2
    have := find_none.1 hn j hj
    rw [sw_three.2 ⟨e0, e1, e2⟩] at this
    cases this
  · rw [List.getElem?_append_right (by omega)] at e2
    rcases (show s.length - j = 1 ∨ s.length - j = 2 by omega) with h | h
    · rw [hl, h] at e2
      simp at e2
      exact hab e2
    · rw [hl, h] at e2
      simp at e2
      exact hab e2
/-- a comment -/
theorem next_comment (s : List UInt8) : nextL ([60, 33, 45, 45] ++ s ++ [45, 45, 62]) = commentL ([60, 33, 45, 45] ++ s ++ [45, 45, 62]) := by
  unfold nextL
  rw [if_pos (by rw [List.append_assoc]; exact sw_append _ _)]
theorem comment_whole (s : List UInt8) (hn : findL [45, 45] s = none) (hl : ∀ k, k + 1 = s.length → s[k]? ≠ some 45) : commentL ([60, 33, 45, 45] ++ s ++ [45, 45, 62]) = some (⟨4, ⟨#[]⟩, bytes s, [], false⟩, s.length + 7) := by
  unfold commentL
  rw [List.append_assoc, show ([60, 33, 45, 45] ++ (s ++ [45, 45, 62]) : List UInt8).drop 4 = s ++ [45, 45, 62] from rfl, find_behind2 hn hl, Option.bind_some, ← List.drop_drop, show ([60, 33, 45, 45] ++ (s ++ [45, 45, 62]) : List UInt8).drop 4 = s ++ [45, 45, 62] from rfl, List.drop_left,
    if_pos (show swB [45, 45, 62] [45, 45, 62] = true from rfl), List.take_left]
  congr 2
  omega
/-- one that holds two dashes is not read as a whole -/
theorem comment_part (s : List UInt8) (hd : (∃ j, j < s.length ∧ swB [45, 45] (s.drop j) = true) ∨ ∃ k, k + 1 = s.length ∧ s[k]? = some 45) (t : Tok) (n : Nat) (h : commentL ([60, 33, 45, 45] ++ s ++ [45, 45, 62]) = some (t, n)) : t.text.size < s.length := by
  unfold commentL at h
  rw [List.append_assoc, show ([60, 33, 45, 45] ++ (s ++ [45, 45, 62]) : List UInt8).drop 4 = s ++ [45, 45, 62] from rfl] at h
  obtain ⟨j, hj, hs⟩ : ∃ j, j < s.length ∧ swB [45, 45] ((s ++ [45, 45, 62]).drop j) = true := by
    rcases hd with ⟨j, hj, h1⟩ | ⟨k, hk, h1⟩
    · refine ⟨j, hj, ?_⟩
      obtain ⟨u, hu⟩ := (sw_iff _ _).1 h1
      rw [drop_more (by omega), hu]
      exact (sw_iff _ _).2 ⟨u ++ [45, 45, 62], by simp⟩
    · refine ⟨k, by omega, ?_⟩
      rw [drop_more (by omega), sw_two]
      have hl := List.length_drop (i := k) (l := s)
      rw [List.getElem?_append_left (by omega), List.getElem?_append_right (by omega), List.getElem?_drop, hl, show 1 - (s.length - k) = 0 by omega]
      exact ⟨h1, rfl⟩
  obtain ⟨k, hk, hkj⟩ := find_le (l := s ++ [45, 45, 62]) (by simp; omega) hs
  rw [hk, Option.bind_some] at h
  split at h
  · injection h with h
    injection h with h _
    subst h
    show ((s ++ [45, 45, 62]).take k).toArray.size < s.length
    rw [List.size_toArray, List.length_take]
    omega
  · cases h
theorem next_cdata (s : List UInt8) (hn : findL [93, 93, 62] s = none) : nextL ([60, 33, 91, 67, 68, 65, 84, 65, 91] ++ s ++ [93, 93, 62]) = some (⟨6, ⟨#[]⟩, bytes s, [], false⟩, s.length + 12) := by
  unfold nextL
  rw [if_neg (by rw [List.append_assoc]; simp [swB, List.isPrefixOf]), if_pos (by rw [List.append_assoc]; exact sw_append _ _)]
  unfold cdataL
  rw [List.append_assoc, show ([60, 33, 91, 67, 68, 65, 84, 65, 91] ++ (s ++ [93, 93, 62]) : List UInt8).drop 9 = s ++ [93, 93, 62] from rfl, find_behind3 (by decide) hn, Option.bind_some, List.take_left]
  congr 2
  omega
theorem target_q : targetL [113] = true := by decide
/-- a PI: "<?q x", the text, "?>" -/
theorem next_pi (s : List UInt8) (hn : findL [63, 62] s = none) (hl : ∀ k, k + 1 = s.length → s[k]? ≠ some 63) : nextL ([60, 63, 113, 32, 120] ++ s ++ [63, 62]) = some (⟨5, bytes [113], bytes (120 :: s), [], false⟩, s.length + 7) := by
  have e0 : ([60, 63, 113, 32, 120] ++ s ++ [63, 62] : List UInt8) = 60 :: 63 :: 113 :: 32 :: 120 :: (s ++ [63, 62]) := by simp
  rw [e0]
  unfold nextL
  rw [if_neg (by simp [swB, List.isPrefixOf]), if_neg (by simp [swB, List.isPrefixOf]), if_pos (by simp [swB, List.isPrefixOf])]
  have d1 : decodeL (113 :: 32 :: 120 :: (s ++ [63, 62])) = (113, 1) := decodeL_ascii 113 _ (by decide)
  have en : nameN (113 :: 32 :: 120 :: (s ++ [63, 62])) = 1 := by
    unfold nameN
    rw [List.length_cons]
    unfold runL
    rw [if_neg (by simp), if_pos (by rw [headOk_ascii true 113 _ (by decide)]; rfl), d1]
    show 1 + runL _ false (32 :: 120 :: (s ++ [63, 62])) = 1
    rw [List.length_cons]
    unfold runL
    rw [if_neg (by simp), if_neg (by rw [headOk_ascii false 32 _ (by decide)]; decide)]
  have ed : (60 :: 63 :: 113 :: 32 :: 120 :: (s ++ [63, 62]) : List UInt8).drop 2 = 113 :: 32 :: 120 :: (s ++ [63, 62]) := rfl
  have ed3 : (60 :: 63 :: 113 :: 32 :: 120 :: (s ++ [63, 62]) : List UInt8).drop (2 + 1) = 32 :: 120 :: (s ++ [63, 62]) := rfl
  have eg : gapL (32 :: 120 :: (s ++ [63, 62])) = 1 := by
    unfold gapL
    rw [if_pos (by decide)]
    unfold gapL
    rw [if_neg (by decide)]
  have ed4 : (60 :: 63 :: 113 :: 32 :: 120 :: (s ++ [63, 62]) : List UInt8).drop (2 + 1 + 1) = 120 :: (s ++ [63, 62]) := rfl
  have ef : findL [63, 62] (120 :: (s ++ [63, 62])) = some (s.length + 1) := by
    show (if swB [63, 62] (120 :: (s ++ [63, 62])) = true then some 0 else (findL [63, 62] (s ++ [63, 62])).map (· + 1)) = _
    rw [if_neg (by simp [swB, List.isPrefixOf]), find_behind2 hn hl]
    rfl
  unfold piL
  simp only [ed, en]
  rw [if_pos (show targetL ((113 :: 32 :: 120 :: (s ++ [63, 62]) : List UInt8).take 1) = true from target_q), ed3, if_neg (by simp [swB, List.isPrefixOf]), eg]
  simp only [ed4]
  rw [if_neg (by decide), ef, Option.bind_some]
  have et : (120 :: (s ++ [63, 62]) : List UInt8).take (s.length + 1) = 120 :: s := by
    show 120 :: (s ++ [63, 62]).take s.length = _
    rw [List.take_left]
  rw [et]
  congr 2
  omega

/-! ### how long a piece is -/
theorem head_len {l : List UInt8} (h : l ≠ []) : (decodeL l).2 ≤ l.length ∧ 1 ≤ (decodeL l).2 := ⟨decodeL_le l h, decodeL_width l⟩
theorem run_le : ∀ (f : Nat) (fst : Bool) (l : List UInt8), runL f fst l ≤ l.length
  | 0, _, _ => Nat.zero_le _
  | f + 1, fst, l => by
    unfold runL
    split
    · exact Nat.zero_le _
    · rename_i h
      split
      · have h1 := (head_len h).1
        have h2 := run_le f false (l.drop (decodeL l).2)
        rw [List.length_drop] at h2
        omega
      · exact Nat.zero_le _
theorem gap_le : ∀ l : List UInt8, gapL l ≤ l.length
  | [] => Nat.le_refl _
  | b :: t => by
    unfold gapL
    split
    · have := gap_le t; simp; exact this
    · exact Nat.zero_le _
theorem find_end {w l : List UInt8} {k : Nat} (h : findL w l = some k) : k + w.length ≤ l.length := by
  obtain ⟨h1, h2, _⟩ := find_some h
  have := sw_length h2
  rw [List.length_drop] at this
  omega
theorem sw_drop_len {w l : List UInt8} {k : Nat} (hw : 0 < w.length) (h : swB w (l.drop k) = true) : k + w.length ≤ l.length := by
  have := sw_length h
  rw [List.length_drop] at this
  omega
theorem literal_len {l v : List UInt8} {m : Nat} (h : literalL l = some (v, m)) : m ≤ l.length := by
  cases l with
  | nil => cases h
  | cons q t =>
    unfold literalL at h
    simp only at h
    split at h
    · cases hf : findL [q] t with
      | none => rw [hf] at h; cases h
      | some k =>
        rw [hf, Option.bind_some] at h
        injection h with h
        injection h with _ h
        have := find_end hf
        simp at this
        simp
        omega
    · cases h
theorem attr_len {l : List UInt8} {a : ByteArray × ByteArray} {m : Nat} (h : attrL l = some (a, m)) : m ≤ l.length := by
  unfold attrL at h
  simp only at h
  split at h
  · rename_i hc
    have h1 := sw_drop_len (by decide) hc.2
    cases hl : literalL (l.drop (nameN l + gapL (l.drop (nameN l)) + 1 + gapL (l.drop (nameN l + gapL (l.drop (nameN l)) + 1)))) with
    | none => rw [hl] at h; cases h
    | some v =>
      rw [hl, Option.bind_some] at h
      split at h
      · cases h
      · injection h with h
        injection h with _ h
        have h2 := literal_len (v := v.1) (m := v.2) hl
        have h3 := gap_le (l.drop (nameN l + gapL (l.drop (nameN l)) + 1))
        rw [List.length_drop] at h2 h3
        simp at h1
        omega
  · cases h
theorem attrs_len : ∀ (f : Nat) (l : List UInt8) (r : List (ByteArray × ByteArray) × Bool × Nat), attrsL f l = some r → 1 ≤ r.2.2 ∧ r.2.2 ≤ l.length
  | 0, _, _, h => by cases h
  | f + 1, l, r, h => by
    unfold attrsL at h
    simp only at h
    split at h
    · rename_i hs
      injection h with h
      subst h
      have := sw_drop_len (by decide) hs
      exact ⟨by show 1 ≤ gapL l + 1; omega, this⟩
    · split at h
      · rename_i hs
        injection h with h
        subst h
        have := sw_drop_len (by decide) hs
        exact ⟨by show 1 ≤ gapL l + 2; omega, this⟩
      · split at h
        · cases h
        · cases ha : attrL (l.drop (gapL l)) with
          | none => rw [ha] at h; cases h
          | some a =>
            rw [ha, Option.bind_some] at h
            cases hr : attrsL f (l.drop (gapL l + a.2)) with
            | none => rw [hr] at h; cases h
            | some q =>
              rw [hr, Option.bind_some] at h
              injection h with h
              subst h
              have h1 := attr_len (a := a.1) (m := a.2) ha
              have h2 := attrs_len f _ q hr
              rw [List.length_drop] at h1 h2
              exact ⟨by show 1 ≤ gapL l + a.2 + q.2.2; omega, by show gapL l + a.2 + q.2.2 ≤ _; omega⟩
theorem sw_takes {w l : List UInt8} (h : swB w l = true) : l.take w.length = w := by
  obtain ⟨t, rfl⟩ := (sw_iff _ _).1 h
  exact List.take_left
theorem take_three {l a b c : List UInt8} {i k m : Nat} (h1 : l.take i = a) (h2 : (l.drop i).take k = b) (h3 : (l.drop (i + k)).take m = c) : l.take (i + k + m) = a ++ b ++ c := by
  rw [List.take_add, List.take_add, h1, h2, h3]
/-- WHAT A PIECE IS OF: its length, and its text where that stands in it. -/
structure Piece (l : List UInt8) (t : Tok) (n : Nat) : Prop where
  pos : 0 < n
  le : n ≤ l.length
  text : t.kind = 1 → bytes (l.take n) = t.text
  comment : t.kind = 4 → l.take n = [60, 33, 45, 45] ++ t.text.data.toList ++ [45, 45, 62]
  cdata : t.kind = 6 → l.take n = [60, 33, 91, 67, 68, 65, 84, 65, 91] ++ t.text.data.toList ++ [93, 93, 62]
theorem piece_plain {l : List UInt8} {t : Tok} {n : Nat} (h0 : 0 < n) (h1 : n ≤ l.length) (k : Nat) (ht : t.kind = k) (hk : k ≠ 1 ∧ k ≠ 4 ∧ k ≠ 6) : Piece l t n :=
  ⟨h0, h1, fun h => absurd (ht.symm.trans h) hk.1, fun h => absurd (ht.symm.trans h) hk.2.1, fun h => absurd (ht.symm.trans h) hk.2.2⟩
theorem bytes_list (l : List UInt8) : (bytes l).data.toList = l := rfl
theorem next_piece (l : List UInt8) (hl : l ≠ []) (t : Tok) (n : Nat) (h : nextL l = some (t, n)) : Piece l t n := by
  have hlen : 0 < l.length := List.length_pos_iff.2 hl
  unfold nextL at h
  split at h
  · rename_i hw
    unfold commentL at h
    cases hf : findL [45, 45] (l.drop 4) with
    | none => rw [hf] at h; cases h
    | some k =>
      rw [hf, Option.bind_some] at h
      split at h
      · rename_i hs
        injection h with h
        injection h with h1 h2
        subst h1; subst h2
        have := sw_drop_len (by decide) hs
        refine ⟨by omega, this, fun (e : (4 : Nat) = 1) => absurd e (by decide), fun _ => ?_, fun (e : (4 : Nat) = 6) => absurd e (by decide)⟩
        exact take_three (sw_takes hw) rfl (sw_takes hs)
      · cases h
  · split at h
    · rename_i hw
      unfold cdataL at h
      cases hf : findL [93, 93, 62] (l.drop 9) with
      | none => rw [hf] at h; cases h
      | some k =>
        rw [hf, Option.bind_some] at h
        injection h with h
        injection h with h1 h2
        subst h1; subst h2
        obtain ⟨_, hs, _⟩ := find_some hf
        rw [List.drop_drop] at hs
        have := sw_drop_len (by decide) hs
        refine ⟨by omega, this, fun (e : (6 : Nat) = 1) => absurd e (by decide), fun (e : (6 : Nat) = 4) => absurd e (by decide), fun _ => ?_⟩
        exact take_three (sw_takes hw) rfl (sw_takes hs)
    · split at h
      · rename_i hw
        unfold piL at h
        simp only at h
        split at h
        · split at h
          · rename_i hs
            injection h with h
            injection h with h1 h2
            subst h1; subst h2
            have := sw_drop_len (by decide) hs
            exact piece_plain (by omega) this 5 rfl (by decide)
          · split at h
            · cases h
            · cases hf : findL [63, 62] (l.drop (2 + nameN (l.drop 2) + gapL (l.drop (2 + nameN (l.drop 2))))) with
              | none => rw [hf] at h; cases h
              | some k =>
                rw [hf, Option.bind_some] at h
                injection h with h
                injection h with h1 h2
                subst h1; subst h2
                have := find_end hf
                rw [List.length_drop] at this
                simp at this
                exact piece_plain (by omega) (by omega) 5 rfl (by decide)
        · cases h
      · split at h
        · unfold endL at h
          simp only at h
          split at h
          · rename_i hs
            injection h with h
            injection h with h1 h2
            subst h1; subst h2
            have := sw_drop_len (by decide) hs.2
            exact piece_plain (by omega) this 3 rfl (by decide)
          · cases h
        · split at h
          · unfold startL at h
            simp only at h
            split at h
            · cases hf : attrsL l.length (l.drop (1 + nameN (l.drop 1))) with
              | none => rw [hf] at h; cases h
              | some r =>
                rw [hf, Option.bind_some] at h
                injection h with h
                injection h with h1 h2
                subst h1; subst h2
                have h3 := attrs_len _ _ r hf
                rw [List.length_drop] at h3
                exact piece_plain (by omega) (by omega) 2 rfl (by decide)
            · cases h
          · rename_i h60
            split at h
            · unfold refL at h
              cases hf : findL [59] l with
              | none => rw [hf] at h; cases h
              | some k =>
                rw [hf, Option.bind_some] at h
                have hk := (find_some hf).1
                split at h
                · cases hr : charRefL (l.take (k + 1)) with
                  | none => rw [hr] at h; cases h
                  | some r =>
                    rw [hr, Option.bind_some] at h
                    injection h with h
                    injection h with h1 h2
                    subst h1; subst h2
                    exact piece_plain (by omega) (by omega) 7 rfl (by decide)
                · split at h
                  · injection h with h
                    injection h with h1 h2
                    subst h1; subst h2
                    exact piece_plain (by omega) (by omega) 8 rfl (by decide)
                  · cases h
            · rename_i h38
              unfold textL at h
              simp only at h
              split at h
              · injection h with h
                injection h with h1 h2
                subst h1; subst h2
                refine ⟨?_, plain_le l, fun _ => rfl, fun (e : (1 : Nat) = 4) => absurd e (by decide), fun (e : (1 : Nat) = 6) => absurd e (by decide)⟩
                cases l with
                | nil => exact absurd rfl hl
                | cons b u =>
                  unfold plainN
                  rw [if_neg]
                  · omega
                  · rintro (e | e)
                    · subst e; exact h60 ((sw_iff _ _).2 ⟨u, rfl⟩)
                    · subst e; exact h38 ((sw_iff _ _).2 ⟨u, rfl⟩)
              · cases h
end Go.Proofs.YtjijjmkeehdooaaGreatDoor

namespace Go.Proofs.YtjijjmkeehdooaaGreatDoor
open Go Go.Lib

/-- how many bytes of characters that are so stand ahead -/
def whL (p : Int → Bool) : Nat → List UInt8 → Nat
  | 0, _ => 0
  | f + 1, l => if l = [] then 0 else if p ((decodeL l).1 : Int) = true then (decodeL l).2 + whL p f (l.drop (decodeL l).2) else 0
def whN (p : Int → Bool) (l : List UInt8) : Nat := whL p l.length l
theorem whL_nil (p : Int → Bool) : ∀ f, whL p f [] = 0
  | 0 => rfl
  | _ + 1 => by simp [whL]
theorem whL_fuel (p : Int → Bool) : ∀ (n m : Nat) (l : List UInt8), l.length ≤ n → l.length ≤ m → whL p n l = whL p m l
  | 0, m, l, hn, _ => by
    obtain rfl : l = [] := List.eq_nil_of_length_eq_zero (by omega)
    rw [whL_nil, whL_nil]
  | n + 1, 0, l, _, hm => by
    obtain rfl : l = [] := List.eq_nil_of_length_eq_zero (by omega)
    rw [whL_nil, whL_nil]
  | n + 1, m + 1, l, hn, hm => by
    unfold whL
    by_cases hne : l = []
    · simp [hne]
    · have hw := decodeL_width l
      have hl : 0 < l.length := List.length_pos_iff.2 hne
      rw [if_neg hne, if_neg hne, whL_fuel p n m (l.drop (decodeL l).2) (by rw [List.length_drop]; omega) (by rw [List.length_drop]; omega)]
theorem whN_nil (p : Int → Bool) : whN p [] = 0 := rfl
theorem whN_step (p : Int → Bool) (l : List UInt8) (hne : l ≠ []) : whN p l = if p ((decodeL l).1 : Int) = true then (decodeL l).2 + whN p (l.drop (decodeL l).2) else 0 := by
  have hl : 0 < l.length := List.length_pos_iff.2 hne
  have hw := decodeL_width l
  obtain ⟨n, hn⟩ : ∃ n, l.length = n + 1 := ⟨l.length - 1, by omega⟩
  unfold whN
  rw [hn]
  show (if l = [] then 0 else _) = _
  rw [if_neg hne, whL_fuel p n (l.drop (decodeL l).2).length _ (by rw [List.length_drop]; omega) (Nat.le_refl _)]
theorem whN_le (p : Int → Bool) : ∀ (n : Nat) (l : List UInt8), l.length ≤ n → whN p l ≤ l.length
  | 0, l, h => by
    obtain rfl : l = [] := List.eq_nil_of_length_eq_zero (by omega)
    exact Nat.le_refl _
  | n + 1, l, h => by
    by_cases hne : l = []
    · subst hne; exact Nat.le_refl _
    · have hw := decodeL_width l
      have hle := decodeL_le l hne
      rw [whN_step p l hne]
      split
      · have := whN_le p n (l.drop (decodeL l).2) (by rw [List.length_drop]; omega)
        rw [List.length_drop] at this
        omega
      · exact Nat.zero_le _
theorem wh_le (p : Int → Bool) (l : List UInt8) : whN p l ≤ l.length := whN_le p _ l (Nat.le_refl _)

/-! ### characters above 127 -/
theorem decodeL_high {l : List UInt8} (_ : l ≠ []) (hb : 128 ≤ (l.getD 0 0).toNat) : 128 ≤ (decodeL l).1 ∧ ∀ j, j < (decodeL l).2 → 128 ≤ (l.getD j 0).toNat := by
  rw [decodeL_N]
  rcases decodeN_shape l.length (l.getD 0 0).toNat (l.getD 1 0).toNat (l.getD 2 0).toNat (l.getD 3 0).toNat with ⟨c, e⟩ | ⟨c1, c2, c3, cv, e⟩ | ⟨c1, c2, c3, c4, cv, cs, e⟩ | ⟨c1, c2, c3, c4, c5, cv, cw, e⟩ | e
  · omega
  · rw [e]
    refine ⟨cv, fun j (hj : j < 2) => ?_⟩
    rcases (show j = 0 ∨ j = 1 by omega) with rfl | rfl <;> omega
  · rw [e]
    refine ⟨by show 128 ≤ _ ; omega, fun j (hj : j < 3) => ?_⟩
    rcases (show j = 0 ∨ j = 1 ∨ j = 2 by omega) with rfl | rfl | rfl <;> omega
  · rw [e]
    refine ⟨by show 128 ≤ _ ; omega, fun j (hj : j < 4) => ?_⟩
    rcases (show j = 0 ∨ j = 1 ∨ j = 2 ∨ j = 3 by omega) with rfl | rfl | rfl | rfl <;> omega
  · rw [e]
    refine ⟨by decide, fun j (hj : j < 1) => ?_⟩
    rcases (show j = 0 by omega) with rfl
    exact hb
/-- how many bytes that are so stand ahead -/
def leadN (q : UInt8 → Bool) : List UInt8 → Nat
  | [] => 0
  | b :: t => if q b = true then leadN q t + 1 else 0
theorem lead_skip (q : UInt8 → Bool) : ∀ (w : Nat) (l : List UInt8), w ≤ l.length → (∀ j, j < w → q (l.getD j 0) = true) → leadN q l = w + leadN q (l.drop w)
  | 0, l, _, _ => by simp
  | w + 1, [], h, _ => by simp at h
  | w + 1, b :: t, h, hq => by
    have h0 : q b = true := hq 0 (by omega)
    show (if q b = true then leadN q t + 1 else 0) = w + 1 + leadN q (t.drop w)
    rw [if_pos h0, lead_skip q w t (by simpa using h) (fun j hj => hq (j + 1) (by omega))]
    omega
theorem wh_lead_in (p : Int → Bool) (q : UInt8 → Bool) (ha : ∀ b : UInt8, b.toNat < 128 → p (b.toNat : Int) = q b) (hp : ∀ c : Int, 128 ≤ c → p c = true) (hq : ∀ b : UInt8, 128 ≤ b.toNat → q b = true) :
    ∀ (n : Nat) (l : List UInt8), l.length ≤ n → whN p l = leadN q l
  | 0, l, h => by
    obtain rfl : l = [] := List.eq_nil_of_length_eq_zero (by omega)
    rfl
  | n + 1, l, h => by
    match l, h with
    | [], _ => rfl
    | b :: t, h =>
      have hne : b :: t ≠ [] := by simp
      have hw := decodeL_width (b :: t)
      have hle := decodeL_le (b :: t) hne
      have ih := wh_lead_in p q ha hp hq n ((b :: t).drop (decodeL (b :: t)).2) (by rw [List.length_drop]; omega)
      rw [whN_step p _ hne, ih]
      by_cases hb : b.toNat < 128
      · rw [decodeL_ascii b t hb]
        show (if p (b.toNat : Int) = true then 1 + leadN q t else 0) = (if q b = true then leadN q t + 1 else 0)
        rw [ha b hb, Nat.add_comm]
      · obtain ⟨h1, h2⟩ := decodeL_high hne (by show 128 ≤ b.toNat; omega)
        rw [if_pos (hp _ (by omega))]
        exact (lead_skip q _ _ hle fun j hj => hq _ (h2 j hj)).symm
theorem wh_lead_out (p : Int → Bool) (q : UInt8 → Bool) (ha : ∀ b : UInt8, b.toNat < 128 → p (b.toNat : Int) = q b) (hp : ∀ c : Int, 128 ≤ c → p c = false) (hq : ∀ b : UInt8, 128 ≤ b.toNat → q b = false) :
    ∀ (n : Nat) (l : List UInt8), l.length ≤ n → whN p l = leadN q l
  | 0, l, h => by
    obtain rfl : l = [] := List.eq_nil_of_length_eq_zero (by omega)
    rfl
  | n + 1, l, h => by
    match l, h with
    | [], _ => rfl
    | b :: t, h =>
      have hne : b :: t ≠ [] := by simp
      have hw := decodeL_width (b :: t)
      have ih := wh_lead_out p q ha hp hq n ((b :: t).drop (decodeL (b :: t)).2) (by rw [List.length_drop]; omega)
      rw [whN_step p _ hne, ih]
      by_cases hb : b.toNat < 128
      · rw [decodeL_ascii b t hb]
        show (if p (b.toNat : Int) = true then 1 + leadN q t else 0) = (if q b = true then leadN q t + 1 else 0)
        rw [ha b hb, Nat.add_comm]
      · obtain ⟨h1, _⟩ := decodeL_high hne (by show 128 ≤ b.toNat; omega)
        rw [if_neg (by rw [hp _ (by omega)]; decide)]
        show 0 = (if q b = true then _ else 0)
        rw [if_neg (by rw [hq b (by omega)]; decide)]
theorem lead_at (q : UInt8 → Bool) : ∀ (l : List UInt8) (j : Nat), j < leadN q l → ∃ b, l[j]? = some b ∧ q b = true
  | [], j, h => by simp [leadN] at h
  | b :: t, j, h => by
    unfold leadN at h
    split at h
    · rename_i hb
      cases j with
      | zero => exact ⟨b, rfl, hb⟩
      | succ j => exact lead_at q t j (by omega)
    · omega
theorem lead_stop (q : UInt8 → Bool) : ∀ (l : List UInt8) (b : UInt8), l[leadN q l]? = some b → q b = false
  | [], b, h => by simp at h
  | a :: t, b, h => by
    unfold leadN at h
    split at h
    · exact lead_stop q t b (by simpa using h)
    · rename_i ha
      simp only [List.getElem?_cons_zero] at h
      injection h with h
      subst h
      rw [Bool.eq_false_iff]; exact ha
theorem lead_le (q : UInt8 → Bool) : ∀ l : List UInt8, leadN q l ≤ l.length
  | [] => Nat.le_refl _
  | b :: t => by
    unfold leadN
    split
    · have := lead_le q t; simp; exact this
    · exact Nat.zero_le _

/-! ### spaces, texts -/
theorem gap_lead : ∀ l : List UInt8, gapL l = leadN spaceU l
  | [] => rfl
  | b :: t => by unfold gapL leadN; rw [gap_lead t]
theorem wh_space (l : List UInt8) : whN spaceB l = gapL l := by
  rw [gap_lead]
  refine wh_lead_out spaceB spaceU (fun b _ => rfl) (fun c hc => ?_) (fun b hb => ?_) _ l (Nat.le_refl _)
  · rw [Bool.eq_false_iff]; intro e; have := space_ascii e; omega
  · unfold spaceU
    rw [Bool.eq_false_iff]; intro e; have := space_ascii e; omega
def textP (c : Int) : Bool := (c != 60) && (c != 38)
theorem plain_lead : ∀ l : List UInt8, plainN l = leadN (fun b => decide (¬ (b = 60 ∨ b = 38))) l
  | [] => rfl
  | b :: t => by
    unfold plainN leadN
    rw [plain_lead t]
    by_cases h : b = 60 ∨ b = 38
    · rw [if_pos h, if_neg (by simp [h])]
    · rw [if_neg h, if_pos (by simp only [decide_eq_true_eq]; exact h)]
theorem byte_eq {b : UInt8} {k : Nat} (hk : k < 256) : b = UInt8.ofNat k ↔ b.toNat = k := by
  constructor
  · rintro rfl
    rw [UInt8.toNat_ofNat']
    exact Nat.mod_eq_of_lt hk
  · intro h
    apply UInt8.toNat_inj.1
    rw [h, UInt8.toNat_ofNat', Nat.mod_eq_of_lt hk]
theorem wh_text (l : List UInt8) : whN textP l = plainN l := by
  rw [plain_lead]
  refine wh_lead_in textP _ (fun b _ => ?_) (fun c hc => ?_) (fun b hb => ?_) _ l (Nat.le_refl _)
  · have h60 : b = 60 ↔ b.toNat = 60 := byte_eq (by decide)
    have h38 : b = 38 ↔ b.toNat = 38 := byte_eq (by decide)
    unfold textP
    rw [Bool.eq_iff_iff]
    simp only [Bool.and_eq_true, bne_iff_ne, decide_eq_true_eq, h60, h38]
    omega
  · unfold textP
    simp only [Bool.and_eq_true, bne_iff_ne]
    omega
  · have h60 : b = 60 ↔ b.toNat = 60 := byte_eq (by decide)
    have h38 : b = 38 ↔ b.toNat = 38 := byte_eq (by decide)
    simp only [decide_eq_true_eq, h60, h38]
    omega
/-- an attribute's value: up to its quote, or to a sign -/
def valP (q : Nat) (c : Int) : Bool := (c != (q : Int)) && (c != 60)
def valU (q : UInt8) (b : UInt8) : Bool := decide (b ≠ q ∧ b ≠ 60)
theorem wh_val (q : UInt8) (hq : q.toNat < 128) (l : List UInt8) : whN (valP q.toNat) l = leadN (valU q) l := by
  have h60 : ∀ b : UInt8, b = 60 ↔ b.toNat = 60 := fun b => byte_eq (by decide)
  have hqq : ∀ b : UInt8, b = q ↔ b.toNat = q.toNat := fun b => UInt8.toNat_inj.symm
  refine wh_lead_in (valP q.toNat) (valU q) (fun b _ => ?_) (fun c hc => ?_) (fun b hb => ?_) _ l (Nat.le_refl _)
  · unfold valP valU
    rw [Bool.eq_iff_iff]
    simp only [Bool.and_eq_true, bne_iff_ne, decide_eq_true_eq, ne_eq, h60, hqq]
    omega
  · unfold valP
    simp only [Bool.and_eq_true, bne_iff_ne]
    omega
  · unfold valU
    simp only [decide_eq_true_eq, ne_eq, h60, hqq]
    omega
theorem sw_one {a : UInt8} {l : List UInt8} : swB [a] l = true ↔ l[0]? = some a := by
  rw [sw_iff]
  constructor
  · rintro ⟨t, rfl⟩; rfl
  · intro h
    match l, h with
    | x :: t, h =>
      simp at h
      exact ⟨t, by rw [h]; rfl⟩
theorem val_is (q : UInt8) (t : List UInt8) :
    ((findL [q] t).bind fun k => if (t.take k).contains 60 = true then none else some k) = if swB [q] (t.drop (leadN (valU q) t)) = true then some (leadN (valU q) t) else none := by
  have hle := lead_le (valU q) t
  have hat := lead_at (valU q) t
  have hst := lead_stop (valU q) t
  generalize leadN (valU q) t = m at *
  have ahead : ∀ j, j < m → swB [q] (t.drop j) = false := fun j hj => by
    rw [Bool.eq_false_iff]
    intro e
    rw [sw_one, List.getElem?_drop] at e
    obtain ⟨b, h1, h2⟩ := hat j hj
    rw [show j + 0 = j by omega, h1] at e
    injection e with e
    unfold valU at h2
    exact (of_decide_eq_true h2).1 e
  by_cases hs : swB [q] (t.drop m) = true
  · rw [if_pos hs]
    have hm : m < t.length := by
      have := sw_length hs
      rw [List.length_drop] at this
      simp at this
      omega
    rw [find_at hm hs ahead, Option.bind_some, if_neg]
    rw [List.contains_iff_mem]
    intro hmem
    obtain ⟨j, hj⟩ := List.mem_iff_getElem?.1 hmem
    rw [List.getElem?_take] at hj
    split at hj
    · rename_i hjm
      obtain ⟨b, h1, h2⟩ := hat j hjm
      rw [h1] at hj
      injection hj with hj
      unfold valU at h2
      exact (of_decide_eq_true h2).2 hj
    · cases hj
  · rw [if_neg hs]
    cases hf : findL [q] t with
    | none => rfl
    | some k =>
      obtain ⟨h1, h2, h3⟩ := find_some hf
      have hkm : m < k := by
        rcases Nat.lt_trichotomy k m with h | h | h
        · rw [ahead k h] at h2; cases h2
        · subst h; exact absurd h2 hs
        · exact h
      rw [Option.bind_some, if_pos]
      rw [List.contains_iff_mem]
      have hm : m < t.length := by omega
      have hb : t[m]? = some (t[m]'hm) := List.getElem?_eq_getElem hm
      have hv := hst _ hb
      have hbq : ¬ t[m]'hm = q := fun e => hs (by rw [sw_one, List.getElem?_drop, show m + 0 = m by omega, hb, e])
      have : t[m]'hm = 60 := by
        unfold valU at hv
        have := of_decide_eq_false hv
        by_cases e : t[m]'hm = 60
        · exact e
        · exact absurd ⟨hbq, e⟩ this
      rw [← this]
      exact List.mem_iff_getElem?.2 ⟨m, by rw [List.getElem?_take, if_pos hkm]; exact hb⟩

/-! ### a mark is searched -/
theorem index_find (w : List UInt8) (hw : w ≠ []) : ∀ l : List UInt8, Lib.index l w = match findL w l with | some k => (k : Int) | none => -1
  | [] => by
    unfold Lib.index findL
    cases w with
    | nil => exact absurd rfl hw
    | cons a u => rfl
  | b :: t => by
    have ih := index_find w hw t
    unfold Lib.index findL swB
    by_cases h : w.isPrefixOf (b :: t) = true
    · rw [if_pos h, if_pos h]; rfl
    · rw [if_neg h, if_neg h, ih]
      cases findL w t with
      | none => rfl
      | some k =>
        show (if ((k : Int) == -1) = true then (-1 : Int) else (k : Int) + 1) = ((k + 1 : Nat) : Int)
        rw [if_neg (by simp only [beq_iff_eq]; omega)]
        omega
theorem cut_some {w l : List UInt8} {k : Nat} (hw : w ≠ []) (h : findL w l = some k) : Lib.cut l w = (l.take k, l.drop (k + w.length), true) := by
  unfold Lib.cut
  rw [index_find w hw, h]
  simp
theorem cut_none {w l : List UInt8} (hw : w ≠ []) (h : findL w l = none) : Lib.cut l w = (l, [], false) := by
  unfold Lib.cut
  rw [index_find w hw, h]
  simp
theorem contains_find {w l : List UInt8} (hw : w ≠ []) : Lib.contains l w = (findL w l).isSome := by
  unfold Lib.contains
  rw [index_find w hw]
  cases findL w l with
  | none => simp
  | some k => simp
end Go.Proofs.YtjijjmkeehdooaaGreatDoor
