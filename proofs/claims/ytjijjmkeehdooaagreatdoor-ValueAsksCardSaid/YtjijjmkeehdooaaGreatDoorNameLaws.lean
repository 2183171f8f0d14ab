/-
  PLAIN MATHEMATICS, MORE: names over lists of bytes: what a name side by side with more is; characters written out and read again.
-/
import Derived.Test.YtjijjmkeehdooaaGreatDoorRuneDefs
import Derived.Lib.RuneBytes
namespace Go.Proofs.YtjijjmkeehdooaaGreatDoor
open Go Go.Lib

/-- one character at a list's head: does it stand in a name (fst: does the name begin there)? -/
def headOk (fst : Bool) (l : List UInt8) : Bool := !decide (decodeL l = (65533, 1)) && (partB ((decodeL l).1 : Int) && (!fst || startB ((decodeL l).1 : Int)))
def okGo : Nat → Bool → List UInt8 → Bool
  | 0, _, _ => true
  | n + 1, fst, l => if l = [] then true else headOk fst l && okGo n false (l.drop (decodeL l).2)
def okL (fst : Bool) (l : List UInt8) : Bool := okGo l.length fst l

theorem okGo_nil : ∀ n fst, okGo n fst [] = true
  | 0, _ => rfl
  | _ + 1, _ => by simp [okGo]
theorem okGo_fuel : ∀ (n m : Nat) (fst : Bool) (l : List UInt8), l.length ≤ n → l.length ≤ m → okGo n fst l = okGo m fst l
  | 0, m, fst, l, hn, _ => by
    obtain rfl : l = [] := List.eq_nil_of_length_eq_zero (by omega)
    rw [okGo_nil, okGo_nil]
  | n + 1, 0, fst, l, _, hm => by
    obtain rfl : l = [] := List.eq_nil_of_length_eq_zero (by omega)
    rw [okGo_nil, okGo_nil]
  | n + 1, m + 1, fst, l, hn, hm => by
    unfold okGo
    by_cases hne : l = []
    · simp [hne]
    · have hw := decodeL_width l
      have hl : 0 < l.length := List.length_pos_iff.2 hne
      rw [if_neg hne, if_neg hne, okGo_fuel n m false (l.drop (decodeL l).2) (by rw [List.length_drop]; omega) (by rw [List.length_drop]; omega)]
theorem okL_nil (fst : Bool) : okL fst [] = true := rfl
theorem okL_step (fst : Bool) (l : List UInt8) (hne : l ≠ []) : okL fst l = (headOk fst l && okL false (l.drop (decodeL l).2)) := by
  have hl : 0 < l.length := List.length_pos_iff.2 hne
  have hw := decodeL_width l
  obtain ⟨n, hn⟩ : ∃ n, l.length = n + 1 := ⟨l.length - 1, by omega⟩
  unfold okL
  rw [hn]
  show (if l = [] then true else _) = _
  rw [if_neg hne, okGo_fuel n (l.drop (decodeL l).2).length false _ (by rw [List.length_drop]; omega) (Nat.le_refl _)]

theorem okGo_at (s : ByteArray) : ∀ f pos, pos ≤ s.size → s.size ≤ pos + f → okGo f (pos == 0) (s.data.toList.drop pos) = (validD (s.data.toList.drop pos) && allOk s f pos)
  | 0, pos, h, hf => by
    obtain rfl : pos = s.size := by omega
    rw [List.drop_of_length_le (by rw [← size_eq]; omega)]
    simp [okGo, allOk, validD_nil]
  | f + 1, pos, h, hf => by
    by_cases hp : pos < s.size
    · have hw := width_pos s pos
      have hle := width_le s pos hp
      rw [valid_at s pos hp, allOk_step s f pos hp]
      show (if s.data.toList.drop pos = [] then true else _) = _
      rw [if_neg (drop_ne s pos hp), List.drop_drop]
      have ih := okGo_at s f (pos + (Utf8.decode s pos).2) hle (by omega)
      rw [show (pos + (Utf8.decode s pos).2 == 0) = false from beq_eq_false_iff_ne.2 (by omega)] at ih
      rw [decodeL_drop, ih]
      have e1 : headOk (pos == 0) (s.data.toList.drop pos) = (!badAt s pos && okB 0 pos ((Utf8.decode s pos).1 : Int)) := by
        unfold headOk badAt okB
        rw [decodeL_drop]
        generalize Utf8.decode s pos = d
        obtain ⟨a, b⟩ := d
        simp [bne]
      rw [e1]
      cases badAt s pos <;> cases okB 0 pos ((Utf8.decode s pos).1 : Int) <;> simp
    · obtain rfl : pos = s.size := by omega
      rw [allOk_end s _ _ hp, List.drop_of_length_le (by rw [← size_eq]; omega), okGo_nil]
      rfl
theorem nameB_list (s : ByteArray) : nameB s = (decide (s.data.toList ≠ []) && okL true s.data.toList) := by
  have h := okGo_at s s.size 0 (Nat.zero_le _) (by omega)
  have e : decide (s.size ≠ 0) = decide (s.data.toList ≠ []) := by
    rw [decide_eq_decide, size_eq]
    exact ⟨fun h e => h (by rw [e]; rfl), fun h e => h (List.length_eq_zero_iff.1 e)⟩
  unfold nameB okL
  rw [e, ← size_eq]
  rw [show ((0 : Nat) == 0) = true from rfl] at h
  rw [List.drop_zero] at h
  rw [h]

/-! ### what stands behind changes no character that is whole -/
theorem decodeN_more (n n' b0 b1 b2 b3 c1 c2 c3 : Nat) (hn : n ≤ n') (h1 : 1 < n → c1 = b1) (h2 : 2 < n → c2 = b2) (h3 : 3 < n → c3 = b3) (hb : decodeN n b0 b1 b2 b3 ≠ (65533, 1)) : decodeN n' b0 c1 c2 c3 = decodeN n b0 b1 b2 b3 := by
  unfold decodeN at hb ⊢
  by_cases a : b0 < 128
  · rw [if_pos a, if_pos a]
  · rw [if_neg a] at hb ⊢
    rw [if_neg a]
    by_cases b : b0 / 32 = 6 ∧ (1 < n ∧ b1 / 64 = 2)
    · have e1 := h1 b.2.1
      subst e1
      rw [if_pos b, if_pos (show b0 / 32 = 6 ∧ (1 < n' ∧ c1 / 64 = 2) from ⟨b.1, by omega, b.2.2⟩)]
    · rw [if_neg b] at hb ⊢
      by_cases c : b0 / 16 = 14 ∧ (1 < n ∧ b1 / 64 = 2) ∧ (2 < n ∧ b2 / 64 = 2)
      · have e1 := h1 c.2.1.1
        have e2 := h2 c.2.2.1
        subst e1 e2
        rw [if_pos c, if_neg (show ¬ (b0 / 32 = 6 ∧ (1 < n' ∧ c1 / 64 = 2)) by omega), if_pos (show b0 / 16 = 14 ∧ (1 < n' ∧ c1 / 64 = 2) ∧ (2 < n' ∧ c2 / 64 = 2) from ⟨c.1, ⟨by omega, c.2.1.2⟩, by omega, c.2.2.2⟩)]
      · rw [if_neg c] at hb ⊢
        by_cases d : b0 / 8 = 30 ∧ (1 < n ∧ b1 / 64 = 2) ∧ (2 < n ∧ b2 / 64 = 2) ∧ (3 < n ∧ b3 / 64 = 2)
        · have e1 := h1 d.2.1.1
          have e2 := h2 d.2.2.1.1
          have e3 := h3 d.2.2.2.1
          subst e1 e2 e3
          rw [if_pos d, if_neg (show ¬ (b0 / 32 = 6 ∧ (1 < n' ∧ c1 / 64 = 2)) by omega), if_neg (show ¬ (b0 / 16 = 14 ∧ (1 < n' ∧ c1 / 64 = 2) ∧ (2 < n' ∧ c2 / 64 = 2)) by omega),
            if_pos (show b0 / 8 = 30 ∧ (1 < n' ∧ c1 / 64 = 2) ∧ (2 < n' ∧ c2 / 64 = 2) ∧ (3 < n' ∧ c3 / 64 = 2) from ⟨d.1, ⟨by omega, d.2.1.2⟩, ⟨by omega, d.2.2.1.2⟩, by omega, d.2.2.2.2⟩)]
        · rw [if_neg d] at hb
          exact absurd rfl hb
theorem decodeL_more (x y : List UInt8) (hx : x ≠ []) (hb : decodeL x ≠ (65533, 1)) : decodeL (x ++ y) = decodeL x := by
  rw [decodeL_N] at hb
  rw [decodeL_N, decodeL_N x]
  have g : ∀ j, j < x.length → (x ++ y).getD j 0 = x.getD j 0 := fun j hj => by
    simp only [List.getD_eq_getElem?_getD]
    rw [List.getElem?_append_left hj]
  have hl : 0 < x.length := List.length_pos_iff.2 hx
  rw [g 0 hl]
  exact decodeN_more _ _ _ _ _ _ _ _ _ (by simp) (fun h => by rw [g 1 h]) (fun h => by rw [g 2 h]) (fun h => by rw [g 3 h]) hb
theorem okL_append : ∀ (n : Nat) (fst : Bool) (x y : List UInt8), x.length ≤ n → okL fst x = true → okL fst (x ++ y) = okL (fst && x.isEmpty) y
  | n, fst, [], y, _, _ => by simp
  | 0, fst, a :: t, y, h, _ => by simp at h
  | n + 1, fst, a :: t, y, h, ho => by
    have hne : a :: t ≠ [] := by simp
    have hw := decodeL_width (a :: t)
    have hle := decodeL_le (a :: t) hne
    rw [okL_step fst _ hne, Bool.and_eq_true] at ho
    obtain ⟨h1, h2⟩ := ho
    have hb : decodeL (a :: t) ≠ (65533, 1) := by
      intro e
      unfold headOk at h1
      rw [e] at h1
      simp at h1
    have e := decodeL_more (a :: t) y hne hb
    rw [okL_step fst _ (by simp)]
    have e1 : headOk fst (a :: t ++ y) = true := by unfold headOk at h1 ⊢; rw [e]; exact h1
    rw [e1, e, List.drop_append_of_le_length hle, okL_append n false _ y (by rw [List.length_drop]; simp at h ⊢; omega) h2]
    simp
theorem okL_weak (l : List UInt8) (h : okL true l = true) : okL false l = true := by
  by_cases hne : l = []
  · subst hne; rfl
  · rw [okL_step _ _ hne, Bool.and_eq_true] at h ⊢
    refine ⟨?_, h.2⟩
    have h1 := h.1
    unfold headOk at h1 ⊢
    simp only [Bool.and_eq_true] at h1 ⊢
    exact ⟨h1.1, h1.2.1, rfl⟩
theorem headOk_ascii (fst : Bool) (b : UInt8) (t : List UInt8) (h : b.toNat < 128) : headOk fst (b :: t) = (partB (b.toNat : Int) && (!fst || startB (b.toNat : Int))) := by
  unfold headOk
  rw [decodeL_ascii b t h, decide_eq_false (by intro e; simp at e; omega)]
  rfl
theorem okL_ascii (fst : Bool) (b : UInt8) (t : List UInt8) (h : b.toNat < 128) : okL fst (b :: t) = ((partB (b.toNat : Int) && (!fst || startB (b.toNat : Int))) && okL false t) := by
  rw [okL_step fst _ (by simp), headOk_ascii fst b t h, decodeL_ascii b t h]
  rfl
end Go.Proofs.YtjijjmkeehdooaaGreatDoor
