/-
  PLAIN MATHEMATICS FOR LAYER 2, THIRD PART: marks ahead, parts side by side, characters written out, letters ahead of bad bytes.
-/
import Derived.Test.YteejkkdimkgmfaaDoorTextMore
namespace Go.Proofs.YteejkkdimkgmfaaDoor
open Go Go.Lib

def markT : ByteArray := ⟨#[239, 187, 191]⟩
theorem mark_size : markT.size = 3 := rfl
theorem markB_iff (s : ByteArray) : markB s = true ↔ 3 ≤ s.size ∧ s.get! 0 = 239 ∧ s.get! 1 = 187 ∧ s.get! 2 = 191 := by
  unfold markB
  simp only [Bool.and_eq_true, decide_eq_true_eq, beq_iff_eq]
theorem markB_ahead (b : ByteArray) : markB (markT ++ b) = true := by
  rw [markB_iff, ByteArray.size_append, mark_size, get_append_left _ _ 0 (by decide), get_append_left _ _ 1 (by decide), get_append_left _ _ 2 (by decide)]
  exact ⟨by omega, by decide, by decide, by decide⟩
theorem extract_list' (s : ByteArray) (i j : Nat) : (s.extract i j).data.toList = (s.data.toList.drop i).take (j - i) := by
  rw [ByteArray.data_extract, Array.toList_extract]
theorem extract_right (x y : ByteArray) : (x ++ y).extract x.size (x ++ y).size = y := by
  apply bytes_eq
  rw [extract_list', append_list, ByteArray.size_append, size_eq x, List.drop_left]
  exact List.take_of_length_le (by rw [← size_eq]; omega)
/-- A MARK AHEAD IS PASSED OVER. -/
theorem restT_ahead (b : ByteArray) : restT (markT ++ b) = b := by
  unfold restT
  rw [if_pos (markB_ahead b)]
  have := extract_right markT b
  rw [mark_size] at this
  exact this
theorem restT_plain (b : ByteArray) (h : ¬ (3 ≤ b.size ∧ b.get! 0 = 239 ∧ b.get! 1 = 187 ∧ b.get! 2 = 191)) : restT b = b := by
  unfold restT
  rw [if_neg (fun e => h ((markB_iff b).1 e))]
theorem readT_ahead (b : ByteArray) : readT (markT ++ b) = if validT b = true then (endsT b, true) else (⟨#[]⟩, false) := by
  unfold readT; rw [restT_ahead]

/-! ### a letter ahead -/
theorem validT_letter (c : UInt8) (b : ByteArray) (h1 : c.toNat < 128) (h2 : charB (c.toNat : Int) = true) : validT (⟨#[c]⟩ ++ b) = validT b := by
  rw [validT_list, validT_list, append_list]
  show chL (c :: b.data.toList) = _
  rw [chL_step _ (by simp), decodeL_ascii c _ h1, h2, decide_eq_false (by simp; omega)]
  rfl
theorem get_one (c : UInt8) : (⟨#[c]⟩ : ByteArray).get! 0 = c := rfl
theorem endsT_letter (c : UInt8) (b : ByteArray) (h : c ≠ 13) : endsT (⟨#[c]⟩ ++ b) = ⟨#[c]⟩ ++ endsT b := by
  rw [endsT_append _ _ (Or.inr (Or.inl (by show (⟨#[c]⟩ : ByteArray).get! 0 ≠ 13; rw [get_one]; exact h)))]
  congr 1
  exact endsT_fix _ (by intro x hx; simp at hx; subst hx; exact h)
theorem restT_letter (c : UInt8) (b : ByteArray) (h : c ≠ 239) : restT (⟨#[c]⟩ ++ b) = ⟨#[c]⟩ ++ b := by
  refine restT_plain _ ?_
  rintro ⟨_, e, _⟩
  rw [get_append_left _ _ 0 (by show 0 < 1; omega), get_one] at e
  exact h e
theorem readT_letter (c : UInt8) (b : ByteArray) (h1 : c.toNat < 128) (h2 : charB (c.toNat : Int) = true) (h : c ≠ 13) : readT (⟨#[c]⟩ ++ b) = if validT b = true then (⟨#[c]⟩ ++ endsT b, true) else (⟨#[]⟩, false) := by
  unfold readT
  rw [restT_letter c b (by intro e; rw [e] at h1; exact absurd h1 (by decide)), validT_letter c b h1 h2, endsT_letter c b h]

/-! ### two parts -/
/-- What is read of two parts side by side. -/
theorem short_mark (a : ByteArray) (h0 : 0 < a.size) (h3 : a.size < 3) (h : a.get! 0 = 239) : validT a = false := by
  obtain ⟨n, hn⟩ : ∃ n, a.size = n + 1 := ⟨a.size - 1, by omega⟩
  have e : badAt a 0 = true := by
    rw [badAt_N]
    apply decide_eq_true
    unfold decodeN
    rw [h]
    have : (239 : UInt8).toNat = 239 := rfl
    rw [this]
    rw [if_neg (by omega), if_neg (by omega), if_neg (by omega), if_neg (by omega)]
  unfold validT
  rw [hn, okCh_step a n 0 (by omega), e]
  rfl
theorem restT_two (a b : ByteArray) (ha : validT (restT a) = true) (hb : b.size ≤ 2 ∨ b.get! 0 ≠ 239) : restT (a ++ b) = restT a ++ b := by
  by_cases h3 : 3 ≤ a.size
  · have g0 := get_append_left a b 0 (by omega)
    have g1 := get_append_left a b 1 (by omega)
    have g2 := get_append_left a b 2 (by omega)
    by_cases m : a.get! 0 = 239 ∧ a.get! 1 = 187 ∧ a.get! 2 = 191
    · have e1 : markB a = true := (markB_iff a).2 ⟨h3, m⟩
      have e2 : markB (a ++ b) = true := (markB_iff _).2 ⟨by rw [ByteArray.size_append]; omega, by rw [g0]; exact m.1, by rw [g1]; exact m.2.1, by rw [g2]; exact m.2.2⟩
      unfold restT
      rw [if_pos e1, if_pos e2]
      apply bytes_eq
      rw [append_list, extract_list', extract_list', append_list, ByteArray.size_append, List.drop_append_of_le_length (by rw [← size_eq]; exact h3)]
      rw [List.take_of_length_le (by rw [List.length_append, List.length_drop, ← size_eq, ← size_eq]; omega), List.take_of_length_le (by rw [List.length_drop, ← size_eq]; omega)]
    · rw [restT_plain a (fun e => m e.2), restT_plain (a ++ b) (fun e => m ⟨by rw [← g0]; exact e.2.1, by rw [← g1]; exact e.2.2.1, by rw [← g2]; exact e.2.2.2⟩)]
  · have ea : restT a = a := restT_plain a (fun e => h3 e.1)
    rw [ea] at ha ⊢
    refine restT_plain _ ?_
    rintro ⟨e0, e1, e2, e3⟩
    by_cases hz : a.size = 0
    · have g0 := get_append_right a b 0 (by rw [ByteArray.size_append] at e0; omega)
      rw [hz] at g0
      rw [g0] at e1
      rw [ByteArray.size_append] at e0
      rcases hb with hb | hb
      · omega
      · exact hb e1
    · rw [get_append_left a b 0 (by omega)] at e1
      rw [short_mark a (by omega) (by omega) e1] at ha
      cases ha
theorem restT_last (a : ByteArray) (h : a.size = 0 ∨ a.get! (a.size - 1) ≠ 13) : (restT a).size = 0 ∨ (restT a).get! ((restT a).size - 1) ≠ 13 := by
  unfold restT
  by_cases m : markB a = true
  · rw [if_pos m]
    have h3 := ((markB_iff a).1 m).1
    have hsz : (a.extract 3 a.size).size = a.size - 3 := by rw [ByteArray.size_extract]; omega
    rw [hsz]
    by_cases hz : a.size = 3
    · exact Or.inl (by omega)
    · right
      have h1 := get_list (a.extract 3 a.size) (a.size - 3 - 1) (by rw [hsz]; omega)
      rw [extract_list', List.getElem?_take, if_pos (by omega), List.getElem?_drop, show 3 + (a.size - 3 - 1) = a.size - 1 by omega, get_list a (a.size - 1) (by omega)] at h1
      rw [← Option.some.inj h1]
      rcases h with h | h
      · omega
      · exact h
  · rw [if_neg m]; exact h
theorem readT_two (a b : ByteArray) (ha : validT (restT a) = true) (h13 : a.size = 0 ∨ a.get! (a.size - 1) ≠ 13) (hb : b.size ≤ 2 ∨ b.get! 0 ≠ 239) :
    readT (a ++ b) = if validT b = true then (endsT (restT a) ++ endsT b, true) else (⟨#[]⟩, false) := by
  unfold readT
  rw [restT_two a b ha hb, validT_append _ _ ha]
  by_cases hv : validT b = true
  · rw [if_pos hv, if_pos hv, endsT_append]
    rcases restT_last a h13 with h | h
    · exact Or.inl h
    · exact Or.inr (Or.inl h)
  · rw [if_neg hv, if_neg hv]
theorem readT_b (b : ByteArray) (hb : b.size ≤ 2 ∨ b.get! 0 ≠ 239) : readT b = if validT b = true then (endsT b, true) else (⟨#[]⟩, false) := by
  have e : restT b = b := restT_plain b (fun e => by rcases hb with h | h; omega; exact h e.2.1)
  unfold readT
  rw [e]

/-! ### characters written out, raw ones too -/
/-- is the character that string(r) writes one that may be? -/
def okRaw (r : Int) : Bool := charB r || decide (r < 0) || decide (1114111 < r) || (decide (55296 ≤ r) && decide (r ≤ 57343))
theorem encode_raw (r : Int) (h : Utf8.valid r = false) : Utf8.encode r = Utf8.encode 65533 := by
  unfold Utf8.encode
  simp only [h, Bool.false_eq_true, if_false]
  rfl
theorem okRaw_bad (r : Int) (h : Utf8.valid r = false) : okRaw r = true := by
  have h1 : ¬ ((0 ≤ r ∧ r < 55296) ∨ (57344 ≤ r ∧ r ≤ 1114111)) := by
    intro e
    have : Utf8.valid r = true := by
      unfold Utf8.valid
      simp only [Bool.or_eq_true, Bool.and_eq_true, decide_eq_true_eq]
      exact e
    rw [h] at this; cases this
  unfold okRaw
  simp only [Bool.or_eq_true, Bool.and_eq_true, decide_eq_true_eq]
  omega
theorem okRaw_good (r : Int) (h : Utf8.valid r = true) : okRaw r = charB r := by
  have hb := valid_bounds h
  unfold okRaw
  rw [decide_eq_false (show ¬ r < 0 by omega), decide_eq_false (show ¬ 1114111 < r by omega)]
  by_cases a : 55296 ≤ r
  · rw [decide_eq_false (show ¬ r ≤ 57343 by omega)]; simp
  · rw [decide_eq_false a]; simp
theorem chL_raw (r : Int) (y : List UInt8) : chL ((Utf8.encode r).data.toList ++ y) = (okRaw r && chL y) := by
  have key : ∀ q, Utf8.valid q = true → chL ((Utf8.encode q).data.toList ++ y) = (charB q && chL y) := by
    intro q hv
    obtain ⟨k, h1, h2, h3⟩ := decode_valid q hv y
    have h0 := (valid_bounds hv).1
    have hne : (Utf8.encode q).data.toList ++ y ≠ [] := by
      intro e
      have hw := decodeL_width ((Utf8.encode q).data.toList ++ y)
      rw [h1] at hw
      rw [(List.append_eq_nil_iff.1 e).1] at h2
      simp at h2 hw
      omega
    rw [chL_step _ hne, h1, decide_eq_false h3]
    simp only [Bool.not_false, Bool.true_and]
    rw [Int.toNat_of_nonneg h0, h2, List.drop_left]
  cases hv : Utf8.valid r
  · rw [encode_raw r hv, okRaw_bad r hv, key 65533 (by decide)]
    rfl
  · rw [okRaw_good r hv, key r hv]
theorem chL_snoc : ∀ (rs : List Int) (r : Int), chL (encs (rs ++ [r])) = (chL (encs rs) && okRaw r)
  | [], r => by
    show chL ((Utf8.encode r).data.toList ++ []) = _
    rw [chL_raw]
    rw [chL_nil, Bool.and_true]
    rfl
  | q :: t, r => by
    show chL ((Utf8.encode q).data.toList ++ encs (t ++ [r])) = (chL ((Utf8.encode q).data.toList ++ encs t) && okRaw r)
    rw [chL_raw, chL_raw, chL_snoc t r, Bool.and_assoc]

/-! ### letters ahead of bytes -/
theorem chL_letters : ∀ (n : Nat) (y : List UInt8), chL (List.replicate n 97 ++ y) = chL y
  | 0, _ => rfl
  | n + 1, y => by
    rw [List.replicate_succ, List.cons_append, chL_step _ (by simp), decodeL_ascii 97 _ (by decide)]
    rw [decide_eq_false (by decide)]
    show (true && (charB 97 && chL ((97 :: (List.replicate n 97 ++ y)).drop 1))) = _
    rw [show charB 97 = true by decide]
    simp only [Bool.true_and, List.drop_succ_cons, List.drop_zero]
    exact chL_letters n y
end Go.Proofs.YteejkkdimkgmfaaDoor
