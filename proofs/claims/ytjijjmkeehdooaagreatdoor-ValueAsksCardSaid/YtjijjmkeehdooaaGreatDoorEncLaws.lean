/-
  PLAIN MATHEMATICS, MORE: characters written one behind the other, and what of a name they are.
-/
import Derived.Test.YtjijjmkeehdooaaGreatDoorNameLaws
namespace Go.Proofs.YtjijjmkeehdooaaGreatDoor
open Go Go.Lib

/-- characters written one behind the other -/
def encs : List Int → List UInt8
  | [] => []
  | r :: t => (Utf8.encode r).data.toList ++ encs t
/-- do they stand in a name (fst: does it begin there)? -/
def okR : Bool → List Int → Bool
  | _, [] => true
  | fst, r :: t => (partB r && (!fst || startB r)) && okR false t

theorem char_valid {r : Int} (h : charB r = true) : Utf8.valid r = true ∧ 0 ≤ r ∧ r ≤ 1114111 ∧ ¬ (55296 ≤ r ∧ r ≤ 57343) := by
  simp only [charB, inB, Bool.or_eq_true, Bool.and_eq_true, decide_eq_true_eq, beq_iff_eq] at h
  have h1 : 0 ≤ r ∧ r ≤ 1114111 ∧ ¬ (55296 ≤ r ∧ r ≤ 57343) := by omega
  refine ⟨?_, h1⟩
  unfold Utf8.valid
  simp only [Bool.or_eq_true, Bool.and_eq_true, decide_eq_true_eq]
  omega
theorem ofNat_toNat (n : Nat) (h : n < 256) : (UInt8.ofNat n).toNat = n := by
  rw [UInt8.toNat_ofNat', Nat.mod_eq_of_lt (by omega)]
theorem valid_bounds {r : Int} (h : Utf8.valid r = true) : 0 ≤ r ∧ r ≤ 1114111 ∧ ¬ (55296 ≤ r ∧ r ≤ 57343) := by
  unfold Utf8.valid at h
  simp only [Bool.or_eq_true, Bool.and_eq_true, decide_eq_true_eq] at h
  omega
set_option maxRecDepth 100000 in
theorem decode_valid (r : Int) (hv : Utf8.valid r = true) (y : List UInt8) : ∃ k, decodeL ((Utf8.encode r).data.toList ++ y) = (r.toNat, k) ∧ k = (Utf8.encode r).data.toList.length ∧ ((r.toNat, k) : Nat × Nat) ≠ (65533, 1) := by
  obtain ⟨h0, h1, h2⟩ := valid_bounds hv
  obtain ⟨n, rfl⟩ := Int.eq_ofNat_of_zero_le h0
  have hn1 : n ≤ 1114111 := by omega
  have hn2 : ¬ (55296 ≤ n ∧ n ≤ 57343) := by omega
  unfold Utf8.encode
  simp only [hv, if_true, Int.toNat_natCast]
  by_cases a : n < 128
  · rw [if_pos a]
    refine ⟨1, ?_, rfl, by simp; omega⟩
    show decodeL (UInt8.ofNat n :: y) = _
    rw [decodeL_ascii _ _ (by rw [ofNat_toNat n (by omega)]; exact a), ofNat_toNat n (by omega)]
  · rw [if_neg a]
    by_cases b : n < 2048
    · rw [if_pos b]
      refine ⟨2, ?_, rfl, by simp⟩
      show decodeL (UInt8.ofNat (192 + n / 64) :: UInt8.ofNat (128 + n % 64) :: y) = _
      rw [decodeL_N]
      simp only [List.getD_cons_zero, List.getD_cons_succ, List.length_cons]
      rw [ofNat_toNat _ (by omega), ofNat_toNat _ (by omega), decodeN_two _ _ _ _ _ (by omega) (by omega) (by omega) (by omega), show (192 + n / 64) % 32 * 64 + (128 + n % 64) % 64 = n by omega, if_neg (by omega)]
    · rw [if_neg b]
      by_cases c : n < 65536
      · rw [if_pos c]
        refine ⟨3, ?_, rfl, by simp⟩
        show decodeL (UInt8.ofNat (224 + n / 4096) :: UInt8.ofNat (128 + n / 64 % 64) :: UInt8.ofNat (128 + n % 64) :: y) = _
        rw [decodeL_N]
        simp only [List.getD_cons_zero, List.getD_cons_succ, List.length_cons]
        rw [ofNat_toNat _ (by omega), ofNat_toNat _ (by omega), ofNat_toNat _ (by omega), decodeN_three _ _ _ _ _ (by omega) (by omega) (by omega) (by omega) (by omega) n (by omega), if_neg (by omega)]
      · rw [if_neg c]
        refine ⟨4, ?_, rfl, by simp⟩
        show decodeL (UInt8.ofNat (240 + n / 262144) :: UInt8.ofNat (128 + n / 4096 % 64) :: UInt8.ofNat (128 + n / 64 % 64) :: UInt8.ofNat (128 + n % 64) :: y) = _
        rw [decodeL_N]
        simp only [List.getD_cons_zero, List.getD_cons_succ, List.length_cons]
        rw [ofNat_toNat _ (by omega), ofNat_toNat _ (by omega), ofNat_toNat _ (by omega), ofNat_toNat _ (by omega), decodeN_four _ _ _ _ _ (by omega) (by omega) (by omega) (by omega) (by omega) (by omega) n (by omega), if_neg (by omega)]
theorem decode_encode (r : Int) (h : charB r = true) (y : List UInt8) : ∃ k, decodeL ((Utf8.encode r).data.toList ++ y) = (r.toNat, k) ∧ k = (Utf8.encode r).data.toList.length ∧ ((r.toNat, k) : Nat × Nat) ≠ (65533, 1) :=
  decode_valid r (char_valid h).1 y
theorem encode_some (r : Int) (h : charB r = true) : (Utf8.encode r).data.toList ≠ [] := by
  obtain ⟨k, h1, h2, _⟩ := decode_encode r h []
  have hw := decodeL_width ((Utf8.encode r).data.toList ++ [])
  rw [h1] at hw
  intro e
  rw [e] at h2
  simp at h2 hw
  omega
theorem okL_encode (fst : Bool) (r : Int) (h : charB r = true) (y : List UInt8) : okL fst ((Utf8.encode r).data.toList ++ y) = ((partB r && (!fst || startB r)) && okL false y) := by
  obtain ⟨k, h1, h2, h3⟩ := decode_encode r h y
  have h0 := (char_valid h).2.1
  rw [okL_step fst _ (by intro e; exact encode_some r h (List.append_eq_nil_iff.1 e).1), h1]
  have e1 : headOk fst ((Utf8.encode r).data.toList ++ y) = (partB r && (!fst || startB r)) := by
    unfold headOk
    rw [h1, decide_eq_false h3]
    simp only [Bool.not_false, Bool.true_and]
    rw [Int.toNat_of_nonneg h0]
  rw [e1, h2]
  simp only
  rw [List.drop_left]
theorem okL_encs : ∀ (rs : List Int) (fst : Bool), (∀ r ∈ rs, charB r = true) → okL fst (encs rs) = okR fst rs
  | [], fst, _ => by cases fst <;> rfl
  | r :: t, fst, h => by
    show okL fst ((Utf8.encode r).data.toList ++ encs t) = ((partB r && (!fst || startB r)) && okR false t)
    rw [okL_encode fst r (h r (by simp)), okL_encs t false (fun x hx => h x (by simp [hx]))]
theorem encs_append : ∀ (a b : List Int), encs (a ++ b) = encs a ++ encs b
  | [], _ => rfl
  | r :: t, b => by
    show (Utf8.encode r).data.toList ++ encs (t ++ b) = ((Utf8.encode r).data.toList ++ encs t) ++ encs b
    rw [encs_append t b, List.append_assoc]
theorem okR_append : ∀ (a b : List Int) (fst : Bool), okR fst (a ++ b) = (okR fst a && okR (fst && a.isEmpty) b)
  | [], b, fst => by simp [okR]
  | r :: t, b, fst => by
    show ((partB r && (!fst || startB r)) && okR false (t ++ b)) = (((partB r && (!fst || startB r)) && okR false t) && okR (fst && false) b)
    rw [okR_append t b false]
    simp only [Bool.and_assoc, Bool.false_and, Bool.and_false]
theorem okR_weak (rs : List Int) (h : okR true rs = true) : okR false rs = true := by
  cases rs with
  | nil => rfl
  | cons r t =>
    simp only [okR, Bool.and_eq_true] at h ⊢
    exact ⟨⟨h.1.1, rfl⟩, h.2⟩
theorem encs_some (rs : List Int) (hc : ∀ r ∈ rs, charB r = true) : encs rs = [] ↔ rs = [] := by
  cases rs with
  | nil => exact ⟨fun _ => rfl, fun _ => rfl⟩
  | cons r t =>
    constructor
    · intro e
      exact absurd (List.append_eq_nil_iff.1 e).1 (encode_some r (hc r (by simp)))
    · intro e; cases e

/-- WHAT IS A NAME OF CHARACTERS WRITTEN OUT. -/
theorem nameB_encs (s : ByteArray) (rs : List Int) (hs : s.data.toList = encs rs) (hc : ∀ r ∈ rs, charB r = true) : nameB s = (decide (0 < rs.length) && okR true rs) := by
  rw [nameB_list, hs, okL_encs rs true hc]
  congr 1
  rw [decide_eq_decide, ne_eq, encs_some rs hc]
  constructor
  · intro h; exact List.length_pos_iff.2 h
  · intro h; exact List.length_pos_iff.1 h
theorem encode_letter : (Utf8.encode 97).data.toList = [97] ∧ (Utf8.encode 95).data.toList = [95] ∧ (Utf8.encode 45).data.toList = [45] := by decide
theorem name_ahead (s : ByteArray) (rs : List Int) (hs : s.data.toList = encs rs) (hc : ∀ r ∈ rs, charB r = true) (ho : okR true rs = true) : nameB (⟨#[97]⟩ ++ s) = true := by
  have e : (⟨#[97]⟩ ++ s : ByteArray).data.toList = encs (97 :: rs) := by
    show _ = (Utf8.encode 97).data.toList ++ encs rs
    rw [encode_letter.1, ByteArray.data_append, Array.toList_append, hs]
  rw [nameB_encs _ _ e (by intro r hr; rcases List.mem_cons.1 hr with rfl | hr; decide; exact hc r hr)]
  show (decide (0 < (97 :: rs).length) && ((partB 97 && (!true || startB 97)) && okR false rs)) = true
  rw [okR_weak rs ho, decide_eq_true (by simp)]
  decide
theorem name_around (s : ByteArray) (rs : List Int) (hs : s.data.toList = encs rs) (hc : ∀ r ∈ rs, charB r = true) (ho : okR true rs = true) : nameB (⟨#[95]⟩ ++ s ++ ⟨#[45]⟩) = true := by
  have e : (⟨#[95]⟩ ++ s ++ ⟨#[45]⟩ : ByteArray).data.toList = encs (95 :: (rs ++ [45])) := by
    show _ = (Utf8.encode 95).data.toList ++ encs (rs ++ [45])
    rw [encs_append]
    show _ = (Utf8.encode 95).data.toList ++ (encs rs ++ ((Utf8.encode 45).data.toList ++ []))
    rw [encode_letter.2.1, encode_letter.2.2, ByteArray.data_append, ByteArray.data_append, Array.toList_append, Array.toList_append, hs]
    simp
  rw [nameB_encs _ _ e (by
    intro r hr
    rcases List.mem_cons.1 hr with rfl | hr
    · decide
    · rcases List.mem_append.1 hr with hr | hr
      · exact hc r hr
      · simp at hr; subst hr; decide)]
  show (decide (0 < (95 :: (rs ++ [45])).length) && ((partB 95 && (!true || startB 95)) && okR false (rs ++ [45]))) = true
  rw [okR_append, okR_weak rs ho]
  rw [decide_eq_true (by simp), Bool.false_and]
  decide
end Go.Proofs.YtjijjmkeehdooaaGreatDoor
