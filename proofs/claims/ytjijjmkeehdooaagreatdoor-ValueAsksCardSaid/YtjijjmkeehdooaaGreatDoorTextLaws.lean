/-
  PLAIN MATHEMATICS FOR LAYER 2 (from bytes to characters): which bytes are characters, how lines end, what is read, over places in a byte string.
-/
import Derived.Test.YtjijjmkeehdooaaGreatDoorEncLaws
namespace Go.Proofs.YtjijjmkeehdooaaGreatDoor
open Go Go.Lib

/-! ### which bytes are characters -/
def okCh (s : ByteArray) : Nat → Nat → Bool
  | 0, _ => true
  | f + 1, pos => if pos < s.size then !badAt s pos && (charB ((Utf8.decode s pos).1 : Int) && okCh s f (pos + (Utf8.decode s pos).2)) else true
def validT (s : ByteArray) : Bool := okCh s s.size 0
theorem okCh_end (s : ByteArray) (f pos : Nat) (h : ¬ pos < s.size) : okCh s f pos = true := by
  cases f <;> simp [okCh, h]
theorem okCh_step (s : ByteArray) (f pos : Nat) (hp : pos < s.size) : okCh s (f + 1) pos = (!badAt s pos && (charB ((Utf8.decode s pos).1 : Int) && okCh s f (pos + (Utf8.decode s pos).2))) := by
  show (if pos < s.size then _ else _) = _
  rw [if_pos hp]

/-- the same over a list of bytes -/
def chGo : Nat → List UInt8 → Bool
  | 0, _ => true
  | n + 1, l => if l = [] then true else !decide (decodeL l = (65533, 1)) && (charB ((decodeL l).1 : Int) && chGo n (l.drop (decodeL l).2))
def chL (l : List UInt8) : Bool := chGo l.length l
theorem chGo_nil : ∀ n, chGo n [] = true
  | 0 => rfl
  | _ + 1 => by simp [chGo]
theorem chGo_fuel : ∀ (n m : Nat) (l : List UInt8), l.length ≤ n → l.length ≤ m → chGo n l = chGo m l
  | 0, m, l, hn, _ => by
    obtain rfl : l = [] := List.eq_nil_of_length_eq_zero (by omega)
    rw [chGo_nil, chGo_nil]
  | n + 1, 0, l, _, hm => by
    obtain rfl : l = [] := List.eq_nil_of_length_eq_zero (by omega)
    rw [chGo_nil, chGo_nil]
  | n + 1, m + 1, l, hn, hm => by
    unfold chGo
    by_cases hne : l = []
    · simp [hne]
    · have hw := decodeL_width l
      have hl : 0 < l.length := List.length_pos_iff.2 hne
      rw [if_neg hne, if_neg hne, chGo_fuel n m (l.drop (decodeL l).2) (by rw [List.length_drop]; omega) (by rw [List.length_drop]; omega)]
theorem chL_nil : chL [] = true := rfl
theorem chL_step (l : List UInt8) (hne : l ≠ []) : chL l = (!decide (decodeL l = (65533, 1)) && (charB ((decodeL l).1 : Int) && chL (l.drop (decodeL l).2))) := by
  have hl : 0 < l.length := List.length_pos_iff.2 hne
  have hw := decodeL_width l
  obtain ⟨n, hn⟩ : ∃ n, l.length = n + 1 := ⟨l.length - 1, by omega⟩
  unfold chL
  rw [hn]
  show (if l = [] then true else _) = _
  rw [if_neg hne, chGo_fuel n (l.drop (decodeL l).2).length _ (by rw [List.length_drop]; omega) (Nat.le_refl _)]
theorem chGo_at (s : ByteArray) : ∀ f pos, pos ≤ s.size → s.size ≤ pos + f → chGo f (s.data.toList.drop pos) = okCh s f pos
  | 0, pos, h, hf => rfl
  | f + 1, pos, h, hf => by
    by_cases hp : pos < s.size
    · have hw := width_pos s pos
      have hle := width_le s pos hp
      rw [okCh_step s f pos hp]
      show (if s.data.toList.drop pos = [] then true else _) = _
      rw [if_neg (drop_ne s pos hp), List.drop_drop, decodeL_drop, chGo_at s f _ hle (by omega)]
      congr 2
      unfold badAt
      generalize Utf8.decode s pos = d
      obtain ⟨a, b⟩ := d
      simp
    · obtain rfl : pos = s.size := by omega
      rw [okCh_end s _ _ hp, List.drop_of_length_le (by rw [← size_eq]; omega), chGo_nil]
theorem validT_list (s : ByteArray) : validT s = chL s.data.toList := by
  have h := chGo_at s s.size 0 (Nat.zero_le _) (by omega)
  unfold validT chL
  rw [List.drop_zero] at h
  rw [← size_eq, h]
/-- Bytes that are characters change nothing of what stands behind them. -/
theorem chL_append : ∀ (n : Nat) (x y : List UInt8), x.length ≤ n → chL x = true → chL (x ++ y) = chL y
  | n, [], y, _, _ => rfl
  | 0, a :: t, y, h, _ => by simp at h
  | n + 1, a :: t, y, h, ho => by
    have hne : a :: t ≠ [] := by simp
    have hw := decodeL_width (a :: t)
    have hle := decodeL_le (a :: t) hne
    rw [chL_step _ hne, Bool.and_eq_true, Bool.and_eq_true] at ho
    obtain ⟨h1, h2, h3⟩ := ho
    have hb : decodeL (a :: t) ≠ (65533, 1) := by
      intro e
      rw [decide_eq_true e] at h1
      cases h1
    have e := decodeL_more (a :: t) y hne hb
    rw [chL_step _ (by simp), e, h1, h2, List.drop_append_of_le_length hle, chL_append n _ y (by rw [List.length_drop]; simp at h ⊢; omega) h3]
    rfl
theorem chL_encode (r : Int) (h : charB r = true) (y : List UInt8) : chL ((Utf8.encode r).data.toList ++ y) = chL y := by
  obtain ⟨k, h1, h2, h3⟩ := decode_encode r h y
  have h0 := (char_valid h).2.1
  rw [chL_step _ (by intro e; exact encode_some r h (List.append_eq_nil_iff.1 e).1), h1, decide_eq_false h3]
  simp only [Bool.not_false, Bool.true_and]
  rw [Int.toNat_of_nonneg h0, h, h2, List.drop_left]
  rfl

/-! ### how lines end -/
/-- what the byte at place k becomes -/
def endAt (s : ByteArray) (k : Nat) : List UInt8 := if s.get! k = 13 then (if k + 1 < s.size ∧ s.get! (k + 1) = 10 then [] else [10]) else [s.get! k]
def endsN (s : ByteArray) (k : Nat) : List UInt8 := (List.range k).flatMap (endAt s)
def endsT (s : ByteArray) : ByteArray := ⟨(endsN s s.size).toArray⟩
theorem endsN_zero (s : ByteArray) : endsN s 0 = [] := rfl
theorem endsN_succ (s : ByteArray) (k : Nat) : endsN s (k + 1) = endsN s k ++ endAt s k := by
  unfold endsN
  rw [List.range_succ, List.flatMap_append]
  simp
theorem endAt_le (s : ByteArray) (k : Nat) : (endAt s k).length ≤ 1 := by
  unfold endAt
  repeat' split
  all_goals simp
theorem endsN_le (s : ByteArray) : ∀ k, (endsN s k).length ≤ k
  | 0 => Nat.le_refl _
  | k + 1 => by
    have h1 := endsN_le s k
    have h2 := endAt_le s k
    rw [endsN_succ, List.length_append]
    omega

/-! ### what is read -/
def markB (s : ByteArray) : Bool := decide (3 ≤ s.size) && (s.get! 0 == 239 && (s.get! 1 == 187 && s.get! 2 == 191))
def restT (s : ByteArray) : ByteArray := if markB s = true then s.extract 3 s.size else s
def readT (s : ByteArray) : ByteArray × Bool := if validT (restT s) = true then (endsT (restT s), true) else (⟨#[]⟩, false)
end Go.Proofs.YtjijjmkeehdooaaGreatDoor
