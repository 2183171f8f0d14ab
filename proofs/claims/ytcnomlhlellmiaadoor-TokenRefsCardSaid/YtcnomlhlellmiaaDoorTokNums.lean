/-
  PLAIN MATHEMATICS FOR TokenRefs: rows of digits that are made from behind, what number they are, and that a reference of them is the character. No program stands in this text.
-/
import Derived.Test.YtcnomlhlellmiaaDoorTokLaws
import Derived.Test.YtcnomlhlellmiaaDoorBitNum
namespace Go.Proofs.YtcnomlhlellmiaaDoor
open Go Go.Lib

/-- the j-th digit's byte -/
def decB (j : Nat) : UInt8 := UInt8.ofNat (48 + j)
def hexB (j : Nat) : UInt8 := if j < 10 then UInt8.ofNat (48 + j) else UInt8.ofNat (87 + j)
theorem decB_val (j : Nat) (h : j < 10) : decV (decB j) = some j := by
  rcases (show j = 0 ∨ j = 1 ∨ j = 2 ∨ j = 3 ∨ j = 4 ∨ j = 5 ∨ j = 6 ∨ j = 7 ∨ j = 8 ∨ j = 9 by omega) with rfl | rfl | rfl | rfl | rfl | rfl | rfl | rfl | rfl | rfl <;> rfl
theorem hexB_val (j : Nat) (h : j < 16) : hexV (hexB j) = some j := by
  rcases (show j = 0 ∨ j = 1 ∨ j = 2 ∨ j = 3 ∨ j = 4 ∨ j = 5 ∨ j = 6 ∨ j = 7 ∨ j = 8 ∨ j = 9 ∨ j = 10 ∨ j = 11 ∨ j = 12 ∨ j = 13 ∨ j = 14 ∨ j = 15 by omega) with rfl | rfl | rfl | rfl | rfl | rfl | rfl | rfl | rfl | rfl | rfl | rfl | rfl | rfl | rfl | rfl <;> rfl
theorem decB_at (j : Nat) (h : j < 10) : (⟨#[48, 49, 50, 51, 52, 53, 54, 55, 56, 57]⟩ : ByteArray).extract j (j + 1) = bytes [decB j] := by
  rcases (show j = 0 ∨ j = 1 ∨ j = 2 ∨ j = 3 ∨ j = 4 ∨ j = 5 ∨ j = 6 ∨ j = 7 ∨ j = 8 ∨ j = 9 by omega) with rfl | rfl | rfl | rfl | rfl | rfl | rfl | rfl | rfl | rfl <;> rfl
theorem hexB_at (j : Nat) (h : j < 16) : (⟨#[48, 49, 50, 51, 52, 53, 54, 55, 56, 57, 97, 98, 99, 100, 101, 102]⟩ : ByteArray).extract j (j + 1) = bytes [hexB j] := by
  rcases (show j = 0 ∨ j = 1 ∨ j = 2 ∨ j = 3 ∨ j = 4 ∨ j = 5 ∨ j = 6 ∨ j = 7 ∨ j = 8 ∨ j = 9 ∨ j = 10 ∨ j = 11 ∨ j = 12 ∨ j = 13 ∨ j = 14 ∨ j = 15 by omega) with rfl | rfl | rfl | rfl | rfl | rfl | rfl | rfl | rfl | rfl | rfl | rfl | rfl | rfl | rfl | rfl <;> rfl
/-- no sign in a row of digits that ends it, or begins another kind -/
def Dig (b : UInt8) : Prop := b ≠ 59 ∧ b ≠ 120
theorem decB_dig (j : Nat) (h : j < 10) : Dig (decB j) := by
  rcases (show j = 0 ∨ j = 1 ∨ j = 2 ∨ j = 3 ∨ j = 4 ∨ j = 5 ∨ j = 6 ∨ j = 7 ∨ j = 8 ∨ j = 9 by omega) with rfl | rfl | rfl | rfl | rfl | rfl | rfl | rfl | rfl | rfl <;> exact ⟨by decide, by decide⟩
theorem hexB_dig (j : Nat) (h : j < 16) : Dig (hexB j) := by
  rcases (show j = 0 ∨ j = 1 ∨ j = 2 ∨ j = 3 ∨ j = 4 ∨ j = 5 ∨ j = 6 ∨ j = 7 ∨ j = 8 ∨ j = 9 ∨ j = 10 ∨ j = 11 ∨ j = 12 ∨ j = 13 ∨ j = 14 ∨ j = 15 by omega) with rfl | rfl | rfl | rfl | rfl | rfl | rfl | rfl | rfl | rfl | rfl | rfl | rfl | rfl | rfl | rfl <;> exact ⟨by decide, by decide⟩
/-- THE DIGITS l OF THE NUMBER n, FROM BEHIND, with k left to be told. -/
structure Behind (dig : UInt8 → Option Nat) (base n k : Nat) (l : List UInt8) : Prop where
  val : ∃ v, (∀ a, numL dig base a l = some (a * base ^ l.length + v)) ∧ k * base ^ l.length + v = n
  digs : ∀ b ∈ l, Dig b
  room : ∃ m, k < 2 ^ m ∧ l.length + m ≤ 32 ∧ (m = 0 → l ≠ [])
theorem behind_nil (dig : UInt8 → Option Nat) (base n : Nat) (hn : n < 2 ^ 31) : Behind dig base n n [] :=
  ⟨⟨0, fun a => by simp [numL], by simp⟩, fun b hb => (by cases hb), ⟨31, hn, by decide, by omega⟩⟩
theorem behind_le {dig : UInt8 → Option Nat} {base n k : Nat} {l : List UInt8} (hb : 1 ≤ base) (h : Behind dig base n k l) : k ≤ n := by
  obtain ⟨v, _, hs⟩ := h.val
  have : 1 ≤ base ^ l.length := Nat.one_le_pow _ _ hb
  have h2 : k * 1 ≤ k * base ^ l.length := Nat.mul_le_mul_left k this
  omega
theorem behind_len {dig : UInt8 → Option Nat} {base n k : Nat} {l : List UInt8} (h : Behind dig base n k l) : l.length ≤ 32 := by
  obtain ⟨m, _, h2, _⟩ := h.room
  omega
theorem behind_next {dig : UInt8 → Option Nat} {base n k : Nat} {l : List UInt8} {c : UInt8} (hb : 2 ≤ base) (h : Behind dig base n k l) (hc : dig c = some (k % base)) (hd : Dig c) (hk : 0 < k ∨ l = []) : Behind dig base n (k / base) (c :: l) ∧ l.length < 32 := by
  obtain ⟨v, hv, hs⟩ := h.val
  obtain ⟨m, hm1, hm2, hm3⟩ := h.room
  obtain ⟨m, rfl⟩ : ∃ j, m = j + 1 := by
    refine ⟨m - 1, ?_⟩
    rcases Nat.eq_zero_or_pos m with h0 | h0
    · subst h0
      rcases hk with hk | hk
      · simp at hm1; omega
      · exact absurd hk (hm3 rfl)
    · omega
  refine ⟨⟨⟨(k % base) * base ^ l.length + v, fun a => ?_, ?_⟩, ?_, ⟨m, ?_, ?_, fun _ => by simp⟩⟩, by omega⟩
  · unfold numL
    rw [hc]
    show numL dig base (a * base + k % base) l = _
    rw [hv, List.length_cons, Nat.pow_succ]
    congr 1
    rw [Nat.add_mul, Nat.mul_assoc, Nat.mul_comm (base ^ l.length) base]
    omega
  · rw [List.length_cons, Nat.pow_succ]
    have e : (k / base) * (base ^ l.length * base) = (k / base * base) * base ^ l.length := by
      rw [Nat.mul_comm (base ^ l.length) base, Nat.mul_assoc]
    rw [e, ← Nat.add_assoc, ← Nat.add_mul]
    have e2 : k / base * base + k % base = k := by have := Nat.div_add_mod k base; rw [Nat.mul_comm] at this; exact this
    rw [e2]
    exact hs
  · intro b hbm
    rcases List.mem_cons.1 hbm with rfl | hbm
    · exact hd
    · exact h.digs b hbm
  · have h1 : k / base ≤ k / 2 := Nat.div_le_div_left hb (by decide)
    have h2 : k / 2 < 2 ^ m := by rw [Nat.div_lt_iff_lt_mul (by decide)]; rw [Nat.pow_succ] at hm1; exact hm1
    omega
  · rw [List.length_cons]; omega
theorem behind_done {dig : UInt8 → Option Nat} {base n : Nat} {l : List UInt8} (h : Behind dig base n 0 l) : numL dig base 0 l = some n := by
  obtain ⟨v, hv, hs⟩ := h.val
  rw [hv, hs]
theorem find_semi : ∀ (l : List UInt8), (∀ b ∈ l, b ≠ 59) → findL [59] (l ++ [59]) = some l.length
  | [], _ => rfl
  | b :: t, h => by
    have ih := find_semi t fun c hc => h c (List.mem_cons_of_mem _ hc)
    have hb : b ≠ 59 := h b List.mem_cons_self
    show (if swB [59] (b :: (t ++ [59])) = true then some 0 else (findL [59] (t ++ [59])).map (· + 1)) = _
    have hs : swB [59] (b :: (t ++ [59])) = false := by
      unfold swB
      simp only [List.isPrefixOf, Bool.and_true]
      exact beq_eq_false_iff_ne.2 (Ne.symm hb)
    rw [hs, if_neg (by simp), ih]
    rfl
theorem charRefL_of (d : List UInt8) (hd : d ≠ []) : charRefL (38 :: 35 :: (d ++ [59])) = refV d := by
  unfold charRefL
  have h1 : swB [38, 35] (38 :: 35 :: (d ++ [59])) = true := rfl
  have h2 : (38 :: 35 :: (d ++ [59])).getLast? = some (59 : UInt8) := by
    have : (38 :: 35 :: (d ++ [59]) : List UInt8) = (38 :: 35 :: d) ++ [59] := rfl
    rw [this, List.getLast?_append]
    rfl
  have h3 : 4 ≤ (38 :: 35 :: (d ++ [59]) : List UInt8).length := by
    have := List.length_pos_iff.2 hd
    simp
    omega
  rw [if_pos ⟨h1, h2, h3⟩]
  show refV ((d ++ [59]).dropLast) = _
  rw [List.dropLast_concat]
theorem refV_dec {n : Nat} {d : List UInt8} (hd : d ≠ []) (h : Behind decV 10 n 0 d) : refV d = if charB (n : Int) = true then some n else none := by
  have hv := behind_done h
  cases d with
  | nil => exact absurd rfl hd
  | cons b t =>
    have hb : b ≠ 120 := (h.digs b List.mem_cons_self).2
    have e : refV (b :: t) = (numL decV 10 0 (b :: t)).bind fun r => if charB (r : Int) = true then some r else none := by
      unfold refV
      split
      · rename_i h0; cases h0
      · rename_i h0; injection h0 with h0 _; exact absurd h0 hb
      · rename_i h0; injection h0 with h0 _; exact absurd h0 hb
      · rfl
    rw [e, hv]
    rfl
theorem refV_hex {n : Nat} {d : List UInt8} (h : Behind hexV 16 n 0 d) : refV (120 :: 48 :: 48 :: d) = if charB (n : Int) = true then some n else none := by
  have hv := behind_done h
  show (numL hexV 16 0 (48 :: 48 :: d)).bind _ = _
  have e : numL hexV 16 0 (48 :: 48 :: d) = numL hexV 16 0 d := rfl
  rw [e, hv]
  rfl
theorem next_ref {n : Nat} {d : List UInt8} (hd : d ≠ []) (h : Behind decV 10 n 0 d) : nextT (bytes (38 :: 35 :: (d ++ [59]))) 0 = if charB (n : Int) = true then (⟨7, ⟨#[]⟩, Utf8.encode (n : Int), [], false⟩, (d.length : Int) + 3, 0) else (tok0, 0, 2) := by
  have hsz : (bytes (38 :: 35 :: (d ++ [59]))).size = d.length + 3 := by
    show (38 :: 35 :: (d ++ [59]) : List UInt8).toArray.size = _
    rw [List.size_toArray]
    simp
  unfold nextT
  rw [if_neg (by rw [hsz]; omega), if_neg (by rw [hsz]; omega)]
  have hf : findL [59] (38 :: 35 :: (d ++ [59])) = some (d.length + 2) := find_semi (38 :: 35 :: d) (by
    intro b hb
    rcases List.mem_cons.1 hb with rfl | hb
    · decide
    · rcases List.mem_cons.1 hb with rfl | hb
      · decide
      · exact (h.digs b hb).1)
  have hn : nextL (38 :: 35 :: (d ++ [59])) = if charB (n : Int) = true then some (⟨7, ⟨#[]⟩, Utf8.encode (n : Int), [], false⟩, d.length + 3) else none := by
    have e : nextL (38 :: 35 :: (d ++ [59])) = refL (38 :: 35 :: (d ++ [59])) := rfl
    rw [e]
    unfold refL
    rw [hf]
    have ht : (38 :: 35 :: (d ++ [59]) : List UInt8).take (d.length + 2 + 1) = 38 :: 35 :: (d ++ [59]) := List.take_of_length_le (by simp)
    have hsw : swB [38, 35] (38 :: 35 :: (d ++ [59])) = true := rfl
    rw [Option.bind_some, if_pos hsw, ht, charRefL_of d hd, refV_dec hd h]
    by_cases hc : charB (n : Int) = true
    · rw [if_pos hc, if_pos hc]; rfl
    · rw [if_neg hc, if_neg hc]; rfl
  show (match nextL ((38 :: 35 :: (d ++ [59])).drop (0 : Int).toNat) with | none => (tok0, (0 : Int), (2 : Int)) | some (t, m) => (t, (0 : Int) + (m : Int), 0)) = _
  rw [show (38 :: 35 :: (d ++ [59]) : List UInt8).drop (0 : Int).toNat = 38 :: 35 :: (d ++ [59]) from rfl, hn]
  by_cases hc : charB (n : Int) = true
  · rw [if_pos hc, if_pos hc]
    show (_, (0 : Int) + ((d.length + 3 : Nat) : Int), (0 : Int)) = _
    congr 2
    omega
  · rw [if_neg hc, if_neg hc]
end Go.Proofs.YtcnomlhlellmiaaDoor
