/-
  PLAIN MATHEMATICS FOR LAYER 7 (places that rise).
-/
import Derived.Test.YtibhhndiefhofaaBitLaws
import Derived.Test.YtibhhndiefhofaaIntLaws
import Derived.Test.YtibhhndiefhofaaGetW
namespace Go.Proofs.Ytibhhndiefhofaa

/-- none less than the one ahead, the last at most 2^23 -/
def mayO (last : Int) : List Int → Bool
  | [] => decide (last ≤ 8388608)
  | x :: t => decide (last ≤ x) && mayO x t
def mayOffs (xs : List Int) : Bool := mayO 0 xs
def lastN (xs : List Int) : Nat := (xs.getD (xs.length - 1) 0).toNat
/-- how many low bits each keeps apart -/
def lowN (xs : List Int) : Nat := widthN (lastN xs / xs.length) - 1
def offsN (xs : List Int) : Nat := if xs.length = 0 then bitsN 1 else intsN xs.length (lowN xs) + bitsN (xs.length + lastN xs / 2 ^ lowN xs + 1)

/-! ### rows that rise -/
/-- from a on it rises, and ends in b -/
def Rise (a : Int) : List Int → Int → Prop
  | [], b => a = b
  | x :: t, b => a ≤ x ∧ Rise x t b
theorem rise_append : ∀ {xs : List Int} {a b y : Int}, Rise a xs b → b ≤ y → Rise a (xs ++ [y]) y
  | [], a, b, y, h, hy => by
    have h : a = b := h
    exact ⟨by omega, rfl⟩
  | _ :: _, _, _, _, h, hy => ⟨h.1, rise_append h.2 hy⟩
theorem rise_may : ∀ {xs : List Int} {a b : Int}, Rise a xs b → b ≤ 8388608 → mayO a xs = true
  | [], a, b, h, hb => by
    have h : a = b := h
    exact decide_eq_true (by omega)
  | x :: t, a, b, h, hb => by
    show (decide (a ≤ x) && mayO x t) = true
    rw [decide_eq_true h.1, rise_may h.2 hb]
    rfl
theorem may_rise : ∀ {xs : List Int} {a : Int}, mayO a xs = true → ∃ b, Rise a xs b ∧ b ≤ 8388608
  | [], a, h => ⟨a, rfl, of_decide_eq_true h⟩
  | x :: t, a, h => by
    have h : (decide (a ≤ x) && mayO x t) = true := h
    rw [Bool.and_eq_true] at h
    obtain ⟨b, h1, h2⟩ := may_rise h.2
    exact ⟨b, ⟨of_decide_eq_true h.1, h1⟩, h2⟩
theorem rise_le : ∀ {xs : List Int} {a b : Int}, Rise a xs b → a ≤ b
  | [], _, _, h => Int.le_of_eq h
  | _ :: _, _, _, h => Int.le_trans h.1 (rise_le h.2)
theorem rise_mem : ∀ {xs : List Int} {a b : Int}, Rise a xs b → ∀ x ∈ xs, a ≤ x ∧ x ≤ b
  | y :: t, a, b, h, x, hx => by
    rcases List.mem_cons.1 hx with rfl | hx
    · exact ⟨h.1, rise_le h.2⟩
    · have := rise_mem h.2 x hx
      have := h.1
      omega
theorem rise_last : ∀ {xs : List Int} {a b : Int}, Rise a xs b → xs.length ≠ 0 → xs.getD (xs.length - 1) 0 = b
  | [], _, _, _, hn => absurd rfl hn
  | [x], a, b, h, _ => h.2
  | x :: y :: t, a, b, h, _ => by
    have := rise_last (xs := y :: t) h.2 (by simp)
    simpa using this
theorem may_mem {xs : List Int} (h : mayOffs xs = true) : ∀ x ∈ xs, 0 ≤ x ∧ x ≤ 8388608 := by
  obtain ⟨b, h1, h2⟩ := may_rise h
  intro x hx
  have := rise_mem h1 x hx
  omega
theorem mayO_drop (xs : List Int) (last : Int) (j : Nat) (x : Int) (h : j < xs.length) (hx : xs.getD j 0 = x) : mayO last (xs.drop j) = (decide (last ≤ x) && mayO x (xs.drop (j + 1))) := by
  have e : xs[j]'h = x := by rw [← hx]; simp [List.getD, List.getElem?_eq_getElem h]
  rw [List.drop_eq_getElem_cons h, e]
  rfl
theorem last_le {xs : List Int} (h : mayOffs xs = true) : lastN xs ≤ 8388608 := by
  unfold lastN
  by_cases h0 : xs.length = 0
  · have : xs = [] := List.eq_nil_of_length_eq_zero h0
    subst this; decide
  · have hm : xs.getD (xs.length - 1) 0 ∈ xs := by
      have hl : xs.length - 1 < xs.length := by omega
      simp only [List.getD, List.getElem?_eq_getElem hl, Option.getD_some]
      exact List.getElem_mem hl
    have := may_mem h _ hm
    omega
theorem last_int {xs : List Int} (h : mayOffs xs = true) (hn : xs.length ≠ 0) : xs.getD (xs.length - 1) 0 = (lastN xs : Int) := by
  unfold lastN
  have hl : xs.length - 1 < xs.length := by omega
  have hm : xs.getD (xs.length - 1) 0 ∈ xs := by
    simp only [List.getD, List.getElem?_eq_getElem hl, Option.getD_some]
    exact List.getElem_mem hl
  have := may_mem h _ hm
  omega
theorem low_le {xs : List Int} (h : mayOffs xs = true) : lowN xs ≤ 23 := by
  have h1 := last_le h
  have h2 : lastN xs / xs.length ≤ lastN xs := Nat.div_le_self _ _
  have h3 := widthN_le (lastN xs / xs.length) 24 (by omega)
  unfold lowN
  omega
/-! ### the low bits are so many that the upper parts are few -/
theorem low_few (len last low : Nat) (hl : 0 < len) (h : low = widthN (last / len) - 1) : last / 2 ^ low < 2 * len ∧ (low = 0 ∨ len ≤ last / 2 ^ low) := by
  have hp : 0 < 2 ^ low := Nat.two_pow_pos low
  by_cases hq : last / len = 0
  · have h0 : low = 0 := by rw [h, hq, widthN_zero]
    subst h0
    have : last < len := (Nat.div_eq_zero_iff_lt hl).1 hq
    rw [Nat.pow_zero, Nat.div_one]
    exact ⟨by omega, Or.inl rfl⟩
  · have h1 := widthN_lt (last / len)
    have h2 := widthN_ge (last / len) hq
    have h3 : 0 < widthN (last / len) := by
      unfold widthN
      rw [if_neg hq]
      omega
    rw [← h] at h2
    rw [show widthN (last / len) = low + 1 by omega] at h1
    constructor
    · rw [Nat.div_lt_iff_lt_mul hp]
      have h4 : last < len * 2 ^ (low + 1) := by
        have h5 := Nat.lt_mul_div_succ last hl
        have h6 : len * (last / len + 1) ≤ len * 2 ^ (low + 1) := Nat.mul_le_mul_left len h1
        omega
      rw [Nat.pow_succ] at h4
      calc last < len * (2 ^ low * 2) := h4
        _ = 2 * len * 2 ^ low := by rw [Nat.mul_comm (2 ^ low) 2, ← Nat.mul_assoc, Nat.mul_comm len 2]
    · refine Or.inr ((Nat.le_div_iff_mul_le hp).2 ?_)
      have h5 : len * 2 ^ low ≤ len * (last / len) := Nat.mul_le_mul_left len h2
      have h6 : len * (last / len) ≤ last := Nat.mul_div_le last len
      omega
theorem offs_few {xs : List Int} (hl : xs.length ≤ 1000) : offsN xs ≤ xs.length * (lowN xs + 7) + 700 := by
  unfold offsN
  by_cases h0 : xs.length = 0
  · rw [if_pos h0]
    have : bitsN 1 = 112 := by decide
    omega
  · rw [if_neg h0]
    have h1 := (low_few xs.length (lastN xs) (lowN xs) (by omega) rfl).1
    have h2 := bitsN_le (xs.length + lastN xs / 2 ^ lowN xs + 1)
    have h3 : intsN xs.length (lowN xs) ≤ xs.length * lowN xs + 63 := by unfold intsN begunN; omega
    rw [Nat.mul_add]
    omega
theorem offs_small {xs : List Int} (h : mayOffs xs = true) (hl : xs.length ≤ 4194304) : offsN xs ≤ 4294967296 := by
  unfold offsN
  by_cases h0 : xs.length = 0
  · rw [if_pos h0]; decide
  · rw [if_neg h0]
    have h1 := (low_few xs.length (lastN xs) (lowN xs) (by omega) rfl).1
    have h2 := bitsN_le (xs.length + lastN xs / 2 ^ lowN xs + 1)
    have h4 : xs.length * lowN xs ≤ 4194304 * 23 := Nat.mul_le_mul hl (low_le h)
    have h3 : intsN xs.length (lowN xs) ≤ xs.length * lowN xs + 63 := by unfold intsN begunN; omega
    omega
end Go.Proofs.Ytibhhndiefhofaa
