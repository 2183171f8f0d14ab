/-
  THE LANDED PACKAGE paren: what its searches find is what closes, begins, encloses; the bound on steps.
-/
import Derived.Test.YteecanaibkpmfaaRunPBefore
import Derived.Test.YteecanaibkpmfaaParBal
import Derived.Test.YteecanaibkpmfaaParSaid
namespace Go.Proofs.Yteecanaibkpmfaa

theorem told_close {xs : List Bool} (hm : mayL xs = true) {k : Nat} (hk : k < xs.length) (hb : xs.getD k false = true) {r : Int} (h : AftPost xs k (exc xs k) r) : r = closeL xs (k : Int) := by
  obtain ⟨c, g1, g2, g3, g4, g5, _⟩ := close_spec hm k hk hb
  rw [g3]
  rcases h with ⟨j, rfl, h1, h2, h3, h4⟩ | ⟨_, h4⟩
  · by_cases e1 : c < j
    · have := h4 c (by omega) e1 g2
      omega
    · by_cases e2 : j < c
      · have := g5 (j + 1) (by omega) (by omega)
        omega
      · omega
  · have := h4 c (by omega) g2 g2
    omega
theorem bef_is {xs : List Bool} {k b : Nat} {e : Int} (hk : k ≤ xs.length) (hbk : b ≤ k) (hb : exc xs b = e) (hx : ∀ x, b < x → x ≤ k → e < exc xs x) {r : Int} (h : BefPost xs k e r) : r + 1 = (b : Int) := by
  rcases h with ⟨j, rfl, h1, h2, h3⟩ | ⟨rfl, h3⟩
  · by_cases e1 : b < j + 1
    · have := hx (j + 1) e1 (by omega)
      omega
    · by_cases e2 : j + 1 < b
      · have := h3 (b - 1) (by omega) (by omega) (by omega)
        rw [show b - 1 + 1 = b by omega] at this
        omega
      · omega
  · by_cases e1 : b = 0
    · omega
    · have := h3 (b - 1) (by omega) (by omega) (by omega)
      rw [show b - 1 + 1 = b by omega] at this
      omega
theorem told_begin {xs : List Bool} (hm : mayL xs = true) {k : Nat} (hk : k < xs.length) (hb : xs.getD k false = false) {r : Int} (h : BefPost xs k (exc xs (k + 1)) r) : r + 1 = beginL xs (k : Int) := by
  obtain ⟨b, g1, g2, g3, g4, _⟩ := begin_spec hm k hk hb
  rw [g2]
  exact bef_is (by omega) (by omega) g3 (by rw [← g3]; exact g4) h
/-- levels up, said without them -/
theorem up_low {xs : List Bool} (hm : mayL xs = true) : ∀ (m k : Nat), k < xs.length → xs.getD k false = true → (m : Int) ≤ exc xs k →
    ∃ b : Nat, upGo xs m (k : Int) = (b : Int) ∧ b ≤ k ∧ exc xs b = exc xs k - m ∧ ∀ x, b < x → x ≤ k → exc xs k - m < exc xs x
  | 0, k, _, _, _ => ⟨k, rfl, Nat.le_refl _, by omega, fun x h1 h2 => by omega⟩
  | m + 1, k, hk, hb, hle => by
    obtain ⟨c, h1, h2, h3, h4, h5⟩ := enclose_spec hm k hk hb (by omega)
    obtain ⟨b, g1, g2, g3, g4⟩ := up_low hm m c (by omega) h5 (by omega)
    refine ⟨b, ?_, by omega, by omega, fun x hx hxk => ?_⟩
    · rw [upGo_step xs m (k : Int) (by omega), h2]
      exact g1
    · by_cases hc : x ≤ c
      · have := g4 x hx hc
        omega
      · have := h4 x (by omega) hxk
        omega
theorem told_up {xs : List Bool} (hm : mayL xs = true) {k m : Nat} (hk : k < xs.length) (hb : xs.getD k false = true) (hle : (m : Int) ≤ exc xs k) {r : Int} (h : BefPost xs k (exc xs k - (m : Int)) r) : r + 1 = upL xs (k : Int) (m : Int) := by
  obtain ⟨b, g1, g2, g3, g4⟩ := up_low hm m k hk hb hle
  rw [upL_nat (k : Int) m (open_nat hk hb).1, g1]
  exact bef_is (by omega) g2 g3 g4 h
theorem up_out {xs : List Bool} (hm : mayL xs = true) : ∀ (m k : Nat), k < xs.length → xs.getD k false = true → exc xs k < (m : Int) → upGo xs m (k : Int) = -1
  | 0, k, hk, _, h => by have := may_ge hm k (by omega); omega
  | m + 1, k, hk, hb, h => by
    rw [upGo_step xs m (k : Int) (by omega)]
    by_cases h0 : exc xs k = 0
    · rw [enclose_none hm k hk hb h0, upGo_neg xs m (-1) (by decide)]
    · obtain ⟨c, h1, h2, h3, _, h5⟩ := enclose_spec hm k hk hb h0
      rw [h2]
      exact up_out hm m c (by omega) h5 (by omega)
theorem told_out {xs : List Bool} (hm : mayL xs = true) {k m : Nat} (hk : k < xs.length) (hb : xs.getD k false = true) (hle : exc xs k < (m : Int)) : upL xs (k : Int) (m : Int) = -1 := by
  rw [upL_nat (k : Int) m (open_nat hk hb).1]
  exact up_out hm m k hk hb hle
theorem told_enclose (xs : List Bool) (k : Int) : upL xs k 1 = encloseL xs k := by
  cases h : openB xs k with
  | false =>
    rw [upL_none k 1 h]
    unfold encloseL
    rw [if_neg (by rw [h]; decide)]
  | true =>
    have h0 : ¬ k < 0 := by
      intro hk
      unfold openB at h
      rw [decide_eq_false (by omega : ¬ 0 ≤ k)] at h
      cases h
    rw [show (1 : Int) = ((1 : Nat) : Int) from rfl, upL_nat k 1 h, upGo_step xs 0 k h0]
    rfl
theorem isB_open (xs : List Bool) (k : Int) : isB xs k true = openB xs k := by
  unfold isB openB
  by_cases h : 0 ≤ k ∧ k < xs.length
  · rw [if_pos h, decide_eq_true h.1, decide_eq_true h.2]
    cases xs.getD k.toNat false <;> rfl
  · rw [if_neg h]
    by_cases h0 : 0 ≤ k
    · rw [decide_eq_false (fun h1 => h ⟨h0, h1⟩), Bool.false_and, Bool.and_false]
    · rw [decide_eq_false h0, Bool.false_and]
theorem isB_shut (xs : List Bool) (k : Int) : isB xs k false = shutB xs k := by
  unfold isB shutB
  by_cases h : 0 ≤ k ∧ k < xs.length
  · rw [if_pos h, decide_eq_true h.1, decide_eq_true h.2]
    cases xs.getD k.toNat false <;> rfl
  · rw [if_neg h]
    by_cases h0 : 0 ≤ k
    · rw [decide_eq_false (fun h1 => h ⟨h0, h1⟩), Bool.false_and, Bool.and_false]
    · rw [decide_eq_false h0, Bool.false_and]
/-- of what stands at k as it should, its place and sign -/
theorem isB_at {xs : List Bool} {k : Int} {b : Bool} (h : isB xs k b = true) : ∃ j : Nat, k = (j : Int) ∧ j < xs.length ∧ xs.getD j false = b := by
  unfold isB at h
  split at h
  · rename_i hk
    exact ⟨k.toNat, by omega, by omega, by simpa using h⟩
  · cases h
/-- THE BOUND ON STEPS. -/
theorem steps_few (n : Nat) (h : 1 ≤ n) : aftN n + 8 ≤ stepsN n := by
  have hw : widthN n = n.log2 + 1 := if_neg (by omega)
  unfold aftN stepsN
  rw [hw]
  have h5 : 64 ≤ n → 6 ≤ n.log2 := fun h => (Nat.le_log2 (by omega)).2 h
  have h7 : 128 ≤ n → 7 ≤ n.log2 := fun h => (Nat.le_log2 (by omega)).2 h
  split
  · by_cases h6 : 64 ≤ n
    · have := h5 h6
      omega
    · omega
  · have := h7 (by omega)
    omega
end Go.Proofs.Yteecanaibkpmfaa
