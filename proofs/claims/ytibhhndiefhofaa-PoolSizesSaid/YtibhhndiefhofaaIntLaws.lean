/-
  PLAIN MATHEMATICS FOR LAYER 4 (numbers of one width).
-/
import Derived.Test.YtibhhndiefhofaaBitLaws
namespace Go.Proofs.Ytibhhndiefhofaa

/-- how many bits a number has -/
def widthN (n : Nat) : Nat := if n = 0 then 0 else n.log2 + 1
theorem widthN_zero : widthN 0 = 0 := rfl
theorem widthN_half (n : Nat) (h : 0 < n) : widthN n = widthN (n / 2) + 1 := by
  unfold widthN
  rw [if_neg (by omega)]
  by_cases h2 : n / 2 = 0
  · rw [if_pos h2]
    have : n = 1 := by omega
    subst this; decide
  · rw [if_neg h2]
    rw [Nat.log2_def, if_pos (by omega)]
theorem widthN_lt (n : Nat) : n < 2 ^ widthN n := by
  unfold widthN
  split
  · rename_i h; subst h; decide
  · exact Nat.lt_log2_self
theorem widthN_ge (n : Nat) (h : n ≠ 0) : 2 ^ (widthN n - 1) ≤ n := by
  unfold widthN
  rw [if_neg h]
  exact Nat.log2_self_le h
theorem widthN_le (n k : Nat) (h : n < 2 ^ k) : widthN n ≤ k := by
  unfold widthN
  split
  · omega
  · rename_i hn
    have := (Nat.log2_lt hn).2 h
    omega
theorem widthN_64 (n : Nat) (h : n ≤ 18446744073709551615) : widthN n ≤ 64 := widthN_le n 64 (by omega)
/-- of all of these -/
def widestN : List Nat → Nat
  | [] => 0
  | n :: t => max (widthN n) (widestN t)
def widestTo (l : List Nat) (k : Nat) : Nat := widestN (l.take k)
theorem widestN_append (a b : List Nat) : widestN (a ++ b) = max (widestN a) (widestN b) := by
  induction a with
  | nil => simp [widestN]
  | cons n t ih => simp only [List.cons_append, widestN, ih]; omega
def intsN (n width : Nat) : Nat := 64 * begunN (n * width) 64
end Go.Proofs.Ytibhhndiefhofaa
