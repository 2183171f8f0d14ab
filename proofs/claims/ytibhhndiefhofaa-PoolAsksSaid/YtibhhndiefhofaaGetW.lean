/-
  WHAT IS TOLD OF A PLACE OF A LIST OF INTS.
-/
namespace Go.Proofs.Ytibhhndiefhofaa

def getW (xs : List Int) (k : Int) : Int := if 0 ≤ k ∧ k < xs.length then xs.getD k.toNat 0 else 0
def getWE (xs : List Int) (k : Int) : Int := if 0 ≤ k ∧ k < xs.length then 0 else 4
theorem getW_at (xs : List Int) (k : Nat) (h : k < xs.length) : getW xs (k : Int) = xs.getD k 0 := by
  unfold getW
  rw [if_pos (by omega), Int.toNat_natCast]
theorem getWE_at (xs : List Int) (k : Nat) (h : k < xs.length) : getWE xs (k : Int) = 0 := by
  unfold getWE
  rw [if_pos (by omega)]
theorem getW_out (xs : List Int) (k : Int) (h : ¬ (0 ≤ k ∧ k < xs.length)) : getW xs k = 0 := by unfold getW; rw [if_neg h]
theorem getWE_out (xs : List Int) (k : Int) (h : ¬ (0 ≤ k ∧ k < xs.length)) : getWE xs k = 4 := by unfold getWE; rw [if_neg h]
end Go.Proofs.Ytibhhndiefhofaa
