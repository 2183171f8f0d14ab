/-
  THE LANDED PACKAGE scope: All.
-/
import Derived.Test.YthhnpnjnlbjdjaaRunSPush
import Derived.Test.YthhnpnjnlbjdjaaScIter
import Derived.Test.YthhnpnjnlbjdjaaScAts
import Derived.Deep.LoopGhost
namespace Go.Proofs.Ythhnpnjnlbjdjaa
open Go.RowKit

theorem names_sorted (S : List (List Bd)) : (allN S).mergeSort leB = allN S := by
  refine List.mergeSort_of_pairwise ((sorted_allN S).imp fun {a b} h => ?_)
  simp only [leB, decide_eq_true_eq]
  exact List.le_of_lt h
/-- what is told of the first names -/
def toldB (S : List (List Bd)) (i : Nat) : List At4 := (((allN S).take i).filterMap (boundB S)).map declA
theorem told_len (S : List (List Bd)) (i : Nat) : (toldB S i).length ≤ i := by
  unfold toldB
  rw [List.length_map]
  exact Nat.le_trans (List.length_filterMap_le _ _) (by rw [List.length_take]; omega)
theorem told_next (S : List (List Bd)) (i : Nat) (hi : i < (allN S).length) (p : Nm) (hp : (allN S)[i] = p) : toldB S (i + 1) = toldB S i ++ (match boundB S p with | none => [] | some b => [declA b]) := by
  unfold toldB
  rw [List.take_succ_eq_append_getElem hi, hp, List.filterMap_append, List.map_append]
  congr 1
  cases hb : boundB S p <;> simp [hb]
theorem told_all (S : List (List Bd)) : toldB S (allN S).length = (allS S).map declA := by
  unfold toldB allS
  rw [List.take_length]
end Go.Proofs.Ythhnpnjnlbjdjaa
