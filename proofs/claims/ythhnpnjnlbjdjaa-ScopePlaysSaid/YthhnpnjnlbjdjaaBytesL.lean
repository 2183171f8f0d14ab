/-
  ROWS OF BYTES AS TEXTS.
-/
import Derived.Test.YthhnpnjnlbjdjaaChecked
import Derived.Laws.Strings
namespace Go.Proofs.Ythhnpnjnlbjdjaa

def bytes (l : List UInt8) : ByteArray := ⟨l.toArray⟩
theorem bytesL_len (x : List UInt8) : (bytes x).size = x.length := by show x.toArray.size = _; rw [List.size_toArray]
theorem bytesL_of (s : ByteArray) : bytes s.data.toList = s := rfl
theorem bytesL_inj {a b : List UInt8} (h : bytes a = bytes b) : a = b := congrArg (fun s : ByteArray => s.data.toList) h
theorem bytesL_toList (a : List UInt8) : (bytes a).toList = a := by
  rw [ByteArray.toList_eq]; rfl
/-- texts that are compared -/
theorem bytesL_ne {a b : List UInt8} (h : a ≠ b) : ((bytes a).toList == (bytes b).toList) = false := by
  rw [bytesL_toList, bytesL_toList]; exact beq_eq_false_iff_ne.2 h
theorem bytesL_eq (a : List UInt8) : ((bytes a).toList == (bytes a).toList) = true := by simp
end Go.Proofs.Ythhnpnjnlbjdjaa
