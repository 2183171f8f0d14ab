/-
  PLAIN MATHEMATICS FOR THE LANDED PACKAGE pool: texts side by side, and where each begins.
-/
import Derived.Test.YtibhhndiefhofaaPoolLaws
namespace Go.Proofs.Ytibhhndiefhofaa

/-- all texts as one -/
def joinL (ss : List ByteArray) : List UInt8 := (ss.map (fun s => s.data.toList)).flatten
def joinT (ss : List ByteArray) : ByteArray := ⟨(joinL ss).toArray⟩
theorem joinL_length (ss : List ByteArray) : (joinL ss).length = bytesN ss := by
  induction ss with
  | nil => rfl
  | cons s t ih =>
    have e : joinL (s :: t) = s.data.toList ++ joinL t := by simp [joinL]
    rw [e, List.length_append, ih]
    show s.data.toList.length + bytesN t = s.size + bytesN t
    rw [Array.length_toList]; rfl
theorem joinL_append (a b : List ByteArray) : joinL (a ++ b) = joinL a ++ joinL b := by simp [joinL]
theorem joinL_next (ss : List ByteArray) (k : Nat) (s : ByteArray) (h : k < ss.length) (hs : ss.getD k ⟨#[]⟩ = s) : joinL (ss.take (k + 1)) = joinL (ss.take k) ++ s.data.toList := by
  have e : ss[k]'h = s := by rw [← hs]; simp [List.getD, List.getElem?_eq_getElem h]
  rw [List.take_succ_eq_append_getElem h, joinL_append, e]
  simp [joinL]
theorem joinT_size (ss : List ByteArray) : (joinT ss).size = bytesN ss := by
  rw [← joinL_length]
  show (joinL ss).toArray.size = _
  rw [List.size_toArray]
/-- WHAT STANDS BETWEEN TWO PLACES IS THE TEXT. -/
theorem joinT_extract (ss : List ByteArray) (k : Nat) (s : ByteArray) (h : k < ss.length) (hs : ss.getD k ⟨#[]⟩ = s) : (joinT ss).extract (bytesTo ss k) (bytesTo ss (k + 1)) = s := by
  have e1 : joinL ss = joinL (ss.take k) ++ (s.data.toList ++ joinL (ss.drop (k + 1))) := by
    rw [← List.append_assoc, ← joinL_next ss k s h hs, ← joinL_append, List.take_append_drop]
  have e2 : (joinL (ss.take k)).length = bytesTo ss k := joinL_length _
  have e3 : bytesTo ss (k + 1) = bytesTo ss k + s.data.toList.length := bytesTo_next ss k s h hs
  apply ByteArray.ext
  apply Array.ext'
  rw [ByteArray.data_extract]
  show ((joinL ss).toArray.extract _ _).toList = _
  rw [Array.toList_extract, e1, e3, ← e2, List.extract_eq_take_drop, Nat.add_sub_cancel_left, List.drop_left, List.take_left]
theorem bytesTo_none (ss : List ByteArray) : bytesTo ss 0 = 0 := rfl
theorem bytesTo_mono (ss : List ByteArray) (k : Nat) (h : k < ss.length) : bytesTo ss k ≤ bytesTo ss (k + 1) := by
  rw [bytesTo_next ss k _ h rfl]; omega
theorem begFrom_at : ∀ (ss : List ByteArray) (a k : Nat), k ≤ ss.length → (begFrom a ss).getD k 0 = ((a + bytesTo ss k : Nat) : Int)
  | [], a, 0, _ => rfl
  | s :: t, a, 0, _ => rfl
  | s :: t, a, k + 1, h => by
    have := begFrom_at t (a + s.size) k (by simpa using h)
    show (begFrom (a + s.size) t).getD k 0 = _
    rw [this]
    unfold bytesTo
    simp only [List.take_succ_cons, bytesN]
    omega
theorem beg_at (ss : List ByteArray) (k : Nat) (h : k ≤ ss.length) : (begFrom 0 ss).getD k 0 = (bytesTo ss k : Int) := by
  rw [begFrom_at ss 0 k h, Nat.zero_add]
end Go.Proofs.Ytibhhndiefhofaa
