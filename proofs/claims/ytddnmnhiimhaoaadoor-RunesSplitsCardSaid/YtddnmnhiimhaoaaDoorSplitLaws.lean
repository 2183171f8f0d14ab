/-
  PLAIN MATHEMATICS, MORE: two texts with a colon between, and how they split.
-/
import Derived.Test.YtddnmnhiimhaoaaDoorNameLaws
namespace Go.Proofs.YtddnmnhiimhaoaaDoor
open Go Go.Lib

def joinC (a b : ByteArray) : ByteArray := a ++ ⟨#[58]⟩ ++ b
theorem joinC_list (a b : ByteArray) : (joinC a b).data.toList = a.data.toList ++ 58 :: b.data.toList := by
  unfold joinC
  simp [ByteArray.data_append]
theorem joinC_size (a b : ByteArray) : (joinC a b).size = a.size + 1 + b.size := by
  rw [size_eq, joinC_list, List.length_append, List.length_cons, ← size_eq, ← size_eq]; omega
theorem bytes_ext {a b : ByteArray} (h : a.data.toList = b.data.toList) : a = b := by
  cases a; cases b; congr 1; exact Array.toList_inj.1 h
theorem extract_list (s : ByteArray) (i j : Nat) : (s.extract i j).data.toList = (s.data.toList.drop i).take (j - i) := by
  rw [ByteArray.data_extract, Array.toList_extract]
theorem joinC_left (a b : ByteArray) : (joinC a b).extract 0 a.size = a := by
  apply bytes_ext
  rw [extract_list, joinC_list, List.drop_zero, Nat.sub_zero, size_eq, List.take_left]
theorem joinC_right (a b : ByteArray) : (joinC a b).extract (a.size + 1) (joinC a b).size = b := by
  apply bytes_ext
  rw [extract_list, joinC_size, joinC_list]
  rw [show a.data.toList ++ 58 :: b.data.toList = (a.data.toList ++ [58]) ++ b.data.toList by simp]
  rw [List.drop_append_of_le_length (by simp), List.drop_of_length_le (by simp), List.nil_append]
  exact List.take_of_length_le (by rw [← size_eq]; omega)

theorem colon_iff (s : ByteArray) : colonB s = true ↔ ∃ k : Nat, s.data.toList[k]? = some 58 := by
  constructor
  · intro h
    have h := of_decide_eq_true h
    obtain ⟨o, ho⟩ := Int.eq_ofNat_of_zero_le h
    exact ⟨o, (indexByte_some ho).1⟩
  · rintro ⟨k, hk⟩
    have hge := indexByte_ge s.data.toList 58
    have hnn : indexByte s.data.toList 58 ≠ -1 := fun e => indexByte_none e k hk
    exact decide_eq_true (by omega)
theorem colonAt_is (s : ByteArray) (k : Nat) (h1 : s.data.toList[k]? = some 58) (h2 : ∀ j, j < k → s.data.toList[j]? ≠ some 58) : colonB s = true ∧ colonAt s = k := by
  have hlt : k < s.size := by
    have := (List.getElem?_eq_some_iff.1 h1).1
    simpa using this
  refine colon_at s k hlt h2 ?_
  rw [at_byte s k hlt] at h1
  rw [Option.some.inj h1]; rfl
theorem colonAt_spec (s : ByteArray) (h : colonB s = true) : s.data.toList[colonAt s]? = some 58 ∧ ∀ j, j < colonAt s → s.data.toList[j]? ≠ some 58 := by
  have h := of_decide_eq_true h
  obtain ⟨o, ho⟩ := Int.eq_ofNat_of_zero_le h
  have e : colonAt s = o := by unfold colonAt; omega
  rw [e]
  exact indexByte_some ho
theorem nc_colon (s : ByteArray) (hc : colonB s = true) : ncB s = false := by
  unfold ncB; rw [hc]; cases nameB s <;> rfl

/-- TWO TEXTS WITH A COLON BETWEEN SPLIT INTO THESE JUST IF BOTH ARE NAMES WITHOUT ONE. -/
theorem splitV_join (a b : ByteArray) : splitV (joinC a b) = if (ncB a && ncB b) = true then (a, b, true) else (⟨#[]⟩, ⟨#[]⟩, false) := by
  by_cases hc : colonB a = true
  · rw [nc_colon a hc, Bool.false_and, if_neg (by decide)]
    obtain ⟨h1, h2⟩ := colonAt_spec a hc
    have hlt := colonAt_lt a hc
    have g : ∀ j, j < a.size → (joinC a b).data.toList[j]? = a.data.toList[j]? := fun j hj => by
      rw [joinC_list, List.getElem?_append_left (by rw [← size_eq]; exact hj)]
    obtain ⟨e1, e2⟩ := colonAt_is (joinC a b) (colonAt a) (by rw [g _ hlt]; exact h1) (fun j hj => by rw [g _ (by omega)]; exact h2 j hj)
    have hr : ncB ((joinC a b).extract (colonAt a + 1) (joinC a b).size) = false := by
      apply nc_colon
      rw [colon_iff]
      refine ⟨a.size - (colonAt a + 1), ?_⟩
      rw [extract_list, List.getElem?_take, if_pos (by rw [joinC_size]; omega), List.getElem?_drop, joinC_list,
        List.getElem?_append_right (by rw [← size_eq]; omega), ← size_eq]
      rw [show colonAt a + 1 + (a.size - (colonAt a + 1)) - a.size = 0 by omega]
      rfl
    unfold splitV
    rw [if_pos e1, e2, if_neg]
    rintro ⟨_, h⟩
    rw [hr] at h; cases h
  · have hn : ∀ j, j < a.size → (joinC a b).data.toList[j]? ≠ some 58 := fun j hj e => by
      rw [joinC_list, List.getElem?_append_left (by rw [← size_eq]; exact hj)] at e
      exact hc ((colon_iff a).2 ⟨j, e⟩)
    obtain ⟨e1, e2⟩ := colonAt_is (joinC a b) a.size (by
      rw [joinC_list, List.getElem?_append_right (by rw [← size_eq]; omega), ← size_eq, Nat.sub_self]; rfl) hn
    unfold splitV
    rw [if_pos e1, e2, joinC_left, joinC_right]
    cases ncB a <;> cases ncB b <;> rfl
theorem nameB_join (a b : ByteArray) (ha : ncB a = true) (hb : ncB b = true) : nameB (joinC a b) = true := by
  have h1 : nameB a = true := by unfold ncB at ha; simp only [Bool.and_eq_true] at ha; exact ha.1
  have h2 : nameB b = true := by unfold ncB at hb; simp only [Bool.and_eq_true] at hb; exact hb.1
  rw [nameB_list, Bool.and_eq_true] at h1 h2
  rw [nameB_list, joinC_list, Bool.and_eq_true]
  refine ⟨decide_eq_true (by simp), ?_⟩
  rw [okL_append _ true _ _ (Nat.le_refl _) h1.2, okL_ascii _ 58 _ (by decide), okL_weak _ h2.2]
  have hne : a.data.toList.isEmpty = false := by
    have := of_decide_eq_true h1.1
    cases h : a.data.toList
    · exact absurd h this
    · rfl
  rw [hne]
  decide

/-- has a text one colon and two names? -/
def splitsB (s : ByteArray) : Bool := colonB s && (ncB (s.extract 0 (colonAt s)) && ncB (s.extract (colonAt s + 1) s.size))
theorem splitV_is (s : ByteArray) : (splitV s).2.2 = (ncB s || splitsB s) := by
  unfold splitV splitsB
  cases hc : colonB s
  · rw [if_neg (by decide)]
    cases h : ncB s <;> rfl
  · rw [if_pos rfl, nc_colon s hc]
    cases ncB (s.extract 0 (colonAt s)) <;> cases ncB (s.extract (colonAt s + 1) s.size) <;> rfl
theorem splitV_one (s : ByteArray) (h : ncB s = true) : splitV s = (⟨#[]⟩, s, true) := by
  have hc : colonB s = false := by
    cases hc : colonB s
    · rfl
    · rw [nc_colon s hc] at h; cases h
  unfold splitV
  rw [hc, h]; rfl
end Go.Proofs.YtddnmnhiimhaoaaDoor
