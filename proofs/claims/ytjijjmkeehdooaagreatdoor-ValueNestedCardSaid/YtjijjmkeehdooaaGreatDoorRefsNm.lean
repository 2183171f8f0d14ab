/-
  LAYER 12: entities of one letter each (mathematics of the laws), and their row in memory.
-/
import Derived.Test.YtjijjmkeehdooaaGreatDoorRefsSaid
import Derived.KernelRfl
import Derived.Test.YtjijjmkeehdooaaGreatDoorBitNum
namespace Go.Proofs.YtjijjmkeehdooaaGreatDoor
open Go.RowKit

def nmL (i : Nat) : List UInt8 := [UInt8.ofNat (97 + i)]
def lettersB : ByteArray := ⟨#[97, 98, 99, 100, 101, 102, 103, 104, 105, 106, 107, 108, 109, 110, 111, 112, 113, 114, 115, 116]⟩
theorem letter12 : ∀ i, i < 20 → lettersB.extract i (i + 1) = bytes (nmL i) := by
  intro i hi
  have h : ∀ j : Fin 20, lettersB.extract j.val (j.val + 1) = bytes (nmL j.val) := by decide
  exact h ⟨i, hi⟩
theorem nmL_inj {i j : Nat} (hi : i < 20) (hj : j < 20) (h : nmL i = nmL j) : i = j := by
  unfold nmL at h
  injection h with h _
  have := congrArg UInt8.toNat h
  rw [UInt8.toNat_ofNat', UInt8.toNat_ofNat'] at this
  omega
theorem nmL_five (i : Nat) : fiveL (nmL i) = none := by unfold fiveL nmL; simp
theorem nmL_len (i : Nat) : (nmL i).length = 1 := rfl
/-- entities of one letter each -/
structure Lett (L : List EntD) : Prop where
  few : L.length ≤ 20
  name : ∀ j, j < L.length → (entI L j).name = nmL j
  ext : ∀ j, j < L.length → (entI L j).ext = false
  short : ∀ j, j < L.length → (entI L j).value.length ≤ 30
theorem entI_get {L : List EntD} {j : Nat} (h : j < L.length) : L[j] = entI L j := by simp [entI, List.getD, h]
theorem Lett.look {L : List EntD} (h : Lett L) {j : Nat} (hj : j < L.length) : lookE L (nmL j) = some (some (entI L j).value) := by
  unfold lookE
  rw [nmL_five, if_neg (by decide)]
  have hf : L.find? (fun e => decide (e.name = nmL j)) = some (entI L j) := by
    refine List.find?_eq_some_iff_getElem.2 ⟨by rw [h.name j hj]; exact decide_eq_true rfl, j, hj, entI_get hj, fun i hi => ?_⟩
    rw [entI_get (by omega), h.name i (by omega)]
    have := h.few
    rw [decide_eq_false (fun e => by have := nmL_inj (by omega) (by omega) e; omega)]
    rfl
  rw [hf]
  show some (if (entI L j).ext = true then none else some (entI L j).value) = _
  rw [h.ext j hj]; rfl
theorem Lett.fewR {L : List EntD} (h : Lett L) : FewR L := by
  refine ⟨by have := h.few; omega, fun e he => ?_⟩
  obtain ⟨j, hj, rfl⟩ := List.mem_iff_getElem.1 he
  rw [entI_get hj]
  have := h.short j hj
  rw [h.name j hj]
  exact ⟨by rw [nmL_len]; decide, by omega⟩
theorem Lett.next {L : List EntD} (h : Lett L) (hl : L.length < 20) (t : List UInt8) (ht : t.length ≤ 30) : Lett (L ++ [⟨nmL L.length, t, false⟩]) := by
  have hat : ∀ j, j < (L ++ [(⟨nmL L.length, t, false⟩ : EntD)]).length → (j < L.length ∧ entI (L ++ [⟨nmL L.length, t, false⟩]) j = entI L j) ∨ (j = L.length ∧ entI (L ++ [⟨nmL L.length, t, false⟩]) j = ⟨nmL L.length, t, false⟩) := by
    intro j hj
    rw [List.length_append] at hj
    by_cases e : j < L.length
    · exact Or.inl ⟨e, by simp [entI, List.getD, List.getElem?_append_left e]⟩
    · have e2 : j = L.length := by simp at hj; omega
      exact Or.inr ⟨e2, by subst e2; simp [entI, List.getD]⟩
  refine ⟨by simp; omega, fun j hj => ?_, fun j hj => ?_, fun j hj => ?_⟩
  · rcases hat j hj with ⟨a, b⟩ | ⟨a, b⟩
    · rw [b]; exact h.name j a
    · rw [b, a]
  · rcases hat j hj with ⟨a, b⟩ | ⟨a, b⟩
    · rw [b]; exact h.ext j a
    · rw [b]
  · rcases hat j hj with ⟨a, b⟩ | ⟨a, b⟩
    · rw [b]; exact h.short j a
    · rw [b]; exact ht
theorem lett_nil : Lett [] := ⟨by decide, fun j hj => (by cases hj), fun j hj => (by cases hj), fun j hj => (by cases hj)⟩
/-! ### steps -/
section
variable {L : List EntD} {o : List (List UInt8)} {n : Nat} {most : Int} {j : Nat}
theorem open_new (h : Lett L) (hj : j < L.length) (ho : nmL j ∉ o) (hm : ((n + (entI L j).value.length : Nat) : Int) ≤ most) :
    openT ⟨lookE L, o, n⟩ (nmL j) most = ((entI L j).value, 0) ∧ openS ⟨lookE L, o, n⟩ (nmL j) most = ⟨lookE L, o ++ [nmL j], n + (entI L j).value.length⟩ := by
  have e : ¬ most < (n : Int) + (entI L j).value.length := by omega
  unfold openT openS
  simp only [h.look hj, if_neg ho, if_neg e, and_self]
theorem open_full (h : Lett L) (hj : j < L.length) (ho : nmL j ∉ o) (hm : most < ((n + (entI L j).value.length : Nat) : Int)) :
    openT ⟨lookE L, o, n⟩ (nmL j) most = ([], 3) ∧ openS ⟨lookE L, o, n⟩ (nmL j) most = ⟨lookE L, o, n⟩ := by
  have e : most < (n : Int) + (entI L j).value.length := by omega
  unfold openT openS
  simp only [h.look hj, if_neg ho, if_pos e, and_self]
theorem open_old (h : Lett L) (hj : j < L.length) (ho : nmL j ∈ o) :
    openT ⟨lookE L, o, n⟩ (nmL j) most = ([], 1) ∧ openS ⟨lookE L, o, n⟩ (nmL j) most = ⟨lookE L, o, n⟩ := by
  unfold openT openS
  simp only [h.look hj, if_pos ho, and_self]
theorem close_last (f : List UInt8 → Option (Option (List UInt8))) (x : List UInt8) : closeB ⟨f, o ++ [x], n⟩ x = true ∧ closeS ⟨f, o ++ [x], n⟩ x = ⟨f, o, n⟩ := by
  unfold closeB closeS
  simp
theorem close_not (f : List UInt8 → Option (Option (List UInt8))) (x : List UInt8) (h : o.getLast? ≠ some x) : closeB ⟨f, o, n⟩ x = false ∧ closeS ⟨f, o, n⟩ x = ⟨f, o, n⟩ := by
  unfold closeB closeS
  exact ⟨decide_eq_false h, if_neg h⟩
end
/-- the first i names -/
def nms (i : Nat) : List (List UInt8) := (List.range i).map nmL
theorem nms_next (i : Nat) : nms (i + 1) = nms i ++ [nmL i] := by simp [nms, List.range_succ]
theorem nms_new (i : Nat) (hi : i < 20) : nmL i ∉ nms i := by
  intro h
  obtain ⟨j, hj, e⟩ := List.mem_map.1 h
  rw [List.mem_range] at hj
  have := nmL_inj (by omega) hi e
  omega
theorem nms_old (i j : Nat) (h : j < i) : nmL j ∈ nms i := List.mem_map.2 ⟨j, List.mem_range.2 h, rfl⟩
theorem nms_last (i j : Nat) (hi : i < 20) (h : j < i) : (nms (i + 1)).getLast? ≠ some (nmL j) := by
  rw [nms_next, List.getLast?_append]
  simp
  intro e
  have := nmL_inj hi (by omega) e
  omega
theorem nms_len (i : Nat) : (nms i).length = i := by simp [nms]
/-! ### their row -/
def OwnE (w : World) (base : Nat) (v : Value) (l : List EntD) : Prop := w.ownsRow base 26 3 v l.length (flatE l)
theorem ownE_next {w : World} {base : Nat} {v : Value} {l : List EntD} (e : EntD) (h : w.ownsRow base 26 3 v (l.length + 1) (flatE l ++ [.string (bytes e.name), .string (bytes e.value), .bool e.ext])) : OwnE w base v (l ++ [e]) := by
  unfold OwnE
  rw [List.length_append, show flatE (l ++ [e]) = flatE l ++ [.string (bytes e.name), .string (bytes e.value), .bool e.ext] by simp [flatE]]
  exact h
theorem ownE_slice {w : World} {base : Nat} {v : Value} {l : List EntD} (h : OwnE w base v l) : ∃ a cap, v = .slice a l.length cap := by
  rcases h.2 with ⟨rfl, hl⟩ | ⟨g, cap, cur, rfl, _⟩
  · exact ⟨none, 0, by rw [hl]⟩
  · exact ⟨_, cap, rfl⟩
theorem ownE_block {w : World} {base : Nat} {v : Value} {l : List EntD} (h : OwnE w base v l) : ∀ k, v.ownBlock = some k → base ≤ k := by
  intro k hk
  rcases h.2 with ⟨rfl, _⟩ | ⟨g, cap, cur, rfl, hg, _⟩
  · cases hk
  · simp only [Value.ownBlock, Option.some.injEq] at hk
    omega
end Go.Proofs.YtjijjmkeehdooaaGreatDoor
