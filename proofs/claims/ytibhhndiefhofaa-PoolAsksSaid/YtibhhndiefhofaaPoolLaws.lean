/-
  PLAIN MATHEMATICS FOR LAYER 8 (texts).
-/
import Derived.Test.YtibhhndiefhofaaOffLaws
namespace Go.Proofs.Ytibhhndiefhofaa

/-- how many bytes in all -/
def bytesN : List ByteArray → Nat
  | [] => 0
  | s :: t => s.size + bytesN t
def bytesTo (ss : List ByteArray) (k : Nat) : Nat := bytesN (ss.take k)
/-- where each begins, and where the last ends, from at on -/
def begFrom (at' : Nat) : List ByteArray → List Int
  | [] => [(at' : Int)]
  | s :: t => (at' : Int) :: begFrom (at' + s.size) t
def poolN (ss : List ByteArray) : Nat := offsN (begFrom 0 ss)
def getS (ss : List ByteArray) (k : Int) : ByteArray := if 0 ≤ k ∧ k < ss.length then ss.getD k.toNat ⟨#[]⟩ else ⟨#[]⟩
def getSE (ss : List ByteArray) (k : Int) : Int := if 0 ≤ k ∧ k < ss.length then 0 else 4
theorem getS_at (ss : List ByteArray) (k : Nat) (h : k < ss.length) : getS ss (k : Int) = ss.getD k ⟨#[]⟩ := by
  unfold getS
  rw [if_pos (by omega), Int.toNat_natCast]
theorem getSE_at (ss : List ByteArray) (k : Nat) (h : k < ss.length) : getSE ss (k : Int) = 0 := by
  unfold getSE
  rw [if_pos (by omega)]
theorem getS_out (ss : List ByteArray) (k : Int) (h : ¬ (0 ≤ k ∧ k < ss.length)) : getS ss k = ⟨#[]⟩ := by unfold getS; rw [if_neg h]
theorem getSE_out (ss : List ByteArray) (k : Int) (h : ¬ (0 ≤ k ∧ k < ss.length)) : getSE ss k = 4 := by unfold getSE; rw [if_neg h]
theorem getSE_in (ss : List ByteArray) (k : Int) (h : 0 ≤ k ∧ k < ss.length) : getSE ss k = 0 := by unfold getSE; rw [if_pos h]

theorem bytesN_append (a b : List ByteArray) : bytesN (a ++ b) = bytesN a + bytesN b := by
  induction a with
  | nil => simp [bytesN]
  | cons s t ih => simp only [List.cons_append, bytesN, ih]; omega
theorem bytesTo_next (ss : List ByteArray) (k : Nat) (s : ByteArray) (h : k < ss.length) (hs : ss.getD k ⟨#[]⟩ = s) : bytesTo ss (k + 1) = bytesTo ss k + s.size := by
  have e : ss[k]'h = s := by rw [← hs]; simp [List.getD, List.getElem?_eq_getElem h]
  unfold bytesTo
  rw [List.take_succ_eq_append_getElem h, bytesN_append, e]
  simp [bytesN]
theorem bytesTo_all (ss : List ByteArray) : bytesTo ss ss.length = bytesN ss := by unfold bytesTo; rw [List.take_length]
theorem bytesTo_le (ss : List ByteArray) (k : Nat) : bytesTo ss k ≤ bytesN ss := by
  have := bytesN_append (ss.take k) (ss.drop k)
  rw [List.take_append_drop] at this
  unfold bytesTo
  omega
theorem bytesN_le (ss : List ByteArray) (m : Nat) (h : ∀ s ∈ ss, s.size ≤ m) : bytesN ss ≤ ss.length * m := by
  induction ss with
  | nil => simp [bytesN]
  | cons s t ih =>
    have h1 := h s (by simp)
    have h2 := ih fun x hx => h x (by simp [hx])
    simp only [bytesN, List.length_cons, Nat.add_mul, Nat.one_mul]
    omega
theorem begFrom_length : ∀ (ss : List ByteArray) (a : Nat), (begFrom a ss).length = ss.length + 1
  | [], _ => rfl
  | s :: t, a => by simp only [begFrom, List.length_cons, begFrom_length t]
theorem begFrom_rise : ∀ (ss : List ByteArray) (a : Nat) (z : Int), z ≤ a → Rise z (begFrom a ss) ((a + bytesN ss : Nat) : Int)
  | [], a, z, h => ⟨h, rfl⟩
  | s :: t, a, z, h => by
    refine ⟨h, ?_⟩
    have := begFrom_rise t (a + s.size) (a : Int) (by omega)
    rw [show a + s.size + bytesN t = a + bytesN (s :: t) by simp only [bytesN]; omega] at this
    exact this
theorem begFrom_may (ss : List ByteArray) (h : bytesN ss ≤ 8388608) : mayOffs (begFrom 0 ss) = true :=
  rise_may (begFrom_rise ss 0 0 (by omega)) (by omega)
theorem begFrom_drop (ss : List ByteArray) (a k : Nat) (s : ByteArray) (h : k < ss.length) (hs : ss.getD k ⟨#[]⟩ = s) : begFrom a (ss.drop k) = (a : Int) :: begFrom (a + s.size) (ss.drop (k + 1)) := by
  have e : ss[k]'h = s := by rw [← hs]; simp [List.getD, List.getElem?_eq_getElem h]
  rw [List.drop_eq_getElem_cons h, e]
  rfl
/-- SIZES HANG ON HOW LONG TEXTS ARE. -/
theorem begFrom_congr : ∀ (a b : List ByteArray) (n : Nat), a.map ByteArray.size = b.map ByteArray.size → begFrom n a = begFrom n b
  | [], [], _, _ => rfl
  | [], _ :: _, _, h => by simp at h
  | _ :: _, [], _, h => by simp at h
  | s :: t, u :: v, n, h => by
    simp only [List.map_cons, List.cons.injEq] at h
    simp only [begFrom, h.1, begFrom_congr t v (n + u.size) h.2]
theorem poolN_congr (a b : List ByteArray) (h : a.map ByteArray.size = b.map ByteArray.size) : poolN a = poolN b := by unfold poolN; rw [begFrom_congr a b 0 h]
theorem bytesN_congr : ∀ (a b : List ByteArray), a.map ByteArray.size = b.map ByteArray.size → bytesN a = bytesN b
  | [], [], _ => rfl
  | [], _ :: _, h => by simp at h
  | _ :: _, [], h => by simp at h
  | s :: t, u :: v, h => by
    simp only [List.map_cons, List.cons.injEq] at h
    simp only [bytesN, h.1, bytesN_congr t v h.2]
end Go.Proofs.Ytibhhndiefhofaa
