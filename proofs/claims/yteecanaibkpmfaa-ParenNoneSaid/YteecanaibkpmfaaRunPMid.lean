/-
  THE LANDED PACKAGE paren: how a Paren lies in memory, and its way down from a thing to a place.
-/
import Derived.Test.YteecanaibkpmfaaRunPRow
import Derived.KernelRfl
namespace Go.Proofs.Yteecanaibkpmfaa
open Go.RowKit

theorem meth_row_len (n : Nat) (v : Value) (w : World) : (method (n + 1) 48 v "bracken/paren.len").run Try.prog w = .ok (49, v) w := by kernel_rfl
theorem meth_row_first (n : Nat) (v : Value) (w : World) : (method (n + 1) 48 v "bracken/paren.first").run Try.prog w = .ok (87, v) w := by kernel_rfl
theorem meth_row_last (n : Nat) (v : Value) (w : World) : (method (n + 1) 48 v "bracken/paren.last").run Try.prog w = .ok (88, v) w := by kernel_rfl
theorem meth_leasts_len (n : Nat) (v : Value) (w : World) : (method (n + 1) 53 v "bracken/paren.len").run Try.prog w = .ok (38, v) w := by kernel_rfl
theorem meth_leasts_first (n : Nat) (v : Value) (w : World) : (method (n + 1) 53 v "bracken/paren.first").run Try.prog w = .ok (89, v) w := by kernel_rfl
theorem meth_leasts_last (n : Nat) (v : Value) (w : World) : (method (n + 1) 53 v "bracken/paren.last").run Try.prog w = .ok (90, v) w := by kernel_rfl

/-- the l-th part -/
def partV (bv : Value) (bl : Nat → Nat) (n l : Nat) : Value := if l = 0 then .iface 48 (.agg #[bv]) else .iface 53 (.slice (some ⟨bl l, 0, none⟩) (cntP n l) (cntP n l))
/-- THE PARTS OF A Paren of xs, in blocks from B to below T; block p, the Paren itself, is none of theirs. -/
structure InP (B T p q P : Nat) (bv : Value) (bl : Nat → Nat) (xs : List Bool) (w : World) : Prop where
  top : TopP xs.length P
  may : mayL xs = true
  len : xs.length ≤ 4194304
  pB : B ≤ p
  pT : p < T
  qB : B ≤ q
  qT : q < T
  qp : q ≠ p
  lB : ∀ l, 1 ≤ l → l < P → B ≤ bl l ∧ bl l < T ∧ bl l ≠ p
  size : T ≤ w.heap.size
  kept : KeptIn B p w bv xs
  parts : ∀ l, l < P → w.cell? ⟨q, l, none⟩ = some (partV bv bl xs.length l)
  rows : ∀ l, 1 ≤ l → l < P → w.rowIs (bl l) 21 (cntP xs.length l) (fun i => .int .i32 (leastP xs l i))
theorem InP.keep {B T p q P : Nat} {bv : Value} {bl : Nat → Nat} {xs : List Bool} {w w' : World} (h : InP B T p q P bv bl xs w) (hs : w.heap.size ≤ w'.heap.size) (hk : ∀ k, B ≤ k → k < T → k ≠ p → w'.heap[k]? = w.heap[k]?) : InP B T p q P bv bl xs w' :=
  ⟨h.top, h.may, h.len, h.pB, h.pT, h.qB, h.qT, h.qp, h.lB, Nat.le_trans h.size hs, h.kept.keep fun k h1 h2 => hk k h1 (by have := h.pT; omega) (by omega),
    fun l hl => (World.cell?_of_block (w := w) (hk q h.qB h.qT h.qp)).trans (h.parts l hl), fun l h1 hl => (h.rows l h1 hl).of_block (hk _ (h.lB l h1 hl).1 (h.lB l h1 hl).2.1 (h.lB l h1 hl).2.2)⟩
/-- block p holds the Paren: its parts, its last count of steps -/
def PaV (p q P cap st : Nat) (w : World) : Prop := w.rowIs p 51 2 (fun i => if i = 0 then .slice (some ⟨q, 0, none⟩) P cap else .int .i64 st)
/-- IN THE MIDST OF A QUESTION: the Paren as it was, the count of steps s in block sb. -/
structure Mid (B T p q P cap st sb : Nat) (bv : Value) (bl : Nat → Nat) (xs : List Bool) (s : Nat) (w : World) : Prop where
  inp : InP B T p q P bv bl xs w
  pa : PaV p q P cap st w
  sT : T ≤ sb
  sr : w.rowIs sb 3 1 (fun _ => .int .i64 s)
section
variable {B T p q P cap st sb s t : Nat} {bv : Value} {bl : Nat → Nat} {xs : List Bool} {w w' : World}
theorem Mid.went (h : Mid B T p q P cap st sb bv bl xs s w) (k : Went sb t w w') : Mid B T p q P cap st sb bv bl xs t w' :=
  ⟨h.inp.keep k.apart.size fun i _ h2 _ => k.apart.block i (by have := h.inp.size; omega) (Or.inl (by have := h.sT; omega)), h.pa.of_block (k.apart.block p (by have := h.inp.size; have := h.inp.pT; omega) (Or.inl (by have := h.sT; have := h.inp.pT; omega))), h.sT, k.row⟩
theorem Mid.other (h : Mid B T p q P cap st sb bv bl xs s w) (k : Below w.heap.size w w') : Mid B T p q P cap st sb bv bl xs s w' := h.went (Went.stay h.sr k)
theorem Mid.parts (h : Mid B T p q P cap st sb bv bl xs s w) : w.cell? ⟨p, 0, none⟩ = some (.slice (some ⟨q, 0, none⟩) P cap) := h.pa.cell (i := 0) (by decide)
theorem Mid.row (h : Mid B T p q P cap st sb bv bl xs s w) : w.cell? ⟨q, 0, none⟩ = some (.iface 48 (.agg #[bv])) := h.inp.parts 0 h.inp.top.one
theorem Mid.leasts (h : Mid B T p q P cap st sb bv bl xs s w) (l : Nat) (hl : l + 1 < P) : w.cell? ⟨q, l + 1, none⟩ = some (.iface 53 (.slice (some ⟨bl (l + 1), 0, none⟩) (cntP xs.length (l + 1)) (cntP xs.length (l + 1)))) := h.inp.parts (l + 1) hl
theorem Mid.few (h : Mid B T p q P cap st sb bv bl xs s w) : P ≤ 6 := top_few h.inp.top h.inp.len
theorem Mid.pT (h : Mid B T p q P cap st sb bv bl xs s w) : p ≤ sb := by have := h.sT; have := h.inp.pT; omega
theorem Mid.pW (h : Mid B T p q P cap st sb bv bl xs s w) : p ≤ w.heap.size := by have := h.inp.size; have := h.inp.pT; omega

/-! what the parts tell -/
theorem Mid.lenRow (h : Mid B T p q P cap st sb bv bl xs s w) : Calls Try.prog 49 #[.agg #[bv]] w fun e w' => e = .returned (.int .i64 (cntP xs.length 0)) ∧ Mid B T p q P cap st sb bv bl xs s w' ∧ Went sb s w w' :=
  (rplen_any B bv xs w h.inp.kept.kept).mono fun _ _ hp => ⟨hp.1, h.other hp.2, Went.stay h.sr hp.2⟩
theorem Mid.firstRow (h : Mid B T p q P cap st sb bv bl xs s w) (a z : Nat) (e : Int) (hs : s ≤ 500000) (haz : a ≤ z) (hz : z ≤ cntP xs.length 0) (hd : z - a ≤ 128) :
    Calls Try.prog 87 #[.agg #[bv], .int .i64 a, .int .i64 z, .int .i64 e, .pointer (some ⟨sb, 0, none⟩)] w fun o w' =>
      ∃ r : Nat, o = .returned (.int .i64 r) ∧ FirstP (leastP xs 0) e a z r ∧ ∃ d, d ≤ 3 + (z - a) ∧ Went sb (s + d) w w' :=
  rpfirst_any B p sb s a z bv xs e w h.inp.len haz hz hs hd h.pT h.pW h.inp.kept h.sr
theorem Mid.lastRow (h : Mid B T p q P cap st sb bv bl xs s w) (a z : Nat) (e : Int) (hs : s ≤ 500000) (haz : a ≤ z) (hz : z ≤ cntP xs.length 0) (hd : z - a ≤ 128) :
    Calls Try.prog 88 #[.agg #[bv], .int .i64 a, .int .i64 z, .int .i64 e, .pointer (some ⟨sb, 0, none⟩)] w fun o w' =>
      ∃ r : Nat, o = .returned (.int .i64 ((r : Int) - 1)) ∧ LastP (leastP xs 0) e a z r ∧ ∃ d, d ≤ 3 + (z - a) ∧ Went sb (s + d) w w' :=
  rplast_any B p sb s a z bv xs e w h.inp.len haz hz hs hd h.pT h.pW h.inp.kept h.sr
theorem cntP_le (n : Nat) : ∀ l, cntP n l ≤ n
  | 0 => Nat.le_refl _
  | l + 1 => by
    by_cases hc : cntP n (l + 1) ≤ n
    · exact hc
    · have h1 := (lt_cnt n (l + 1) n).1 (by omega)
      have h2 := Nat.mul_le_mul_right n (wid_pos (l + 1))
      omega
theorem Mid.bound (h : Mid B T p q P cap st sb bv bl xs s w) (l : Nat) : ∀ i, -4194304 ≤ leastP xs l i ∧ leastP xs l i ≤ 4194304 := fun i => by
  have := least_bound xs l i
  have := h.inp.len
  omega
theorem Mid.firstLeasts (h : Mid B T p q P cap st sb bv bl xs s w) (l a z : Nat) (e : Int) (hl : l + 1 < P) (hs : s ≤ 500000) (haz : a ≤ z) (hz : z ≤ cntP xs.length (l + 1)) :
    Calls Try.prog 89 #[.slice (some ⟨bl (l + 1), 0, none⟩) (cntP xs.length (l + 1)) (cntP xs.length (l + 1)), .int .i64 a, .int .i64 z, .int .i64 e, .pointer (some ⟨sb, 0, none⟩)] w fun o w' =>
      ∃ r : Nat, o = .returned (.int .i64 r) ∧ FirstP (leastP xs (l + 1)) e a z r ∧ ∃ d, d ≤ z - a ∧ Went sb (s + d) w w' :=
  rlfirst_any (bl (l + 1)) sb s (cntP xs.length (l + 1)) a z (leastP xs (l + 1)) e w (Nat.le_trans (cntP_le _ _) h.inp.len) haz hz (by omega) (h.bound _) (by have := (h.inp.lB (l + 1) (by omega) hl).2.1; have := h.sT; omega) (h.inp.rows (l + 1) (by omega) hl) h.sr
theorem Mid.lastLeasts (h : Mid B T p q P cap st sb bv bl xs s w) (l a z : Nat) (e : Int) (hl : l + 1 < P) (hs : s ≤ 500000) (haz : a ≤ z) (hz : z ≤ cntP xs.length (l + 1)) :
    Calls Try.prog 90 #[.slice (some ⟨bl (l + 1), 0, none⟩) (cntP xs.length (l + 1)) (cntP xs.length (l + 1)), .int .i64 a, .int .i64 z, .int .i64 e, .pointer (some ⟨sb, 0, none⟩)] w fun o w' =>
      ∃ r : Nat, o = .returned (.int .i64 ((r : Int) - 1)) ∧ LastP (leastP xs (l + 1)) e a z r ∧ ∃ d, d ≤ z - a ∧ Went sb (s + d) w w' :=
  rllast_any (bl (l + 1)) sb s (cntP xs.length (l + 1)) a z (leastP xs (l + 1)) e w (Nat.le_trans (cntP_le _ _) h.inp.len) haz hz (by omega) (h.bound _) (by have := (h.inp.lB (l + 1) (by omega) hl).2.1; have := h.sT; omega) (h.inp.rows (l + 1) (by omega) hl) h.sr
/-! the same, the level named -/
theorem Mid.leastsAt (h : Mid B T p q P cap st sb bv bl xs s w) {l c : Nat} (h1 : 1 ≤ l) (hl : l < P) (hc : cntP xs.length l = c) : w.cell? ⟨q, l, none⟩ = some (.iface 53 (.slice (some ⟨bl l, 0, none⟩) c c)) := by
  obtain ⟨m, rfl⟩ : ∃ m, l = m + 1 := ⟨l - 1, by omega⟩
  rw [← hc]
  exact h.leasts m hl
theorem Mid.firstAt (h : Mid B T p q P cap st sb bv bl xs s w) {l c : Nat} (h1 : 1 ≤ l) (hl : l < P) (hc : cntP xs.length l = c) (a z : Nat) (e : Int) (hs : s ≤ 500000) (haz : a ≤ z) (hz : z ≤ c) :
    Calls Try.prog 89 #[.slice (some ⟨bl l, 0, none⟩) c c, .int .i64 a, .int .i64 z, .int .i64 e, .pointer (some ⟨sb, 0, none⟩)] w fun o w' =>
      ∃ r : Nat, o = .returned (.int .i64 r) ∧ FirstP (leastP xs l) e a z r ∧ ∃ d, d ≤ z - a ∧ Went sb (s + d) w w' := by
  obtain ⟨m, rfl⟩ : ∃ m, l = m + 1 := ⟨l - 1, by omega⟩
  subst hc
  exact h.firstLeasts m a z e hl hs haz hz
theorem Mid.lastAt (h : Mid B T p q P cap st sb bv bl xs s w) {l c : Nat} (h1 : 1 ≤ l) (hl : l < P) (hc : cntP xs.length l = c) (a z : Nat) (e : Int) (hs : s ≤ 500000) (haz : a ≤ z) (hz : z ≤ c) :
    Calls Try.prog 90 #[.slice (some ⟨bl l, 0, none⟩) c c, .int .i64 a, .int .i64 z, .int .i64 e, .pointer (some ⟨sb, 0, none⟩)] w fun o w' =>
      ∃ r : Nat, o = .returned (.int .i64 ((r : Int) - 1)) ∧ LastP (leastP xs l) e a z r ∧ ∃ d, d ≤ z - a ∧ Went sb (s + d) w w' := by
  obtain ⟨m, rfl⟩ : ∃ m, l = m + 1 := ⟨l - 1, by omega⟩
  subst hc
  exact h.lastLeasts m a z e hl hs haz hz
end
end Go.Proofs.Yteecanaibkpmfaa
