/-
  BITS THAT ARE KEPT IN SOME BLOCKS, and a count of steps in one block.
-/
import Derived.Test.YtnjlckgmoodkiaaRunBitA
import Derived.Test.YtnjlckgmoodkiaaApart
import Derived.KernelRfl
import Derived.OwnWalk
import Derived.Laws.OwnMore
namespace Go.Proofs.Ytnjlckgmoodkiaa
open Go.RowKit

/-- bits kept in blocks from B to below T -/
def KeptIn (B T : Nat) (w : World) (v : Value) (xs : List Bool) : Prop := ∃ w0 : World, w0.heap.size ≤ T ∧ Kept B w0 v xs ∧ ∀ k, B ≤ k → k < w0.heap.size → w.heap[k]? = w0.heap[k]?
theorem KeptIn.kept {B T : Nat} {w : World} {v : Value} {xs : List Bool} (h : KeptIn B T w v xs) : Kept B w v xs := by
  obtain ⟨w0, _, h1, h2⟩ := h
  exact kept_keep B w0 w v xs h1 h2
theorem KeptIn.keep {B T : Nat} {w w' : World} {v : Value} {xs : List Bool} (h : KeptIn B T w v xs) (hk : ∀ k, B ≤ k → k < T → w'.heap[k]? = w.heap[k]?) : KeptIn B T w' v xs := by
  obtain ⟨w0, h0, h1, h2⟩ := h
  exact ⟨w0, h0, h1, fun k hk1 hk2 => (hk k hk1 (by omega)).trans (h2 k hk1 hk2)⟩

/-- FROM w TO w' NOTHING TURNS BUT THE COUNT OF STEPS, in block sb, which is s then. -/
structure Went (sb s : Nat) (w w' : World) : Prop where
  apart : Apart sb (sb + 1) w w'
  row : w'.rowIs sb 3 1 (fun _ => .int .i64 s)
theorem Apart.trans {B T : Nat} {w w' w'' : World} (h : Apart B T w w') (k : Apart B T w' w'') : Apart B T w w'' :=
  ⟨k.os.trans h.os, k.tape.trans h.tape, k.output.trans h.output, Nat.le_trans h.size k.size, fun i hi h2 => (k.block i (by have := h.size; omega) h2).trans (h.block i hi h2)⟩
theorem Went.trans {sb s t : Nat} {w w' w'' : World} (h : Went sb s w w') (k : Went sb t w' w'') : Went sb t w w'' := ⟨h.apart.trans k.apart, k.row⟩
theorem Went.other {sb s : Nat} {w w' w'' : World} (h : Went sb s w w') (hb : Below w'.heap.size w' w'') : Went sb s w w'' :=
  ⟨h.apart.trans (Apart.of_below hb), h.row.of_block (hb.block _ h.row.lt)⟩
theorem Went.stay {sb s : Nat} {w w' : World} (h : w.rowIs sb 3 1 (fun _ => .int .i64 s)) (hb : Below w.heap.size w w') : Went sb s w w' := ⟨Apart.of_below hb, h.of_block (hb.block _ h.lt)⟩
theorem Went.set {sb s t : Nat} {w w' : World} (h : Went sb s w w') (x : Int) (hx : x = (t : Int)) : Went sb t w (w'.setCell ⟨sb, 0, none⟩ (.int .i64 x)) := by
  subst hx
  refine ⟨⟨h.apart.os, h.apart.tape, h.apart.output, by rw [Deep.nblk_setCell]; exact h.apart.size, fun k hk h2 => ?_⟩, (h.row.set 0 _).congr fun i hi => by rw [if_pos (by omega)]⟩
  rw [Below.heap_setCell _ _ _ _ (show k ≠ sb by omega)]
  exact h.apart.block k hk h2
theorem Went.keptIn {B T sb s : Nat} {w w' : World} {v : Value} {xs : List Bool} (h : Went sb s w w') (hT : T ≤ sb) (hw : T ≤ w.heap.size) (hk : KeptIn B T w v xs) : KeptIn B T w' v xs :=
  hk.keep fun k _ h2 => h.apart.block k (by omega) (Or.inl (by omega))
theorem new_box (w : World) (v : Value) (t : TypeId) : (w.alloc (.cells #[v] t)).rowIs w.heap.size t 1 (fun _ => v) := by
  refine World.rowIs_alloc w #[v] t (fun _ => v) fun i hi => ?_
  obtain rfl : i = 0 := by have : i < 1 := hi; omega
  rfl
/-- the receiver's own cell, behind a store of the count -/
theorem box_cell (w : World) (v x : Value) (t : TypeId) (sb : Nat) (h : sb < w.heap.size) : ((w.alloc (.cells #[v] t)).setCell ⟨sb, 0, none⟩ x).cell? ⟨w.heap.size, 0, none⟩ = some v :=
  World.rowIs.cell (i := 0) ((new_box w v t).setOther (a := ⟨sb, 0, none⟩) (show w.heap.size ≠ sb by omega) x) Nat.one_pos
theorem at_get {xs : List Bool} {k : Nat} (h : k < xs.length) : getB xs (k : Int) = xs.getD k false := by
  unfold getB
  rw [if_pos (by omega), Int.toNat_natCast]
/-- a new count, and what was counted -/
theorem went_start {w w2 : World} {t : Nat} (hw : Went w.heap.size t (w.alloc (.cells #[.int .i64 0] 3)) w2) : Below w.heap.size w w2 := by
  have hb := (Below.refl w.heap.size w).alloc (Nat.le_refl _) (.cells #[.int .i64 0] 3)
  exact hb.trans ⟨hw.apart.os, hw.apart.tape, hw.apart.output, hw.apart.size, fun k hk => hw.apart.block k (by have := hb.size; omega) (Or.inl hk)⟩
theorem own_same {w w' : World} {base size n : Nat} {e : TypeId} {q cap : Nat} {xs : List Value} (h : w.ownsRow base e size (.slice (some ⟨q, 0, none⟩) n cap) n xs) (hb : w'.heap[q]? = w.heap[q]?) : w'.ownsRow base e size (.slice (some ⟨q, 0, none⟩) n cap) n xs := by
  refine ⟨h.1, ?_⟩
  rcases h.2 with ⟨h', _⟩ | ⟨g, c, cur, h', hbs, hg, rest⟩
  · cases h'
  · have e1 : q = g := by injection h' with h1; injection h1 with h1; injection h1
    subst e1
    exact .inr ⟨q, c, cur, h', hbs, hb.trans hg, rest⟩
theorem own_shape {w : World} {base size n : Nat} {e : TypeId} {v : Value} {xs : List Value} (h : w.ownsRow base e size v n xs) (hn : 0 < n) : ∃ q cap, v = .slice (some ⟨q, 0, none⟩) n cap ∧ base ≤ q := by
  rcases h.2 with ⟨_, h0⟩ | ⟨g, c, cur, h', hbs, _⟩
  · omega
  · exact ⟨g, c, h', hbs⟩
theorem own_lt {w : World} {base size n : Nat} {e : TypeId} {q cap : Nat} {xs : List Value} (h : w.ownsRow base e size (.slice (some ⟨q, 0, none⟩) n cap) n xs) : base ≤ q ∧ q < w.heap.size := h.lt q rfl
theorem own_other {w : World} {base size n m b : Nat} {e t : TypeId} {q cap : Nat} {xs : List Value} {f : Nat → Value} (h : w.ownsRow base e size (.slice (some ⟨q, 0, none⟩) n cap) n xs) (hr : w.rowIs b t m f) (ht : t ≠ e) : b ≠ q := by
  rintro rfl
  rcases h.2 with ⟨h', _⟩ | ⟨g, c, cur, h', _, hg, _⟩
  · cases h'
  · have e1 : b = g := by injection h' with h1; injection h1 with h1; injection h1
    subst e1
    obtain ⟨cc, hcc, _⟩ := hr
    rw [hg] at hcc
    injection hcc with hcc
    injection hcc with _ h2 _
    exact ht h2.symm
end Go.Proofs.Ytnjlckgmoodkiaa
