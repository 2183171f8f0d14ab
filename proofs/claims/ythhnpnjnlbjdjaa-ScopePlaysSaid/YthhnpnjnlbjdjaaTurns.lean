/-
  WHAT TURNS IN A SET OF BLOCKS ALONE (a thing that grows: its blocks are told by a set).
-/
import Derived.Test.YthhnpnjnlbjdjaaChecked
import Derived.WalkKit
import Derived.Below
import Derived.Laws.AppendOwn
import Derived.Deep.OwnRows
import Derived.Deep.QuietTactic
namespace Go.Proofs.Ythhnpnjnlbjdjaa
open Go.RowKit

/-- FROM w TO w' NOTHING TURNS BUT IN BLOCKS OF F, and in new ones. -/
structure Turns (F : Nat → Prop) (w w' : World) : Prop where
  os : w'.os = w.os
  tape : w'.tape = w.tape
  output : w'.output = w.output
  size : w.heap.size ≤ w'.heap.size
  block : ∀ k, k < w.heap.size → ¬ F k → w'.heap[k]? = w.heap[k]?
namespace Turns
variable {F : Nat → Prop} {a w w' : World}
theorem refl (F : Nat → Prop) (w : World) : Turns F w w := ⟨rfl, rfl, rfl, Nat.le_refl _, fun _ _ _ => rfl⟩
theorem trans (h : Turns F a w) (k : Turns F w w') : Turns F a w' :=
  ⟨k.os.trans h.os, k.tape.trans h.tape, k.output.trans h.output, Nat.le_trans h.size k.size, fun i hi hf => (k.block i (Nat.lt_of_lt_of_le hi h.size) hf).trans (h.block i hi hf)⟩
theorem next {F' : Nat → Prop} (h : Turns F a w) (k : Turns F' w w') (hs : ∀ i, F' i → F i ∨ a.heap.size ≤ i) : Turns F a w' :=
  ⟨k.os.trans h.os, k.tape.trans h.tape, k.output.trans h.output, Nat.le_trans h.size k.size, fun i hi hf => (k.block i (Nat.lt_of_lt_of_le hi h.size) (fun hF => by
    rcases hs i hF with h1 | h1
    · exact hf h1
    · omega)).trans (h.block i hi hf)⟩
theorem drewN (h : Turns F a w) (n : Nat) : Turns F a (w.drewN n) := ⟨h.os, h.tape, h.output, h.size, h.block⟩
theorem drew (h : Turns F a w) : Turns F a w.drew := ⟨h.os, h.tape, h.output, h.size, h.block⟩
theorem of_below (h : Below w.heap.size w w') : Turns F w w' := ⟨h.os, h.tape, h.output, h.size, fun k hk _ => h.block k hk⟩
theorem other (h : Turns F a w) (k : Below w.heap.size w w') : Turns F a w' := h.trans (of_below k)
theorem alloc (h : Turns F a w) (o : Obj) : Turns F a (w.alloc o) := h.other ((Below.refl _ _).alloc (Nat.le_refl _) o)
theorem setCell (h : Turns F a w) {p : Addr} (hp : F p.block ∨ a.heap.size ≤ p.block) (u : Value) : Turns F a (w.setCell p u) := by
  refine ⟨h.os, h.tape, h.output, by rw [Deep.nblk_setCell]; exact h.size, fun k hk hf => ?_⟩
  rw [Below.heap_setCell _ _ _ _ (fun e => by
    subst e
    rcases hp with hp | hp
    · exact hf hp
    · omega)]
  exact h.block k hk hf
theorem grown {row : Option Nat} (h : Turns F a w) (hg : w.grownBy w' row) (hr : ∀ k, row = some k → F k ∨ a.heap.size ≤ k) : Turns F a w' :=
  ⟨hg.os.trans h.os, hg.tape.trans h.tape, hg.output.trans h.output, Nat.le_trans h.size hg.size, fun k hk hf => (hg.block k (Nat.lt_of_lt_of_le hk h.size) (fun e => by
    rcases hr k e.symm with h1 | h1
    · exact hf h1
    · omega)).trans (h.block k hk hf)⟩
theorem below {B : Nat} (h : Turns F w w') (hB : B ≤ w.heap.size) (hF : ∀ k, F k → B ≤ k) : Below B w w' :=
  ⟨h.os, h.tape, h.output, h.size, fun k hk => h.block k (by omega) (fun hf => by have := hF k hf; omega)⟩
end Turns
/-- the answer r; the thing holds L, P, n then, in its blocks and in new ones; all else is as it was -/
def Gave9 (Is : (Nat → Prop) → World → Value → List ByteArray → List Nat → Int → Prop) (F : Nat → Prop) (v : Value) (L : List ByteArray) (P : List Nat) (n : Int) (r : Value) (w : World) (e : Ending) (w' : World) : Prop :=
  e = .returned r ∧ ∃ F', Is F' w' v L P n ∧ (∀ k, F' k → F k ∨ (w.heap.size ≤ k ∧ k < w'.heap.size)) ∧ Turns F w w'
end Go.Proofs.Ythhnpnjnlbjdjaa
