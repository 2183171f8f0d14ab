/-
  HOW THE LANDED PACKAGE bits KEEPS ITS BITS (Kept), and the contracts of its readers of words and directories.
-/
import Derived.Test.YteecanaibkpmfaaBitWord
import Derived.Test.YteecanaibkpmfaaRunOnes
import Derived.Test.YteecanaibkpmfaaBoolRow
import Derived.Deep.OwnRows
import Derived.KernelRfl
namespace Go.Proofs.Yteecanaibkpmfaa
open Go.RowKit

def nWords (xs : List Bool) : Nat := begunN xs.length 64
def nBlocks (xs : List Bool) : Nat := begunN (nWords xs) 8
/-- THE BITS xs, KEPT IN BLOCKS FROM B ON. -/
def Kept (B : Nat) (w : World) (v : Value) (xs : List Bool) : Prop :=
  ∃ p q bw bb bi : Nat, v = .pointer (some ⟨p, 0, none⟩) ∧ B ≤ p ∧ B ≤ q ∧ B ≤ bw ∧ B ≤ bb ∧ B ≤ bi ∧
    w.rowIs p 79 2 (fun i => if i = 0 then .int .i64 xs.length else .slice (some ⟨q, 0, none⟩) 3 3) ∧
    w.rowIs q 84 3 (fun i => if i = 0 then .iface 69 (.slice (some ⟨bw, 0, none⟩) (nWords xs) (nWords xs)) else if i = 1 then .iface 72 (.slice (some ⟨bb, 0, none⟩) (nBlocks xs) (nBlocks xs)) else .iface 74 (.slice (some ⟨bi, 0, none⟩) (nWords xs) (nWords xs))) ∧
    w.rowIs bw 66 (nWords xs) (fun i => .int .u64 (wordOf xs i)) ∧
    w.rowIs bb 88 (nBlocks xs) (fun i => .int .u32 (aheadN xs (8 * i))) ∧
    w.rowIs bi 89 (nWords xs) (fun i => .int .u16 (innerN xs i))
theorem kept_keep (B : Nat) (w w' : World) (v : Value) (xs : List Bool) (h : Kept B w v xs) (hk : ∀ k, B ≤ k → k < w.heap.size → w'.heap[k]? = w.heap[k]?) : Kept B w' v xs := by
  obtain ⟨p, q, bw, bb, bi, rfl, h1, h2, h3, h4, h5, r1, r2, r3, r4, r5⟩ := h
  exact ⟨p, q, bw, bb, bi, rfl, h1, h2, h3, h4, h5, r1.of_block (hk _ h1 r1.lt), r2.of_block (hk _ h2 r2.lt), r3.of_block (hk _ h3 r3.lt), r4.of_block (hk _ h4 r4.lt), r5.of_block (hk _ h5 r5.lt)⟩
theorem kept_ptr (B : Nat) (w : World) (v : Value) (xs : List Bool) (h : Kept B w v xs) : ∃ a, v = .pointer (some a) := by
  obtain ⟨p, _, _, _, _, rfl, _⟩ := h
  exact ⟨_, rfl⟩
theorem as_words (v : Value) (w : World) : (Instr.typeAssert (.iface 69 v) 84 69 false).run Try.prog w = .ok v w := by kernel_rfl
theorem as_blocks (v : Value) (w : World) : (Instr.typeAssert (.iface 72 v) 84 72 false).run Try.prog w = .ok v w := by kernel_rfl
theorem as_inner (v : Value) (w : World) : (Instr.typeAssert (.iface 74 v) 84 74 false).run Try.prog w = .ok v w := by kernel_rfl

set_option maxHeartbeats 1000000 in
set_option maxRecDepth 100000 in
theorem word_any (B : Nat) (v : Value) (xs : List Bool) (i : Nat) (w : World) (hk : Kept B w v xs) (hx : xs.length ≤ 4194304) (hi : i < nWords xs) :
    Calls Try.prog 64 #[v, .int .i64 i] w fun e w' => e = .returned (.int .u64 (wordOf xs i)) ∧ w = w' := by
  obtain ⟨p, q, bw, bb, bi, rfl, _, _, _, _, _, r1, r2, r3, _, _⟩ := hk
  have hn : nWords xs ≤ 65536 := by unfold nWords begunN; omega
  have c1 : w.cell? ⟨p, 1, none⟩ = some (.slice (some ⟨q, 0, none⟩) 3 3) := r1.cell (i := 1) (by decide)
  have c2 : w.cell? ⟨q, 0, none⟩ = some (.iface 69 (.slice (some ⟨bw, 0, none⟩) (nWords xs) (nWords xs))) := r2.cell (i := 0) (by decide)
  have c3 : w.cell? ⟨bw, i, none⟩ = some (.int .u64 (wordOf xs i)) := r3.cell hi
  have a1 := as_words (.slice (some ⟨bw, 0, none⟩) (nWords xs) (nWords xs)) w
  generalize nWords xs = nw at *
  generalize wordOf xs i = u at *
  clear r1 r2 r3
  go_enter Try.func64, Try.ntmps64
  go_wp2
  go_ret
  exact ⟨rfl, rfl⟩
end Go.Proofs.Yteecanaibkpmfaa
