/-
  THE CONTRACT OF New OF THE LANDED PACKAGE bits: the bits are kept, in new blocks.
-/
import Derived.Test.YteecanaibkpmfaaRunCount
namespace Go.Proofs.Yteecanaibkpmfaa
open Go.RowKit

theorem kept_new (w w1 w2 : World) (xs : List Bool) (h1 : w1.rowIs w.heap.size 66 (nWords xs) (fun i => .int .u64 (wordOf xs i))) (hb1 : Below w.heap.size w w1)
    (h2 : Counted w2 w1.heap.size (w1.heap.size + 1) (nBlocks xs) (nWords xs) xs (nWords xs)) (hb2 : Below w1.heap.size w1 w2) :
    Kept w.heap.size ((w2.alloc (.cells #[.iface 69 (.slice (some ⟨w.heap.size, 0, none⟩) (nWords xs) (nWords xs)), .iface 72 (.slice (some ⟨w1.heap.size, 0, none⟩) (nBlocks xs) (nBlocks xs)), .iface 74 (.slice (some ⟨w1.heap.size + 1, 0, none⟩) (nWords xs) (nWords xs))] 84)).alloc (.cells #[.int .i64 xs.length, .slice (some ⟨w2.heap.size, 0, none⟩) 3 3] 79)) (.pointer (some ⟨w2.heap.size + 1, 0, none⟩)) xs := by
  have z1 := hb1.size
  have z2 := hb2.size
  have z3 := h1.lt
  generalize hc1 : (#[.iface 69 (.slice (some ⟨w.heap.size, 0, none⟩) (nWords xs) (nWords xs)), .iface 72 (.slice (some ⟨w1.heap.size, 0, none⟩) (nBlocks xs) (nBlocks xs)), .iface 74 (.slice (some ⟨w1.heap.size + 1, 0, none⟩) (nWords xs) (nWords xs))] : Array Value) = c1
  generalize hc2 : (#[.int .i64 xs.length, .slice (some ⟨w2.heap.size, 0, none⟩) 3 3] : Array Value) = c2
  have hs : (w2.alloc (.cells c1 84)).heap.size = w2.heap.size + 1 := by show (w2.heap.push _).size = _; rw [Array.size_push]
  have r1 := World.rowIs_alloc (w2.alloc (.cells c1 84)) c2 79 (fun i => if i = 0 then .int .i64 xs.length else .slice (some ⟨w2.heap.size, 0, none⟩) 3 3) (by
    subst hc2
    intro i hi
    rcases (show i = 0 ∨ i = 1 by have : i < 2 := hi; omega) with rfl | rfl <;> rfl)
  rw [hs, show c2.size = 2 by rw [← hc2]; rfl] at r1
  have r2 := (World.rowIs_alloc w2 c1 84 (fun i => if i = 0 then .iface 69 (.slice (some ⟨w.heap.size, 0, none⟩) (nWords xs) (nWords xs)) else if i = 1 then .iface 72 (.slice (some ⟨w1.heap.size, 0, none⟩) (nBlocks xs) (nBlocks xs)) else .iface 74 (.slice (some ⟨w1.heap.size + 1, 0, none⟩) (nWords xs) (nWords xs))) (by
    subst hc1
    intro i hi
    rcases (show i = 0 ∨ i = 1 ∨ i = 2 by have : i < 3 := hi; omega) with rfl | rfl | rfl <;> rfl)).alloc (.cells c2 79)
  rw [show c1.size = 3 by rw [← hc1]; rfl] at r2
  have r3 := ((h1.of_block (hb2.block _ z3)).alloc (.cells c1 84)).alloc (.cells c2 79)
  have k1 := h2.blocks.congr (g := fun i => .int .u32 (aheadN xs (8 * i))) fun i hi => by
    rw [if_pos]
    unfold nBlocks begunN at hi
    omega
  have k2 := h2.inner.congr (g := fun i => .int .u16 (innerN xs i)) fun i hi => by rw [if_pos hi]
  have r4 := (k1.alloc (.cells c1 84)).alloc (.cells c2 79)
  have r5 := (k2.alloc (.cells c1 84)).alloc (.cells c2 79)
  exact ⟨w2.heap.size + 1, w2.heap.size, w.heap.size, w1.heap.size, w1.heap.size + 1, rfl, by omega, by omega, by omega, by omega, by omega, r1, r2, r3, r4, r5⟩

set_option maxHeartbeats 2000000 in
set_option maxRecDepth 100000 in
theorem rnew_any (s : Value) (xs : List Bool) (w : World) (hx : xs.length ≤ 4194304) (hs : RowOK w s xs) :
    Calls Try.prog 36 #[s] w fun e w' => ∃ v, e = .returned (.tuple #[v, .int .i64 0]) ∧ Kept w.heap.size w' v xs ∧ Below w.heap.size w w' := by
  obtain ⟨hat, a, cap, rfl, hcap⟩ := hs
  have C1 := Lib.hid (pack_any _ xs w hx hat)
  clear hat
  go_enter Try.func36, Try.ntmps36
  go_wp2_with fail
  refine C1.out.mono ?_
  rintro e w1 ⟨rfl, hrow, hb1⟩
  go_wp2_with fail
  refine (count_any _ xs w1 hx hrow).mono ?_
  rintro e w2 ⟨rfl, hcnt, hb2⟩
  have hk := kept_new w w1 w2 xs hrow hb1 hcnt hb2
  have hb : Below w.heap.size w w2 := hb1.trans (hb2.mono hb1.size)
  have hbs := hb.size
  go_wp2
  go_ret2
  exact ⟨_, rfl, hk, (hb.alloc hbs _).alloc (by simp; omega) _⟩
end Go.Proofs.Yteecanaibkpmfaa
