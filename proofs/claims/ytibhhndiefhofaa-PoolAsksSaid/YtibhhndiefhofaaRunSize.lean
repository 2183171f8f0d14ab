/-
  THE CONTRACT OF Size OF THE LANDED PACKAGE bits: each part tells its own size.
-/
import Derived.Test.YtibhhndiefhofaaRunBitA
namespace Go.Proofs.Ytibhhndiefhofaa
open Go.RowKit

theorem psize_words (a : Option Addr) (n cap : Nat) (w : World) (h : n ≤ 4294967296) : Calls Try.prog 99 #[.slice a n cap] w fun e w' => e = .returned (.int .i64 ((64 * n : Nat) : Int)) ∧ w = w' := by
  go_enter Try.func99, Try.ntmps99
  go_wp2
  go_ret
  exact ⟨ret_i64 (by omega), rfl⟩
theorem psize_blocks (a : Option Addr) (n cap : Nat) (w : World) (h : n ≤ 4294967296) : Calls Try.prog 100 #[.slice a n cap] w fun e w' => e = .returned (.int .i64 ((32 * n : Nat) : Int)) ∧ w = w' := by
  go_enter Try.func100, Try.ntmps100
  go_wp2
  go_ret
  exact ⟨ret_i64 (by omega), rfl⟩
theorem psize_inner (a : Option Addr) (n cap : Nat) (w : World) (h : n ≤ 4294967296) : Calls Try.prog 101 #[.slice a n cap] w fun e w' => e = .returned (.int .i64 ((16 * n : Nat) : Int)) ∧ w = w' := by
  go_enter Try.func101, Try.ntmps101
  go_wp2
  go_ret
  exact ⟨ret_i64 (by omega), rfl⟩
theorem meth_words (n : Nat) (v : Value) (w : World) : (method (n + 1) 111 v "bracken/bits.size").run Try.prog w = .ok (99, v) w := by kernel_rfl
theorem meth_blocks (n : Nat) (v : Value) (w : World) : (method (n + 1) 114 v "bracken/bits.size").run Try.prog w = .ok (100, v) w := by kernel_rfl
theorem meth_inner (n : Nat) (v : Value) (w : World) : (method (n + 1) 116 v "bracken/bits.size").run Try.prog w = .ok (101, v) w := by kernel_rfl
theorem sizes_sum (n : Nat) : 64 * begunN n 64 + 32 * begunN (begunN n 64) 8 + 16 * begunN n 64 = bitsN n := by
  unfold bitsN begunN
  omega
def bsumAt (nw nb i : Nat) : Nat := if i = 0 then 0 else if i = 1 then 64 * nw else if i = 2 then 64 * nw + 32 * nb else 64 * nw + 32 * nb + 16 * nw

set_option maxHeartbeats 1000000 in
set_option maxRecDepth 100000 in
theorem rsize_any (B : Nat) (v : Value) (xs : List Bool) (w : World) (hk : Kept B w v xs) (hx : xs.length ≤ 4194304) :
    Calls Try.prog 96 #[v] w fun e w' => e = .returned (.int .i64 (bitsN xs.length)) ∧ w = w' := by
  have hsum := sizes_sum xs.length
  obtain ⟨p, q, bw, bb, bi, rfl, _, _, _, _, _, r1, r2, _, _, _⟩ := hk
  have hn : nWords xs ≤ 65536 := by unfold nWords begunN; omega
  have hnb2 : nBlocks xs ≤ 65536 := by unfold nBlocks begunN; omega
  have c1 : w.cell? ⟨p, 1, none⟩ = some (.slice (some ⟨q, 0, none⟩) 3 3) := r1.cell (i := 1) (by decide)
  have c2 : w.cell? ⟨q, 0, none⟩ = some (.iface 111 (.slice (some ⟨bw, 0, none⟩) (nWords xs) (nWords xs))) := r2.cell (i := 0) (by decide)
  have c3 : w.cell? ⟨q, 1, none⟩ = some (.iface 114 (.slice (some ⟨bb, 0, none⟩) (nBlocks xs) (nBlocks xs))) := r2.cell (i := 1) (by decide)
  have c4 : w.cell? ⟨q, 2, none⟩ = some (.iface 116 (.slice (some ⟨bi, 0, none⟩) (nWords xs) (nWords xs))) := r2.cell (i := 2) (by decide)
  have hsum' : 64 * nWords xs + 32 * nBlocks xs + 16 * nWords xs = bitsN xs.length := hsum
  have P1 := Lib.hid (psize_words (some ⟨bw, 0, none⟩) (nWords xs) (nWords xs) w (by omega))
  have P2 := Lib.hid (psize_blocks (some ⟨bb, 0, none⟩) (nBlocks xs) (nBlocks xs) w (by omega))
  have P3 := Lib.hid (psize_inner (some ⟨bi, 0, none⟩) (nWords xs) (nWords xs) w (by omega))
  clear hsum r1 r2
  generalize nWords xs = nw at *
  generalize nBlocks xs = nb at *
  generalize bitsN xs.length = ans at *
  have HS := Lib.hid hsum'
  clear hsum'
  go_enter Try.func96, Try.ntmps96
  go_wp2
  go_loop [3, 13] (fun n i => ∃ j : Nat, j ≤ 3 ∧ i = .int .i64 j ∧ n = .int .i64 (bsumAt nw nb j)) (fun _ i => 3 - (intOf i).toNat)
  case atStart => exact ⟨0, by omega, rfl, rfl⟩
  case round =>
    obtain ⟨j, hj, rfl, rfl⟩ := hrel
    rcases (show j = 0 ∨ j = 1 ∨ j = 2 ∨ j = 3 by omega) with rfl | rfl | rfl | rfl
    · have m1 := fun n => meth_words n (.slice (some ⟨bw, 0, none⟩) nw nw) w
      have hs2 : bsumAt nw nb 1 = bsumAt nw nb 0 + 64 * nw := by simp [bsumAt]
      have hs3 : bsumAt nw nb 0 ≤ 100000000 := by simp [bsumAt]
      generalize bsumAt nw nb 0 = s at *
      have HT := Lib.hid hs2
      clear hs2
      go_wp2_with fail
      refine P1.out.mono ?_
      rintro e w' ⟨rfl, rfl⟩
      go_wp2
      go_round
      case rel => exact ⟨1, by omega, rfl, by rw [HT.out]; go_num⟩
      case measure => simp [intOf]
    · have m1 := fun n => meth_blocks n (.slice (some ⟨bb, 0, none⟩) nb nb) w
      have hs2 : bsumAt nw nb 2 = bsumAt nw nb 1 + 32 * nb := by simp [bsumAt]
      have hs3 : bsumAt nw nb 1 ≤ 100000000 := by simp [bsumAt]; omega
      generalize bsumAt nw nb 1 = s at *
      have HT := Lib.hid hs2
      clear hs2
      go_wp2_with fail
      refine P2.out.mono ?_
      rintro e w' ⟨rfl, rfl⟩
      go_wp2
      go_round
      case rel => exact ⟨2, by omega, rfl, by rw [HT.out]; go_num⟩
      case measure => simp [intOf]
    · have m1 := fun n => meth_inner n (.slice (some ⟨bi, 0, none⟩) nw nw) w
      have hs2 : bsumAt nw nb 3 = bsumAt nw nb 2 + 16 * nw := by simp [bsumAt]
      have hs3 : bsumAt nw nb 2 ≤ 100000000 := by simp [bsumAt]; omega
      generalize bsumAt nw nb 2 = s at *
      have HT := Lib.hid hs2
      clear hs2
      go_wp2_with fail
      refine P3.out.mono ?_
      rintro e w' ⟨rfl, rfl⟩
      go_wp2
      go_round
      case rel => exact ⟨3, by omega, rfl, by rw [HT.out]; go_num⟩
      case measure => simp [intOf]
    · have hs3 : bsumAt nw nb 3 = 64 * nw + 32 * nb + 16 * nw := by simp [bsumAt]
      rw [HS.out] at hs3
      rw [hs3]
      clear hs3
      go_wp2
      go_ret
      exact ⟨rfl, rfl⟩
end Go.Proofs.Ytibhhndiefhofaa
