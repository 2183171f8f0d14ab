/-
  THE CONTRACT OF math/bits.OnesCount64 of the landed code's program.
  HOW THE LANDED PACKAGE bits KEEPS ITS BITS (Kept), and the contracts of its readers of words and directories.
  THE CONTRACTS OF ahead, ones AND begun OF THE LANDED PACKAGE bits.
  THE CONTRACTS OF Len, Get AND Rank OF THE LANDED PACKAGE bits.
-/
import Derived.Test.YtibhhndiefhofaaBitPar
import Derived.Test.YtibhhndiefhofaaChecked
import Derived.Laws.Bits64b
import Derived.WalkKit
import Derived.WalkSpells
import Derived.WalkLawsBesides
import Derived.LoopTactic
import Derived.Lib.Hide
import Derived.Test.YtibhhndiefhofaaBitWord
import Derived.Test.YtibhhndiefhofaaBoolRow
import Derived.Deep.OwnRows
import Derived.KernelRfl
import Derived.Deep.QuietTactic
import Derived.BigQuiet
import Derived.IntWalk
namespace Go.Proofs.Ytibhhndiefhofaa
open Go.RowKit

theorem and_u64 (a b c : Nat) (ha : a < 18446744073709551616) (hb : b < 18446744073709551616) (h : a &&& b = c) : bits .and .u64 (a : Int) (b : Int) = (c : Int) := by
  rw [← h]; exact bits_and_u64_nat a b ha hb
theorem wrap_u64_nat (n : Nat) (h : n < 18446744073709551616) : IntKind.u64.wrap (n : Int) = (n : Int) := by rw [IntKind.wrap_u64]; omega
theorem ones_e1 (x : Nat) (h : x < 18446744073709551616) (hs : par1 x < 18446744073709551616) : IntKind.u64.wrap (bits .and .u64 ((x : Int) / 2) 6148914691236517205 + bits .and .u64 (x : Int) 6148914691236517205) = (par1 x : Int) := by
  have a := and_u64 (x / 2) 6148914691236517205 _ (by omega) (by omega) rfl
  have b := and_u64 x 6148914691236517205 _ h (by omega) rfl
  rw [show (x : Int) / 2 = ((x / 2 : Nat) : Int) by omega]
  erw [a, b]
  rw [← Int.natCast_add]
  exact wrap_u64_nat _ hs
theorem ones_e2 (x : Nat) (h : x < 18446744073709551616) (hs : par2 x ≤ 4919131752989213764) : IntKind.u64.wrap (bits .and .u64 ((x : Int) / 4) 3689348814741910323 + bits .and .u64 (x : Int) 3689348814741910323) = (par2 x : Int) := by
  have a := and_u64 (x / 4) 3689348814741910323 _ (by omega) (by omega) rfl
  have b := and_u64 x 3689348814741910323 _ h (by omega) rfl
  rw [show (x : Int) / 4 = ((x / 4 : Nat) : Int) by omega]
  erw [a, b]
  rw [← Int.natCast_add]
  exact wrap_u64_nat _ (by unfold par2 at hs; omega)
theorem ones_e3 (x : Nat) (h : x ≤ 4919131752989213764) : bits .and .u64 (IntKind.u64.wrap ((x : Int) / 16 + (x : Int))) 1085102592571150095 = (par3 x : Int) := by
  have a := and_u64 (x / 16 + x) 1085102592571150095 _ (by omega) (by omega) rfl
  rw [show (x : Int) / 16 + (x : Int) = ((x / 16 + x : Nat) : Int) by omega, wrap_u64_nat _ (by omega)]
  exact a
theorem ones_e4 (x : Nat) (h : x < 1000000000000000000) : IntKind.u64.wrap ((x : Int) + (x : Int) / 256) = (par4 x : Int) := by
  rw [show (x : Int) + (x : Int) / 256 = ((par4 x : Nat) : Int) by unfold par4; omega]
  exact wrap_u64_nat _ (by unfold par4; omega)
theorem ones_e5 (x : Nat) (h : x < 1000000000000000000) : IntKind.u64.wrap ((x : Int) + (x : Int) / 65536) = (par5 x : Int) := by
  rw [show (x : Int) + (x : Int) / 65536 = ((par5 x : Nat) : Int) by unfold par5; omega]
  exact wrap_u64_nat _ (by unfold par5; omega)
theorem ones_e6 (x : Nat) (h : x < 1000000000000000000) : IntKind.u64.wrap ((x : Int) + (x : Int) / 4294967296) = (par6 x : Int) := by
  rw [show (x : Int) + (x : Int) / 4294967296 = ((par6 x : Nat) : Int) by unfold par6; omega]
  exact wrap_u64_nat _ (by unfold par6; omega)
theorem ones_e7 (x : Nat) (h : x < 9000000000000000000) : bits .and .i64 (wrap64 (x : Int)) 127 = ((x % 128 : Nat) : Int) := by
  have e : wrap64 (x : Int) = (x : Int) := by unfold wrap64; omega
  rw [e]
  have := bits_mask .i64 63 (by decide) (fun n h0 h1 => by rw [IntKind.wrap_i64]; omega) 7 (by decide) (x : Int) (by omega) (by omega)
  rw [Int.natCast_emod]
  exact this
theorem ret_i64 {a b : Int} (h : a = b) : Ending.returned (.int .i64 a) = .returned (.int .i64 b) := by rw [h]
set_option maxHeartbeats 1000000 in
set_option maxRecDepth 100000 in
theorem ones_any (u : Nat) (hu : u < 18446744073709551616) (w : World) :
    Calls Try.prog 73 #[.int .u64 u] w fun e w' => e = .returned (.int .i64 (cnt u 64)) ∧ w = w' := by
  obtain ⟨k1, k2, k3, k4, k5⟩ := par_small u hu
  have hall := Lib.hid (par_all u hu)
  obtain ⟨ans, hans⟩ : ∃ a, cnt u 64 = a := ⟨_, rfl⟩
  have HA := Lib.hid hans
  rw [hans]
  clear hans
  go_enter Try.func73, Try.ntmps73
  go_wp2
  go_ret
  refine ⟨ret_i64 ?_, rfl⟩
  rw [ones_e1 u hu k1, ones_e2 _ k1 k2, ones_e3 _ k2, ones_e4 _ k3, ones_e5 _ k4, ones_e6 _ k5, ones_e7 _ (by unfold par6; omega), hall.out, HA.out]
end Go.Proofs.Ytibhhndiefhofaa
namespace Go.Proofs.Ytibhhndiefhofaa
open Go.RowKit

def nWords (xs : List Bool) : Nat := begunN xs.length 64
def nBlocks (xs : List Bool) : Nat := begunN (nWords xs) 8
/-- THE BITS xs, KEPT IN BLOCKS FROM B ON. -/
def Kept (B : Nat) (w : World) (v : Value) (xs : List Bool) : Prop :=
  ∃ p q bw bb bi : Nat, v = .pointer (some ⟨p, 0, none⟩) ∧ B ≤ p ∧ B ≤ q ∧ B ≤ bw ∧ B ≤ bb ∧ B ≤ bi ∧
    w.rowIs p 121 2 (fun i => if i = 0 then .int .i64 xs.length else .slice (some ⟨q, 0, none⟩) 3 3) ∧
    w.rowIs q 123 3 (fun i => if i = 0 then .iface 111 (.slice (some ⟨bw, 0, none⟩) (nWords xs) (nWords xs)) else if i = 1 then .iface 114 (.slice (some ⟨bb, 0, none⟩) (nBlocks xs) (nBlocks xs)) else .iface 116 (.slice (some ⟨bi, 0, none⟩) (nWords xs) (nWords xs))) ∧
    w.rowIs bw 82 (nWords xs) (fun i => .int .u64 (wordOf xs i)) ∧
    w.rowIs bb 129 (nBlocks xs) (fun i => .int .u32 (aheadN xs (8 * i))) ∧
    w.rowIs bi 130 (nWords xs) (fun i => .int .u16 (innerN xs i))
theorem kept_keep (B : Nat) (w w' : World) (v : Value) (xs : List Bool) (h : Kept B w v xs) (hk : ∀ k, B ≤ k → k < w.heap.size → w'.heap[k]? = w.heap[k]?) : Kept B w' v xs := by
  obtain ⟨p, q, bw, bb, bi, rfl, h1, h2, h3, h4, h5, r1, r2, r3, r4, r5⟩ := h
  exact ⟨p, q, bw, bb, bi, rfl, h1, h2, h3, h4, h5, r1.of_block (hk _ h1 r1.lt), r2.of_block (hk _ h2 r2.lt), r3.of_block (hk _ h3 r3.lt), r4.of_block (hk _ h4 r4.lt), r5.of_block (hk _ h5 r5.lt)⟩
theorem kept_ptr (B : Nat) (w : World) (v : Value) (xs : List Bool) (h : Kept B w v xs) : ∃ a, v = .pointer (some a) := by
  obtain ⟨p, _, _, _, _, rfl, _⟩ := h
  exact ⟨_, rfl⟩
theorem as_words (v : Value) (w : World) : (Instr.typeAssert (.iface 111 v) 123 111 false).run Try.prog w = .ok v w := by kernel_rfl
theorem as_blocks (v : Value) (w : World) : (Instr.typeAssert (.iface 114 v) 123 114 false).run Try.prog w = .ok v w := by kernel_rfl
theorem as_inner (v : Value) (w : World) : (Instr.typeAssert (.iface 116 v) 123 116 false).run Try.prog w = .ok v w := by kernel_rfl

set_option maxHeartbeats 1000000 in
set_option maxRecDepth 100000 in
theorem word_any (B : Nat) (v : Value) (xs : List Bool) (i : Nat) (w : World) (hk : Kept B w v xs) (hx : xs.length ≤ 4194304) (hi : i < nWords xs) :
    Calls Try.prog 65 #[v, .int .i64 i] w fun e w' => e = .returned (.int .u64 (wordOf xs i)) ∧ w = w' := by
  obtain ⟨p, q, bw, bb, bi, rfl, _, _, _, _, _, r1, r2, r3, _, _⟩ := hk
  have hn : nWords xs ≤ 65536 := by unfold nWords begunN; omega
  have c1 : w.cell? ⟨p, 1, none⟩ = some (.slice (some ⟨q, 0, none⟩) 3 3) := r1.cell (i := 1) (by decide)
  have c2 : w.cell? ⟨q, 0, none⟩ = some (.iface 111 (.slice (some ⟨bw, 0, none⟩) (nWords xs) (nWords xs))) := r2.cell (i := 0) (by decide)
  have c3 : w.cell? ⟨bw, i, none⟩ = some (.int .u64 (wordOf xs i)) := r3.cell hi
  have a1 := as_words (.slice (some ⟨bw, 0, none⟩) (nWords xs) (nWords xs)) w
  generalize nWords xs = nw at *
  generalize wordOf xs i = u at *
  clear r1 r2 r3
  go_enter Try.func65, Try.ntmps65
  go_wp2
  go_ret
  exact ⟨rfl, rfl⟩
end Go.Proofs.Ytibhhndiefhofaa
namespace Go.Proofs.Ytibhhndiefhofaa
open Go.RowKit

theorem drewN_below {B : Nat} {a w : World} (h : Below B a w) (n : Nat) : Below B a (w.drewN n) := h.trans ⟨rfl, rfl, rfl, Nat.le_refl _, fun _ _ => rfl⟩
theorem kept_drewN {B : Nat} {w : World} {v : Value} {xs : List Bool} (h : Kept B w v xs) (n : Nat) : Kept B (w.drewN n) v xs := kept_keep B w _ v xs h fun _ _ _ => rfl
/-- the places ahead of word i that have that bit -/
def aheadB (xs : List Bool) (i : Nat) (bit : Bool) : Nat := if bit then aheadN xs i else 64 * i - aheadN xs i
theorem aheadN_small (xs : List Bool) (i : Nat) : aheadN xs i ≤ 64 * i := rankN_le xs (64 * i) true

set_option maxHeartbeats 400000 in
set_option maxRecDepth 100000 in
theorem ahead_any (B : Nat) (v : Value) (xs : List Bool) (i : Nat) (bit : Bool) (w : World) (hk : Kept B w v xs) (hx : xs.length ≤ 4194304) (hi : i < nWords xs) :
    Calls Try.prog 64 #[v, .int .i64 i, .bool bit] w fun e w' => e = .returned (.int .i64 (aheadB xs i bit)) ∧ ∃ n, w' = w.drewN n := by
  obtain ⟨p, q, bw, bb, bi, rfl, _, _, _, _, _, r1, r2, _, r4, r5⟩ := hk
  have hn : nWords xs ≤ 65536 := by unfold nWords begunN; omega
  have hnb : i / 8 < nBlocks xs := by unfold nBlocks begunN; omega
  have hnb2 : nBlocks xs ≤ 65536 := by unfold nBlocks begunN; omega
  have c1 : w.cell? ⟨p, 1, none⟩ = some (.slice (some ⟨q, 0, none⟩) 3 3) := r1.cell (i := 1) (by decide)
  have c2 : w.cell? ⟨q, 1, none⟩ = some (.iface 114 (.slice (some ⟨bb, 0, none⟩) (nBlocks xs) (nBlocks xs))) := r2.cell (i := 1) (by decide)
  have c3 : w.cell? ⟨q, 2, none⟩ = some (.iface 116 (.slice (some ⟨bi, 0, none⟩) (nWords xs) (nWords xs))) := r2.cell (i := 2) (by decide)
  have c4 : w.cell? ⟨bb, i / 8, none⟩ = some (.int .u32 (aheadN xs (8 * (i / 8)))) := r4.cell hnb
  have c5 : w.cell? ⟨bi, i, none⟩ = some (.int .u16 (innerN xs i)) := r5.cell hi
  have hs := inner_sum xs i
  have hs1 := aheadN_small xs i
  have hs2 := inner_le xs i
  obtain ⟨ans, hans⟩ : ∃ a, aheadB xs i bit = a := ⟨_, rfl⟩
  have HA : Hid ((if bit then aheadN xs i else 64 * i - aheadN xs i) = ans) := Lib.hid hans
  rw [hans]
  clear hans
  have a1 := fun (w : World) => as_blocks (.slice (some ⟨bb, 0, none⟩) (nBlocks xs) (nBlocks xs)) w
  have a2 := fun (w : World) => as_inner (.slice (some ⟨bi, 0, none⟩) (nWords xs) (nWords xs)) w
  obtain ⟨j, hj⟩ : ∃ j, i / 8 = j := ⟨_, rfl⟩
  have hij : ((i : Int) / 8) = (j : Int) := by omega
  rw [hj] at hs hnb c4
  generalize nWords xs = nw at *
  generalize nBlocks xs = nb at *
  generalize aheadN xs i = t at *
  generalize aheadN xs (8 * j) = x at *
  generalize innerN xs i = y at *
  clear r1 r2 r4 r5
  have b2 : (j : Int) < (nb : Int) := by omega
  have b3 : (0 : Int) ≤ (j : Int) := by omega
  have b4 : (i : Int) < (nw : Int) := by omega
  have b5 : (0 : Int) ≤ (i : Int) := by omega
  have b1 : IntKind.i64.wrap (j : Int) = (j : Int) := IntWalk.i64_in _ (by omega)
  have b0 : Int.tdiv (i : Int) 8 = (j : Int) := by rw [Int.tdiv_eq_ediv_of_nonneg (by omega)]; exact hij
  clear hij
  have hxb : x ≤ 4194304 := by clear b0 b1; omega
  have HS := Lib.hid hs
  have HJ := Lib.hid hj
  clear hs hj
  cases bit
  · have HB : Hid (64 * i - t = ans) := by rw [← HA.out]; exact rfl
    clear HA
    go_enter Try.func64, Try.ntmps64
    go_wp2
    go_quiet (fail)
    go_wp2
    go_ret
    have e := HS.out
    have e2 := HB.out
    clear b0 b1 a1 a2
    exact ⟨ret_i64 (by omega), _, rfl⟩
  · have HB : Hid (t = ans) := by rw [← HA.out]; exact rfl
    clear HA
    go_enter Try.func64, Try.ntmps64
    go_wp2
    go_quiet (fail)
    go_wp2
    go_ret
    have e := HS.out
    have e2 := HB.out
    clear b0 b1 a1 a2
    exact ⟨ret_i64 (by omega), _, rfl⟩

theorem rbegun_any (n d : Nat) (w : World) (h1 : n ≤ 4294967296) (h2 : 1 ≤ d) (h3 : d ≤ 4294967296) :
    Calls Try.prog 72 #[.int .i64 n, .int .i64 d] w fun e w' => e = .returned (.int .i64 (begunN n d)) ∧ w = w' := by
  have hd0 : ((d : Int) == 0) = false := beq_eq_false_iff_ne.2 (by omega)
  have hd1 : (d == 0) = false := beq_eq_false_iff_ne.2 (by omega)
  obtain ⟨m, hm⟩ : ∃ m : Nat, n + d - 1 = m := ⟨_, rfl⟩
  have HV : Hid (wrap64 ((m : Int) / (d : Int)) = ((begunN n d : Nat) : Int)) := by
    have hle : m / d ≤ m := Nat.div_le_self m d
    have e : ((m : Int) / (d : Int)) = ((m / d : Nat) : Int) := rfl
    rw [e, IntWalk.wrap64_in _ (by have : (0 : Int) ≤ ((m / d : Nat) : Int) := Int.natCast_nonneg _; omega)]
    unfold begunN
    rw [hm]
    exact rfl
  have e1 : (n : Int) + (d : Int) - 1 = (m : Int) := by omega
  have hmb : m ≤ 8589934592 := by omega
  clear hm
  go_enter Try.func72, Try.ntmps72
  go_wp2
  go_ret
  exact ⟨by rw [← HV.out]; rfl, rfl⟩

theorem shl_u64 (u n : Nat) : IntKind.u64.wrap ((u : Int) * 2 ^ n) = ((u * 2 ^ n % 2 ^ 64 : Nat) : Int) := by
  rw [IntKind.wrap_u64, Int.natCast_emod, Int.natCast_mul, Int.natCast_pow]
  rfl
set_option maxHeartbeats 1000000 in
set_option maxRecDepth 100000 in
/-- the ones at the places 0 to k, k too -/
theorem upTo_any (B : Nat) (v : Value) (xs : List Bool) (k : Nat) (w : World) (hk : Kept B w v xs) (hx : xs.length ≤ 4194304) (hi : k < xs.length) :
    Calls Try.prog 67 #[v, .int .i64 k] w fun e w' => e = .returned (.int .i64 (rankN xs (k + 1) true)) ∧ ∃ n, w' = w.drewN n := by
  have hw : k / 64 < nWords xs := by unfold nWords begunN; omega
  obtain ⟨i, hi2⟩ : ∃ i, k / 64 = i := ⟨_, rfl⟩
  obtain ⟨t, ht⟩ : ∃ t, k % 64 = t := ⟨_, rfl⟩
  have hr : rankN xs (k + 1) true = aheadN xs i + cnt (wordOf xs i) (t + 1) := by
    have := rank_word xs i (t + 1) (by omega)
    rw [show 64 * i + (t + 1) = k + 1 by omega] at this
    exact this
  have hu := cnt_upTo (wordOf xs i) t (by omega)
  have hlt := wordOf_lt xs i
  have hal := aheadN_small xs i
  have hcl := cnt_le (wordOf xs i) (t + 1)
  rw [hi2] at hw
  have C1 := word_any B v xs i w hk hx hw
  have C2 := ahead_any B v xs i true w hk hx hw
  rw [show aheadB xs i true = aheadN xs i from rfl] at C2
  have C3 := ones_any (wordOf xs i * 2 ^ (63 - t) % 2 ^ 64) (Nat.mod_lt _ (by decide))
  rw [hu] at C3
  have hib : i ≤ 65536 := by omega
  have htb : t ≤ 63 := by omega
  obtain ⟨p, rfl⟩ := kept_ptr B w v xs hk
  obtain ⟨ans, hans⟩ : ∃ a, rankN xs (k + 1) true = a := ⟨_, rfl⟩
  rw [hans] at hr ⊢
  generalize aheadN xs i = x at *
  generalize hy : cnt (wordOf xs i) (t + 1) = y at *
  have HY := Lib.hid hy
  generalize wordOf xs i = u at *
  have HR := Lib.hid hr
  have HI := Lib.hid hi2
  have HT := Lib.hid ht
  have HN := Lib.hid hans
  have C1' := Lib.hid C1
  have C2' := Lib.hid C2
  have C3' := Lib.hid C3
  clear hr hi2 ht hans C1 C2 C3 hu hy
  have hd1 : (k : Int) / 64 = (i : Int) := by have := HI.out; omega
  have HD := Lib.hid hd1
  clear hd1
  have hd2 : (k : Int) % 64 = (t : Int) := by have := HT.out; omega
  have HM := Lib.hid hd2
  clear hd2
  go_enter Try.func67, Try.ntmps67
  go_wp2_with fail
  rw [HD.out]
  refine C1'.out.mono ?_
  rintro e w' ⟨rfl, rfl⟩
  go_wp2_with fail
  try rw [HD.out]
  refine C2'.out.mono ?_
  rintro e w' ⟨rfl, m, rfl⟩
  go_wp2_with fail
  rw [HT.out, shl_u64]
  refine (C3'.out _).mono ?_
  rintro e w' ⟨rfl, rfl⟩
  go_wp2
  go_ret
  have e := HR.out
  exact ⟨ret_i64 (by omega), _, rfl⟩
end Go.Proofs.Ytibhhndiefhofaa
namespace Go.Proofs.Ytibhhndiefhofaa
open Go.RowKit

theorem rlenNil_any (w : World) : Calls Try.prog 52 #[.pointer none] w fun e w' => e = .returned (.int .i64 0) ∧ w = w' := by
  go_enter Try.func52, Try.ntmps52
  go_wp2
  go_ret
  exact ⟨rfl, rfl⟩
theorem rlen_any (B : Nat) (v : Value) (xs : List Bool) (w : World) (hk : Kept B w v xs) :
    Calls Try.prog 52 #[v] w fun e w' => e = .returned (.int .i64 xs.length) ∧ w = w' := by
  obtain ⟨p, q, bw, bb, bi, rfl, _, _, _, _, _, r1, _⟩ := hk
  have c1 : w.cell? ⟨p, 0, none⟩ = some (.int .i64 xs.length) := r1.cell (i := 0) (by decide)
  clear r1
  go_enter Try.func52, Try.ntmps52
  go_wp2
  go_ret
  exact ⟨rfl, rfl⟩
theorem rankL_low (xs : List Bool) (k : Int) (bit : Bool) (h : k ≤ 0) : rankL xs k bit = 0 := by
  unfold rankL
  rw [show k.toNat = 0 by omega]
  rfl
theorem rankL_min (xs : List Bool) (k : Int) (bit : Bool) (m : Nat) (h : (m : Int) = min k xs.length) : rankL xs k bit = rankN xs m bit := by
  unfold rankL
  by_cases hk : k ≤ xs.length
  · rw [show k.toNat = m by omega]
  · rw [rankN_all xs k.toNat bit (by omega), show m = xs.length by omega]
set_option maxHeartbeats 1000000 in
set_option maxRecDepth 100000 in
/-- the rank of a place that is not below 1, where there are bits -/
theorem rrank_in (B : Nat) (v : Value) (xs : List Bool) (k : Int) (m : Nat) (bit : Bool) (w : World) (hk : Kept B w v xs) (hx : xs.length ≤ 4194304) (h1 : 1 ≤ m) (hm : m ≤ xs.length)
    (hmk : k = (m : Int) ∨ (m = xs.length ∧ (xs.length : Int) < k)) :
    Calls Try.prog 53 #[v, .int .i64 k, .bool bit] w fun e w' => e = .returned (.int .i64 (rankN xs m bit)) ∧ ∃ n, w' = w.drewN n := by
  have CL := Lib.hid (rlen_any B v xs w hk)
  have C2 := upTo_any B v xs (m - 1) w hk hx (by omega)
  rw [show m - 1 + 1 = m by omega, show ((m - 1 : Nat) : Int) = (m : Int) - 1 by omega] at C2
  have C2' := Lib.hid C2
  obtain ⟨p, rfl⟩ := kept_ptr B w v xs hk
  have hb := rank_both xs m hm
  have hr := rankN_le xs m true
  clear C2 hk
  cases bit
  · have e1 : rankN xs m false = m - rankN xs m true := by omega
    rw [e1]
    clear e1 hb
    generalize rankN xs m true = t at *
    generalize xs.length = len at *
    rcases hmk with rfl | ⟨rfl, hlt⟩
    all_goals
      go_enter Try.func53, Try.ntmps53
      go_wp2_with fail
      refine CL.out.mono ?_
      rintro e w' ⟨rfl, rfl⟩
      go_wp2_with fail
      refine C2'.out.mono ?_
      rintro e w' ⟨rfl, n, rfl⟩
      go_wp2
      go_ret
      exact ⟨ret_i64 (by omega), _, rfl⟩
  · clear hb
    generalize rankN xs m true = t at *
    generalize xs.length = len at *
    rcases hmk with rfl | ⟨rfl, hlt⟩
    all_goals
      go_enter Try.func53, Try.ntmps53
      go_wp2_with fail
      refine CL.out.mono ?_
      rintro e w' ⟨rfl, rfl⟩
      go_wp2_with fail
      refine C2'.out.mono ?_
      rintro e w' ⟨rfl, n, rfl⟩
      go_wp2
      go_ret
      exact ⟨rfl, _, rfl⟩
set_option maxHeartbeats 1000000 in
set_option maxRecDepth 100000 in
theorem rrank_any (B : Nat) (v : Value) (xs : List Bool) (k : Int) (bit : Bool) (w : World) (hk : Kept B w v xs) (hx : xs.length ≤ 4194304) :
    Calls Try.prog 53 #[v, .int .i64 k, .bool bit] w fun e w' => e = .returned (.int .i64 (rankL xs k bit)) ∧ ∃ n, w' = w.drewN n := by
  by_cases h0 : k ≤ 0 ∨ xs.length = 0
  · have CL := Lib.hid (rlen_any B v xs w hk)
    obtain ⟨p, rfl⟩ := kept_ptr B w v xs hk
    clear hk
    by_cases h1 : k ≤ 0
    · rw [rankL_low xs k bit h1]
      clear h0
      go_enter Try.func53, Try.ntmps53
      go_wp2_with (refine CL.out.mono ?_; rintro e w' ⟨rfl, rfl⟩)
      go_ret
      exact ⟨rfl, 0, rfl⟩
    · have hz : xs.length = 0 := by omega
      rw [rankL_min xs k bit 0 (by omega), show rankN xs 0 bit = 0 from rfl]
      rw [hz] at CL
      clear hx h0 hz
      go_enter Try.func53, Try.ntmps53
      go_wp2_with (refine CL.out.mono ?_; rintro e w' ⟨rfl, rfl⟩)
      go_ret
      exact ⟨rfl, 0, rfl⟩
  · obtain ⟨j, rfl⟩ := Int.eq_ofNat_of_zero_le (show 0 ≤ k by omega)
    by_cases h1 : j ≤ xs.length
    · rw [rankL_min xs _ bit j (by omega)]
      exact rrank_in B v xs _ j bit w hk hx (by omega) h1 (Or.inl rfl)
    · rw [rankL_min xs _ bit xs.length (by omega)]
      exact rrank_in B v xs _ xs.length bit w hk hx (by omega) (Nat.le_refl _) (Or.inr ⟨rfl, by omega⟩)
end Go.Proofs.Ytibhhndiefhofaa
