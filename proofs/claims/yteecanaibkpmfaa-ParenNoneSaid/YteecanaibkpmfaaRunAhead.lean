/-
  THE CONTRACTS OF ahead, ones AND begun OF THE LANDED PACKAGE bits.
-/
import Derived.Test.YteecanaibkpmfaaRunIs
import Derived.Deep.QuietTactic
import Derived.BigQuiet
import Derived.IntWalk
namespace Go.Proofs.Yteecanaibkpmfaa
open Go.RowKit

theorem drewN_below {B : Nat} {a w : World} (h : Below B a w) (n : Nat) : Below B a (w.drewN n) := h.trans ⟨rfl, rfl, rfl, Nat.le_refl _, fun _ _ => rfl⟩
theorem kept_drewN {B : Nat} {w : World} {v : Value} {xs : List Bool} (h : Kept B w v xs) (n : Nat) : Kept B (w.drewN n) v xs := kept_keep B w _ v xs h fun _ _ _ => rfl
/-- the places ahead of word i that have that bit -/
def aheadB (xs : List Bool) (i : Nat) (bit : Bool) : Nat := if bit then aheadN xs i else 64 * i - aheadN xs i
theorem aheadN_small (xs : List Bool) (i : Nat) : aheadN xs i ≤ 64 * i := rankN_le xs (64 * i) true

set_option maxHeartbeats 400000 in
set_option maxRecDepth 100000 in
theorem ahead_any (B : Nat) (v : Value) (xs : List Bool) (i : Nat) (bit : Bool) (w : World) (hk : Kept B w v xs) (hx : xs.length ≤ 4194304) (hi : i < nWords xs) :
    Calls Try.prog 63 #[v, .int .i64 i, .bool bit] w fun e w' => e = .returned (.int .i64 (aheadB xs i bit)) ∧ ∃ n, w' = w.drewN n := by
  obtain ⟨p, q, bw, bb, bi, rfl, _, _, _, _, _, r1, r2, _, r4, r5⟩ := hk
  have hn : nWords xs ≤ 65536 := by unfold nWords begunN; omega
  have hnb : i / 8 < nBlocks xs := by unfold nBlocks begunN; omega
  have hnb2 : nBlocks xs ≤ 65536 := by unfold nBlocks begunN; omega
  have c1 : w.cell? ⟨p, 1, none⟩ = some (.slice (some ⟨q, 0, none⟩) 3 3) := r1.cell (i := 1) (by decide)
  have c2 : w.cell? ⟨q, 1, none⟩ = some (.iface 72 (.slice (some ⟨bb, 0, none⟩) (nBlocks xs) (nBlocks xs))) := r2.cell (i := 1) (by decide)
  have c3 : w.cell? ⟨q, 2, none⟩ = some (.iface 74 (.slice (some ⟨bi, 0, none⟩) (nWords xs) (nWords xs))) := r2.cell (i := 2) (by decide)
  have c4 : w.cell? ⟨bb, i / 8, none⟩ = some (.int .u32 (aheadN xs (8 * (i / 8)))) := r4.cell hnb
  have c5 : w.cell? ⟨bi, i, none⟩ = some (.int .u16 (innerN xs i)) := r5.cell hi
  have hs := inner_sum xs i
  have hs1 := aheadN_small xs i
  have hs2 := inner_le xs i
  obtain ⟨ans, hans⟩ : ∃ a, aheadB xs i bit = a := ⟨_, rfl⟩
  have HA : Hid ((if bit then aheadN xs i else 64 * i - aheadN xs i) = ans) := Lib.hid hans
  rw [hans]
  clear hans
  have a1 := fun (w : World) => as_blocks (.slice (some ⟨bb, 0, none⟩) (nBlocks xs) (nBlocks xs)) w
  have a2 := fun (w : World) => as_inner (.slice (some ⟨bi, 0, none⟩) (nWords xs) (nWords xs)) w
  obtain ⟨j, hj⟩ : ∃ j, i / 8 = j := ⟨_, rfl⟩
  have hij : ((i : Int) / 8) = (j : Int) := by omega
  rw [hj] at hs hnb c4
  generalize nWords xs = nw at *
  generalize nBlocks xs = nb at *
  generalize aheadN xs i = t at *
  generalize aheadN xs (8 * j) = x at *
  generalize innerN xs i = y at *
  clear r1 r2 r4 r5
  have b2 : (j : Int) < (nb : Int) := by omega
  have b3 : (0 : Int) ≤ (j : Int) := by omega
  have b4 : (i : Int) < (nw : Int) := by omega
  have b5 : (0 : Int) ≤ (i : Int) := by omega
  have b1 : IntKind.i64.wrap (j : Int) = (j : Int) := IntWalk.i64_in _ (by omega)
  have b0 : Int.tdiv (i : Int) 8 = (j : Int) := by rw [Int.tdiv_eq_ediv_of_nonneg (by omega)]; exact hij
  clear hij
  have hxb : x ≤ 4194304 := by clear b0 b1; omega
  have HS := Lib.hid hs
  have HJ := Lib.hid hj
  clear hs hj
  cases bit
  · have HB : Hid (64 * i - t = ans) := by rw [← HA.out]; exact rfl
    clear HA
    go_enter Try.func63, Try.ntmps63
    go_wp2
    go_quiet (fail)
    go_wp2
    go_ret
    have e := HS.out
    have e2 := HB.out
    clear b0 b1 a1 a2
    exact ⟨ret_i64 (by omega), _, rfl⟩
  · have HB : Hid (t = ans) := by rw [← HA.out]; exact rfl
    clear HA
    go_enter Try.func63, Try.ntmps63
    go_wp2
    go_quiet (fail)
    go_wp2
    go_ret
    have e := HS.out
    have e2 := HB.out
    clear b0 b1 a1 a2
    exact ⟨ret_i64 (by omega), _, rfl⟩

theorem rbegun_any (n d : Nat) (w : World) (h1 : n ≤ 4294967296) (h2 : 1 ≤ d) (h3 : d ≤ 4294967296) :
    Calls Try.prog 66 #[.int .i64 n, .int .i64 d] w fun e w' => e = .returned (.int .i64 (begunN n d)) ∧ w = w' := by
  have hd0 : ((d : Int) == 0) = false := beq_eq_false_iff_ne.2 (by omega)
  have hd1 : (d == 0) = false := beq_eq_false_iff_ne.2 (by omega)
  obtain ⟨m, hm⟩ : ∃ m : Nat, n + d - 1 = m := ⟨_, rfl⟩
  have HV : Hid (wrap64 ((m : Int) / (d : Int)) = ((begunN n d : Nat) : Int)) := by
    have hle : m / d ≤ m := Nat.div_le_self m d
    have e : ((m : Int) / (d : Int)) = ((m / d : Nat) : Int) := rfl
    rw [e, IntWalk.wrap64_in _ (by have : (0 : Int) ≤ ((m / d : Nat) : Int) := Int.natCast_nonneg _; omega)]
    unfold begunN
    rw [hm]
    exact rfl
  have e1 : (n : Int) + (d : Int) - 1 = (m : Int) := by omega
  have hmb : m ≤ 8589934592 := by omega
  clear hm
  go_enter Try.func66, Try.ntmps66
  go_wp2
  go_ret
  exact ⟨by rw [← HV.out]; rfl, rfl⟩

theorem shl_u64 (u n : Nat) : IntKind.u64.wrap ((u : Int) * 2 ^ n) = ((u * 2 ^ n % 2 ^ 64 : Nat) : Int) := by
  rw [IntKind.wrap_u64, Int.natCast_emod, Int.natCast_mul, Int.natCast_pow]
  rfl
set_option maxHeartbeats 1000000 in
set_option maxRecDepth 100000 in
/-- the ones at the places 0 to k, k too -/
theorem upTo_any (B : Nat) (v : Value) (xs : List Bool) (k : Nat) (w : World) (hk : Kept B w v xs) (hx : xs.length ≤ 4194304) (hi : k < xs.length) :
    Calls Try.prog 60 #[v, .int .i64 k] w fun e w' => e = .returned (.int .i64 (rankN xs (k + 1) true)) ∧ ∃ n, w' = w.drewN n := by
  have hw : k / 64 < nWords xs := by unfold nWords begunN; omega
  obtain ⟨i, hi2⟩ : ∃ i, k / 64 = i := ⟨_, rfl⟩
  obtain ⟨t, ht⟩ : ∃ t, k % 64 = t := ⟨_, rfl⟩
  have hr : rankN xs (k + 1) true = aheadN xs i + cnt (wordOf xs i) (t + 1) := by
    have := rank_word xs i (t + 1) (by omega)
    rw [show 64 * i + (t + 1) = k + 1 by omega] at this
    exact this
  have hu := cnt_upTo (wordOf xs i) t (by omega)
  have hlt := wordOf_lt xs i
  have hal := aheadN_small xs i
  have hcl := cnt_le (wordOf xs i) (t + 1)
  rw [hi2] at hw
  have C1 := word_any B v xs i w hk hx hw
  have C2 := ahead_any B v xs i true w hk hx hw
  rw [show aheadB xs i true = aheadN xs i from rfl] at C2
  have C3 := ones_any (wordOf xs i * 2 ^ (63 - t) % 2 ^ 64) (Nat.mod_lt _ (by decide))
  rw [hu] at C3
  have hib : i ≤ 65536 := by omega
  have htb : t ≤ 63 := by omega
  obtain ⟨p, rfl⟩ := kept_ptr B w v xs hk
  obtain ⟨ans, hans⟩ : ∃ a, rankN xs (k + 1) true = a := ⟨_, rfl⟩
  rw [hans] at hr ⊢
  generalize aheadN xs i = x at *
  generalize hy : cnt (wordOf xs i) (t + 1) = y at *
  have HY := Lib.hid hy
  generalize wordOf xs i = u at *
  have HR := Lib.hid hr
  have HI := Lib.hid hi2
  have HT := Lib.hid ht
  have HN := Lib.hid hans
  have C1' := Lib.hid C1
  have C2' := Lib.hid C2
  have C3' := Lib.hid C3
  clear hr hi2 ht hans C1 C2 C3 hu hy
  have hd1 : (k : Int) / 64 = (i : Int) := by have := HI.out; omega
  have HD := Lib.hid hd1
  clear hd1
  have hd2 : (k : Int) % 64 = (t : Int) := by have := HT.out; omega
  have HM := Lib.hid hd2
  clear hd2
  go_enter Try.func60, Try.ntmps60
  go_wp2_with fail
  rw [HD.out]
  refine C1'.out.mono ?_
  rintro e w' ⟨rfl, rfl⟩
  go_wp2_with fail
  try rw [HD.out]
  refine C2'.out.mono ?_
  rintro e w' ⟨rfl, m, rfl⟩
  go_wp2_with fail
  rw [HT.out, shl_u64]
  refine (C3'.out _).mono ?_
  rintro e w' ⟨rfl, rfl⟩
  go_wp2
  go_ret
  have e := HR.out
  exact ⟨ret_i64 (by omega), _, rfl⟩
end Go.Proofs.Yteecanaibkpmfaa
