/-
  THE CONTRACTS OF Len, Get AND Rank OF THE LANDED PACKAGE bits.
-/
import Derived.Test.YteecanaibkpmfaaRunAhead
namespace Go.Proofs.Yteecanaibkpmfaa
open Go.RowKit

theorem rlenNil_any (w : World) : Calls Try.prog 59 #[.pointer none] w fun e w' => e = .returned (.int .i64 0) ∧ w = w' := by
  go_enter Try.func59, Try.ntmps59
  go_wp2
  go_ret
  exact ⟨rfl, rfl⟩
theorem rlen_any (B : Nat) (v : Value) (xs : List Bool) (w : World) (hk : Kept B w v xs) :
    Calls Try.prog 59 #[v] w fun e w' => e = .returned (.int .i64 xs.length) ∧ w = w' := by
  obtain ⟨p, q, bw, bb, bi, rfl, _, _, _, _, _, r1, _⟩ := hk
  have c1 : w.cell? ⟨p, 0, none⟩ = some (.int .i64 xs.length) := r1.cell (i := 0) (by decide)
  clear r1
  go_enter Try.func59, Try.ntmps59
  go_wp2
  go_ret
  exact ⟨rfl, rfl⟩
theorem bit_of (u t : Nat) (b : Bool) (hu : u < 18446744073709551616) (h : u.testBit t = b) : (bits .and .u64 ((u : Int) / 2 ^ t) 1 == 1) = b := by
  have hd : u / 2 ^ t ≤ u := Nat.div_le_self _ _
  have e : ((u : Int) / 2 ^ t) = ((u / 2 ^ t : Nat) : Int) := by rw [Int.natCast_ediv, Int.natCast_pow]; rfl
  have e2 := bits_and_u64_nat (u / 2 ^ t) 1 (by omega) (by omega)
  rw [e]
  rw [show (1 : Int) = ((1 : Nat) : Int) from rfl, e2, Nat.and_one_is_mod, ← h, Nat.testBit_eq_decide_div_mod_eq, Bool.eq_iff_iff]
  simp
  omega

set_option maxHeartbeats 1000000 in
set_option maxRecDepth 100000 in
theorem rget_any (B : Nat) (v : Value) (xs : List Bool) (k : Int) (w : World) (hk : Kept B w v xs) (hx : xs.length ≤ 4194304) (hk64 : In64 k) :
    Calls Try.prog 48 #[v, .int .i64 k] w fun e w' => e = .returned (.tuple #[.bool (getB xs k), .int .i64 (getC xs k)]) ∧ w = w' := by
  have CL := Lib.hid (rlen_any B v xs w hk)
  by_cases h0 : k < 0
  · have e1 : getB xs k = false := by unfold getB; rw [if_neg (by omega)]
    have e2 : getC xs k = 4 := by unfold getC; rw [if_neg (by omega)]
    rw [e1, e2]
    clear e1 e2 hk
    go_enter Try.func48, Try.ntmps48
    go_wp2
    go_ret2
    exact ⟨rfl, rfl⟩
  · obtain ⟨j, rfl⟩ := Int.eq_ofNat_of_zero_le (show 0 ≤ k by omega)
    obtain ⟨p, rfl⟩ := kept_ptr B w v xs hk
    by_cases h1 : j < xs.length
    · have hj : (j : Int).toNat = j := Int.toNat_natCast j
      have e1 : getB xs (j : Int) = xs.getD j false := by unfold getB; rw [if_pos (by omega), hj]
      have e2 : getC xs (j : Int) = 0 := by unfold getC; rw [if_pos (by omega)]
      rw [e1, e2]
      clear e1 e2 hj
      have hw : j / 64 < nWords xs := by unfold nWords begunN; omega
      have C1 := Lib.hid (word_any B _ xs (j / 64) w hk hx hw)
      have hb := wordOf_bit xs (j / 64) (j % 64)
      rw [decide_eq_true (by omega : j % 64 < 64), Bool.true_and, show 64 * (j / 64) + j % 64 = j by omega] at hb
      have HB := Lib.hid (bit_of _ _ _ (wordOf_lt xs (j / 64)) hb)
      clear hb hk
      generalize wordOf xs (j / 64) = u at *
      generalize xs.getD j false = x at *
      have g1 : decide (xs.length ≤ j) = false := decide_eq_false (by omega)
      go_enter Try.func48, Try.ntmps48
      go_wp2_with fail
      refine CL.out.mono ?_
      rintro e w' ⟨rfl, rfl⟩
      go_wp2_with fail
      refine C1.out.mono ?_
      rintro e w' ⟨rfl, rfl⟩
      go_wp2
      go_ret2
      exact ⟨by first | rfl | (rw [HB.out]; rfl), rfl⟩
    · have e1 : getB xs (j : Int) = false := by unfold getB; rw [if_neg (by omega)]
      have e2 : getC xs (j : Int) = 4 := by unfold getC; rw [if_neg (by omega)]
      rw [e1, e2]
      clear e1 e2 hk
      have g1 : decide (xs.length ≤ j) = true := decide_eq_true (by omega)
      go_enter Try.func48, Try.ntmps48
      go_wp2_with (refine CL.out.mono ?_; rintro e w' ⟨rfl, rfl⟩)
      go_ret2
      exact ⟨rfl, rfl⟩

theorem rankL_low (xs : List Bool) (k : Int) (bit : Bool) (h : k ≤ 0) : rankL xs k bit = 0 := by
  unfold rankL
  rw [show k.toNat = 0 by omega]
  rfl
theorem rankL_min (xs : List Bool) (k : Int) (bit : Bool) (m : Nat) (h : (m : Int) = min k xs.length) : rankL xs k bit = rankN xs m bit := by
  unfold rankL
  by_cases hk : k ≤ xs.length
  · rw [show k.toNat = m by omega]
  · rw [rankN_all xs k.toNat bit (by omega), show m = xs.length by omega]
set_option maxHeartbeats 1000000 in
set_option maxRecDepth 100000 in
/-- the rank of a place that is not below 1, where there are bits -/
theorem rrank_in (B : Nat) (v : Value) (xs : List Bool) (k : Int) (m : Nat) (bit : Bool) (w : World) (hk : Kept B w v xs) (hx : xs.length ≤ 4194304) (h1 : 1 ≤ m) (hm : m ≤ xs.length)
    (hmk : k = (m : Int) ∨ (m = xs.length ∧ (xs.length : Int) < k)) :
    Calls Try.prog 44 #[v, .int .i64 k, .bool bit] w fun e w' => e = .returned (.int .i64 (rankN xs m bit)) ∧ ∃ n, w' = w.drewN n := by
  have CL := Lib.hid (rlen_any B v xs w hk)
  have C2 := upTo_any B v xs (m - 1) w hk hx (by omega)
  rw [show m - 1 + 1 = m by omega, show ((m - 1 : Nat) : Int) = (m : Int) - 1 by omega] at C2
  have C2' := Lib.hid C2
  obtain ⟨p, rfl⟩ := kept_ptr B w v xs hk
  have hb := rank_both xs m hm
  have hr := rankN_le xs m true
  clear C2 hk
  cases bit
  · have e1 : rankN xs m false = m - rankN xs m true := by omega
    rw [e1]
    clear e1 hb
    generalize rankN xs m true = t at *
    generalize xs.length = len at *
    rcases hmk with rfl | ⟨rfl, hlt⟩
    all_goals
      go_enter Try.func44, Try.ntmps44
      go_wp2_with fail
      refine CL.out.mono ?_
      rintro e w' ⟨rfl, rfl⟩
      go_wp2_with fail
      refine C2'.out.mono ?_
      rintro e w' ⟨rfl, n, rfl⟩
      go_wp2
      go_ret
      exact ⟨ret_i64 (by omega), _, rfl⟩
  · clear hb
    generalize rankN xs m true = t at *
    generalize xs.length = len at *
    rcases hmk with rfl | ⟨rfl, hlt⟩
    all_goals
      go_enter Try.func44, Try.ntmps44
      go_wp2_with fail
      refine CL.out.mono ?_
      rintro e w' ⟨rfl, rfl⟩
      go_wp2_with fail
      refine C2'.out.mono ?_
      rintro e w' ⟨rfl, n, rfl⟩
      go_wp2
      go_ret
      exact ⟨rfl, _, rfl⟩
set_option maxHeartbeats 1000000 in
set_option maxRecDepth 100000 in
theorem rrank_any (B : Nat) (v : Value) (xs : List Bool) (k : Int) (bit : Bool) (w : World) (hk : Kept B w v xs) (hx : xs.length ≤ 4194304) :
    Calls Try.prog 44 #[v, .int .i64 k, .bool bit] w fun e w' => e = .returned (.int .i64 (rankL xs k bit)) ∧ ∃ n, w' = w.drewN n := by
  by_cases h0 : k ≤ 0 ∨ xs.length = 0
  · have CL := Lib.hid (rlen_any B v xs w hk)
    obtain ⟨p, rfl⟩ := kept_ptr B w v xs hk
    clear hk
    by_cases h1 : k ≤ 0
    · rw [rankL_low xs k bit h1]
      clear h0
      go_enter Try.func44, Try.ntmps44
      go_wp2_with (refine CL.out.mono ?_; rintro e w' ⟨rfl, rfl⟩)
      go_ret
      exact ⟨rfl, 0, rfl⟩
    · have hz : xs.length = 0 := by omega
      rw [rankL_min xs k bit 0 (by omega), show rankN xs 0 bit = 0 from rfl]
      rw [hz] at CL
      clear hx h0 hz
      go_enter Try.func44, Try.ntmps44
      go_wp2_with (refine CL.out.mono ?_; rintro e w' ⟨rfl, rfl⟩)
      go_ret
      exact ⟨rfl, 0, rfl⟩
  · obtain ⟨j, rfl⟩ := Int.eq_ofNat_of_zero_le (show 0 ≤ k by omega)
    by_cases h1 : j ≤ xs.length
    · rw [rankL_min xs _ bit j (by omega)]
      exact rrank_in B v xs _ j bit w hk hx (by omega) h1 (Or.inl rfl)
    · rw [rankL_min xs _ bit xs.length (by omega)]
      exact rrank_in B v xs _ xs.length bit w hk hx (by omega) (Nat.le_refl _) (Or.inr ⟨rfl, by omega⟩)
end Go.Proofs.Yteecanaibkpmfaa
