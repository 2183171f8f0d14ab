/-
  THE CONTRACT OF nth OF THE LANDED PACKAGE bits: the place of the j-th one of a word, by halves.
-/
import Derived.Test.YteecanaibkpmfaaRunAhead
namespace Go.Proofs.Yteecanaibkpmfaa
open Go.RowKit

/-- the j-th one of u stands at or above p, below p + 2 h (at p, where h is 0); r of them are left -/
structure Half (u j p h r : Nat) : Prop where
  pow : h = 0 ∨ h = 1 ∨ h = 2 ∨ h = 4 ∨ h = 8 ∨ h = 16 ∨ h = 32
  top : p + 2 * h ≤ 64
  low : p ≤ 63
  left : cnt u p + r = j
  more : j < cnt u (p + 2 * h + (if h = 0 then 1 else 0))
theorem half_start (u j : Nat) (h : j < cnt u 64) : Half u j 0 32 j := ⟨by omega, by omega, by omega, by simp [cnt], h⟩
theorem half_up {u j p h r n : Nat} (H : Half u j p h r) (h0 : h ≠ 0) (hn : cnt u p + n = cnt u (p + h)) (hr : n ≤ r) : Half u j (p + h) (h / 2) (r - n) := by
  obtain ⟨h1, h2, h3, h4, h5⟩ := H
  rw [if_neg h0] at h5
  refine ⟨by omega, by omega, by omega, by omega, ?_⟩
  have e : p + h + 2 * (h / 2) + (if h / 2 = 0 then 1 else 0) = p + 2 * h + 0 := by split <;> omega
  rw [e]
  exact h5
theorem half_down {u j p h r n : Nat} (H : Half u j p h r) (h0 : h ≠ 0) (hn : cnt u p + n = cnt u (p + h)) (hr : r < n) : Half u j p (h / 2) r := by
  obtain ⟨h1, h2, h3, h4, h5⟩ := H
  refine ⟨by omega, by omega, h3, h4, ?_⟩
  have e : p + 2 * (h / 2) + (if h / 2 = 0 then 1 else 0) = p + h := by split <;> omega
  rw [e]
  omega
theorem half_end {u j p r : Nat} (H : Half u j p 0 r) : p ≤ 63 ∧ cnt u p ≤ j ∧ j < cnt u (p + 1) := by
  obtain ⟨h1, h2, h3, h4, h5⟩ := H
  exact ⟨h3, by omega, h5⟩
theorem mask_u64 (x h : Nat) (hx : x < 18446744073709551616) (hh : h < 64) : bits .and .u64 (x : Int) (IntKind.u64.wrap (IntKind.u64.wrap (2 ^ h) - 1)) = ((x % 2 ^ h : Nat) : Int) := by
  have hp : 2 ^ h < 2 ^ 64 := Nat.pow_lt_pow_right (by decide) hh
  have hp0 : 0 < 2 ^ h := Nat.two_pow_pos h
  have e : IntKind.u64.wrap (2 ^ h) = ((2 ^ h : Nat) : Int) := by
    have := shl_u64 1 h
    rw [Nat.one_mul, Nat.mod_eq_of_lt hp, show ((1 : Nat) : Int) = 1 from rfl, Int.one_mul] at this
    exact this
  have e2 : IntKind.u64.wrap (((2 ^ h : Nat) : Int) - 1) = ((2 ^ h - 1 : Nat) : Int) := by
    rw [show ((2 ^ h : Nat) : Int) - 1 = ((2 ^ h - 1 : Nat) : Int) by omega]
    exact wrap_u64_nat _ (by omega)
  rw [e, e2, bits_and_u64_nat x _ hx (by omega), Nat.and_two_pow_sub_one_eq_mod]
/-- where the j-th one stands -/
def NthPost (u j : Nat) (w : World) (e : Ending) (w' : World) : Prop := ∃ p : Nat, e = .returned (.int .i64 p) ∧ p ≤ 63 ∧ cnt u p ≤ j ∧ j < cnt u (p + 1) ∧ ∃ n, w' = w.drewN n

set_option maxHeartbeats 2000000 in
set_option maxRecDepth 100000 in
theorem nth_any (u j : Nat) (w : World) (hu : u < 18446744073709551616) (hj : j < cnt u 64) :
    Calls Try.prog 65 #[.int .u64 u, .int .i64 j] w (NthPost u j w) := by
  have hs := half_start u j hj
  have hj64 : j ≤ 64 := Nat.le_trans (Nat.le_of_lt hj) (cnt_le u 64)
  clear hj
  go_enter Try.func65, Try.ntmps65
  go_wp2
  go_loopw [1, 5, 6] (fun jv pv hv wr => ∃ p h r q : Nat, jv = .int .i64 r ∧ pv = .int .i64 p ∧ hv = .int .i64 h ∧ wr = w.drewN q ∧ Half u j p h r) (fun _ _ hv _ => (intOf hv).toNat)
  case atStart => exact ⟨0, 32, j, 0, rfl, rfl, rfl, rfl, hs⟩
  case round =>
    obtain ⟨p, h, r, q, rfl, rfl, rfl, rfl, H⟩ := hrel
    clear hs
    have hp := H.low
    have htop := H.top
    have hl := H.left
    by_cases h0 : h = 0
    · subst h0
      have he := half_end H
      clear hl htop H
      have HE := Lib.hid he
      clear he
      go_wp2
      go_ret
      exact ⟨p, rfl, HE.out.1, HE.out.2.1, HE.out.2.2, _, rfl⟩
    · have hh : h ≤ 32 := by omega
      have hh1 : 1 ≤ h := by omega
      have hrb : r ≤ 64 := by omega
      have hwin := cnt_window u p h 64 (by omega)
      have HU := Lib.hid fun hr => half_up H h0 hwin hr
      have HD := Lib.hid fun hr => half_down H h0 hwin hr
      have hlt : u / 2 ^ p % 2 ^ h < 18446744073709551616 := Nat.lt_of_le_of_lt (Nat.mod_le _ _) (Nat.lt_of_le_of_lt (Nat.div_le_self _ _) hu)
      have HO := Lib.hid (ones_any (u / 2 ^ p % 2 ^ h) hlt)
      have HM := Lib.hid (mask_u64 (u / 2 ^ p) h (Nat.lt_of_le_of_lt (Nat.div_le_self _ _) hu) (by omega))
      have hn := cnt_le (u / 2 ^ p % 2 ^ h) 64
      clear hl hwin H hlt h0
      have b1 : (0 : Int) ≤ (p : Int) := by omega
      have b2 : (0 : Int) ≤ (h : Int) := by omega
      go_wp2
      go_quiet (fail)
      go_wp2_with fail
      rw [show (u : Int) / 2 ^ p = ((u / 2 ^ p : Nat) : Int) by rw [Int.natCast_ediv, Int.natCast_pow]; rfl, HM.out]
      refine (HO.out _).mono ?_
      clear HO HM
      generalize u / 2 ^ p % 2 ^ h = low at *
      generalize cnt low 64 = n at *
      rintro e w' ⟨rfl, rfl⟩
      by_cases hr : n ≤ r
      · have HU' := Lib.hid (HU.out hr)
        go_wp2
        go_roundw
        case rel => exact ⟨p + h, h / 2, r - n, _, by go_num, by go_num, by go_num, rfl, HU'.out⟩
        case measure => simp [intOf]; omega
      · have HD' := Lib.hid (HD.out (by omega))
        go_wp2
        go_roundw
        case rel => exact ⟨p, h / 2, r, _, rfl, rfl, by go_num, rfl, HD'.out⟩
        case measure => simp [intOf]; omega
end Go.Proofs.Yteecanaibkpmfaa
