/-
  THE CONTRACT OF brackenref1.begun.
-/
import Derived.Test.YtibhhndiefhofaaRefBools
namespace Go.Proofs.Ytibhhndiefhofaa
open Go.RowKit

theorem wrap_small (n : Nat) (h : n ≤ 8589934592) : wrap64 (n : Int) = (n : Int) := by
  unfold wrap64
  omega
set_option maxHeartbeats 1000000 in
theorem begun_any (n d : Nat) (w : World) (h1 : n ≤ 4294967296) (h2 : 1 ≤ d) (h3 : d ≤ 4294967296) :
    Calls Try.prog 38 #[.int .i64 n, .int .i64 d] w fun e w' => e = .returned (.int .i64 (begunN n d)) ∧ w = w' := by
  have hd0 : ((d : Int) == 0) = false := beq_eq_false_iff_ne.2 (by omega)
  have hd1 : (d == 0) = false := beq_eq_false_iff_ne.2 (by omega)
  obtain ⟨m, hm⟩ : ∃ m : Nat, n + d - 1 = m := ⟨_, rfl⟩
  have HV : Hid (wrap64 ((m : Int) / (d : Int)) = ((begunN n d : Nat) : Int)) := by
    have hle : m / d ≤ m := Nat.div_le_self m d
    have e : ((m : Int) / (d : Int)) = ((m / d : Nat) : Int) := rfl
    rw [e, wrap_small _ (by omega)]
    unfold begunN
    rw [hm]
    exact rfl
  have e1 : (n : Int) + (d : Int) - 1 = (m : Int) := by omega
  have hmb : m ≤ 8589934592 := by omega
  clear hm
  go_enter Try.func38, Try.ntmps38
  go_wp2
  go_ret
  exact ⟨by rw [← HV.out]; rfl, rfl⟩
theorem begun_at (n : Nat) (d : Int) (x : Nat) (w : World) (h1 : n ≤ 4294967296) (h2 : 1 ≤ d) (h3 : d ≤ 4294967296) (hx : begunN n d.toNat = x) :
    Calls Try.prog 38 #[.int .i64 n, .int .i64 d] w fun e w' => e = .returned (.int .i64 x) ∧ w = w' := by
  obtain ⟨m, rfl⟩ := Int.eq_ofNat_of_zero_le (show (0 : Int) ≤ d by omega)
  rw [← hx]
  exact begun_any n m w h1 (by omega) (by omega)
end Go.Proofs.Ytibhhndiefhofaa
