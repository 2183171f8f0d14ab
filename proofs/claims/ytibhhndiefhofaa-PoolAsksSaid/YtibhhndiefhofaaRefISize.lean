/-
  THE CONTRACT OF brackenref1.IntsSize.
-/
import Derived.Test.YtibhhndiefhofaaRefBegun
import Derived.Test.YtibhhndiefhofaaIntLaws
namespace Go.Proofs.Ytibhhndiefhofaa
open Go.RowKit

set_option maxHeartbeats 1000000 in
theorem refIntsSize_any (n width : Nat) (w : World) (h1 : n ≤ 16777216) (h2 : width ≤ 64) :
    Calls Try.prog 29 #[.int .i64 n, .int .i64 width] w fun e w' => e = .returned (.int .i64 (intsN n width)) ∧ w = w' := by
  obtain ⟨m, hm⟩ : ∃ m : Nat, n * width = m := ⟨_, rfl⟩
  have hmb : m ≤ 1073741824 := by
    rw [← hm]
    exact Nat.le_trans (Nat.mul_le_mul h1 h2) (by decide)
  have e1 : (n : Int) * (width : Int) = (m : Int) := by rw [← hm]; rfl
  obtain ⟨x, hx⟩ : ∃ x, begunN m 64 = x := ⟨_, rfl⟩
  have HV : Hid (intsN n width = 64 * x) := by unfold intsN; rw [hm, hx]; exact rfl
  have hxb : x ≤ 4294967296 := by rw [← hx]; unfold begunN; omega
  have c1 := Lib.hid (fun w => begun_at m 64 x w (by omega) (by decide) (by decide) hx)
  clear hx hm
  go_enter Try.func29, Try.ntmps29
  go_wp2_with fail
  refine (c1.out _).mono ?_
  rintro e w' ⟨rfl, rfl⟩
  go_wp2
  go_ret
  exact ⟨by rw [HV.out]; go_num, rfl⟩
end Go.Proofs.Ytibhhndiefhofaa
