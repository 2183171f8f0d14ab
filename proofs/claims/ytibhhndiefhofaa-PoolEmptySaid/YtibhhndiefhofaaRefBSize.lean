/-
  THE CONTRACT OF brackenref1.BitsSize.
-/
import Derived.Test.YtibhhndiefhofaaRefBegun
namespace Go.Proofs.Ytibhhndiefhofaa
open Go.RowKit

set_option maxHeartbeats 1000000 in
theorem refBitsSize_any (n : Nat) (w : World) (h1 : n ≤ 4294967296) :
    Calls Try.prog 27 #[.int .i64 n] w fun e w' => e = .returned (.int .i64 (bitsN n)) ∧ w = w' := by
  obtain ⟨x, hx⟩ : ∃ x, begunN n 64 = x := ⟨_, rfl⟩
  obtain ⟨y, hy⟩ : ∃ y, begunN n 512 = y := ⟨_, rfl⟩
  have HV : Hid (bitsN n = 64 * x + 32 * y + 16 * x) := by unfold bitsN; rw [hx, hy]; exact rfl
  have hxb : x ≤ 4294967296 := by rw [← hx]; unfold begunN; omega
  have hyb : y ≤ 4294967296 := by rw [← hy]; unfold begunN; omega
  have c1 := Lib.hid (fun w => begun_at n 64 x w h1 (by decide) (by decide) hx)
  have c2 := Lib.hid (fun w => begun_at n 512 y w h1 (by decide) (by decide) hy)
  clear hx hy
  go_enter Try.func27, Try.ntmps27
  go_wp2_with fail
  refine (c1.out _).mono ?_
  rintro e w' ⟨rfl, rfl⟩
  go_wp2_with fail
  refine (c2.out _).mono ?_
  rintro e w' ⟨rfl, rfl⟩
  go_wp2_with fail
  refine (c1.out _).mono ?_
  rintro e w' ⟨rfl, rfl⟩
  go_wp2
  go_ret
  exact ⟨by rw [HV.out]; go_num, rfl⟩
end Go.Proofs.Ytibhhndiefhofaa
