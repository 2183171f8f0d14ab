/-
  THE CONTRACT OF brackenref1.MayOffs.
-/
import Derived.Test.YtcgglpjapkjphaaSymsAt
import Derived.Test.YtcgglpjapkjphaaOffLaws
namespace Go.Proofs.Ytcgglpjapkjphaa
open Go.RowKit

set_option maxHeartbeats 2000000 in
set_option maxRecDepth 100000 in
theorem mayOSome_any (b off cap : Nat) (xs : List Int) (w : World) (hx : xs.length ≤ 9223372036854775807) (hc : ∀ i, i < xs.length → w.cell? ⟨b, off + i, none⟩ = some (.int .i64 (xs.getD i 0))) :
    Calls Try.prog 8 #[.slice (some ⟨b, off, none⟩) xs.length cap] w fun e w' => e = .returned (.bool (mayOffs xs)) ∧ w = w' := by
  have HC := Lib.hid hc
  clear hc
  obtain ⟨ans, hans⟩ : ∃ ans : Bool, mayOffs xs = ans := ⟨_, rfl⟩
  have HA := Lib.hid hans
  rw [hans]
  clear hans
  go_enter Try.func8, Try.ntmps8
  go_wp2
  go_loop [3, 4] (fun l i => ∃ (j : Nat) (last : Int), j ≤ xs.length ∧ i = .int .i64 j ∧ l = .int .i64 last ∧ mayO last (xs.drop j) = ans) (fun _ i => xs.length - (intOf i).toNat)
  case atStart => exact ⟨0, 0, Nat.zero_le _, rfl, rfl, HA.out⟩
  case round =>
    obtain ⟨j, last, hj, rfl, rfl, hr⟩ := hrel
    have HR := Lib.hid hr
    clear hr
    by_cases h2 : j < xs.length
    · obtain ⟨x, hxx⟩ : ∃ x, xs.getD j 0 = x := ⟨_, rfl⟩
      have hcell : w.cell? ⟨b, off + j, none⟩ = some (.int .i64 x) := by rw [← hxx]; exact HC.out j h2
      have HS := Lib.hid (mayO_drop xs last j x h2 hxx)
      clear hxx
      by_cases h0 : x < last
      · have HF : Hid (false = ans) := Lib.hid (by
          rw [← HR.out, HS.out, decide_eq_false (show ¬ last ≤ x by omega)]; simp)
        have g0 : decide (x < last) = true := decide_eq_true h0
        by_cases hz : j = 0
        · subst hz
          rw [Nat.add_zero] at hcell
          go_wp2
          go_ret
          exact ⟨by rw [← HF.out]; rfl, rfl⟩
        · go_wp2
          go_ret
          exact ⟨by rw [← HF.out]; rfl, rfl⟩
      · have HF : Hid (mayO x (xs.drop (j + 1)) = ans) := Lib.hid (by
          rw [← HR.out, HS.out, decide_eq_true (show last ≤ x by omega)]; simp)
        have g0 : decide (x < last) = false := decide_eq_false h0
        by_cases hz : j = 0
        · subst hz
          rw [Nat.add_zero] at hcell
          go_wp2
          go_round
          case rel => exact ⟨0 + 1, x, by omega, by go_num, rfl, HF.out⟩
          case measure => simp [intOf]; omega
        · go_wp2
          go_round
          case rel => exact ⟨j + 1, x, by omega, by go_num, rfl, HF.out⟩
          case measure => simp [intOf]; omega
    · have HF : Hid (decide (last ≤ 8388608) = ans) := Lib.hid (by
        rw [← HR.out, List.drop_of_length_le (by omega)]; exact rfl)
      have g1 : decide (j < xs.length) = false := decide_eq_false h2
      go_wp2
      go_ret
      exact ⟨by rw [← HF.out]; rfl, rfl⟩
set_option maxHeartbeats 1000000 in
set_option maxRecDepth 100000 in
theorem mayONone_any (p : Option Addr) (cap : Nat) (w : World) :
    Calls Try.prog 8 #[.slice p 0 cap] w fun e w' => e = .returned (.bool true) ∧ w = w' := by
  go_enter Try.func8, Try.ntmps8
  go_wp2
  go_loop [3, 4] (fun l i => l = .int .i64 0 ∧ i = .int .i64 0) (fun _ _ => 0)
  case atStart => exact ⟨rfl, rfl⟩
  case round =>
    obtain ⟨rfl, rfl⟩ := hrel
    go_wp2
    go_ret
    exact ⟨rfl, rfl⟩
theorem refMayO_any (B : Nat) (v : Value) (xs : List Int) (w : World) (hx : xs.length ≤ 9223372036854775807) (hv : SymsAt B w v xs) :
    Calls Try.prog 8 #[v] w fun e w' => e = .returned (.bool (mayOffs xs)) ∧ w = w' := by
  rcases hv with ⟨a, cap, rfl, rfl⟩ | ⟨b, off, cap, rfl, _, hc⟩
  · exact mayONone_any a cap w
  · exact mayOSome_any b off cap xs w hx hc
end Go.Proofs.Ytcgglpjapkjphaa
