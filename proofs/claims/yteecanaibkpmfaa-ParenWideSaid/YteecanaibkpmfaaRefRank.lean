/-
  THE CONTRACT OF brackenref1.Rank.
-/
import Derived.Test.YteecanaibkpmfaaRefBools
namespace Go.Proofs.Yteecanaibkpmfaa
open Go.RowKit

set_option maxHeartbeats 2000000 in
set_option maxRecDepth 100000 in
theorem rankSome_any (b off cap : Nat) (xs : List Bool) (k : Int) (bit : Bool) (w : World) (hx : xs.length ≤ 4294967296) (hc : ∀ i, i < xs.length → w.cell? ⟨b, off + i, none⟩ = some (.bool (xs.getD i false))) :
    Calls Try.prog 35 #[.slice (some ⟨b, off, none⟩) xs.length cap, .int .i64 k, .bool bit] w fun e w' => e = .returned (.int .i64 (rankL xs k bit)) ∧ w = w' := by
  have HC := Lib.hid hc
  clear hc
  obtain ⟨ans, hans⟩ : ∃ ans : Nat, rankL xs k bit = ans := ⟨_, rfl⟩
  have HA := Lib.hid hans
  rw [hans]
  clear hans
  go_enter Try.func35, Try.ntmps35
  go_wp2
  go_loop [7, 8] (fun n i => ∃ j : Nat, j ≤ xs.length ∧ (j : Int) ≤ max k 0 ∧ i = .int .i64 j ∧ n = .int .i64 (rankN xs j bit)) (fun _ i => xs.length - (intOf i).toNat)
  case atStart => exact ⟨0, Nat.zero_le _, by omega, rfl, rfl⟩
  case round =>
    obtain ⟨j, hj, hjk, rfl, rfl⟩ := hrel
    have hrl := rankN_le xs j bit
    by_cases h1 : (j : Int) < k
    · by_cases h2 : j < xs.length
      · obtain ⟨x, hxx⟩ : ∃ x, xs.getD j false = x := ⟨_, rfl⟩
        have hcell : w.cell? ⟨b, off + j, none⟩ = some (.bool x) := by rw [← hxx]; exact HC.out j h2
        have HS := Lib.hid (rankN_succ xs j bit x h2 hxx)
        clear hxx
        generalize rankN xs j bit = n at *
        by_cases hz : j = 0
        · subst hz
          rw [Nat.add_zero] at hcell
          cases x <;> cases bit
          all_goals
            go_wp2
            go_round
            case rel => exact ⟨0 + 1, by omega, by omega, by go_num, by rw [HS.out]; simp⟩
            case measure => simp [intOf]; omega
        · cases x <;> cases bit
          all_goals
            go_wp2
            go_round
            case rel => exact ⟨j + 1, by omega, by omega, by go_num, by rw [HS.out]; simp⟩
            case measure => simp [intOf]; omega
      · have HF : Hid (rankN xs j bit = ans) := by
          rw [← HA.out]; unfold rankL
          obtain rfl : j = xs.length := by omega
          rw [rankN_all xs k.toNat bit (by omega)]; exact rfl
        have h2' : decide (j < xs.length) = false := decide_eq_false h2
        generalize rankN xs j bit = n at *
        go_wp2
        go_ret
        exact ⟨by rw [← HF.out]; rfl, rfl⟩
    · have HF : Hid (rankN xs j bit = ans) := by
        rw [← HA.out]; unfold rankL
        rw [show k.toNat = j by omega]; exact rfl
      have h1' : decide ((j : Int) < k) = false := decide_eq_false h1
      generalize rankN xs j bit = n at *
      go_wp2
      go_ret
      exact ⟨by rw [← HF.out]; rfl, rfl⟩

set_option maxHeartbeats 1000000 in
set_option maxRecDepth 100000 in
theorem rankNone_any (a : Option Addr) (cap : Nat) (k : Int) (bit : Bool) (w : World) :
    Calls Try.prog 35 #[.slice a 0 cap, .int .i64 k, .bool bit] w fun e w' => e = .returned (.int .i64 0) ∧ w = w' := by
  by_cases h1 : (0 : Int) < k
  all_goals
    go_enter Try.func35, Try.ntmps35
    go_wp2
    go_loop [7, 8] (fun n i => i = .int .i64 0 ∧ n = .int .i64 0) (fun _ _ => 0)
    case atStart => exact ⟨rfl, rfl⟩
    case round =>
      obtain ⟨rfl, rfl⟩ := hrel
      go_wp2
      go_ret
      exact ⟨rfl, rfl⟩
theorem refRank_any (B : Nat) (v : Value) (xs : List Bool) (k : Int) (bit : Bool) (w : World) (hx : xs.length ≤ 4294967296) (hv : BoolsAt B w v xs) :
    Calls Try.prog 35 #[v, .int .i64 k, .bool bit] w fun e w' => e = .returned (.int .i64 (rankL xs k bit)) ∧ w = w' := by
  rcases hv with ⟨a, cap, rfl, rfl⟩ | ⟨b, off, cap, rfl, _, hc⟩
  · have e : rankL [] k bit = 0 := by unfold rankL rankN; simp
    rw [e]
    exact rankNone_any a cap k bit w
  · exact rankSome_any b off cap xs k bit w hx hc
end Go.Proofs.Yteecanaibkpmfaa
