/-
  THE CONTRACT OF brackenref1.Select.
-/
import Derived.Test.YteecanaibkpmfaaRefBools
namespace Go.Proofs.Yteecanaibkpmfaa
open Go.RowKit

set_option maxHeartbeats 2000000 in
set_option maxRecDepth 100000 in
theorem selSome_any (b off cap : Nat) (xs : List Bool) (j : Int) (bit : Bool) (w : World) (hx : xs.length ≤ 4294967296) (hc : ∀ i, i < xs.length → w.cell? ⟨b, off + i, none⟩ = some (.bool (xs.getD i false))) :
    Calls Try.prog 30 #[.slice (some ⟨b, off, none⟩) xs.length cap, .int .i64 j, .bool bit] w fun e w' => e = .returned (.int .i64 (selL xs j bit)) ∧ w = w' := by
  have HC := Lib.hid hc
  clear hc
  obtain ⟨ans, hans⟩ : ∃ ans : Int, selL xs j bit = ans := ⟨_, rfl⟩
  have HA := Lib.hid hans
  rw [hans]
  clear hans
  go_enter Try.func30, Try.ntmps30
  go_wp2
  go_loop [7, 8] (fun n i => ∃ k m : Nat, k ≤ xs.length ∧ m ≤ k ∧ i = .int .i64 k ∧ n = .int .i64 m ∧ selFrom bit j (xs.drop k) k m = ans) (fun _ i => xs.length - (intOf i).toNat)
  case atStart => exact ⟨0, 0, Nat.zero_le _, Nat.le_refl _, rfl, rfl, HA.out⟩
  case round =>
    obtain ⟨k, m, hk, hmk, rfl, rfl, hr⟩ := hrel
    have HR := Lib.hid hr
    clear hr
    by_cases h2 : k < xs.length
    · obtain ⟨x, hxx⟩ : ∃ x, xs.getD k false = x := ⟨_, rfl⟩
      have hcell : w.cell? ⟨b, off + k, none⟩ = some (.bool x) := by rw [← hxx]; exact HC.out k h2
      have HS : Hid ((if x = bit then (if (m : Int) = j then (k : Int) else selFrom bit j (xs.drop (k + 1)) (k + 1) (m + 1)) else selFrom bit j (xs.drop (k + 1)) (k + 1) m) = ans) := by
        have := HR.out
        rw [drop_next xs k x h2 hxx] at this
        exact this
      clear hxx
      by_cases hxb : x = bit
      · subst hxb
        by_cases hm : (m : Int) = j
        · have HF : Hid ((k : Int) = ans) := by rw [← HS.out, if_pos rfl, if_pos hm]; exact rfl
          have m1 : ((m : Int) == j) = true := beq_iff_eq.2 hm
          clear HS hm HR
          by_cases hz : k = 0
          · subst hz
            rw [Nat.add_zero] at hcell
            cases x
            all_goals
              go_wp2
              go_ret
              exact ⟨by rw [← HF.out]; rfl, rfl⟩
          · cases x
            all_goals
              go_wp2
              go_ret
              exact ⟨by rw [← HF.out]; rfl, rfl⟩
        · have HF : Hid (selFrom x j (xs.drop (k + 1)) (k + 1) (m + 1) = ans) := by rw [← HS.out, if_pos rfl, if_neg hm]; exact rfl
          have m1 : ((m : Int) == j) = false := beq_eq_false_iff_ne.2 hm
          clear HS hm HR
          by_cases hz : k = 0
          · subst hz
            rw [Nat.add_zero] at hcell
            cases x
            all_goals
              go_wp2
              go_round
              case rel => exact ⟨0 + 1, m + 1, by omega, by omega, by go_num, by go_num, HF.out⟩
              case measure => simp [intOf]; omega
          · cases x
            all_goals
              go_wp2
              go_round
              case rel => exact ⟨k + 1, m + 1, by omega, by omega, by go_num, by go_num, HF.out⟩
              case measure => simp [intOf]; omega
      · have HF : Hid (selFrom bit j (xs.drop (k + 1)) (k + 1) m = ans) := by rw [← HS.out, if_neg hxb]; exact rfl
        have hb' : x = !bit := by cases x <;> cases bit <;> first | rfl | exact absurd rfl hxb
        subst hb'
        clear HS hxb HR
        by_cases hz : k = 0
        · subst hz
          rw [Nat.add_zero] at hcell
          cases bit
          all_goals
            go_wp2
            go_round
            case rel => exact ⟨0 + 1, m, by omega, by omega, by go_num, rfl, HF.out⟩
            case measure => simp [intOf]; omega
        · cases bit
          all_goals
            go_wp2
            go_round
            case rel => exact ⟨k + 1, m, by omega, by omega, by go_num, rfl, HF.out⟩
            case measure => simp [intOf]; omega
    · have HF : Hid ((-1 : Int) = ans) := by
        rw [← HR.out, List.drop_of_length_le (by omega)]; exact rfl
      go_wp2
      go_ret
      exact ⟨by rw [← HF.out]; rfl, rfl⟩
set_option maxHeartbeats 1000000 in
set_option maxRecDepth 100000 in
theorem selNone_any (a : Option Addr) (cap : Nat) (j : Int) (bit : Bool) (w : World) :
    Calls Try.prog 30 #[.slice a 0 cap, .int .i64 j, .bool bit] w fun e w' => e = .returned (.int .i64 (-1)) ∧ w = w' := by
  go_enter Try.func30, Try.ntmps30
  go_wp2
  go_loop [7, 8] (fun n i => i = .int .i64 0 ∧ n = .int .i64 0) (fun _ _ => 0)
  case atStart => exact ⟨rfl, rfl⟩
  case round =>
    obtain ⟨rfl, rfl⟩ := hrel
    go_wp2
    go_ret
    exact ⟨rfl, rfl⟩
theorem refSelect_any (B : Nat) (v : Value) (xs : List Bool) (j : Int) (bit : Bool) (w : World) (hx : xs.length ≤ 4294967296) (hv : BoolsAt B w v xs) :
    Calls Try.prog 30 #[v, .int .i64 j, .bool bit] w fun e w' => e = .returned (.int .i64 (selL xs j bit)) ∧ w = w' := by
  rcases hv with ⟨a, cap, rfl, rfl⟩ | ⟨b, off, cap, rfl, _, hc⟩
  · exact selNone_any a cap j bit w
  · exact selSome_any b off cap xs j bit w hx hc
end Go.Proofs.Yteecanaibkpmfaa
