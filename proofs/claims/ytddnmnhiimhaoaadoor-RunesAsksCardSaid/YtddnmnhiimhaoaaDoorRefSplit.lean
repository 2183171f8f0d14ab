/-
  THE CONTRACT OF THE DOCUMENT'S OWN Split (brackenref1.Split): it returns splitV of RuneDefs; of what was there before the call nothing turns.
-/
import Derived.Test.YtddnmnhiimhaoaaDoorRefMore
namespace Go.Proofs.YtddnmnhiimhaoaaDoor
open Go.RowKit

set_option maxHeartbeats 2000000 in
set_option maxRecDepth 100000 in
theorem refSplit_any (s : ByteArray) (w : World) (hs : s.size ≤ 4294967296) :
    Calls Tryd.prog 13 #[.string s] w fun e w' => e = .returned (.tuple #[.string (splitV s).1, .string (splitV s).2.1, .bool (splitV s).2.2]) ∧ Below w.heap.size w w' := by
  go_enter Tryd.func13, Tryd.ntmps13
  go_wp2
  go_loop [5] (fun i => ∃ k : Nat, k ≤ s.size ∧ i = .int .i64 k ∧ NoColon s k) (fun i => s.size - (intOf i).toNat)
  case atStart => exact ⟨0, Nat.zero_le _, rfl, noColon_zero s⟩
  case round =>
    obtain ⟨k, hk, rfl, hn⟩ := hrel
    have HN := Lib.hid hn
    clear hn
    by_cases hlt : k < s.size
    · have HS := Lib.hid (noColon_succ s k hlt HN.out)
      have HC := Lib.hid (colon_at s k hlt HN.out)
      obtain ⟨c, hc⟩ : ∃ c, (s[k]'hlt).toNat = c := ⟨_, rfl⟩
      rw [hc] at HS HC
      by_cases hcc : c = 58
      · subst hcc
        obtain ⟨p, hp⟩ : ∃ p, ncB (s.extract 0 k) = p := ⟨_, rfl⟩
        obtain ⟨q, hq⟩ : ∃ q, ncB (s.extract (k + 1) s.size) = q := ⟨_, rfl⟩
        have HV := Lib.hid (split_colon s k (HC.out rfl).1 (HC.out rfl).2 p q hp hq)
        clear HS HC
        have HP := Lib.hid hp
        have HQ := Lib.hid hq
        cases p
        · clear hq
          go_wp2_with (go_at_call 23; refine (refNC_any _ _ (by rw [ByteArray.size_extract]; omega)).mono ?_; rintro e w' ⟨rfl, rfl⟩)
          go_ret3
          exact ⟨by rw [HV.out]; rfl, Below.refl _ _⟩
        · cases q
          · go_wp2_with (go_at_call 23; refine (refNC_any _ _ (by rw [ByteArray.size_extract]; omega)).mono ?_; rintro e w' ⟨rfl, rfl⟩)
            go_ret3
            exact ⟨by rw [HV.out]; rfl, Below.refl _ _⟩
          · go_wp2_with (go_at_call 23; refine (refNC_any _ _ (by rw [ByteArray.size_extract]; omega)).mono ?_; rintro e w' ⟨rfl, rfl⟩)
            go_quiet (fail)
            go_wp2
            go_ret3
            exact ⟨by rw [HV.out]; rfl, below_drewN (Below.refl _ _) _⟩
      · have HS' := Lib.hid (HS.out hcc)
        have hc1 : ((c : Int) == 58) = false := beq_eq_false_iff_ne.2 (by omega)
        have hc2 : (c == 58) = false := beq_eq_false_iff_ne.2 hcc
        clear HS HC hcc
        go_wp2
        go_round
        case rel => exact ⟨k + 1, by omega, by go_num, HS'.out⟩
        case measure => simp [intOf]; omega
    · have hks : k = s.size := by omega
      subst hks
      obtain ⟨p, hp⟩ : ∃ p, ncB s = p := ⟨_, rfl⟩
      have HV := Lib.hid (split_plain s (colon_none s HN.out) p hp)
      have c1 : ∀ w, Calls Tryd.prog 23 #[.string s] w _ := fun w => refNC_any _ w hs
      rw [hp] at c1
      clear hp
      cases p
      all_goals
        go_wp2_with (go_at_call 23; refine (c1 _).mono ?_; rintro e w' ⟨rfl, rfl⟩)
        go_ret3
        exact ⟨by rw [HV.out]; rfl, Below.refl _ _⟩
end Go.Proofs.YtddnmnhiimhaoaaDoor
