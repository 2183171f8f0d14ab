/-
  THE CONTRACTS OF THE DOCUMENT'S OWN Name, NCName, Split, Blank (brackenref1): they return nameB, ncB, splitV, blankB of RuneDefs; of what was there before the call nothing turns.
-/
import Derived.Test.YtddnmnhiimhaoaaDoorRefNames
namespace Go.Proofs.YtddnmnhiimhaoaaDoor
open Go.RowKit

theorem empty_list {s : ByteArray} (h : s.size = 0) : s.toList = [] := by
  rw [Lib.toList_data]
  apply List.eq_nil_of_length_eq_zero
  rw [← Lib.size_eq]; exact h
theorem some_list {s : ByteArray} (h : ¬ s.size = 0) : s.toList ≠ [] := by
  rw [Lib.toList_data]
  intro e
  have := congrArg List.length e
  rw [← Lib.size_eq] at this
  exact h this

set_option maxHeartbeats 1000000 in
set_option maxRecDepth 100000 in
theorem refName_any (s : ByteArray) (w : World) (hs : s.size ≤ 4294967296) :
    Calls Tryd.prog 21 #[.string s] w fun e w' => e = .returned (.bool (nameB s)) ∧ w = w' := by
  by_cases h0 : s.size = 0
  · have HF : Hid (nameB s = false) := by unfold nameB; rw [decide_eq_false (by simp [h0])]; exact rfl
    have e1 := empty_list h0
    have e2 : s.toList.isEmpty = true := by rw [e1]; rfl
    clear h0
    go_enter Tryd.func21, Tryd.ntmps21
    go_wp2
    go_ret
    exact ⟨by rw [HF.out]; rfl, rfl⟩
  · have C : Calls Tryd.prog 32 #[.string s, .int .i64 0] w _ := run_any s 0 w hs (Nat.zero_le _)
    have HN : Hid (nameB s = decide (runTo s 0 s.size 0 = s.size)) := by rw [← nameRun_eq]; unfold nameRunB; rw [decide_eq_true h0, Bool.true_and]; exact rfl
    have e1 := some_list h0
    have e2 : s.toList.isEmpty = false := by simpa using e1
    clear h0
    generalize runTo s 0 s.size 0 = x at C HN
    by_cases hx : x = s.size
    · have HV : Hid (nameB s = true) := by rw [HN.out]; exact decide_eq_true hx
      subst hx
      clear HN
      go_enter Tryd.func21, Tryd.ntmps21
      go_wp2_with (go_at_call 32; refine C.mono ?_; rintro e w' ⟨rfl, rfl⟩)
      go_ret
      exact ⟨by rw [HV.out]; rfl, rfl⟩
    · have HV : Hid (nameB s = false) := by rw [HN.out]; exact decide_eq_false hx
      have hx1 : ((x : Int) == (s.size : Int)) = false := beq_eq_false_iff_ne.2 (by omega)
      have hx2 : (x == s.size) = false := beq_eq_false_iff_ne.2 hx
      clear HN hx
      go_enter Tryd.func21, Tryd.ntmps21
      go_wp2_with (go_at_call 32; refine C.mono ?_; rintro e w' ⟨rfl, rfl⟩)
      go_ret
      exact ⟨by rw [HV.out]; rfl, rfl⟩

set_option maxHeartbeats 1000000 in
set_option maxRecDepth 100000 in
theorem refNC_any (s : ByteArray) (w : World) (hs : s.size ≤ 4294967296) :
    Calls Tryd.prog 23 #[.string s] w fun e w' => e = .returned (.bool (ncB s)) ∧ w = w' := by
  go_enter Tryd.func23, Tryd.ntmps23
  go_wp2
  go_loop [3] (fun i => ∃ k : Nat, k ≤ s.size ∧ i = .int .i64 k ∧ NoColon s k) (fun i => s.size - (intOf i).toNat)
  case atStart => exact ⟨0, Nat.zero_le _, rfl, noColon_zero s⟩
  case round =>
    obtain ⟨k, hk, rfl, hn⟩ := hrel
    have HN := Lib.hid hn
    clear hn
    by_cases hlt : k < s.size
    · have HS := Lib.hid (noColon_succ s k hlt HN.out)
      have HC := Lib.hid (colon_at s k hlt HN.out)
      obtain ⟨c, hc⟩ : ∃ c, (s[k]'hlt).toNat = c := ⟨_, rfl⟩
      rw [hc] at HS HC
      by_cases hcc : c = 58
      · subst hcc
        have HV : Hid (ncB s = false) := by unfold ncB; rw [(HC.out rfl).1]; cases nameB s <;> exact rfl
        clear HS HC
        go_wp2
        go_ret
        exact ⟨by rw [HV.out]; rfl, rfl⟩
      · have HS' := Lib.hid (HS.out hcc)
        have hc1 : ((c : Int) == 58) = false := beq_eq_false_iff_ne.2 (by omega)
        have hc2 : (c == 58) = false := beq_eq_false_iff_ne.2 hcc
        clear HS HC hcc
        go_wp2
        go_round
        case rel => exact ⟨k + 1, by omega, by go_num, HS'.out⟩
        case measure => simp [intOf]; omega
    · have hks : k = s.size := by omega
      subst hks
      have HV : Hid (ncB s = nameB s) := by unfold ncB; rw [colon_none s HN.out]; cases nameB s <;> exact rfl
      go_wp2_with (go_at_call 21; refine (refName_any s _ hs).mono ?_; rintro e w' ⟨rfl, rfl⟩)
      go_ret
      exact ⟨by rw [HV.out]; rfl, rfl⟩

set_option maxHeartbeats 1000000 in
set_option maxRecDepth 100000 in
theorem refBlank_any (s : ByteArray) (w : World) (hs : s.size ≤ 4294967296) :
    Calls Tryd.prog 25 #[.string s] w fun e w' => e = .returned (.bool (blankB s)) ∧ w = w' := by
  go_enter Tryd.func25, Tryd.ntmps25
  go_wp2
  go_loop [3] (fun i => ∃ k : Nat, k ≤ s.size ∧ i = .int .i64 k ∧ Blanks s k) (fun i => s.size - (intOf i).toNat)
  case atStart => exact ⟨0, Nat.zero_le _, rfl, blanks_zero s⟩
  case round =>
    obtain ⟨k, hk, rfl, hn⟩ := hrel
    have HN := Lib.hid hn
    clear hn
    by_cases hlt : k < s.size
    · have HS := Lib.hid (blanks_succ s k hlt HN.out)
      have HC := Lib.hid (blank_no s k hlt)
      obtain ⟨c, hc⟩ : ∃ c, (s[k]'hlt).toNat = c := ⟨_, rfl⟩
      have hcb : c < 256 := by rw [← hc]; exact UInt8.toNat_lt _
      rw [hc] at HS HC
      have cS : ∀ w, Calls Tryd.prog 17 #[.int .i32 c] w _ := fun w => refSpace_any c w
      obtain ⟨p, hp⟩ : ∃ p, spaceB (c : Int) = p := ⟨_, rfl⟩
      rw [hp] at HS HC cS
      clear hp
      cases p
      · have HV := Lib.hid (HC.out rfl)
        clear HS HC
        go_wp2_with (go_at_call 17; refine (cS _).mono ?_; rintro e w' ⟨rfl, rfl⟩)
        go_ret
        exact ⟨by rw [HV.out]; rfl, rfl⟩
      · have HS' := Lib.hid (HS.out rfl)
        clear HS HC
        go_wp2_with (go_at_call 17; refine (cS _).mono ?_; rintro e w' ⟨rfl, rfl⟩)
        go_round
        case rel => exact ⟨k + 1, by omega, by go_num, HS'.out⟩
        case measure => simp [intOf]; omega
    · have hks : k = s.size := by omega
      subst hks
      have HV := Lib.hid (blank_yes s HN.out)
      go_wp2
      go_ret
      exact ⟨by rw [HV.out]; rfl, rfl⟩

theorem split_colon (s : ByteArray) (k : Nat) (hc : colonB s = true) (hk : colonAt s = k) (p q : Bool) (hp : ncB (s.extract 0 k) = p) (hq : ncB (s.extract (k + 1) s.size) = q) :
    splitV s = if (p && q) = true then (s.extract 0 k, s.extract (k + 1) s.size, true) else (⟨#[]⟩, ⟨#[]⟩, false) := by
  unfold splitV
  rw [if_pos hc, hk, hp, hq]
  cases p <;> cases q <;> rfl
theorem split_plain (s : ByteArray) (hc : colonB s = false) (p : Bool) (hp : ncB s = p) : splitV s = if p = true then (⟨#[]⟩, s, true) else (⟨#[]⟩, ⟨#[]⟩, false) := by
  unfold splitV
  rw [hc, hp]
  cases p <;> rfl

end Go.Proofs.YtddnmnhiimhaoaaDoor
