/-
  THE CONTRACT OF runes.Split (over RuneNc and RuneCut, for layers 11 and on): it returns splitV of RuneDefs; of what was there before the call nothing turns.
-/
import Derived.Test.YtmecigainilocaaGreatDoorRuneCut
namespace Go.Proofs.YtmecigainilocaaGreatDoor
open Go.RowKit

theorem step_below {w a b : World} (h : Below w.heap.size w a) (h' : Below a.heap.size a b) : Below w.heap.size w b := h.trans (h'.mono h.size)

theorem splitV_nc (s : ByteArray) (h : ncB s = true) : splitV s = (⟨#[]⟩, s, true) := by
  have hc : colonB s = false := by
    unfold ncB at h
    cases hc : colonB s
    · rfl
    · rw [hc] at h; simp at h
  unfold splitV
  rw [hc, h]; rfl
theorem splitV_none (s : ByteArray) (h : ncB s = false) (hc : colonB s = false) : splitV s = (⟨#[]⟩, ⟨#[]⟩, false) := by
  unfold splitV
  rw [hc, h]; rfl
theorem splitV_at (s : ByteArray) (k : Nat) (hc : colonB s = true) (hk : colonAt s = k) (p q : Bool) (hp : ncB (s.extract 0 k) = p) (hq : ncB (s.extract (k + 1) s.size) = q) :
    splitV s = if (p && q) = true then (s.extract 0 k, s.extract (k + 1) s.size, true) else (⟨#[]⟩, ⟨#[]⟩, false) := by
  unfold splitV
  rw [if_pos hc, hk, hp, hq]
  cases p <;> cases q <;> rfl
theorem nc_of_colon (s : ByteArray) (hc : colonB s = true) : ncB s = false := by
  unfold ncB; rw [hc]; cases nameB s <;> rfl

set_option maxHeartbeats 2000000 in
set_option maxRecDepth 100000 in
theorem split_any (s : ByteArray) (w : World) (hs : s.size ≤ 4294967280) (hT : Tabs w) :
    Calls Tryz.prog 45 #[.string s] w fun e w' => e = .returned (.tuple #[.string (splitV s).1, .string (splitV s).2.1, .bool (splitV s).2.2]) ∧ Below w.heap.size w w' := by
  have c1 := nc_any s w hs hT
  by_cases hnc : ncB s = true
  · have HV := Lib.hid (splitV_nc s hnc)
    rw [hnc] at c1
    have c2 := fun w => clone_any s w hs
    clear hnc
    go_enter Tryz.func45, Tryz.ntmps45
    go_wp2_with (first | (go_at_call 63; refine c1.mono ?_; rintro e w1 ⟨rfl, hb1⟩) | (go_at_call 20; refine (c2 _).mono ?_; rintro e w2 ⟨rfl, hb2⟩))
    go_ret3
    exact ⟨by rw [HV.out]; rfl, step_below hb1 hb2⟩
  · have hnc' : ncB s = false := by simpa using hnc
    rw [hnc'] at c1
    by_cases hc : colonB s = true
    · obtain ⟨k, hk⟩ : ∃ k, colonAt s = k := ⟨_, rfl⟩
      have hcut : cutV s = (s.extract 0 k, s.extract (k + 1) s.size, true) := by unfold cutV; rw [if_pos hc, hk]
      have c2 := fun w => cut_any s w hs
      rw [hcut] at c2
      obtain ⟨p, hp⟩ : ∃ p, ncB (s.extract 0 k) = p := ⟨_, rfl⟩
      obtain ⟨q, hq⟩ : ∃ q, ncB (s.extract (k + 1) s.size) = q := ⟨_, rfl⟩
      have HV := Lib.hid (splitV_at s k hc hk p q hp hq)
      have z1 : (s.extract 0 k).size ≤ 4294967280 := by rw [ByteArray.size_extract]; omega
      have z2 : (s.extract (k + 1) s.size).size ≤ 4294967280 := by rw [ByteArray.size_extract]; omega
      have c3 := fun w hT => nc_any (s.extract 0 k) w z1 hT
      have c4 := fun w hT => nc_any (s.extract (k + 1) s.size) w z2 hT
      have c5 := fun w => clone_any (s.extract 0 k) w z1
      have c6 := fun w => clone_any (s.extract (k + 1) s.size) w z2
      rw [hp] at c3
      rw [hq] at c4
      clear hnc hnc' hc hk hcut hp hq z1 z2
      have C3 := Lib.hid c3
      have C4 := Lib.hid c4
      have C5 := Lib.hid c5
      have C6 := Lib.hid c6
      clear c3 c4 c5 c6
      go_enter Tryz.func45, Tryz.ntmps45
      go_wp2_with (first | (go_at_call 63; refine c1.mono ?_; rintro e w1 ⟨rfl, hb1⟩; clear c1) | (go_at_call 64; refine (c2 _).mono ?_; rintro e w2 ⟨rfl, hb2⟩))
      go_wp2_with fail
      have hb := step_below hb1 hb2
      have hT2 := hT.below hb
      refine (C3.out _ hT2).mono ?_
      rintro e w3 ⟨rfl, hb3⟩
      have hb' := step_below hb hb3
      clear C3 hb1 hb2 hb3 hb hT2
      cases p
      · go_wp2
        go_ret3
        exact ⟨by rw [HV.out]; rfl, hb'⟩
      · go_wp2_with fail
        have hT3 := hT.below hb'
        refine (C4.out _ hT3).mono ?_
        rintro e w4 ⟨rfl, hb4⟩
        have hb := step_below hb' hb4
        clear C4 hb4 hb' hT3
        cases q
        · go_wp2
          go_ret3
          exact ⟨by rw [HV.out]; rfl, hb⟩
        · go_wp2_with fail
          refine (C5.out _).mono ?_
          rintro e w5 ⟨rfl, hb5⟩
          have hb' := step_below hb hb5
          clear C5 hb5 hb
          go_wp2_with fail
          refine (C6.out _).mono ?_
          rintro e w6 ⟨rfl, hb6⟩
          have hb := step_below hb' hb6
          clear C6 hb6 hb'
          go_wp2
          go_ret3
          exact ⟨by rw [HV.out]; rfl, hb⟩
    · have hc' : colonB s = false := by simpa using hc
      have HV := Lib.hid (splitV_none s hnc' hc')
      have hcut : cutV s = (s, ⟨#[]⟩, false) := by unfold cutV; rw [if_neg hc]
      have c2 := fun w => cut_any s w hs
      rw [hcut] at c2
      clear hnc hnc' hc hc' hcut
      go_enter Tryz.func45, Tryz.ntmps45
      go_wp2_with (first | (go_at_call 63; refine c1.mono ?_; rintro e w1 ⟨rfl, hb1⟩) | (go_at_call 64; refine (c2 _).mono ?_; rintro e w2 ⟨rfl, hb2⟩))
      go_ret3
      exact ⟨by rw [HV.out]; rfl, step_below hb1 hb2⟩
end Go.Proofs.YtmecigainilocaaGreatDoor
