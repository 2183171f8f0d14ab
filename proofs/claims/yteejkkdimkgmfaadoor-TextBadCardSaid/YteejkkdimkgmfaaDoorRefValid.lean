/-
  THE CONTRACT OF brackenref1.Valid: it returns validT of TextLaws and leaves the world alone.
-/
import Derived.Test.YteejkkdimkgmfaaDoorRefOne
import Derived.Test.YteejkkdimkgmfaaDoorTextLaws
namespace Go.Proofs.YteejkkdimkgmfaaDoor
open Go.RowKit

set_option maxHeartbeats 2000000 in
set_option maxRecDepth 100000 in
theorem refValid_any (s : ByteArray) (w : World) (hs : s.size ≤ 4294967296) :
    Calls Tryd.prog 13 #[.string s] w fun e w' => e = .returned (.bool (validT s)) ∧ w = w' := by
  obtain ⟨ans, hans⟩ : ∃ ans, okCh s s.size 0 = ans := ⟨_, rfl⟩
  have HV : Hid (validT s = ans) := hans
  have HA := Lib.hid hans
  clear hans
  go_enter Tryd.func13, Tryd.ntmps13
  go_wp2
  go_loop [3] (fun k => ∃ pos f : Nat, k = .int .i64 pos ∧ okCh s f pos = ans ∧ pos ≤ s.size ∧ s.size ≤ pos + f) (fun k => s.size - (intOf k).toNat)
  case atStart => exact ⟨0, s.size, rfl, HA.out, Nat.zero_le _, by omega⟩
  case round =>
    obtain ⟨pos, f, rfl, hr, hle, hf⟩ := hrel
    have HR := Lib.hid hr
    clear hr
    by_cases hp : pos < s.size
    · obtain ⟨g, rfl⟩ : ∃ g, f = g + 1 := ⟨f - 1, by omega⟩
      have C := one_any s pos w hs hp
      have HST := Lib.hid (okCh_step s g pos hp)
      have hw := Lib.width_pos s pos
      have hwl := width_le s pos hp
      by_cases hb : badAt s pos = true
      · rw [oneV_bad s pos hb] at C
        have HF : Hid (ans = false) := by rw [← HR.out, HST.out, hb]; exact rfl
        clear hb HST
        go_wp2_with (go_at_call 21; refine C.mono ?_; rintro e w' ⟨rfl, rfl⟩)
        go_ret
        exact ⟨by rw [HV.out, HF.out]; rfl, rfl⟩
      · have hb' : badAt s pos = false := by simpa using hb
        rw [oneV_good s pos hb'] at C
        obtain ⟨r, hr⟩ : ∃ r : Nat, (Utf8.decode s pos).1 = r := ⟨_, rfl⟩
        obtain ⟨n, hn⟩ : ∃ n : Nat, (Utf8.decode s pos).2 = n := ⟨_, rfl⟩
        rw [hr, hn] at C
        rw [hn] at hw hwl
        rw [hb', hr, hn] at HST
        clear hr hn hb hb'
        have hn0 : ((n : Int) == 0) = false := beq_eq_false_iff_ne.2 (by omega)
        have hn1 : (n == 0) = false := beq_eq_false_iff_ne.2 (by omega)
        obtain ⟨c, hc⟩ : ∃ c, charB (r : Int) = c := ⟨_, rfl⟩
        have cC : ∀ w, Calls Tryd.prog 17 #[.int .i32 r] w _ := fun w => refChar_any r w
        rw [hc] at cC HST
        clear hc
        cases c
        · have HF : Hid (ans = false) := by rw [← HR.out, HST.out]; exact rfl
          clear HST
          go_wp2_with (first | (go_at_call 21; refine C.mono ?_; rintro e w' ⟨rfl, rfl⟩) | (go_at_call 17; refine (cC _).mono ?_; rintro e w' ⟨rfl, rfl⟩))
          go_ret
          exact ⟨by rw [HV.out, HF.out]; rfl, rfl⟩
        · have HS' : Hid (okCh s g (pos + n) = ans) := by rw [← HR.out, HST.out]; exact rfl
          clear HST
          go_wp2_with (first | (go_at_call 21; refine C.mono ?_; rintro e w' ⟨rfl, rfl⟩) | (go_at_call 17; refine (cC _).mono ?_; rintro e w' ⟨rfl, rfl⟩))
          go_round
          case rel => exact ⟨pos + n, g, by go_num, HS'.out, by omega, by omega⟩
          case measure => simp [intOf]; omega
    · have HF : Hid (ans = true) := by rw [← HR.out]; exact okCh_end s f pos hp
      go_wp2
      go_ret
      exact ⟨by rw [HV.out, HF.out]; rfl, rfl⟩
end Go.Proofs.YteejkkdimkgmfaaDoor
