/-
  THE CONTRACTS OF THE DOCUMENT'S OWN NAMES (brackenref1.Run, Name, NCName, Split, Blank): over the decoder's contract.
-/
import Derived.Test.YtddnmnhiimhaoaaDoorRefOne
import Derived.Deep.QuietTactic
import Derived.BigQuiet
namespace Go.Proofs.YtddnmnhiimhaoaaDoor
open Go.RowKit

set_option maxHeartbeats 4000000 in
set_option maxRecDepth 100000 in
theorem run_any (s : ByteArray) (beg : Nat) (w : World) (hs : s.size ≤ 4294967296) (hbeg : beg ≤ s.size) :
    Calls Tryd.prog 32 #[.string s, .int .i64 beg] w fun e w' => e = .returned (.int .i64 (runTo s beg s.size beg)) ∧ w = w' := by
  obtain ⟨ans, hans⟩ : ∃ ans, runTo s beg s.size beg = ans := ⟨_, rfl⟩
  rw [hans]
  have HA := Lib.hid hans
  clear hans
  go_enter Tryd.func32, Tryd.ntmps32
  go_wp2
  go_loop [5] (fun k => ∃ pos f : Nat, k = .int .i64 pos ∧ runTo s beg f pos = ans ∧ pos ≤ s.size ∧ s.size ≤ pos + f) (fun k => s.size - (intOf k).toNat)
  case atStart => exact ⟨beg, s.size, rfl, HA.out, hbeg, by omega⟩
  case round =>
    obtain ⟨pos, f, rfl, hr, hle, hf⟩ := hrel
    have HR := Lib.hid hr
    clear hr
    by_cases hp : pos < s.size
    · by_cases hb : badAt s pos = true
      · have H1 := oneV_bad s pos hb
        have C := one_any s pos w hs hp
        rw [H1] at C
        have HE := Lib.hid (runTo_stop s beg f pos hp (Or.inl hb))
        clear H1 hb
        go_wp2_with (go_at_call 37; refine C.mono ?_; rintro e w' ⟨rfl, rfl⟩)
        go_ret
        exact ⟨by rw [← HR.out, HE.out]; rfl, rfl⟩
      · have hb' : badAt s pos = false := by simpa using hb
        have H1 := oneV_good s pos hb'
        have C := one_any s pos w hs hp
        rw [H1] at C
        have hw := Lib.width_pos s pos
        have hwl := width_le s pos hp
        have HST := fun g => Lib.hid (runTo_step s beg g pos hp hb')
        have HE := fun x => Lib.hid (runTo_stop s beg f pos hp (Or.inr x))
        clear H1 hb hb'
        obtain ⟨r, hr⟩ : ∃ r : Nat, (Utf8.decode s pos).1 = r := ⟨_, rfl⟩
        obtain ⟨n, hn⟩ : ∃ n : Nat, (Utf8.decode s pos).2 = n := ⟨_, rfl⟩
        rw [hr, hn] at C
        rw [hn] at hw hwl
        simp only [hr, hn] at HST HE
        clear hr hn
        have hn0 : ((n : Int) == 0) = false := beq_eq_false_iff_ne.2 (by omega)
        have hn1 : (n == 0) = false := beq_eq_false_iff_ne.2 (by omega)
        obtain ⟨p, hpb⟩ : ∃ p, partB (r : Int) = p := ⟨_, rfl⟩
        obtain ⟨st, hst⟩ : ∃ st, startB (r : Int) = st := ⟨_, rfl⟩
        have cP : ∀ w, Calls Tryd.prog 19 #[.int .i32 r] w _ := fun w => refPart_any r w
        have cS : ∀ w, Calls Tryd.prog 18 #[.int .i32 r] w _ := fun w => refStart_any r w
        rw [hpb] at cP
        rw [hst] at cS
        have ok1 : Hid (okB beg pos (r : Int) = (p && (pos != beg || st))) := by unfold okB; rw [hpb, hst]; exact rfl
        clear hpb hst
        cases p
        · have hno : okB beg pos (r : Int) = false := by rw [ok1.out]; rfl
          have HE' := HE hno
          clear HE HST ok1 hno
          go_wp2_with (first | (go_at_call 37; refine C.mono ?_; rintro e w' ⟨rfl, rfl⟩) | (go_at_call 19; refine (cP _).mono ?_; rintro e w' ⟨rfl, rfl⟩))
          go_ret
          exact ⟨by rw [← HR.out, HE'.out]; rfl, rfl⟩
        · by_cases hbp : pos = beg
          · subst hbp
            cases st
            · have hno : okB pos pos (r : Int) = false := by rw [ok1.out]; simp
              have HE' := HE hno
              clear HE HST ok1 hno
              go_wp2_with (first | (go_at_call 37; refine C.mono ?_; rintro e w' ⟨rfl, rfl⟩) | (go_at_call 19; refine (cP _).mono ?_; rintro e w' ⟨rfl, rfl⟩) | (go_at_call 18; refine (cS _).mono ?_; rintro e w' ⟨rfl, rfl⟩))
              go_ret
              exact ⟨by rw [← HR.out, HE'.out]; rfl, rfl⟩
            · have hyes : okB pos pos (r : Int) = true := by rw [ok1.out]; simp
              obtain ⟨g, rfl⟩ : ∃ g, f = g + 1 := ⟨f - 1, by omega⟩
              have HS' := Lib.hid ((HST g).out hyes)
              clear HE HST ok1 hyes
              go_wp2_with (first | (go_at_call 37; refine C.mono ?_; rintro e w' ⟨rfl, rfl⟩) | (go_at_call 19; refine (cP _).mono ?_; rintro e w' ⟨rfl, rfl⟩) | (go_at_call 18; refine (cS _).mono ?_; rintro e w' ⟨rfl, rfl⟩))
              go_round
              case rel => exact ⟨pos + n, g, by go_num, by rw [← HS'.out, HR.out], by omega, by omega⟩
              case measure => simp [intOf]; omega
          · have hyes : okB beg pos (r : Int) = true := by rw [ok1.out]; simp [hbp]
            obtain ⟨g, rfl⟩ : ∃ g, f = g + 1 := ⟨f - 1, by omega⟩
            have HS' := Lib.hid ((HST g).out hyes)
            have hb1 : ((pos : Int) == (beg : Int)) = false := beq_eq_false_iff_ne.2 (by omega)
            have hb2 : (pos == beg) = false := beq_eq_false_iff_ne.2 hbp
            clear HE HST ok1 hyes hbp
            go_wp2_with (first | (go_at_call 37; refine C.mono ?_; rintro e w' ⟨rfl, rfl⟩) | (go_at_call 19; refine (cP _).mono ?_; rintro e w' ⟨rfl, rfl⟩))
            go_round
            case rel => exact ⟨pos + n, g, by go_num, by rw [← HS'.out, HR.out], by omega, by omega⟩
            case measure => simp [intOf]; omega
    · have C := one_out s pos w (by omega)
      have HE := Lib.hid (runTo_end s beg f pos hp)
      go_wp2_with (go_at_call 37; refine C.mono ?_; rintro e w' ⟨rfl, rfl⟩)
      go_ret
      exact ⟨by rw [← HR.out, HE.out]; rfl, rfl⟩

end Go.Proofs.YtddnmnhiimhaoaaDoor
