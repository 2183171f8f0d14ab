/-
  THE CONTRACTS OF brackenref1.Begin, Enclose: over a slice of bools that lies in memory as a list; the world is left alone.
-/
import Derived.Test.YteecanaibkpmfaaRefPar
namespace Go.Proofs.Yteecanaibkpmfaa
open Go.RowKit

set_option maxHeartbeats 2000000 in
set_option maxRecDepth 100000 in
theorem refBegin_any (B : Nat) (v : Value) (xs : List Bool) (k : Int) (w : World) (hx : xs.length ≤ 4294967296) (hv : BoolsAt B w v xs) :
    Calls Try.prog 27 #[v, .int .i64 k] w fun e w' => e = .returned (.int .i64 (beginL xs k)) ∧ w = w' := by
  have cH := has_is B v xs k _ rfl w hv
  cases hh : hasB xs k
  · rw [hh] at cH
    have HV : Hid (beginL xs k = -1) := by unfold beginL; rw [(openB_has xs k hh).2]; exact rfl
    clear hh
    go_enter Try.func27, Try.ntmps27
    go_wp2_with (go_at_call 50; refine cH.mono ?_; rintro e w' ⟨rfl, rfl⟩)
    go_ret
    exact ⟨by rw [HV.out]; rfl, rfl⟩
  · rw [hh] at cH
    obtain ⟨K, rfl, hK⟩ := has_nat xs k hh
    rcases hv with ⟨a, cap, rfl, rfl⟩ | ⟨b, off, cap, rfl, hbB, hc⟩
    · simp at hK
    · obtain ⟨y, hy⟩ : ∃ y, xs.getD K false = y := ⟨_, rfl⟩
      have hcell : w.cell? ⟨b, off + K, none⟩ = some (.bool y) := by rw [← hy]; exact hc K hK
      have ho := openB_nat xs K y hK hy
      have HC := Lib.hid hc
      clear hc hh
      cases y
      case true =>
        have HV : Hid (beginL xs (K : Int) = -1) := by unfold beginL; rw [ho.2]; exact rfl
        clear ho hy
        go_enter Try.func27, Try.ntmps27
        go_wp2_with (go_at_call 50; refine cH.mono ?_; rintro e w' ⟨rfl, rfl⟩)
        go_ret
        exact ⟨by rw [HV.out]; rfl, rfl⟩
      case false =>
        obtain ⟨ans, hans⟩ : ∃ ans : Int, bwdGo xs (exc xs (K + 1)) (K + 1) = ans := ⟨_, rfl⟩
        have HV : Hid (beginL xs (K : Int) = ans) := by unfold beginL; rw [ho.2]; exact hans
        have HA := Lib.hid hans
        have hE := exc_abs xs (K + 1)
        obtain ⟨E, hEE⟩ : ∃ E, exc xs (K + 1) = E := ⟨_, rfl⟩
        rw [hEE] at HA hE
        have HE := Lib.hid hEE
        clear hans ho hy hEE
        go_enter Try.func27, Try.ntmps27
        go_wp2_with (go_at_call 50; refine cH.mono ?_; rintro e w' ⟨rfl, rfl⟩)
        go_loop [5, 6] (fun e i => ∃ (m : Nat) (q : Int), m ≤ K + 1 ∧ i = .int .i64 q ∧ q = (m : Int) - 1 ∧ e = .int .i64 (exc xs m - E) ∧ bwdGo xs (E) m = ans) (fun _ i => (intOf i + 1).toNat)
        case atStart => exact ⟨K + 1, (K : Int), Nat.le_refl _, rfl, by omega, by rw [HE.out, Int.sub_self], HA.out⟩
        case round =>
          obtain ⟨m, q, hmK, rfl, hq, rfl, hr⟩ := hrel
          have HR := Lib.hid hr
          clear hr hcell
          cases m with
          | succ j =>
            obtain rfl : q = (j : Int) := by omega
            clear hq
            have hj : j < xs.length := by omega
            obtain ⟨x, hxx⟩ : ∃ x, xs.getD j false = x := ⟨_, rfl⟩
            have hcell : w.cell? ⟨b, off + j, none⟩ = some (.bool x) := by rw [← hxx]; exact HC.out j hj
            have HS := Lib.hid (exc_succ xs j x hj hxx)
            have HG : Hid ((if exc xs j = E then (j : Int) else bwdGo xs (E) j) = ans) := HR.out
            have ha := exc_abs xs (j + 1)
            generalize exc xs (j + 1) = a at *
            clear hxx HR
            cases x
            all_goals
              obtain ⟨a', ha'⟩ : ∃ a', exc xs j = a' := ⟨_, rfl⟩
              have hs := HS.out
              rw [ha'] at hs HG
              simp only [sgn, if_true, Bool.false_eq_true, if_false] at hs
              have HA' := Lib.hid ha'
              have HSS := Lib.hid hs
              clear HS ha'
              by_cases he : a' = E
              · have HF : Hid ((j : Int) = ans) := by rw [← HG.out, if_pos he]; exact rfl
                have t1 : (a - E + 1 == 0) = decide (a - E + 1 = 0) := by rw [Bool.eq_iff_iff]; simp
                have t2 : (a - E - 1 == 0) = decide (a - E - 1 = 0) := by rw [Bool.eq_iff_iff]; simp
                first | rw [decide_eq_true (by omega)] at t1 | rw [decide_eq_true (by omega)] at t2
                clear hs he HG
                go_wp2
                go_ret
                exact ⟨by rw [HV.out, ← HF.out]; rfl, rfl⟩
              · have HF : Hid (bwdGo xs (E) j = ans) := by rw [← HG.out, if_neg he]; exact rfl
                have t1 : (a - E + 1 == 0) = decide (a - E + 1 = 0) := by rw [Bool.eq_iff_iff]; simp
                have t2 : (a - E - 1 == 0) = decide (a - E - 1 = 0) := by rw [Bool.eq_iff_iff]; simp
                first | rw [decide_eq_false (by omega)] at t1 | rw [decide_eq_false (by omega)] at t2
                clear hs he HG
                go_wp2
                go_round
                case rel => exact ⟨j, (j : Int) - 1, by omega, rfl, rfl, by rw [HA'.out]; have := HSS.out; congr 1; omega, HF.out⟩
                case measure => first | (simp [intOf]; done) | (simp [intOf]; omega)
          | zero =>
            obtain rfl : q = -1 := by omega
            have HF : Hid ((-1 : Int) = ans) := HR.out
            clear hq
            go_wp2
            go_ret
            exact ⟨by rw [HV.out, ← HF.out]; rfl, rfl⟩

set_option maxHeartbeats 2000000 in
set_option maxRecDepth 100000 in
theorem refEnclose_any (B : Nat) (v : Value) (xs : List Bool) (k : Int) (w : World) (hx : xs.length ≤ 4294967296) (hv : BoolsAt B w v xs) :
    Calls Try.prog 28 #[v, .int .i64 k] w fun e w' => e = .returned (.int .i64 (encloseL xs k)) ∧ w = w' := by
  have cH := has_is B v xs k _ rfl w hv
  cases hh : hasB xs k
  · rw [hh] at cH
    have HV : Hid (encloseL xs k = -1) := by unfold encloseL; rw [(openB_has xs k hh).1]; exact rfl
    clear hh
    go_enter Try.func28, Try.ntmps28
    go_wp2_with (go_at_call 50; refine cH.mono ?_; rintro e w' ⟨rfl, rfl⟩)
    go_ret
    exact ⟨by rw [HV.out]; rfl, rfl⟩
  · rw [hh] at cH
    obtain ⟨K, rfl, hK⟩ := has_nat xs k hh
    rcases hv with ⟨a, cap, rfl, rfl⟩ | ⟨b, off, cap, rfl, hbB, hc⟩
    · simp at hK
    · obtain ⟨y, hy⟩ : ∃ y, xs.getD K false = y := ⟨_, rfl⟩
      have hcell : w.cell? ⟨b, off + K, none⟩ = some (.bool y) := by rw [← hy]; exact hc K hK
      have ho := openB_nat xs K y hK hy
      have HC := Lib.hid hc
      clear hc hh
      cases y
      case false =>
        have HV : Hid (encloseL xs (K : Int) = -1) := by unfold encloseL; rw [ho.1]; exact rfl
        clear ho hy
        go_enter Try.func28, Try.ntmps28
        go_wp2_with (go_at_call 50; refine cH.mono ?_; rintro e w' ⟨rfl, rfl⟩)
        go_ret
        exact ⟨by rw [HV.out]; rfl, rfl⟩
      case true =>
        obtain ⟨ans, hans⟩ : ∃ ans : Int, bwdGo xs (exc xs K - 1) (K) = ans := ⟨_, rfl⟩
        have HV : Hid (encloseL xs (K : Int) = ans) := by unfold encloseL; rw [ho.1]; exact hans
        have HA := Lib.hid hans
        have hE := exc_abs xs (K)
        obtain ⟨E, hEE⟩ : ∃ E, exc xs (K) = E := ⟨_, rfl⟩
        rw [hEE] at HA hE
        have HE := Lib.hid hEE
        clear hans ho hy hEE
        go_enter Try.func28, Try.ntmps28
        go_wp2_with (go_at_call 50; refine cH.mono ?_; rintro e w' ⟨rfl, rfl⟩)
        go_loop [5, 6] (fun e i => ∃ (m : Nat) (q : Int), m ≤ K ∧ i = .int .i64 q ∧ q = (m : Int) - 1 ∧ e = .int .i64 (E - exc xs m) ∧ bwdGo xs (E - 1) m = ans) (fun _ i => (intOf i + 1).toNat)
        case atStart => exact ⟨K, (K : Int) - 1, Nat.le_refl _, rfl, by omega, by rw [HE.out, Int.sub_self], HA.out⟩
        case round =>
          obtain ⟨m, q, hmK, rfl, hq, rfl, hr⟩ := hrel
          have HR := Lib.hid hr
          clear hr hcell
          cases m with
          | succ j =>
            obtain rfl : q = (j : Int) := by omega
            clear hq
            have hj : j < xs.length := by omega
            obtain ⟨x, hxx⟩ : ∃ x, xs.getD j false = x := ⟨_, rfl⟩
            have hcell : w.cell? ⟨b, off + j, none⟩ = some (.bool x) := by rw [← hxx]; exact HC.out j hj
            have HS := Lib.hid (exc_succ xs j x hj hxx)
            have HG : Hid ((if exc xs j = E - 1 then (j : Int) else bwdGo xs (E - 1) j) = ans) := HR.out
            have ha := exc_abs xs (j + 1)
            generalize exc xs (j + 1) = a at *
            clear hxx HR
            cases x
            all_goals
              obtain ⟨a', ha'⟩ : ∃ a', exc xs j = a' := ⟨_, rfl⟩
              have hs := HS.out
              rw [ha'] at hs HG
              simp only [sgn, if_true, Bool.false_eq_true, if_false] at hs
              have HA' := Lib.hid ha'
              have HSS := Lib.hid hs
              clear HS ha'
              by_cases he : a' = E - 1
              · have HF : Hid ((j : Int) = ans) := by rw [← HG.out, if_pos he]; exact rfl
                have t1 : (E - a + 1 == 1) = decide (E - a + 1 = 1) := by rw [Bool.eq_iff_iff]; simp
                have t2 : (E - a - 1 == 1) = decide (E - a - 1 = 1) := by rw [Bool.eq_iff_iff]; simp
                first | rw [decide_eq_true (by omega)] at t1 | rw [decide_eq_true (by omega)] at t2
                clear hs he HG
                go_wp2
                go_ret
                exact ⟨by rw [HV.out, ← HF.out]; rfl, rfl⟩
              · have HF : Hid (bwdGo xs (E - 1) j = ans) := by rw [← HG.out, if_neg he]; exact rfl
                have t1 : (E - a + 1 == 1) = decide (E - a + 1 = 1) := by rw [Bool.eq_iff_iff]; simp
                have t2 : (E - a - 1 == 1) = decide (E - a - 1 = 1) := by rw [Bool.eq_iff_iff]; simp
                first | rw [decide_eq_false (by omega)] at t1 | rw [decide_eq_false (by omega)] at t2
                clear hs he HG
                go_wp2
                go_round
                case rel => exact ⟨j, (j : Int) - 1, by omega, rfl, rfl, by rw [HA'.out]; have := HSS.out; congr 1; omega, HF.out⟩
                case measure => first | (simp [intOf]; done) | (simp [intOf]; omega)
          | zero =>
            obtain rfl : q = -1 := by omega
            have HF : Hid ((-1 : Int) = ans) := HR.out
            clear hq
            go_wp2
            go_ret
            exact ⟨by rw [HV.out, ← HF.out]; rfl, rfl⟩

end Go.Proofs.Yteecanaibkpmfaa
