/-
  THE CONTRACTS OF brackenref1.MayParen, Excess, Number, Span, Up: over a slice of bools that lies in memory as a list; the world is left alone.
-/
import Derived.Test.YteecanaibkpmfaaRefPar2
import Derived.Test.YteecanaibkpmfaaRefRank
namespace Go.Proofs.Yteecanaibkpmfaa
open Go.RowKit

set_option maxHeartbeats 1000000 in
set_option maxRecDepth 100000 in
theorem mayNone_any (a : Option Addr) (cap : Nat) (w : World) :
    Calls Try.prog 33 #[.slice a 0 cap] w fun e w' => e = .returned (.bool true) ∧ w = w' := by
  go_enter Try.func33, Try.ntmps33
  go_wp2
  go_loop [3, 4] (fun e i => e = .int .i64 0 ∧ i = .int .i64 0) (fun _ _ => 0)
  case atStart => exact ⟨rfl, rfl⟩
  case round =>
    obtain ⟨rfl, rfl⟩ := hrel
    go_wp2
    go_ret
    exact ⟨rfl, rfl⟩

set_option maxHeartbeats 2000000 in
set_option maxRecDepth 100000 in
theorem maySome_any (b off cap : Nat) (xs : List Bool) (w : World) (hx : xs.length ≤ 4294967296) (hc : ∀ i, i < xs.length → w.cell? ⟨b, off + i, none⟩ = some (.bool (xs.getD i false))) :
    Calls Try.prog 33 #[.slice (some ⟨b, off, none⟩) xs.length cap] w fun e w' => e = .returned (.bool (mayL xs)) ∧ w = w' := by
  have HC := Lib.hid hc
  clear hc
  go_enter Try.func33, Try.ntmps33
  go_wp2
  go_loop [3, 4] (fun e i => ∃ j : Nat, j ≤ xs.length ∧ i = .int .i64 j ∧ e = .int .i64 (exc xs j) ∧ mayN xs j = true) (fun _ i => xs.length - (intOf i).toNat)
  case atStart => exact ⟨0, Nat.zero_le _, rfl, rfl, rfl⟩
  case round =>
    obtain ⟨j, hj, rfl, rfl, hmay⟩ := hrel
    have HM := Lib.hid hmay
    clear hmay
    have ha := exc_abs xs j
    by_cases hlt : j < xs.length
    · obtain ⟨x, hxx⟩ : ∃ x, xs.getD j false = x := ⟨_, rfl⟩
      have hcell : w.cell? ⟨b, off + j, none⟩ = some (.bool x) := by rw [← hxx]; exact HC.out j hlt
      have HS := Lib.hid (exc_succ xs j x hlt hxx)
      have HNX := Lib.hid (fun y h => mayN_next xs j y h HM.out)
      have HNO := Lib.hid (mayL_no xs (j + 1) (by omega))
      generalize exc xs j = a at *
      clear hxx
      cases x
      all_goals
        obtain ⟨a', ha'⟩ : ∃ a', exc xs (j + 1) = a' := ⟨_, rfl⟩
        have hs := HS.out
        rw [ha'] at hs HNX
        simp only [sgn, if_true, Bool.false_eq_true, if_false] at hs
        have HA' := Lib.hid ha'
        have HSS := Lib.hid hs
        clear HS ha'
        by_cases he : a' < 0
        · have HF : Hid (mayL xs = false) := HNO.out (HNX.out false (decide_eq_false (by omega)))
          first | (have t2 : a + 1 < 0 := by omega) | (have t2 : a - 1 < 0 := by omega)
          clear hs HNX HNO
          go_wp2
          go_ret
          exact ⟨by rw [HF.out]; rfl, rfl⟩
        · have HF : Hid (mayN xs (j + 1) = true) := HNX.out true (decide_eq_true (by omega))
          have t2 : ¬ a + 1 < 0 := by omega
          try (have t3 : ¬ a - 1 < 0 := by omega)
          clear hs HNX HNO
          go_wp2
          go_round
          case rel => exact ⟨j + 1, by omega, by go_num, by first | (rw [HA'.out, HSS.out]; done) | (rw [HA'.out, HSS.out]; go_num) | (rw [HA'.out, HSS.out]; congr 1; omega), HF.out⟩
          case measure => simp [intOf]; omega
    · obtain rfl : j = xs.length := by omega
      obtain ⟨x, hxe⟩ : ∃ x, decide (exc xs xs.length = 0) = x := ⟨_, rfl⟩
      have HF : Hid (mayL xs = x) := by unfold mayL; rw [HM.out, hxe]; exact rfl
      have t1 : (exc xs xs.length == 0) = x := by rw [← hxe, Bool.eq_iff_iff]; simp
      generalize exc xs xs.length = a at *
      clear hxe
      go_wp2
      go_ret
      exact ⟨by rw [HF.out]; rfl, rfl⟩
theorem refMay_any (B : Nat) (v : Value) (xs : List Bool) (w : World) (hx : xs.length ≤ 4294967296) (hv : BoolsAt B w v xs) :
    Calls Try.prog 33 #[v] w fun e w' => e = .returned (.bool (mayL xs)) ∧ w = w' := by
  rcases hv with ⟨a, cap, rfl, rfl⟩ | ⟨b, off, cap, rfl, _, hc⟩
  · exact mayNone_any a cap w
  · exact maySome_any b off cap xs w hx hc

set_option maxHeartbeats 1000000 in
set_option maxRecDepth 100000 in
theorem refExcess_any (B : Nat) (v : Value) (xs : List Bool) (k : Int) (w : World) (hx : xs.length ≤ 4294967296) (hv : BoolsAt B w v xs) :
    Calls Try.prog 24 #[v, .int .i64 k] w fun e w' => e = .returned (.int .i64 (excL xs k)) ∧ w = w' := by
  have cH := has_is B v xs k _ rfl w hv
  have cR := fun q bit w' (h : w = w') => refRank_any B v xs q bit w' hx (by rw [← h]; exact hv)
  cases hh : hasB xs k
  · rw [hh] at cH
    have HV : Hid (excL xs k = -1) := by
      unfold excL; rw [if_neg]; exact rfl
      intro e
      simp only [hasB, Bool.and_eq_false_iff, decide_eq_false_iff_not] at hh
      omega
    clear hh hv
    go_enter Try.func24, Try.ntmps24
    go_wp2_with (go_at_call 50; refine cH.mono ?_; rintro e w' ⟨rfl, rfl⟩)
    go_ret
    exact ⟨by rw [HV.out]; rfl, rfl⟩
  · rw [hh] at cH
    obtain ⟨K, rfl, hK⟩ := has_nat xs k hh
    obtain ⟨p, hp⟩ : ∃ p : Nat, rankN xs (K + 1) true = p := ⟨_, rfl⟩
    obtain ⟨q, hq⟩ : ∃ q : Nat, rankN xs (K + 1) false = q := ⟨_, rfl⟩
    have HV : Hid (excL xs (K : Int) = (p : Int) - (q : Int)) := by
      unfold excL
      rw [if_pos ⟨by omega, by omega⟩, Int.toNat_natCast, exc_rank xs _ (by omega), hp, hq]; exact rfl
    have hpb : p ≤ K + 1 := by rw [← hp]; exact rankN_le _ _ _
    have hqb : q ≤ K + 1 := by rw [← hq]; exact rankN_le _ _ _
    have e1 : rankL xs ((K : Int) + 1) true = p := by unfold rankL; rw [show ((K : Int) + 1).toNat = K + 1 by omega]; exact hp
    have e2 : rankL xs ((K : Int) + 1) false = q := by unfold rankL; rw [show ((K : Int) + 1).toNat = K + 1 by omega]; exact hq
    have c1 := Lib.hid (cR ((K : Int) + 1) true)
    have c2 := Lib.hid (cR ((K : Int) + 1) false)
    rw [e1] at c1
    rw [e2] at c2
    clear hh hp hq e1 e2 cR hv
    go_enter Try.func24, Try.ntmps24
    go_wp2_with (go_at_call 50; refine cH.mono ?_; rintro e w' ⟨rfl, rfl⟩)
    go_wp2_with fail
    refine (c1.out _ rfl).mono ?_
    rintro e w' ⟨rfl, rfl⟩
    go_wp2_with fail
    refine (c2.out _ rfl).mono ?_
    rintro e w' ⟨rfl, rfl⟩
    go_wp2
    go_ret
    exact ⟨by rw [HV.out]; rfl, rfl⟩

theorem open_cell {b off : Nat} {w : World} {xs : List Bool} {K : Nat} (hK : K < xs.length) (hc : ∀ i, i < xs.length → w.cell? ⟨b, off + i, none⟩ = some (.bool (xs.getD i false))) (y : Bool) (hy : xs.getD K false = y) : w.cell? ⟨b, off + K, none⟩ = some (.bool y) := by
  rw [← hy]; exact hc K hK

set_option maxHeartbeats 1000000 in
set_option maxRecDepth 100000 in
theorem refNumber_any (B : Nat) (v : Value) (xs : List Bool) (k : Int) (w : World) (hx : xs.length ≤ 4294967296) (hv : BoolsAt B w v xs) :
    Calls Try.prog 31 #[v, .int .i64 k] w fun e w' => e = .returned (.int .i64 (numberL xs k)) ∧ w = w' := by
  have cH := has_is B v xs k _ rfl w hv
  have cR := refRank_any B v xs k true w hx hv
  cases hh : hasB xs k
  · rw [hh] at cH
    have HV : Hid (numberL xs k = -1) := by unfold numberL; rw [(openB_has xs k hh).1]; exact rfl
    clear hh hv cR
    go_enter Try.func31, Try.ntmps31
    go_wp2_with (go_at_call 50; refine cH.mono ?_; rintro e w' ⟨rfl, rfl⟩)
    go_ret
    exact ⟨by rw [HV.out]; rfl, rfl⟩
  · rw [hh] at cH
    obtain ⟨K, rfl, hK⟩ := has_nat xs k hh
    rcases hv with ⟨a, cap, rfl, rfl⟩ | ⟨b, off, cap, rfl, hbB, hc⟩
    · simp at hK
    · obtain ⟨y, hy⟩ : ∃ y, xs.getD K false = y := ⟨_, rfl⟩
      have hcell := open_cell hK hc y hy
      have ho := openB_nat xs K y hK hy
      obtain ⟨p, hp⟩ : ∃ p : Nat, rankL xs (K : Int) true = p := ⟨_, rfl⟩
      rw [hp] at cR
      have HV : Hid (numberL xs (K : Int) = if y = true then (p : Int) else -1) := by unfold numberL; rw [ho.1, hp]; exact rfl
      clear hc hh ho hy hp
      cases y
      all_goals
        go_enter Try.func31, Try.ntmps31
        go_wp2_with (first | (go_at_call 50; refine cH.mono ?_; rintro e w' ⟨rfl, rfl⟩) | (go_at_call 35; refine cR.mono ?_; rintro e w' ⟨rfl, rfl⟩))
        go_ret
        exact ⟨by rw [HV.out]; rfl, rfl⟩

set_option maxHeartbeats 1000000 in
set_option maxRecDepth 100000 in
theorem refSpan_any (B : Nat) (v : Value) (xs : List Bool) (k : Int) (w : World) (hx : xs.length ≤ 4294967296) (hv : BoolsAt B w v xs) :
    Calls Try.prog 32 #[v, .int .i64 k] w fun e w' => e = .returned (.int .i64 (spanL xs k)) ∧ w = w' := by
  have cH := has_is B v xs k _ rfl w hv
  have cR := refClose_any B v xs k w hx hv
  cases hh : hasB xs k
  · rw [hh] at cH
    have HV : Hid (spanL xs k = 0) := by unfold spanL; rw [(openB_has xs k hh).1]; exact rfl
    clear hh hv cR
    go_enter Try.func32, Try.ntmps32
    go_wp2_with (go_at_call 50; refine cH.mono ?_; rintro e w' ⟨rfl, rfl⟩)
    go_ret
    exact ⟨by rw [HV.out]; rfl, rfl⟩
  · rw [hh] at cH
    obtain ⟨K, rfl, hK⟩ := has_nat xs k hh
    rcases hv with ⟨a, cap, rfl, rfl⟩ | ⟨b, off, cap, rfl, hbB, hc⟩
    · simp at hK
    · obtain ⟨y, hy⟩ : ∃ y, xs.getD K false = y := ⟨_, rfl⟩
      have hcell := open_cell hK hc y hy
      have ho := openB_nat xs K y hK hy
      have hr := close_range xs K hK
      obtain ⟨p, hp⟩ : ∃ p : Int, closeL xs (K : Int) = p := ⟨_, rfl⟩
      rw [hp] at cR hr
      have hlo : -1 ≤ p := by omega
      have hhi : p ≤ 4294967296 := by omega
      have hKb : K ≤ 4294967296 := by omega
      have HV : Hid (spanL xs (K : Int) = if y = true then (p - K + 1).tdiv 2 else 0) := by unfold spanL; rw [ho.1, hp]; exact rfl
      clear hc hh ho hy hp
      cases y
      · go_enter Try.func32, Try.ntmps32
        go_wp2_with (first | (go_at_call 50; refine cH.mono ?_; rintro e w' ⟨rfl, rfl⟩) | (go_at_call 25; refine cR.mono ?_; rintro e w' ⟨rfl, rfl⟩))
        go_ret
        exact ⟨by rw [HV.out]; rfl, rfl⟩
      · clear hr
        go_enter Try.func32, Try.ntmps32
        go_wp2_with (first | (go_at_call 50; refine cH.mono ?_; rintro e w' ⟨rfl, rfl⟩) | (go_at_call 25; refine cR.mono ?_; rintro e w' ⟨rfl, rfl⟩))
        go_ret
        exact ⟨by rw [HV.out]; rfl, rfl⟩

set_option maxHeartbeats 1000000 in
set_option maxRecDepth 100000 in
theorem refUp_any (B : Nat) (v : Value) (xs : List Bool) (k n : Int) (w : World) (hx : xs.length ≤ 4294967296) (hn : n ≤ 9223372036854775807) (hv : BoolsAt B w v xs) :
    Calls Try.prog 29 #[v, .int .i64 k, .int .i64 n] w fun e w' => e = .returned (.int .i64 (upL xs k n)) ∧ w = w' := by
  have cH := has_is B v xs k _ rfl w hv
  have cE := fun q => refEnclose_any B v xs q w hx hv
  cases hh : hasB xs k
  · rw [hh] at cH
    have HV : Hid (upL xs k n = -1) := by unfold upL; rw [(openB_has xs k hh).1]; exact rfl
    clear hh hv cE
    go_enter Try.func29, Try.ntmps29
    go_wp2_with (go_at_call 50; refine cH.mono ?_; rintro e w' ⟨rfl, rfl⟩)
    go_ret
    exact ⟨by rw [HV.out]; rfl, rfl⟩
  · rw [hh] at cH
    obtain ⟨K, rfl, hK⟩ := has_nat xs k hh
    rcases hv with ⟨a, cap, rfl, rfl⟩ | ⟨b, off, cap, rfl, hbB, hc⟩
    · simp at hK
    · obtain ⟨y, hy⟩ : ∃ y, xs.getD K false = y := ⟨_, rfl⟩
      have hcell := open_cell hK hc y hy
      have ho := openB_nat xs K y hK hy
      clear hc hh hy
      cases y
      · have HV : Hid (upL xs (K : Int) n = -1) := by unfold upL; rw [ho.1]; exact rfl
        clear ho cE
        go_enter Try.func29, Try.ntmps29
        go_wp2_with (go_at_call 50; refine cH.mono ?_; rintro e w' ⟨rfl, rfl⟩)
        go_ret
        exact ⟨by rw [HV.out]; rfl, rfl⟩
      · by_cases hn0 : n < 0
        · have HV : Hid (upL xs (K : Int) n = -1) := by unfold upL; rw [if_neg (fun e => by omega)]; exact rfl
          clear ho cE
          go_enter Try.func29, Try.ntmps29
          go_wp2_with (go_at_call 50; refine cH.mono ?_; rintro e w' ⟨rfl, rfl⟩)
          go_ret
          exact ⟨by rw [HV.out]; rfl, rfl⟩
        · obtain ⟨N, rfl⟩ := Int.eq_ofNat_of_zero_le (show (0 : Int) ≤ n by omega)
          obtain ⟨ans, hans⟩ : ∃ ans : Int, upGo xs N (K : Int) = ans := ⟨_, rfl⟩
          have HV : Hid (upL xs (K : Int) (N : Int) = ans) := by unfold upL; rw [ho.1, if_pos ⟨rfl, by omega⟩, Int.toNat_natCast]; exact hans
          have HA := Lib.hid hans
          clear ho hans hn0
          go_enter Try.func29, Try.ntmps29
          go_wp2_with (go_at_call 50; refine cH.mono ?_; rintro e w' ⟨rfl, rfl⟩)
          go_loop [1, 7] (fun q i => ∃ (j f : Nat) (z : Int), j + f = N ∧ i = .int .i64 j ∧ q = .int .i64 z ∧ -1 ≤ z ∧ z ≤ 4294967296 ∧ upGo xs f z = ans) (fun _ i => N - (intOf i).toNat)
          case atStart => exact ⟨0, N, (K : Int), by omega, rfl, rfl, by omega, by omega, HA.out⟩
          case round =>
            obtain ⟨j, f, z, hjf, rfl, rfl, hz1, hz2, hr⟩ := hrel
            have HR := Lib.hid hr
            clear hr hcell
            cases f with
            | zero =>
              have HF : Hid (z = ans) := HR.out
              obtain rfl : j = N := by omega
              clear HR
              go_wp2
              go_ret
              exact ⟨by rw [HV.out, ← HF.out]; rfl, rfl⟩
            | succ g =>
              have hjn : j < N := by omega
              have d1 : decide (j < N) = true := decide_eq_true hjn
              by_cases hzn : z < 0
              · have HF : Hid (z = ans) := by rw [← HR.out]; exact (upGo_neg xs (g + 1) z hzn).symm
                have d2 : decide (0 ≤ z) = false := decide_eq_false (by omega)
                clear HR
                go_wp2
                go_ret
                exact ⟨by rw [HV.out, ← HF.out]; rfl, rfl⟩
              · have HF : Hid (upGo xs g (encloseL xs z) = ans) := by rw [← HR.out]; exact (upGo_step xs g z hzn).symm
                have hrng := enclose_range xs z
                have d2 : decide (0 ≤ z) = true := decide_eq_true (by omega)
                have c1 := cE z
                generalize encloseL xs z = z' at *
                clear HR
                go_wp2_with (go_at_call 28; refine c1.mono ?_; rintro e w' ⟨rfl, rfl⟩)
                go_round
                case rel => exact ⟨j + 1, g, z', by omega, by go_num, rfl, by omega, by omega, HF.out⟩
                case measure => simp [intOf]; omega
end Go.Proofs.Yteecanaibkpmfaa
