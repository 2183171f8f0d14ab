/-
  THE CONTRACTS OF brackenref1.has, MayParen, Close: over a slice of bools that lies in memory as a list; the world is left alone.
-/
import Derived.Test.YteecanaibkpmfaaRefBools
import Derived.Test.YteecanaibkpmfaaParLaws
namespace Go.Proofs.Yteecanaibkpmfaa
open Go.RowKit

def hasB (l : List Bool) (k : Int) : Bool := decide (0 ≤ k) && decide (k < l.length)
set_option maxHeartbeats 1000000 in
theorem has_any (B : Nat) (v : Value) (xs : List Bool) (k : Int) (w : World) (hv : BoolsAt B w v xs) :
    Calls Try.prog 50 #[v, .int .i64 k] w fun e w' => e = .returned (.bool (hasB xs k)) ∧ w = w' := by
  by_cases h1 : 0 ≤ k <;> by_cases h2 : k < (xs.length : Int)
  all_goals
    have HV : Hid (hasB xs k = (decide (0 ≤ k) && decide (k < (xs.length : Int)))) := rfl
    rcases hv with ⟨a, cap, rfl, rfl⟩ | ⟨b, off, cap, rfl, _, _⟩
    all_goals
      go_enter Try.func50, Try.ntmps50
      go_wp2
      go_ret
      exact ⟨by rw [HV.out]; first | (simp_all; done) | (simp_all; omega), rfl⟩
theorem has_is (B : Nat) (v : Value) (xs : List Bool) (k : Int) (x : Bool) (hx : hasB xs k = x) (w : World) (hv : BoolsAt B w v xs) :
    Calls Try.prog 50 #[v, .int .i64 k] w fun e w' => e = .returned (.bool x) ∧ w = w' := by
  subst hx; exact has_any B v xs k w hv
theorem has_nat (l : List Bool) (k : Int) (h : hasB l k = true) : ∃ n : Nat, k = n ∧ n < l.length := by
  simp only [hasB, Bool.and_eq_true, decide_eq_true_eq] at h
  obtain ⟨n, rfl⟩ := Int.eq_ofNat_of_zero_le h.1
  exact ⟨n, rfl, by omega⟩
theorem has_nil (k : Int) : hasB [] k = false := by
  simp only [hasB, Bool.and_eq_false_iff, decide_eq_false_iff_not]
  simp; omega
theorem openB_has (l : List Bool) (k : Int) (h : hasB l k = false) : openB l k = false ∧ shutB l k = false := by
  unfold hasB at h
  unfold openB shutB
  cases a : decide (0 ≤ k)
  · exact ⟨rfl, rfl⟩
  · rw [a, Bool.true_and] at h
    rw [h]
    exact ⟨rfl, rfl⟩
theorem openB_nat (l : List Bool) (n : Nat) (x : Bool) (h : n < l.length) (hx : l.getD n false = x) : openB l n = x ∧ shutB l n = !x := by
  unfold openB shutB
  rw [decide_eq_true (by omega), decide_eq_true (by omega), Int.toNat_natCast, hx]
  exact ⟨rfl, rfl⟩

set_option maxHeartbeats 2000000 in
set_option maxRecDepth 100000 in
theorem refClose_any (B : Nat) (v : Value) (xs : List Bool) (k : Int) (w : World) (hx : xs.length ≤ 4294967296) (hv : BoolsAt B w v xs) :
    Calls Try.prog 25 #[v, .int .i64 k] w fun e w' => e = .returned (.int .i64 (closeL xs k)) ∧ w = w' := by
  have cH := has_is B v xs k _ rfl w hv
  cases hh : hasB xs k
  · rw [hh] at cH
    have HV : Hid (closeL xs k = -1) := by unfold closeL; rw [(openB_has xs k hh).1]; exact rfl
    clear hh
    go_enter Try.func25, Try.ntmps25
    go_wp2_with (go_at_call 50; refine cH.mono ?_; rintro e w' ⟨rfl, rfl⟩)
    go_ret
    exact ⟨by rw [HV.out]; rfl, rfl⟩
  · rw [hh] at cH
    obtain ⟨K, rfl, hK⟩ := has_nat xs k hh
    rcases hv with ⟨a, cap, rfl, rfl⟩ | ⟨b, off, cap, rfl, hbB, hc⟩
    · simp at hK
    · obtain ⟨y, hy⟩ : ∃ y, xs.getD K false = y := ⟨_, rfl⟩
      have hcell : w.cell? ⟨b, off + K, none⟩ = some (.bool y) := by rw [← hy]; exact hc K hK
      have ho := openB_nat xs K y hK hy
      have HC := Lib.hid hc
      clear hc hh
      cases y
      · have HV : Hid (closeL xs (K : Int) = -1) := by unfold closeL; rw [ho.1]; exact rfl
        clear ho hy
        go_enter Try.func25, Try.ntmps25
        go_wp2_with (go_at_call 50; refine cH.mono ?_; rintro e w' ⟨rfl, rfl⟩)
        go_ret
        exact ⟨by rw [HV.out]; rfl, rfl⟩
      · obtain ⟨ans, hans⟩ : ∃ ans : Int, fwdGo xs (exc xs K) (xs.length - K) K = ans := ⟨_, rfl⟩
        have HV : Hid (closeL xs (K : Int) = ans) := by unfold closeL; rw [ho.1, if_pos rfl, Int.toNat_natCast]; exact hans
        have HA := Lib.hid hans
        have hE := exc_abs xs K
        obtain ⟨E, hEE⟩ : ∃ E, exc xs K = E := ⟨_, rfl⟩
        rw [hEE] at HA hE
        have HE := Lib.hid hEE
        clear hans ho hy hEE
        go_enter Try.func25, Try.ntmps25
        go_wp2_with (go_at_call 50; refine cH.mono ?_; rintro e w' ⟨rfl, rfl⟩)
        go_loop [5, 6] (fun e i => ∃ j f : Nat, j + f = xs.length ∧ i = .int .i64 j ∧ e = .int .i64 (exc xs j - E) ∧ fwdGo xs E f j = ans) (fun _ i => xs.length - (intOf i).toNat)
        case atStart => exact ⟨K, xs.length - K, by omega, rfl, by rw [HE.out, Int.sub_self], HA.out⟩
        case round =>
          obtain ⟨j, f, hjf, rfl, rfl, hr⟩ := hrel
          have HR := Lib.hid hr
          clear hr hcell
          by_cases hj : j < xs.length
          · obtain ⟨g, rfl⟩ : ∃ g, f = g + 1 := ⟨f - 1, by omega⟩
            obtain ⟨x, hxx⟩ : ∃ x, xs.getD j false = x := ⟨_, rfl⟩
            have hcell : w.cell? ⟨b, off + j, none⟩ = some (.bool x) := by rw [← hxx]; exact HC.out j hj
            have HS := Lib.hid (exc_succ xs j x hj hxx)
            have HG : Hid ((if exc xs (j + 1) = E then (j : Int) else fwdGo xs E g (j + 1)) = ans) := HR.out
            have ha := exc_abs xs j
            generalize exc xs j = a at *
            clear hxx HR
            cases x
            all_goals
              obtain ⟨a', ha'⟩ : ∃ a', exc xs (j + 1) = a' := ⟨_, rfl⟩
              have hs := HS.out
              rw [ha'] at hs HG
              simp only [sgn, if_true, Bool.false_eq_true, if_false] at hs
              have HA' := Lib.hid ha'
              have HSS := Lib.hid hs
              clear HS ha'
              by_cases he : a' = E
              · have HF : Hid ((j : Int) = ans) := by rw [← HG.out, if_pos he]; exact rfl
                have t1 : (a - E + 1 == 0) = decide (a - E + 1 = 0) := by rw [Bool.eq_iff_iff]; simp
                have t2 : (a - E - 1 == 0) = decide (a - E - 1 = 0) := by rw [Bool.eq_iff_iff]; simp
                first | rw [decide_eq_true (by omega)] at t1 | rw [decide_eq_true (by omega)] at t2
                clear hs he HG
                go_wp2
                go_ret
                exact ⟨by rw [HV.out, ← HF.out]; rfl, rfl⟩
              · have HF : Hid (fwdGo xs E g (j + 1) = ans) := by rw [← HG.out, if_neg he]; exact rfl
                have t1 : (a - E + 1 == 0) = decide (a - E + 1 = 0) := by rw [Bool.eq_iff_iff]; simp
                have t2 : (a - E - 1 == 0) = decide (a - E - 1 = 0) := by rw [Bool.eq_iff_iff]; simp
                first | rw [decide_eq_false (by omega)] at t1 | rw [decide_eq_false (by omega)] at t2
                clear hs he HG
                go_wp2
                go_round
                case rel => exact ⟨j + 1, g, by omega, by go_num, by rw [HA'.out, HSS.out]; first | go_num | (congr 1; omega), HF.out⟩
                case measure => simp [intOf]; omega
          · have HF : Hid ((-1 : Int) = ans) := by
              rw [← HR.out]
              obtain rfl : f = 0 := by omega
              exact rfl
            go_wp2
            go_ret
            exact ⟨by rw [HV.out, ← HF.out]; rfl, rfl⟩
end Go.Proofs.Yteecanaibkpmfaa
