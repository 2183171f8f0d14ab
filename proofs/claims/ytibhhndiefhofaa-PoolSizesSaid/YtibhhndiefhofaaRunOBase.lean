/-
  THE CONTRACTS OF last, rise, lowWidth OF THE LANDED PACKAGE offs.
-/
import Derived.Test.YtibhhndiefhofaaRefOff
import Derived.Test.YtibhhndiefhofaaSymArg
import Derived.Below
import Derived.Test.YtibhhndiefhofaaOffHigh
import Derived.Test.YtibhhndiefhofaaRunWid
import Derived.Deep.QuietTactic
import Derived.BigQuiet
namespace Go.Proofs.Ytibhhndiefhofaa
open Go.RowKit

theorem isNaN_any (x : Int) (w : World) : Calls Try.prog 70 #[.int .i64 x] w fun e w' => e = .returned (.bool false) ∧ w = w' := by
  go_enter Try.func70, Try.ntmps70
  go_wp2
  go_ret
  exact ⟨by simp, rfl⟩
theorem less_any (x y : Int) (w : World) : Calls Try.prog 55 #[.int .i64 x, .int .i64 y] w fun e w' => e = .returned (.bool (decide (x < y))) ∧ w = w' := by
  have C := isNaN_any x w
  go_enter Try.func55, Try.ntmps55
  go_wp2_with fail
  refine C.mono ?_
  rintro e w' ⟨rfl, rfl⟩
  go_wp2
  go_ret
  exact ⟨rfl, rfl⟩
set_option maxHeartbeats 1000000 in
set_option maxRecDepth 100000 in
theorem isSorted_any (b off cap : Nat) (xs : List Int) (w : World) (hn : 1 ≤ xs.length) (hx : xs.length ≤ 9223372036854775807) (hc : ∀ i, i < xs.length → w.cell? ⟨b, off + i, none⟩ = some (.int .i64 (xs.getD i 0))) :
    Calls Try.prog 45 #[.slice (some ⟨b, off, none⟩) xs.length cap] w fun e w' => ∃ r, e = .returned (.bool r) ∧ (r = true ↔ SortedFrom xs 0) ∧ ∃ n, w' = w.drewN n := by
  have HC := Lib.hid hc
  clear hc
  obtain ⟨m, hm⟩ : ∃ m, xs.length = m + 1 := ⟨xs.length - 1, by omega⟩
  have e1 : ((m + 1 : Nat) : Int) - 1 = (m : Int) := by omega
  have HM := Lib.hid hm
  rw [hm]
  rw [hm] at hx
  clear hm hn
  go_enter Try.func45, Try.ntmps45
  go_wp2
  go_loopw [3] (fun i wr => ∃ (j n : Nat), j ≤ m ∧ i = .int .i64 j ∧ SortedFrom xs j ∧ wr = w.drewN n) (fun i _ => (intOf i).toNat)
  case atStart => exact ⟨m, 0, Nat.le_refl _, by simp, fun j h1 h2 => by rw [HM.out] at h2; omega, rfl⟩
  case round =>
    obtain ⟨j, n, hj, rfl, hs, rfl⟩ := hrel
    have HS := Lib.hid hs
    clear hs
    by_cases h0 : j = 0
    · subst h0
      go_wp2
      go_ret
      exact ⟨_, rfl, by simp [HS.out], n, rfl⟩
    · obtain ⟨i, rfl⟩ : ∃ i, j = i + 1 := ⟨j - 1, by omega⟩
      obtain ⟨x, hxx⟩ : ∃ x, xs.getD (i + 1) 0 = x := ⟨_, rfl⟩
      obtain ⟨y, hyy⟩ : ∃ y, xs.getD i 0 = y := ⟨_, rfl⟩
      have c1 : (w.drewN n).cell? ⟨b, off + (i + 1), none⟩ = some (.int .i64 x) := by rw [← hxx]; exact HC.out (i + 1) (by rw [HM.out]; omega)
      have c2 : (w.drewN n).cell? ⟨b, off + i, none⟩ = some (.int .i64 y) := by rw [← hyy]; exact HC.out i (by rw [HM.out]; omega)
      have CL := Lib.hid (fun k => (less_any x y ((w.drewN n).drewN k)).mono fun e w' (h : e = .returned (.bool (decide (x < y))) ∧ (w.drewN n).drewN k = w') => (⟨h.1, 0, h.2.symm⟩ : e = .returned (.bool (decide (x < y))) ∧ ∃ k', w' = ((w.drewN n).drewN k).drewN k'))
      have HX := Lib.hid hxx
      have HY := Lib.hid hyy
      clear hxx hyy
      have e2 : ((i + 1 : Nat) : Int) - 1 = (i : Int) := by omega
      have e3 : wrap64 (((i + 1 : Nat) : Int) - 1) = (i : Int) := by rw [e2, IntWalk.wrap64_in _ (by omega)]
      have b1 : (i : Int) < ((m + 1 : Nat) : Int) := by omega
      have b2 : ((i + 1 : Nat) : Int) < ((m + 1 : Nat) : Int) := by omega
      have b3 : (0 : Int) ≤ (i : Int) := by omega
      have b4 : (0 : Int) ≤ ((i + 1 : Nat) : Int) := by omega
      by_cases hlt : x < y
      · have hd : decide (x < y) = true := decide_eq_true hlt
        rw [hd] at CL
        go_wp2
        obtain ⟨W, hW⟩ : ∃ W, w.drewN n = W := ⟨_, rfl⟩
        have HW := Lib.hid hW
        rw [hW] at c1 c2 CL ⊢
        clear hW
        go_quiet (first | (go_at_call 55; exact Calls.quiet_of (CL.out _)))
        go_wp2
        go_ret
        refine ⟨_, rfl, ⟨fun h => (by cases h), fun h => ?_⟩, n + nq, by rw [← HW.out, World.drewN_drewN]⟩
        have := h (i + 1) (by omega) (by rw [HM.out]; omega)
        rw [Nat.add_sub_cancel, HX.out, HY.out] at this
        omega
      · have hd : decide (x < y) = false := decide_eq_false hlt
        rw [hd] at CL
        go_wp2
        obtain ⟨W, hW⟩ : ∃ W, w.drewN n = W := ⟨_, rfl⟩
        have HW := Lib.hid hW
        rw [hW] at c1 c2 CL ⊢
        clear hW
        go_quiet (first | (go_at_call 55; exact Calls.quiet_of (CL.out _)))
        go_wp2
        go_roundw
        case rel =>
          refine ⟨i, n + nq, by omega, rfl, fun j h1 h2 => ?_, by rw [← HW.out, World.drewN_drewN]⟩
          by_cases h3 : j = i + 1
          · subst h3
            rw [Nat.add_sub_cancel, HX.out, HY.out]
            omega
          · exact HS.out j (by omega) h2
        case measure => simp [intOf]

theorem rolastNone_any (a : Option Addr) (cap : Nat) (w : World) : Calls Try.prog 46 #[.slice a 0 cap] w fun e w' => e = .returned (.int .i64 0) ∧ w = w' := by
  go_enter Try.func46, Try.ntmps46
  go_wp2
  go_ret
  exact ⟨rfl, rfl⟩
set_option maxHeartbeats 1000000 in
set_option maxRecDepth 100000 in
theorem rolastSome_any (b off cap : Nat) (xs : List Int) (w : World) (hn : 1 ≤ xs.length) (hx : xs.length ≤ 9223372036854775807) (hc : ∀ i, i < xs.length → w.cell? ⟨b, off + i, none⟩ = some (.int .i64 (xs.getD i 0))) :
    Calls Try.prog 46 #[.slice (some ⟨b, off, none⟩) xs.length cap] w fun e w' => e = .returned (.int .i64 (xs.getD (xs.length - 1) 0)) ∧ w = w' := by
  have hcl := hc (xs.length - 1) (by omega)
  generalize xs.getD (xs.length - 1) 0 = z at *
  generalize xs.length = len at *
  obtain ⟨m, hml⟩ : ∃ m, len - 1 = m := ⟨_, rfl⟩
  rw [hml] at hcl
  have e2 : (len : Int) - 1 = (m : Int) := by omega
  have e3 : ((len : Int) == 0) = false := beq_eq_false_iff_ne.2 (by omega)
  have e3' : (len == 0) = false := beq_eq_false_iff_ne.2 (by omega)
  have e6 : (m : Int) < (len : Int) := by omega
  have e7 : m < len := by omega
  clear hml hc
  go_enter Try.func46, Try.ntmps46
  go_wp2
  go_ret
  exact ⟨rfl, rfl⟩
/-- THE LAST OF xs; 0, if there is none. -/
def lastI (xs : List Int) : Int := xs.getD (xs.length - 1) 0
theorem rolast_any (s : Value) (xs : List Int) (w : World) (hx : xs.length ≤ 1048576) (hs : SymOK w s xs) :
    Calls Try.prog 46 #[s] w fun e w' => e = .returned (.int .i64 (lastI xs)) ∧ w = w' := by
  rcases hs.1 with ⟨a, cap, rfl, rfl⟩ | ⟨b, off, cap, rfl, _, hc⟩
  · exact rolastNone_any a cap w
  · by_cases h0 : xs.length = 0
    · have : xs = [] := List.eq_nil_of_length_eq_zero h0
      subst this
      exact rolastNone_any _ cap w
    · exact rolastSome_any b off cap xs w (by omega) (by omega) hc
set_option maxHeartbeats 1000000 in
set_option maxRecDepth 100000 in
theorem rrise_any (s : Value) (xs : List Int) (w : World) (hx : xs.length ≤ 1048576) (hs : SymOK w s xs) :
    Calls Try.prog 34 #[s] w fun e w' => e = .returned (.bool (mayOffs xs)) ∧ ∃ n, w' = w.drewN n := by
  by_cases h0 : xs.length = 0
  · have : xs = [] := List.eq_nil_of_length_eq_zero h0
    subst this
    have e : mayOffs [] = true := by decide
    rw [e]
    obtain ⟨_, a, cap, rfl, _⟩ := hs
    go_enter Try.func34, Try.ntmps34
    go_wp2
    go_ret
    exact ⟨rfl, 0, rfl⟩
  · have CL := Lib.hid (fun n => rolast_any s xs (w.drewN n) hx ⟨hs.1, hs.2⟩)
    have hne : xs ≠ [] := by rintro rfl; exact h0 rfl
    have HMAY := Lib.hid (mayO_iff xs 0 hne)
    obtain ⟨hat, a, cap, rfl, _⟩ := hs
    rcases hat with ⟨_, _, _, rfl⟩ | ⟨b, off, cap', e, hb, hc⟩
    · exact absurd rfl h0
    injection e with e1 e2 e3
    subst e1; subst e3
    have CS := Lib.hid (isSorted_any b off cap xs w (by omega) (by omega) hc)
    obtain ⟨x, hxx⟩ : ∃ x, xs.getD 0 0 = x := ⟨_, rfl⟩
    have hcell := hc 0 (by omega)
    rw [hxx] at hcell HMAY
    rw [Nat.add_zero] at hcell
    have HMB : Hid (mayOffs xs = true ↔ 0 ≤ x ∧ SortedFrom xs 0 ∧ lastI xs ≤ 8388608) := HMAY
    clear HMAY
    generalize SortedFrom xs 0 = sp at *
    generalize lastI xs = la at *
    generalize mayOffs xs = ans at *
    have e3 : ((xs.length : Int) == 0) = false := beq_eq_false_iff_ne.2 (by omega)
    have e3' : (xs.length == 0) = false := beq_eq_false_iff_ne.2 (by omega)
    have e4 : (0 : Int) < (xs.length : Int) := by omega
    have e5 : 0 < xs.length := by omega
    clear hc hxx hne h0
    generalize xs.length = len at *
    by_cases hneg : x < 0
    · have g1 : decide (0 ≤ x) = false := decide_eq_false (by omega)
      have HF : Hid (ans = false) := Lib.hid (by
        cases ans with
        | false => rfl
        | true => have := (HMB.out.1 rfl).1; omega)
      go_enter Try.func34, Try.ntmps34
      go_wp2
      go_ret
      exact ⟨by rw [HF.out]; rfl, 0, rfl⟩
    · have g1 : decide (0 ≤ x) = true := decide_eq_true (by omega)
      have hx0 : 0 ≤ x := by omega
      go_enter Try.func34, Try.ntmps34
      go_wp2_with fail
      refine CS.out.mono ?_
      rintro e w1 ⟨r, rfl, hr, n, rfl⟩
      have HR := Lib.hid hr
      clear hr
      cases r with
      | false =>
        have HF : Hid (ans = false) := Lib.hid (by
          cases ans with
          | false => rfl
          | true => have := HR.out.2 (HMB.out.1 rfl).2.1; cases this)
        go_wp2
        go_ret
        exact ⟨by rw [HF.out]; rfl, n, rfl⟩
      | true =>
        go_wp2_with fail
        refine (CL.out n).mono ?_
        rintro e w1 ⟨rfl, rfl⟩
        have HF : Hid (decide (la ≤ 8388608) = ans) := Lib.hid (by
          rw [Bool.eq_iff_iff, HMB.out, decide_eq_true_eq]
          exact ⟨fun h => ⟨hx0, HR.out.1 trivial, h⟩, fun h => h.2.2⟩)
        go_wp2
        go_ret
        exact ⟨by rw [← HF.out]; rfl, n, rfl⟩
set_option maxHeartbeats 1000000 in
set_option maxRecDepth 100000 in
theorem rlowWidth_any (s : Value) (xs : List Int) (w : World) (hx : xs.length ≤ 1048576) (hs : SymOK w s xs) (hm : mayOffs xs = true) :
    Calls Try.prog 35 #[s] w fun e w' => e = .returned (.int .i64 (lowN xs)) ∧ w = w' := by
  by_cases h0 : xs.length = 0
  · have : xs = [] := List.eq_nil_of_length_eq_zero h0
    subst this
    have e0 : lowN [] = 0 := by decide
    rw [e0]
    obtain ⟨_, a, cap, rfl, _⟩ := hs
    go_enter Try.func35, Try.ntmps35
    go_wp2
    go_ret
    exact ⟨rfl, rfl⟩
  · have CL := rolast_any s xs w hx hs
    obtain ⟨_, a, cap, rfl, _⟩ := hs
    unfold lastI at CL
    rw [last_int hm h0] at CL
    have hll := last_le hm
    have hans : lowN xs = widthN (lastN xs / xs.length) - 1 := rfl
    rw [hans]
    obtain ⟨q, hq⟩ : ∃ q, lastN xs / xs.length = q := ⟨_, rfl⟩
    have hqb : q ≤ 8388608 := by rw [← hq]; exact Nat.le_trans (Nat.div_le_self _ _) hll
    have C := Lib.hid (rwidth_any q w (by omega))
    have hw := widthN_64 q (by omega)
    have e1 : (lastN xs : Int) / (xs.length : Int) = (q : Int) := by rw [← hq]; rfl
    rw [hq]
    generalize widthN q = y at *
    generalize lastN xs = la at *
    generalize xs.length = len at *
    have e3 : ((len : Int) == 0) = false := beq_eq_false_iff_ne.2 (by omega)
    have e3' : (len == 0) = false := beq_eq_false_iff_ne.2 (by omega)
    have e5 : 0 < len := by omega
    have e6 : (0 : Int) < (len : Int) := by omega
    have e4 : IntKind.u64.wrap (q : Int) = (q : Int) := by simp [IntKind.wrap, IntKind.bits, IntKind.signed]; omega
    have CL := Lib.hid CL
    clear hq hm h0 hans
    go_enter Try.func35, Try.ntmps35
    go_wp2_with fail
    refine CL.out.mono ?_
    rintro e w' ⟨rfl, rfl⟩
    go_wp2_with fail
    try rw [e1]
    try rw [e4]
    refine C.out.mono ?_
    rintro e w' ⟨rfl, rfl⟩
    go_wp2
    all_goals
      go_ret
      exact ⟨ret_i64Z (by omega), rfl⟩
end Go.Proofs.Ytibhhndiefhofaa
