/-
  THE CONTRACTS OF brackenref1.Low, OffsSize.
-/
import Derived.Test.YtibhhndiefhofaaSymsAt
import Derived.Test.YtibhhndiefhofaaOffLaws
import Derived.Test.YtibhhndiefhofaaRefISize
import Derived.Test.YtibhhndiefhofaaRefWidth
import Derived.Test.YtibhhndiefhofaaRefBSize
import Derived.IntWalk
import Derived.Deep.QuietTactic
import Derived.BigQuiet
namespace Go.Proofs.Ytibhhndiefhofaa
open Go.RowKit

theorem retI {a b : Int} (h : a = b) : Ending.returned (.int .i64 a) = .returned (.int .i64 b) := by rw [h]
set_option maxHeartbeats 2000000 in
set_option maxRecDepth 100000 in
theorem refLow_any (B : Nat) (v : Value) (xs : List Int) (w : World) (hx : xs.length ≤ 4194304) (hm : mayOffs xs = true) (hv : SymsAt B w v xs) :
    Calls Try.prog 28 #[v] w fun e w' => e = .returned (.int .i64 (lowN xs)) ∧ w = w' := by
  by_cases h0 : xs.length = 0
  · have : xs = [] := List.eq_nil_of_length_eq_zero h0
    subst this
    have e0 : lowN [] = 0 := by decide
    rw [e0]
    obtain ⟨a, cap, rfl⟩ : ∃ a cap, v = .slice a 0 cap := by
      rcases hv with ⟨a, cap, rfl, _⟩ | ⟨b, off, cap, rfl, _⟩
      · exact ⟨a, cap, rfl⟩
      · exact ⟨_, cap, rfl⟩
    go_enter Try.func28, Try.ntmps28
    go_wp2
    go_ret
    exact ⟨rfl, rfl⟩
  · rcases hv with ⟨a, cap, rfl, rfl⟩ | ⟨b, off, cap, rfl, _, hc⟩
    · exact absurd rfl h0
    have hcl := hc (xs.length - 1) (by omega)
    rw [last_int hm h0] at hcl
    have hll := last_le hm
    have hans : lowN xs = widthN (lastN xs / xs.length) - 1 := rfl
    rw [hans]
    obtain ⟨q, hq⟩ : ∃ q, lastN xs / xs.length = q := ⟨_, rfl⟩
    have hqb : q ≤ 8388608 := by rw [← hq]; exact Nat.le_trans (Nat.div_le_self _ _) hll
    have C := Lib.hid (refWidth_any q w (by omega))
    have hw := widthN_64 q (by omega)
    have e1 : (lastN xs : Int) / (xs.length : Int) = (q : Int) := by rw [← hq]; rfl
    rw [hq]
    generalize widthN q = y at *
    generalize lastN xs = la at *
    generalize xs.length = len at *
    obtain ⟨m, hml⟩ : ∃ m, len - 1 = m := ⟨_, rfl⟩
    rw [hml] at hcl
    have e2 : (len : Int) - 1 = (m : Int) := by omega
    have e3 : ((len : Int) == 0) = false := beq_eq_false_iff_ne.2 (by omega)
    have e3' : (len == 0) = false := beq_eq_false_iff_ne.2 (by omega)
    have e4 : IntKind.u64.wrap (q : Int) = (q : Int) := by simp [IntKind.wrap, IntKind.bits, IntKind.signed]; omega
    have e6 : (m : Int) < (len : Int) := by omega
    have e7 : m < len := by omega
    clear hq hml hc hm h0 hans
    go_enter Try.func28, Try.ntmps28
    go_wp2_with fail
    try rw [e1]
    try rw [e4]
    refine C.out.mono ?_
    rintro e w' ⟨rfl, rfl⟩
    go_wp2
    all_goals
      go_ret
      exact ⟨retI (by omega), rfl⟩

set_option maxHeartbeats 400000 in
set_option maxRecDepth 100000 in
theorem refOffsSize_any (B : Nat) (v : Value) (xs : List Int) (w : World) (hx : xs.length ≤ 4194304) (hm : mayOffs xs = true) (hv : SymsAt B w v xs) :
    Calls Try.prog 19 #[v] w fun e w' => e = .returned (.int .i64 (offsN xs)) ∧ ∃ n, w' = w.drewN n := by
  by_cases h0 : xs.length = 0
  · have : xs = [] := List.eq_nil_of_length_eq_zero h0
    subst this
    have e0 : offsN [] = bitsN 1 := rfl
    rw [e0]
    have C := Lib.hid (refBitsSize_any 1 w (by decide))
    obtain ⟨a, cap, rfl⟩ : ∃ a cap, v = .slice a 0 cap := by
      rcases hv with ⟨a, cap, rfl, _⟩ | ⟨b, off, cap, rfl, _⟩
      · exact ⟨a, cap, rfl⟩
      · exact ⟨_, cap, rfl⟩
    generalize bitsN 1 = z at *
    go_enter Try.func19, Try.ntmps19
    go_wp2_with fail
    refine C.out.mono ?_
    rintro e w' ⟨rfl, rfl⟩
    go_wp2
    go_ret
    exact ⟨rfl, 0, rfl⟩
  · have CL := Lib.hid (refLow_any B v xs w hx hm hv)
    have hsm := offs_small hm hx
    have hup := (low_few xs.length (lastN xs) (lowN xs) (by omega) rfl).1
    rcases hv with ⟨a, cap, rfl, rfl⟩ | ⟨b, off, cap, rfl, _, hc⟩
    · exact absurd rfl h0
    have hcl := hc (xs.length - 1) (by omega)
    rw [last_int hm h0] at hcl
    have hll := last_le hm
    have hlo := low_le hm
    have hans : offsN xs = intsN xs.length (lowN xs) + bitsN (xs.length + lastN xs / 2 ^ lowN xs + 1) := by unfold offsN; rw [if_neg h0]
    rw [hans] at hsm ⊢
    obtain ⟨la, hla⟩ : ∃ la, lastN xs = la := ⟨_, rfl⟩
    obtain ⟨lw, hlw⟩ : ∃ lw, lowN xs = lw := ⟨_, rfl⟩
    rw [hla] at hcl hll hup hsm ⊢
    rw [hlw] at hlo hup hsm CL ⊢
    obtain ⟨up, hupp⟩ : ∃ up, la / 2 ^ lw = up := ⟨_, rfl⟩
    have e1 : (la : Int) / 2 ^ lw = (up : Int) := by rw [← hupp, Int.natCast_ediv, Int.natCast_pow]; rfl
    rw [hupp] at hup hsm ⊢
    have C1 := Lib.hid (fun n => (refIntsSize_any xs.length lw (w.drewN n) (by omega) (by omega)).mono fun e w' (h : e = .returned (.int .i64 (intsN xs.length lw)) ∧ w.drewN n = w') => (⟨h.1, 0, h.2.symm⟩ : e = .returned (.int .i64 (intsN xs.length lw)) ∧ ∃ k, w' = (w.drewN n).drewN k))
    have C2 := Lib.hid (fun n => (refBitsSize_any (xs.length + up + 1) (w.drewN n) (by omega)).mono fun e w' (h : e = .returned (.int .i64 (bitsN (xs.length + up + 1))) ∧ w.drewN n = w') => (⟨h.1, 0, h.2.symm⟩ : e = .returned (.int .i64 (bitsN (xs.length + up + 1))) ∧ ∃ k, w' = (w.drewN n).drewN k))
    generalize xs.length = len at *
    obtain ⟨m, hml⟩ : ∃ m, len - 1 = m := ⟨_, rfl⟩
    obtain ⟨t1, ht1⟩ : ∃ t, len + up = t := ⟨_, rfl⟩
    rw [ht1] at C2 hsm ⊢
    obtain ⟨t2, ht2⟩ : ∃ t, t1 + 1 = t := ⟨_, rfl⟩
    rw [ht2] at C2 hsm ⊢
    rw [hml] at hcl
    have hm2 : m ≤ 4194304 := by omega
    have e2' : (len : Int) - 1 = (m : Int) := by omega
    have e3 : ((len : Int) == 0) = false := beq_eq_false_iff_ne.2 (by omega)
    have e3' : (len == 0) = false := beq_eq_false_iff_ne.2 (by omega)
    have e4 : IntKind.u64.wrap (lw : Int) = (lw : Int) := by simp [IntKind.wrap, IntKind.bits, IntKind.signed]; omega
    have e8 : (m : Int) < (len : Int) := by omega
    have e9 : (0 : Int) ≤ (m : Int) := by omega
    have e10 : m < len := by omega
    have hl0 : (0 : Int) ≤ (lw : Int) := by omega
    have b1 : t1 ≤ 8589934592 := by omega
    have b2 : t2 ≤ 8589934592 := by omega
    have b0 : m ≤ 8589934592 := by omega
    have s1 : (len : Int) + (up : Int) = (t1 : Int) := by omega
    have s2 : (t1 : Int) + 1 = (t2 : Int) := by omega
    generalize intsN len lw = z1 at *
    generalize bitsN t2 = z2 at *
    have hsm2 : z1 + z2 ≤ 8589934592 := by omega
    have HSM := Lib.hid hsm2
    have e2 : wrap64 ((len : Int) - 1) = (m : Int) := by rw [e2']; exact wrap_small _ b0
    have e6 : wrap64 ((len : Int) + (up : Int)) = (t1 : Int) := by rw [s1]; exact wrap_small _ b1
    have e7 : wrap64 ((t1 : Int) + 1) = (t2 : Int) := by rw [s2]; exact wrap_small _ b2
    clear hsm hsm2 s1 s2 b0 b1 b2 hupp hla hlw hc hm h0 hx hans hml hup ht1 ht2
    go_enter Try.func19, Try.ntmps19
    go_wp2_with fail
    refine CL.out.mono ?_
    rintro e w' ⟨rfl, rfl⟩
    go_wp2
    go_quiet (first | (go_at_call 29; exact Calls.quiet_of (C1.out _)) | (go_at_call 27; exact Calls.quiet_of (C2.out _)))
    go_wp2
    go_ret
    exact ⟨retI (by rw [← Int.natCast_add]; exact wrap_small _ HSM.out), _, rfl⟩
end Go.Proofs.Ytibhhndiefhofaa
