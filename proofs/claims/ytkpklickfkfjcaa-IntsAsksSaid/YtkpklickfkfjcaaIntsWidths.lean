/-
  LAYER 4: brackenlaw4.IntsWidths, out of IntSaid: true for every number.
-/
import Derived.Test.YtkpklickfkfjcaaIntTold
namespace Go.Proofs.Ytkpklickfkfjcaa
open Go.RowKit

theorem widthN_gt (n k : Nat) (h : n / 2 ^ k ≠ 0) : k < widthN n := by
  rcases Nat.lt_or_ge k (widthN n) with h1 | h1
  · exact h1
  · exfalso
    apply h
    exact Nat.div_eq_of_lt (Nat.lt_of_lt_of_le (widthN_lt n) (Nat.pow_le_pow_right (by decide) h1))
theorem widthN_not_gt (n k : Nat) (h : n / 2 ^ k = 0) : widthN n ≤ k := by
  apply widthN_le
  rcases Nat.lt_or_ge n (2 ^ k) with h1 | h1
  · exact h1
  · have := Nat.div_pos h1 (Nat.two_pow_pos k)
    omega
/-- the three numbers -/
def twice (n : Nat) : List Nat := [n, 0, n]
theorem twice_len (n : Nat) : (twice n).length ≤ 4194304 := show 3 ≤ 4194304 by decide
theorem twice_get (n : Nat) : getZ (twice n) 2 = n := rfl
theorem twice_getE (n : Nat) : getE (twice n) 2 = 0 := rfl
theorem twice_wid (n : Nat) : widestN (twice n) = widthN n := by
  simp only [twice, widestN, widthN_zero]
  omega

set_option maxHeartbeats 4000000 in
set_option maxRecDepth 100000 in
theorem iwidths_any {E : World → Prop} {Is : Nat → World → Value → List Nat → Prop} (T : IntSaid E Is) (n : Nat) (w : World) (hE : E w) (hn : n ≤ 18446744073709551615) :
    Calls Try.prog 5 #[.int .u64 n] w fun e w' => e = .returned (.bool true) ∧ Below w.heap.size w w' := by
  have HE := Lib.hid hE
  clear hE
  have h64 := widthN_64 n hn
  go_enter Try.func5, Try.ntmps5
  go_wp2
  go_loop [3, 4] (fun a i => ∃ k x : Nat, k ≤ 64 ∧ i = .int .u64 k ∧ a = .int .i64 x ∧ x = min k (widthN n)) (fun _ i => 64 - (intOf i).toNat)
  case atStart => exact ⟨0, 0, by omega, rfl, rfl, by omega⟩
  case round =>
    obtain ⟨k, x, hk, rfl, rfl, hx⟩ := hrel
    by_cases hlt : k < 64
    · have g1 : decide ((k : Int) < 64) = true := decide_eq_true (by omega)
      obtain ⟨d, hd⟩ : ∃ d, n / 2 ^ k = d := ⟨_, rfl⟩
      have HD : Hid ((n : Int) / 2 ^ k = (d : Int)) := Lib.hid (by rw [← hd, Int.natCast_ediv, Int.natCast_pow]; rfl)
      by_cases h0 : d = 0
      · have hw := widthN_not_gt n k (by rw [hd, h0])
        have HX : Hid (x = min (k + 1) (widthN n)) := Lib.hid (by omega)
        have hz : ((d : Int) != 0) = false := by simp [h0]
        have q : Hid (((n : Int) / 2 ^ k != 0) = false) := Lib.hid (by rw [HD.out]; exact hz)
        have q2 := q.out
        clear hx hd hz h0 HD
        go_wp2
        go_round
        case rel => exact ⟨k + 1, x, by omega, by go_num, rfl, HX.out⟩
        case measure => simp [intOf]; omega
      · have hw := widthN_gt n k (by rw [hd]; exact h0)
        have HX : Hid (x + 1 = min (k + 1) (widthN n)) := Lib.hid (by omega)
        have hxb : x ≤ 64 := by omega
        have hz : ((d : Int) != 0) = true := by simp [h0]
        have q : Hid (((n : Int) / 2 ^ k != 0) = true) := Lib.hid (by rw [HD.out]; exact hz)
        have q2 := q.out
        clear hx hd hz h0 HD
        go_wp2
        go_round
        case rel => exact ⟨k + 1, x + 1, by omega, by go_num, by go_num, HX.out⟩
        case measure => simp [intOf]; omega
    · obtain rfl : k = 64 := by omega
      have hxw : x = widthN n := by omega
      subst hxw
      clear hx hlt
      have hba : Below w.heap.size w (w.alloc (.cells #[.int .u64 n, .int .u64 0, .int .u64 n] 22)) := (Below.refl w.heap.size w).alloc (Nat.le_refl _) _
      have HR : Hid (NumOK (w.alloc (.cells #[.int .u64 n, .int .u64 0, .int .u64 n] 22)) (.slice (some ⟨w.heap.size, 0, none⟩) 3 3) (twice n)) := Lib.hid (numOK_alloc w _ _ (twice n) 3 3 rfl rfl (Nat.le_refl _) (by
        intro z hz
        simp [twice] at hz
        omega))
      go_wp2_with fail
      refine (T.new _ (twice n) _ (T.below _ _ HE.out hba) (twice_len n) HR.out).mono ?_
      rintro e w1 ⟨v, rfl, hIs, hb'⟩
      obtain ⟨a, rfl⟩ := T.isPtr _ _ _ _ hIs
      have hb : Below w.heap.size w w1 := step_below4 hba hb'
      clear hba hb' HR
      go_wp2_with fail
      refine (T.getIs 2 n 0 (twice_get n) (twice_getE n) _ (T.below _ _ HE.out hb) (twice_len n) (in64_small _) hIs).mono ?_
      rintro e w2 ⟨rfl, hb'⟩
      replace hIs := T.isBelow hIs hb'
      replace hb := step_below4 hb hb'
      clear hb'
      go_wp2_with fail
      refine (told4_any T _ (T.below _ _ HE.out hb)).mono ?_
      rintro e w3 ⟨rfl, hb'⟩
      replace hIs := T.isBelow hIs hb'
      replace hb := step_below4 hb hb'
      clear hb'
      go_wp2_with fail
      refine (T.widthIs n _ rfl _ (T.below _ _ HE.out hb) hn).mono ?_
      rintro e w4 ⟨rfl, hb'⟩
      replace hIs := T.isBelow hIs hb'
      replace hb := step_below4 hb hb'
      clear hb'
      go_wp2_with fail
      refine (T.widIs _ (twice_wid n) _ (T.below _ _ HE.out hb) (twice_len n) hIs).mono ?_
      rintro e w5 ⟨rfl, hb'⟩
      replace hb := step_below4 hb hb'
      clear hb' hIs
      go_wp2
      go_ret
      exact ⟨rfl, hb⟩
end Go.Proofs.Ytkpklickfkfjcaa
