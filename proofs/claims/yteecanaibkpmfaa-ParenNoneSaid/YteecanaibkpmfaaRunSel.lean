/-
  THE CONTRACT OF Select OF THE LANDED PACKAGE bits.
-/
import Derived.Test.YteecanaibkpmfaaRunFind
import Derived.Test.YteecanaibkpmfaaSelWord
namespace Go.Proofs.Yteecanaibkpmfaa
open Go.RowKit

/-- the world with the three boxes of Select -/
def boxW (w : World) (v : Value) (j : Int) (bit : Bool) : World := ((w.alloc (.cells #[v] 44)).alloc (.cells #[.int .i64 j] 3)).alloc (.cells #[.bool bit] 4)
theorem boxW_below (w : World) (v : Value) (j : Int) (bit : Bool) : Below w.heap.size w (boxW w v j bit) := (((Below.refl _ w).alloc (Nat.le_refl _) _).alloc (by simp) _).alloc (by simp; omega) _
theorem one_new (w : World) (v : Value) (T : TypeId) : (w.alloc (.cells #[v] T)).rowIs w.heap.size T 1 (fun _ => v) := by
  refine World.rowIs_alloc w #[v] T (fun _ => v) ?_
  intro i hi
  obtain rfl : i = 0 := by have : i < 1 := hi; omega
  rfl
theorem boxW_0 (w : World) (v : Value) (j : Int) (bit : Bool) : (boxW w v j bit).cell? ⟨w.heap.size, 0, none⟩ = some v :=
  (((one_new w v 44).alloc _).alloc _).cell (i := 0) (by decide)
theorem boxW_1 (w : World) (v : Value) (j : Int) (bit : Bool) : (boxW w v j bit).cell? ⟨w.heap.size + 1, 0, none⟩ = some (.int .i64 j) := by
  have h := ((one_new (w.alloc (.cells #[v] 44)) (.int .i64 j) 3).alloc (.cells #[.bool bit] 4)).cell (i := 0) (by decide)
  rw [World.size_alloc] at h
  exact h
theorem boxW_2 (w : World) (v : Value) (j : Int) (bit : Bool) : (boxW w v j bit).cell? ⟨w.heap.size + 1 + 1, 0, none⟩ = some (.bool bit) := by
  have h := (one_new ((w.alloc (.cells #[v] 44)).alloc (.cells #[.int .i64 j] 3)) (.bool bit) 4).cell (i := 0) (by decide)
  rw [World.size_alloc, World.size_alloc] at h
  exact h
theorem rlenq_any (B : Nat) (v : Value) (xs : List Bool) (w : World) (hk : Kept B w v xs) :
    Calls Try.prog 59 #[v] w fun e w' => e = .returned (.int .i64 xs.length) ∧ ∃ n, w' = w.drewN n :=
  (rlen_any B v xs w hk).mono (by rintro e w' ⟨rfl, rfl⟩; exact ⟨rfl, 0, rfl⟩)
theorem kept_below {B : Nat} {w w' : World} {v : Value} {xs : List Bool} (h : Kept B w v xs) (hb : Below w.heap.size w w') : Kept B w' v xs := kept_keep B w w' v xs h fun k _ hk => hb.block k hk

set_option maxHeartbeats 2000000 in
set_option maxRecDepth 100000 in
theorem rsel_neg (B : Nat) (v : Value) (xs : List Bool) (j : Int) (bit : Bool) (w : World) (hk : Kept B w v xs) (h0 : j < 0) :
    Calls Try.prog 47 #[v, .int .i64 j, .bool bit] w fun e w' => e = .returned (.int .i64 (-1)) ∧ Below w.heap.size w w' := by
  obtain ⟨p, rfl⟩ := kept_ptr B w v xs hk
  have hb := boxW_below w (.pointer (some p)) j bit
  have hd : decide (j < 0) = true := decide_eq_true h0
  clear hk
  go_enter Try.func47, Try.ntmps47
  go_wp2
  go_quiet (fail)
  go_wp2
  go_ret
  exact ⟨rfl, drewN_below hb _⟩
set_option maxHeartbeats 2000000 in
set_option maxRecDepth 100000 in
theorem rsel_many (B : Nat) (v : Value) (xs : List Bool) (j : Nat) (bit : Bool) (w : World) (hk : Kept B w v xs) (hx : xs.length ≤ 4194304) (hj : rankN xs xs.length bit ≤ j) :
    Calls Try.prog 47 #[v, .int .i64 j, .bool bit] w fun e w' => e = .returned (.int .i64 (-1)) ∧ Below w.heap.size w w' := by
  have hb := boxW_below w v j bit
  have hk2 := kept_below hk hb
  have CL := Lib.hid fun m => rlenq_any B v xs ((boxW w v j bit).drewN m) (kept_drewN hk2 m)
  have CR := Lib.hid fun m => rrank_any B v xs xs.length bit ((boxW w v j bit).drewN m) (kept_drewN hk2 m) hx
  have hr : rankL xs xs.length bit = rankN xs xs.length bit := by unfold rankL; rw [Int.toNat_natCast]
  rw [hr] at CR
  clear hr
  generalize rankN xs xs.length bit = r at *
  obtain ⟨p, rfl⟩ := kept_ptr B w v xs hk
  have k0 := boxW_0 w (.pointer (some p)) j bit
  have k1 := boxW_1 w (.pointer (some p)) j bit
  have k2 := boxW_2 w (.pointer (some p)) j bit
  have hd : decide ((j : Int) < 0) = false := decide_eq_false (by omega)
  clear hk hk2
  go_enter Try.func47, Try.ntmps47
  go_wp2
  rw [show ((w.alloc (.cells #[.pointer (some p)] 44)).alloc (.cells #[.int .i64 (j : Int)] 3)).alloc (.cells #[.bool bit] 4) = boxW w (.pointer (some p)) j bit from rfl]
  generalize boxW w (.pointer (some p)) (j : Int) bit = W at *
  go_quiet (first | (go_at_call 59; exact Calls.quiet_of (CL.out _)) | (go_at_call 44; exact Calls.quiet_of (CR.out _)))
  go_wp2
  go_ret
  exact ⟨rfl, drewN_below hb _⟩
theorem not_u64 (u : Nat) (hu : u < 18446744073709551616) : bits .xor .u64 IntKind.u64.max (u : Int) = ((18446744073709551615 - u : Nat) : Int) := by
  have h := bits_xor_u64_nat 18446744073709551615 u (by omega) hu
  rw [show IntKind.u64.max = ((18446744073709551615 : Nat) : Int) from rfl, h]
  congr 1
  apply Nat.eq_of_testBit_eq
  intro i
  rw [Nat.testBit_xor, show 18446744073709551615 - u = 2 ^ 64 - (u + 1) by omega, Nat.testBit_two_pow_sub_succ hu, show (18446744073709551615 : Nat) = 2 ^ 64 - 1 from rfl, Nat.testBit_two_pow_sub_one]
  by_cases hi : i < 64
  · simp [hi]
  · have : u.testBit i = false := Nat.testBit_lt_two_pow (Nat.lt_of_lt_of_le hu (Nat.pow_le_pow_right (by decide) (by omega) : 2 ^ 64 ≤ 2 ^ i))
    simp [hi, this]
set_option maxHeartbeats 4000000 in
set_option maxRecDepth 100000 in
theorem rsel_in (B : Nat) (v : Value) (xs : List Bool) (j : Nat) (bit : Bool) (w : World) (hk : Kept B w v xs) (hx : xs.length ≤ 4194304) (hj : j < rankN xs xs.length bit) :
    Calls Try.prog 47 #[v, .int .i64 j, .bool bit] w fun e w' => e = .returned (.int .i64 (selL xs j bit)) ∧ Below w.heap.size w w' := by
  have hb := boxW_below w v j bit
  have hk2 := kept_below hk hb
  have CL := Lib.hid fun m => rlenq_any B v xs ((boxW w v j bit).drewN m) (kept_drewN hk2 m)
  have CR := Lib.hid fun m => rrank_any B v xs xs.length bit ((boxW w v j bit).drewN m) (kept_drewN hk2 m) hx
  have hr : rankL xs xs.length bit = rankN xs xs.length bit := by unfold rankL; rw [Int.toNat_natCast]
  rw [hr] at CR
  clear hr
  have hbx : Boxed B w.heap.size (w.heap.size + 1 + 1) (w.heap.size + 1) (boxW w v j bit) v xs j bit := ⟨hk2, boxW_0 w v j bit, boxW_2 w v j bit, boxW_1 w v j bit⟩
  have CF := Lib.hid fun m => find_any B w.heap.size (w.heap.size + 1 + 1) (w.heap.size + 1) v xs j bit ((boxW w v j bit).drewN m) (hbx.drewN m) hx
  have HK := Lib.hid fun m => kept_drewN hk2 m
  have k0 := hbx.b0
  have k1 := hbx.b1
  have k2 := hbx.b2
  obtain ⟨p, q, bw, bb, bi, rfl, _, _, _, _, _, r1, r2, _, _, _⟩ := hk2
  have c1 := r1.cell (i := 1) (by decide)
  have c2 := r2.cell (i := 0) (by decide)
  rw [if_neg (by decide)] at c1
  rw [if_pos rfl] at c2
  have a1 := as_words (.slice (some ⟨bw, 0, none⟩) (nWords xs) (nWords xs))
  have hn : nWords xs ≤ 65536 := by unfold nWords begunN; omega
  have HJ := Lib.hid hj
  have hrb : rankN xs xs.length bit ≤ 4194304 := Nat.le_trans (rankN_le xs _ bit) hx
  have hd : decide ((j : Int) < 0) = false := decide_eq_false (by omega)
  clear hk hbx r1 r2
  generalize hR : rankN xs xs.length bit = r at *
  have HR := Lib.hid hR
  clear hR
  go_enter Try.func47, Try.ntmps47
  go_wp2
  rw [show ((w.alloc (.cells #[.pointer (some ⟨p, 0, none⟩)] 44)).alloc (.cells #[.int .i64 (j : Int)] 3)).alloc (.cells #[.bool bit] 4) = boxW w (.pointer (some ⟨p, 0, none⟩)) j bit from rfl]
  generalize boxW w (.pointer (some ⟨p, 0, none⟩)) (j : Int) bit = W at *
  go_quiet (first | (go_at_call 59; exact Calls.quiet_of (CL.out _)) | (go_at_call 44; exact Calls.quiet_of (CR.out _)))
  go_wp2_with fail
  refine (CF.out _).mono ?_
  rintro e w' ⟨m, rfl, hmn, hm1, hm2, q2, rfl⟩
  have hb2 : Below w.heap.size w ((W.drewN nq).drewN q2) := drewN_below (drewN_below hb _) _
  have K2 := Lib.hid fun n => kept_drewN (kept_drewN (HK.out nq) q2) n
  have l0 : ((W.drewN nq).drewN q2).cell? ⟨w.heap.size, 0, none⟩ = some (.pointer (some ⟨p, 0, none⟩)) := k0
  have l1 : ((W.drewN nq).drewN q2).cell? ⟨w.heap.size + 1 + 1, 0, none⟩ = some (.bool bit) := k1
  have l2 : ((W.drewN nq).drewN q2).cell? ⟨w.heap.size + 1, 0, none⟩ = some (.int .i64 j) := k2
  clear k0 k1 k2 c1 c2 a1 CF CL CR HK hb
  generalize (W.drewN nq).drewN q2 = W2 at *
  have hm0 : m ≠ 0 := by
    intro e
    subst e
    have hr0 := HR.out
    have hl := rankN_le xs xs.length bit
    have hj0 := HJ.out
    rcases hm2 with h | h
    · have : nWords xs ≠ 0 := by unfold nWords begunN; omega
      omega
    · have : aheadB xs 0 bit = 0 := by
        have := aheadN_small xs 0
        cases bit
        · show 64 * 0 - _ = 0; omega
        · show aheadN xs 0 = 0; omega
      omega
  have h1 : aheadB xs (m - 1) bit ≤ j := by
    rcases hm1 with h | h
    · exact absurd h hm0
    · exact h
  have h2 : m - 1 < nWords xs := by omega
  have h3 : m - 1 + 1 = nWords xs ∨ j < aheadB xs (m - 1 + 1) bit := by rw [show m - 1 + 1 = m by omega]; exact hm2
  have h4 := word_holds xs (m - 1) j bit h2 (by rw [HR.out]; exact HJ.out) h3 h1
  obtain ⟨t, ht, h5, h6⟩ := place_ex _ _ _ h4
  have h7 := place_found xs (m - 1) t j bit h2 (by rw [HR.out]; exact HJ.out) h1 (by omega) h5 h6
  have CW := Lib.hid fun n => word_any B _ xs (m - 1) (W2.drewN n) (K2.out n) hx h2
  have CA := Lib.hid fun n => ahead_any B _ xs (m - 1) bit (W2.drewN n) (K2.out n) hx h2
  have CN := Lib.hid fun n => nth_at (wordB xs (m - 1) bit) (j - aheadB xs (m - 1) bit) t (W2.drewN n) (wordB_lt _ _ _) (by omega) h5 h6
  have HM : Hid ((m : Int) - 1 = ((m - 1 : Nat) : Int)) := Lib.hid (by omega)
  have H7 := Lib.hid h7
  clear h7 h4 h5 h6 hm1 hm2 h3
  go_wp2_with fail
  rw [HM.out]
  refine (CW.out 0).mono ?_
  rintro e w' ⟨rfl, rfl⟩
  have HB := Lib.hid (show wordB xs (m - 1) bit = if bit then wordOf xs (m - 1) else 18446744073709551615 - wordOf xs (m - 1) from rfl)
  have hul := wordOf_lt xs (m - 1)
  generalize wordOf xs (m - 1) = u at *
  generalize wordB xs (m - 1) bit = ub at *
  generalize aheadB xs (m - 1) bit = a at *
  generalize m - 1 = i at *
  obtain ⟨d, hd2⟩ : ∃ d, j - a = d := ⟨_, rfl⟩
  rw [hd2] at CN
  have htb : t ≤ 63 := by omega
  have hib : i ≤ 65536 := by omega
  have hjb : j ≤ 4194304 := by have := HJ.out; omega
  have s1 : IntKind.i64.wrap ((i : Int) * 64) = (i : Int) * 64 := IntWalk.i64_in _ (by omega)
  have s2 : IntKind.i64.wrap ((j : Int) - (a : Int)) = (d : Int) := by rw [IntWalk.i64_in _ (by clear s1; omega)]; clear s1; omega
  have s3 : IntKind.i64.wrap ((i : Int) * 64 + (t : Int)) = (i : Int) * 64 + (t : Int) := IntWalk.i64_in _ (by clear s1 s2; omega)
  have H7' : Hid (((64 * i + t : Nat) : Int) = (i : Int) * 64 + (t : Int)) := Lib.hid (by clear s1 s2 s3; omega)
  clear hd2 ht hjb
  cases bit
  · have e := HB.out
    rw [if_neg (by decide)] at e
    subst e
    go_wp2
    rw [not_u64 u hul]
    generalize 18446744073709551615 - u = ub at *
    go_quiet (first | (go_at_call 63; exact Calls.quiet_of (CA.out _)) | (go_at_call 65; exact Calls.quiet_of (CN.out _)))
    go_wp2
    go_ret
    exact ⟨by rw [H7.out, H7'.out]; rfl, drewN_below hb2 _⟩
  · have e := HB.out
    rw [if_pos rfl] at e
    subst e
    go_wp2
    go_quiet (first | (go_at_call 63; exact Calls.quiet_of (CA.out _)) | (go_at_call 65; exact Calls.quiet_of (CN.out _)))
    go_wp2
    go_ret
    exact ⟨by rw [H7.out, H7'.out]; rfl, drewN_below hb2 _⟩
theorem rsel_any (B : Nat) (v : Value) (xs : List Bool) (j : Int) (bit : Bool) (w : World) (hk : Kept B w v xs) (hx : xs.length ≤ 4194304) :
    Calls Try.prog 47 #[v, .int .i64 j, .bool bit] w fun e w' => e = .returned (.int .i64 (selL xs j bit)) ∧ Below w.heap.size w w' := by
  by_cases h0 : j < 0
  · rw [select_neg xs j bit h0]
    exact rsel_neg B v xs j bit w hk h0
  · obtain ⟨k, rfl⟩ := Int.eq_ofNat_of_zero_le (show 0 ≤ j by omega)
    by_cases h1 : k < rankN xs xs.length bit
    · exact rsel_in B v xs k bit w hk hx h1
    · rw [select_many xs k bit (by omega)]
      exact rsel_many B v xs k bit w hk hx (by omega)
end Go.Proofs.Yteecanaibkpmfaa
