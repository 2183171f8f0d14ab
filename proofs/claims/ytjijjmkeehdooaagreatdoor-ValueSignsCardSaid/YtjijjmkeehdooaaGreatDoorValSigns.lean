/-
  LAYER 13: brackenlaw13.ValueSigns, out of ValSaid and RefsSaid: true at any place, with that sign or not.
-/
import Derived.Test.YtjijjmkeehdooaaGreatDoorValTold
import Derived.Test.YtjijjmkeehdooaaGreatDoorBitNum
import Derived.IntWalk
import Derived.Deep.QuietTactic
namespace Go.Proofs.YtjijjmkeehdooaaGreatDoor
open Go.RowKit

def abcV : List UInt8 := [97, 98, 99, 100, 101, 102]
/-- the entity's text: with the sign at k, written so; what is read then -/
def sgnV (k : Nat) (sg rf : Bool) : List UInt8 := if sg = true then abcV.take k ++ (if rf = true then [38, 35, 54, 48, 59] else [60]) ++ abcV.drop k else abcV
def wantV (k : Nat) (sg : Bool) : List UInt8 := 120 :: (if sg = true then abcV.take k ++ [60] ++ abcV.drop k else abcV)
def entS (v : List UInt8) : List EntD := [⟨[101], v, false⟩]
def refS (v : List UInt8) (o : List (List UInt8)) : RefD := ⟨lookE (entS v), o, v.length⟩
theorem drewN_b13 (w : World) (k : Nat) : Below w.heap.size w (w.drewN k) := ⟨rfl, rfl, rfl, Nat.le_refl _, fun _ _ => rfl⟩
theorem sgn_short {v : List UInt8} (hv : v.length ≤ 100000) {k : Nat} (hn : (rawV 1 (ref0 (entS v)) [120, 38, 101, 59] 100 false).2.2.n = k) (hk : k ≤ 1000000) : ShortV 1 (ref0 (entS v)) [120, 38, 101, 59] 100 :=
  short_of (l := entS v) (o := []) (n := 0) (raw := [120, 38, 101, 59]) (most := 100) (by show 1 ≤ _; decide) (fun e he => by rw [List.mem_singleton.1 he]; exact hv) (by decide) hn hk
theorem sgn_ok (k : Nat) (hk : k < 6) (sg rf : Bool) (h : ¬ (sg = true ∧ rf = false)) : readV 1 (ref0 (entS (sgnV k sg rf))) [120, 38, 101, 59] 1 100 = (wantV k sg, 0, refS (sgnV k sg rf) []) := by
  rcases (show k = 0 ∨ k = 1 ∨ k = 2 ∨ k = 3 ∨ k = 4 ∨ k = 5 by omega) with rfl | rfl | rfl | rfl | rfl | rfl <;> cases sg <;> cases rf <;> first | (exact absurd ⟨rfl, rfl⟩ h) | kernel_rfl
theorem sgn_bad (k : Nat) (hk : k < 6) : readV 1 (ref0 (entS (sgnV k true false))) [120, 38, 101, 59] 1 100 = ([], 2, refS (sgnV k true false) [[101]]) := by
  rcases (show k = 0 ∨ k = 1 ∨ k = 2 ∨ k = 3 ∨ k = 4 ∨ k = 5 by omega) with rfl | rfl | rfl | rfl | rfl | rfl <;> kernel_rfl
theorem sgn_spent (k : Nat) (hk : k < 6) (sg rf : Bool) : (rawV 1 (ref0 (entS (sgnV k sg rf))) [120, 38, 101, 59] 100 false).2.2.n = (sgnV k sg rf).length := by
  rcases (show k = 0 ∨ k = 1 ∨ k = 2 ∨ k = 3 ∨ k = 4 ∨ k = 5 by omega) with rfl | rfl | rfl | rfl | rfl | rfl <;> cases sg <;> cases rf <;> kernel_rfl
theorem sgn_len (k : Nat) (hk : k < 6) (sg rf : Bool) : (sgnV k sg rf).length ≤ 11 := by
  rcases (show k = 0 ∨ k = 1 ∨ k = 2 ∨ k = 3 ∨ k = 4 ∨ k = 5 by omega) with rfl | rfl | rfl | rfl | rfl | rfl <;> cases sg <;> cases rf <;> decide
theorem cut_abc (k : Nat) (hk : k < 6) : (⟨#[97, 98, 99, 100, 101, 102]⟩ : ByteArray).extract 0 k = bytes (abcV.take k) ∧ (⟨#[97, 98, 99, 100, 101, 102]⟩ : ByteArray).extract k 6 = bytes (abcV.drop k) := by
  rcases (show k = 0 ∨ k = 1 ∨ k = 2 ∨ k = 3 ∨ k = 4 ∨ k = 5 by omega) with rfl | rfl | rfl | rfl | rfl | rfl <;> exact ⟨by kernel_rfl, by kernel_rfl⟩
/-- behind New -/
theorem sgn_at {E : Nat → World → Prop} {Is : (Nat → Prop) → World → Value → RefD → Prop} (S : ValSaid E Is) (n : Nat) (v : List UInt8) (tv : ByteArray) (hv : bytes v = tv) (hl : v.length ≤ 1000) (w w1 : World) (h : VAt E n w w1) :
    EntsAt (w1.alloc (.cells #[.string ⟨#[101]⟩, .string tv, .bool false] 26)).heap.size (w1.alloc (.cells #[.string ⟨#[101]⟩, .string tv, .bool false] 26)) (.slice (some ⟨w1.heap.size, 0, none⟩) 1 1) (entS v) ∧ VAt E n w (w1.alloc (.cells #[.string ⟨#[101]⟩, .string tv, .bool false] 26)) ∧ FewR (entS v) := by
  subst hv
  have hb := (Below.refl w1.heap.size w1).alloc (Nat.le_refl _) (.cells #[.string ⟨#[101]⟩, .string (bytes v), .bool false] 26)
  refine ⟨ents_made w1 _ _ (entS v) 1 1 rfl rfl, h.other S hb, by show 1 ≤ _; decide, fun e he => ?_⟩
  rw [List.mem_singleton.1 he]
  exact ⟨by show 1 ≤ _; decide, by show v.length ≤ _; omega⟩
set_option maxHeartbeats 8000000 in
set_option maxRecDepth 100000 in
theorem valsigns_any {E : Nat → World → Prop} {Is : (Nat → Prop) → World → Value → RefD → Prop} (R : RefsSaid Is) (S : ValSaid E Is) (n : Nat) (a0 : Int) (sg rf : Bool) (w : World) (hE : E n w) (hn : n ≤ w.heap.size) :
    Calls Tryz.prog 3 #[.int .i64 a0, .bool sg, .bool rf] w fun e w' => e = .returned (.bool true) ∧ Below w.heap.size w w' := by
  obtain ⟨u1, k, hk1, hk2, hk3, hk4, hk5⟩ := wrap_mod a0 6 (by decide) (by decide)
  replace hk2 : Int.tmod (u1 : Int) 6 = (k : Int) := hk2
  have HTOLD := Lib.hid (fun W (h : VAt E n w W) => told13_any R S n W h.e h.n_le)
  have H0 : Hid (∀ q, VAt E n w (w.drewN q)) := Lib.hid (fun q => ⟨S.stay n w _ hE ((drewN_b13 w q).mono hn), hn, drewN_b13 w q⟩)
  clear hE
  cases sg with
  | false =>
    have HSG := Lib.hid (fun W h => sgn_at S n (sgnV k false rf) ⟨#[97, 98, 99, 100, 101, 102]⟩ rfl (by show 6 ≤ _; decide) w W h)
    have HOK := Lib.hid (sgn_ok k hk3 false rf (fun h => by cases h.1))
    have HSH := Lib.hid (sgn_short (v := sgnV k false rf) (by show 6 ≤ _; decide) (sgn_spent k hk3 false rf) (by show 6 ≤ _; decide))
    go_enter Tryz.func3, Tryz.ntmps3
    go_wp2_with fail
    have HSG1 := Lib.hid (HSG.out _ (H0.out 0))
    rw [show w.drewN 0 = w from rfl] at HSG1
    obtain ⟨W1, hW1⟩ : ∃ W1, w.alloc (.cells #[.string ⟨#[101]⟩, .string ⟨#[97, 98, 99, 100, 101, 102]⟩, .bool false] 26) = W1 := ⟨_, rfl⟩
    rw [hW1] at HSG1 ⊢
    clear hW1
    refine (rnewAt R (entS (sgnV k false rf)) _ _ _ HSG1.out.2.2 HSG1.out.1).mono ?_
    rintro e w2 ⟨p, rfl, h⟩
    have HV := Lib.hid (HSG1.out.2.1.other S h.since)
    have HR := Lib.hid h
    clear h
    go_wp2_with fail
    refine (vreadAt S 1 [120, 38, 101, 59] 1 100 _ (⟨#[120]⟩ ++ ⟨#[97, 98, 99, 100, 101, 102]⟩) (by show bytes (wantV k false) = _; kernel_rfl) _ _ HOK.out HSH.out (fits13 _ (by decide) (by decide)) (fits13 _ (by decide) (by decide)) HV.out HR.out HSG1.out.2.1.since.size).mono ?_
    rintro e w3 ⟨rfl, hv, _, _⟩
    have HV3 := Lib.hid hv
    clear hv
    go_wp2_with fail
    refine (HTOLD.out _ HV3.out).mono ?_
    rintro e w4 ⟨rfl, hb⟩
    go_wp2
    go_ret
    exact ⟨rfl, HV3.out.since.trans (hb.mono HV3.out.since.size)⟩
  | true =>
    obtain ⟨hA, hB⟩ := cut_abc k hk3
    obtain ⟨A, hA2⟩ : ∃ A, bytes (abcV.take k) = A := ⟨_, rfl⟩
    obtain ⟨B, hB2⟩ : ∃ B, bytes (abcV.drop k) = B := ⟨_, rfl⟩
    have hAs : A.size ≤ 6 := by rw [← hA2, bytesL_len, List.length_take]; exact Nat.min_le_right _ _
    have hBs : B.size ≤ 6 := by rw [← hB2, bytesL_len, List.length_drop]; exact Nat.sub_le _ _
    rw [hA2] at hA
    rw [hB2] at hB
    have q1 : (k : Int) ≤ 6 := by omega
    have q0 : (0 : Int) ≤ (k : Int) := by omega
    have z1 : (9223372036854775807 < 1 + A.size) = False := eq_false (by omega)
    have z2 : (9223372036854775807 < 1 + A.size + 1) = False := eq_false (by omega)
    have z3 : (9223372036854775807 < 1 + A.size + 1 + B.size) = False := eq_false (by omega)
    have z4 : (9223372036854775807 < A.size + 1) = False := eq_false (by omega)
    have z5 : (9223372036854775807 < A.size + 1 + B.size) = False := eq_false (by omega)
    have z6 : (9223372036854775807 < A.size + 5) = False := eq_false (by omega)
    have z7 : (9223372036854775807 < A.size + 5 + B.size) = False := eq_false (by omega)
    cases rf with
    | false =>
      have hvv : bytes (sgnV k true false) = A ++ ⟨#[60]⟩ ++ B := by
        rw [← hA2, ← hB2]
        exact (ByteArray.ext (Array.ext' (by simp [sgnV, bytes])))
      have HSG := Lib.hid (fun W h => sgn_at S n (sgnV k true false) (A ++ ⟨#[60]⟩ ++ B) hvv (by have := sgn_len k hk3 true false; omega) w W h)
      have HOK := Lib.hid (sgn_bad k hk3)
      have HSH := Lib.hid (sgn_short (v := sgnV k true false) (by have := sgn_len k hk3 true false; omega) (sgn_spent k hk3 true false) (by have := sgn_len k hk3 true false; omega))
      clear hvv hA2 hB2
      go_enter Tryz.func3, Tryz.ntmps3
      go_wp2
      go_quiet (fail)
      have HV0 := Lib.hid (H0.out nq)
      obtain ⟨W0, hW0⟩ : ∃ W0, w.drewN nq = W0 := ⟨_, rfl⟩
      rw [hW0] at HV0 ⊢
      clear hW0
      go_wp2
      go_quiet (fail)
      have HV1 := Lib.hid (HV0.out.other S (drewN_b13 W0 nq))
      obtain ⟨W1, hW1⟩ : ∃ W1, W0.drewN nq = W1 := ⟨_, rfl⟩
      rw [hW1] at HV1 ⊢
      clear hW1
      have HSG1 := Lib.hid (HSG.out W1 HV1.out)
      go_wp2_with fail
      obtain ⟨W2, hW2⟩ : ∃ W2, W1.alloc (.cells #[.string ⟨#[101]⟩, .string (A ++ ⟨#[60]⟩ ++ B), .bool false] 26) = W2 := ⟨_, rfl⟩
      rw [hW2] at HSG1 ⊢
      clear hW2
      refine (rnewAt R (entS (sgnV k true false)) _ _ _ HSG1.out.2.2 HSG1.out.1).mono ?_
      rintro e w2 ⟨p, rfl, h⟩
      have HV := Lib.hid (HSG1.out.2.1.other S h.since)
      have HR := Lib.hid h
      clear h
      go_wp2_with fail
      refine (vreadAt S 1 [120, 38, 101, 59] 1 100 _ ⟨#[]⟩ rfl _ _ HOK.out HSH.out (fits13 _ (by decide) (by decide)) (fits13 _ (by decide) (by decide)) HV.out HR.out HSG1.out.2.1.since.size).mono ?_
      rintro e w3 ⟨rfl, hv, _, _⟩
      have HV3 := Lib.hid hv
      clear hv
      go_wp2_with fail
      refine (HTOLD.out _ HV3.out).mono ?_
      rintro e w4 ⟨rfl, hb⟩
      go_wp2
      go_ret
      exact ⟨rfl, HV3.out.since.trans (hb.mono HV3.out.since.size)⟩
    | true =>
      have hvv : bytes (sgnV k true true) = A ++ ⟨#[38, 35, 54, 48, 59]⟩ ++ B := by
        rw [← hA2, ← hB2]
        exact (ByteArray.ext (Array.ext' (by simp [sgnV, bytes])))
      have HWT : Hid (bytes (wantV k true) = ⟨#[120]⟩ ++ A ++ ⟨#[60]⟩ ++ B) := Lib.hid (by
        rw [← hA2, ← hB2]
        exact (ByteArray.ext (Array.ext' (by simp [wantV, bytes]))))
      have HSG := Lib.hid (fun W h => sgn_at S n (sgnV k true true) (A ++ ⟨#[38, 35, 54, 48, 59]⟩ ++ B) hvv (by have := sgn_len k hk3 true true; omega) w W h)
      have HOK := Lib.hid (sgn_ok k hk3 true true (fun h => by cases h.2))
      have HSH := Lib.hid (sgn_short (v := sgnV k true true) (by have := sgn_len k hk3 true true; omega) (sgn_spent k hk3 true true) (by have := sgn_len k hk3 true true; omega))
      clear hvv hA2 hB2
      go_enter Tryz.func3, Tryz.ntmps3
      go_wp2
      go_quiet (fail)
      have HV0 := Lib.hid (H0.out nq)
      obtain ⟨W0, hW0⟩ : ∃ W0, w.drewN nq = W0 := ⟨_, rfl⟩
      rw [hW0] at HV0 ⊢
      clear hW0
      go_wp2
      go_quiet (fail)
      have HV1 := Lib.hid (HV0.out.other S (drewN_b13 W0 nq))
      obtain ⟨W1, hW1⟩ : ∃ W1, W0.drewN nq = W1 := ⟨_, rfl⟩
      rw [hW1] at HV1 ⊢
      clear hW1
      have HSG1 := Lib.hid (HSG.out W1 HV1.out)
      go_wp2_with fail
      obtain ⟨W2, hW2⟩ : ∃ W2, W1.alloc (.cells #[.string ⟨#[101]⟩, .string (A ++ ⟨#[38, 35, 54, 48, 59]⟩ ++ B), .bool false] 26) = W2 := ⟨_, rfl⟩
      rw [hW2] at HSG1 ⊢
      clear hW2
      refine (rnewAt R (entS (sgnV k true true)) _ _ _ HSG1.out.2.2 HSG1.out.1).mono ?_
      rintro e w2 ⟨p, rfl, h⟩
      have HV := Lib.hid (HSG1.out.2.1.other S h.since)
      have HR := Lib.hid h
      clear h
      go_wp2_with fail
      refine (vreadAt S 1 [120, 38, 101, 59] 1 100 _ (⟨#[120]⟩ ++ A ++ ⟨#[60]⟩ ++ B) HWT.out _ _ HOK.out HSH.out (fits13 _ (by decide) (by decide)) (fits13 _ (by decide) (by decide)) HV.out HR.out HSG1.out.2.1.since.size).mono ?_
      rintro e w3 ⟨rfl, hv, _, _⟩
      have HV3 := Lib.hid hv
      clear hv
      go_wp2_with fail
      refine (HTOLD.out _ HV3.out).mono ?_
      rintro e w4 ⟨rfl, hb⟩
      go_wp2
      go_ret
      exact ⟨rfl, HV3.out.since.trans (hb.mono HV3.out.since.size)⟩
end Go.Proofs.YtjijjmkeehdooaaGreatDoor
