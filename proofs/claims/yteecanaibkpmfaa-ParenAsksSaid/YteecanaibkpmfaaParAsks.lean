/-
  LAYER 5: brackenlaw5.ParenAsks, out of ParSaid: true for any row, any place and number. (Written by gen_pasks.py.)
-/
import Derived.Test.YteecanaibkpmfaaParArg
import Derived.Test.YteecanaibkpmfaaParUpLaws
namespace Go.Proofs.Yteecanaibkpmfaa
open Go.RowKit

set_option maxHeartbeats 20000000 in
set_option maxRecDepth 100000 in
theorem pasks_any {E : Nat → World → Prop} {Is : Nat → Nat → World → Value → List Bool → Prop} (S : ParSaid E Is) (n : Nat) (l : Value) (k0 j0 : Int) (w : World) (hE : E n w) (hn : n ≤ w.heap.size) (hk0 : In64 k0) (hj0 : In64 j0) (hl : IntsArg w l) :
    Calls Try.prog 4 #[l, .int .i64 k0, .int .i64 j0] w fun e w' => e = .returned (.bool true) ∧ Below w.heap.size w w' := by
  have HE0 := Lib.hid hE
  have HN0 := Lib.hid hn
  have HL := Lib.hid hl
  clear hE hn hl
  go_enter Try.func4, Try.ntmps4
  go_wp2_with fail
  refine (parRow_any l 1000 w HL.out (by decide)).mono ?_
  rintro e w1 ⟨a, cap, xs, rfl, hm⟩
  have hlb : xs.length ≤ 4194304 := by have := hm.few; omega
  have hl2 : xs.length ≤ 4294967296 := by omega
  have hl3 : xs.length ≤ 2000 := hm.few
  have HB := Lib.hid hm.since
  have HM := Lib.hid hm.may
  have HR := Lib.hid hm.row
  have HMD := Lib.hid hm
  have HE := Lib.hid (S.stay n w w1 HE0.out (hm.since.mono HN0.out))
  have HN := Lib.hid (Nat.le_trans HN0.out hm.since.size)
  clear HL HE0 HN0 hm
  go_wp2_with fail
  refine (newAt S _ HE.out HN.out hlb HR.out HM.out).mono ?_
  rintro e wa ⟨p, T, rfl, h⟩
  have H := Lib.hid h
  clear h
  go_wp2_with fail
  refine (lenAt S xs.length rfl H.out).mono ?_
  rintro e wb ⟨rfl, h⟩
  replace H := Lib.hid h
  clear h
  go_wp2
  go_loopw [1, 2, 10] (fun kv jv tv wr => ∃ (k j : Int) (t : Nat), kv = .int .i64 k ∧ jv = .int .i64 j ∧ tv = .int .i64 t ∧ In64 k ∧ In64 j ∧ t ≤ 2 ∧ At E Is n w1.heap.size T w1 (.pointer (some p)) xs wr) (fun _ _ tv _ => 2 - (intOf tv).toNat)
  case atStart => exact ⟨k0, j0, 0, rfl, rfl, rfl, hk0, hj0, by omega, H.out⟩
  case round =>
    obtain ⟨k, j, t, rfl, rfl, rfl, hk, hj, ht, hA⟩ := hrel
    replace H := Lib.hid hA
    have HK := Lib.hid hk
    have HJ := Lib.hid hj
    obtain ⟨hk1, hk2⟩ := hk
    obtain ⟨hj1, hj2⟩ := hj
    clear hA hk0 hj0
    by_cases ht2 : t < 2
    · have t1 : decide (t < 2) = true := decide_eq_true ht2
      have t2 : decide ((t : Int) < 2) = true := decide_eq_true (by omega)
      obtain ⟨u, x, hu1, hu2, hu3, hx, hx1, hx2⟩ := wrap_mod2 k (xs.length + 1) (by omega) (by omega)
      rw [Int.natCast_add] at hu2 hu3
      replace hu2 : IntKind.u64.wrap ((xs.length : Int) + 1) = (xs.length : Int) + 1 := hu2
      replace hu3 : Int.tmod (u : Int) ((xs.length : Int) + 1) = (x : Int) := hu3
      obtain ⟨u', y, hv1, hv2, hy, hy1, hy2⟩ := wrap_mod j 20 (by decide) (by decide)
      replace hv2 : Int.tmod (u' : Int) 20 = (y : Int) := hv2
      have HG : Hid (In64 (x : Int) ∧ In64 (y : Int)) := Lib.hid ⟨⟨by clear hu2 hu3 hv2 hu1 hv1 hx1 hx2 hy1 hy2; omega, by clear hu2 hu3 hv2 hu1 hv1 hx1 hx2 hy1 hy2; omega⟩, ⟨by clear hu2 hu3 hv2 hu1 hv1 hx1 hx2 hy1 hy2; omega, by clear hu2 hu3 hv2 hu1 hv1 hx1 hx2 hy1 hy2; omega⟩⟩
      have HT : Hid (t + 1 ≤ 2) := Lib.hid (by clear hu2 hu3 hv2 hu1 hv1 hx1 hx2 hy1 hy2; omega)
      have HFAR := Lib.hid fun h => up_far HM.out hl3 k j h
      obtain ⟨ex, rex⟩ : ∃ x, Hid (excL xs k = x) := ⟨_, Lib.hid rfl⟩
      obtain ⟨cl, rcl⟩ : ∃ x, Hid (closeL xs k = x) := ⟨_, Lib.hid rfl⟩
      obtain ⟨be, rbe⟩ : ∃ x, Hid (beginL xs k = x) := ⟨_, Lib.hid rfl⟩
      obtain ⟨en, ren⟩ : ∃ x, Hid (encloseL xs k = x) := ⟨_, Lib.hid rfl⟩
      obtain ⟨up, rup⟩ : ∃ x, Hid (upL xs k j = x) := ⟨_, Lib.hid rfl⟩
      obtain ⟨pl, rpl⟩ : ∃ x, Hid (selL xs k true = x) := ⟨_, Lib.hid rfl⟩
      obtain ⟨nu, rnu⟩ : ∃ x, Hid (numberL xs k = x) := ⟨_, Lib.hid rfl⟩
      obtain ⟨sp, rsp⟩ : ∃ x, Hid (spanL xs k = x) := ⟨_, Lib.hid rfl⟩
      by_cases hin : 0 ≤ k ∧ k < xs.length
      · obtain ⟨m, rfl⟩ := Int.eq_ofNat_of_zero_le hin.1
        have hml : m < xs.length := by clear hu2 hu3 hv2 hu1 hv1 hx1 hx2 hy1 hy2; omega
        obtain ⟨g, rfl, hg, hcell⟩ := HMD.out.cell m hml
        obtain ⟨b, hb⟩ : ∃ b, xs.getD m false = b := ⟨_, rfl⟩
        have HC : Hid (w1.cell? ⟨g, m, none⟩ = some (.bool b)) := Lib.hid (by rw [← hb]; exact hcell m hml)
        have rop : Hid (openB xs (m : Int) = b) := Lib.hid (openB_nat xs m b hml hb).1
        have i1 : decide (m < xs.length) = true := decide_eq_true hml
        clear hcell hb hin
        go_wp2_with fail
        refine (openAt S (m : Int) b rop.out HK.out H.out).mono ?_
        rintro e wz ⟨rfl, h⟩
        replace H := Lib.hid h
        clear h
        have hcell : wz.cell? ⟨g, m, none⟩ = some (.bool b) := by rw [H.out.since.cell (p := ⟨g, m, none⟩) hg]; exact HC.out
        go_wp2_with fail
        try simp only [List.append_eq, List.cons_append, List.nil_append] at *
        refine (excessAt S (m : Int) ex rex.out HK.out H.out).mono ?_
        rintro e wz ⟨rfl, h⟩
        replace H := Lib.hid h
        clear h
        go_wp2_with fail
        refine (refExcess_any _ _ xs (m : Int) _ hl2 (HR.out.below H.out.since).1).mono ?_
        rw [rex.out]
        rintro e wz ⟨rfl, rfl⟩
        go_wp2_with fail
        refine (closeAt S (m : Int) cl rcl.out HK.out H.out).mono ?_
        rintro e wz ⟨rfl, h⟩
        replace H := Lib.hid h
        clear h
        go_wp2_with fail
        refine (refClose_any _ _ xs (m : Int) _ hl2 (HR.out.below H.out.since).1).mono ?_
        rw [rcl.out]
        rintro e wz ⟨rfl, rfl⟩
        go_wp2_with fail
        refine (psteps_any S H.out).mono ?_
        rintro e wz ⟨rfl, h⟩
        replace H := Lib.hid h
        clear h
        go_wp2_with fail
        refine (beginAt S (m : Int) be rbe.out HK.out H.out).mono ?_
        rintro e wz ⟨rfl, h⟩
        replace H := Lib.hid h
        clear h
        go_wp2_with fail
        refine (refBegin_any _ _ xs (m : Int) _ hl2 (HR.out.below H.out.since).1).mono ?_
        rw [rbe.out]
        rintro e wz ⟨rfl, rfl⟩
        go_wp2_with fail
        refine (psteps_any S H.out).mono ?_
        rintro e wz ⟨rfl, h⟩
        replace H := Lib.hid h
        clear h
        go_wp2_with fail
        refine (encloseAt S (m : Int) en ren.out HK.out H.out).mono ?_
        rintro e wz ⟨rfl, h⟩
        replace H := Lib.hid h
        clear h
        go_wp2_with fail
        refine (refEnclose_any _ _ xs (m : Int) _ hl2 (HR.out.below H.out.since).1).mono ?_
        rw [ren.out]
        rintro e wz ⟨rfl, rfl⟩
        go_wp2_with fail
        refine (psteps_any S H.out).mono ?_
        rintro e wz ⟨rfl, h⟩
        replace H := Lib.hid h
        clear h
        go_wp2_with fail
        refine (upAt S (m : Int) j up rup.out HK.out HJ.out H.out).mono ?_
        rintro e wz ⟨rfl, h⟩
        replace H := Lib.hid h
        clear h
        by_cases hj3 : 3000 < j
        · go_wp2_with fail
          refine (refUp_any _ _ xs (m : Int) 3000 _ hl2 (by decide) (HR.out.below H.out.since).1).mono ?_
          rw [(HFAR.out hj3).symm.trans rup.out]
          rintro e wz ⟨rfl, rfl⟩
          go_wp2_with fail
          refine (psteps_any S H.out).mono ?_
          rintro e wz ⟨rfl, h⟩
          replace H := Lib.hid h
          clear h
          go_wp2_with fail
          refine (placeAt S (m : Int) pl rpl.out HK.out H.out).mono ?_
          rintro e wz ⟨rfl, h⟩
          replace H := Lib.hid h
          clear h
          go_wp2_with fail
          refine (refSelect_any _ _ xs (m : Int) true _ hl2 (HR.out.below H.out.since).1).mono ?_
          rw [rpl.out]
          rintro e wz ⟨rfl, rfl⟩
          go_wp2_with fail
          refine (numberAt S (m : Int) nu rnu.out HK.out H.out).mono ?_
          rintro e wz ⟨rfl, h⟩
          replace H := Lib.hid h
          clear h
          go_wp2_with fail
          refine (refNumber_any _ _ xs (m : Int) _ hl2 (HR.out.below H.out.since).1).mono ?_
          rw [rnu.out]
          rintro e wz ⟨rfl, rfl⟩
          go_wp2_with fail
          refine (spanAt S (m : Int) sp rsp.out HK.out H.out).mono ?_
          rintro e wz ⟨rfl, h⟩
          replace H := Lib.hid h
          clear h
          go_wp2_with fail
          refine (refSpan_any _ _ xs (m : Int) _ hl2 (HR.out.below H.out.since).1).mono ?_
          rw [rsp.out]
          rintro e wz ⟨rfl, rfl⟩
          go_wp2
          go_roundw
          case rel => exact ⟨x, y, t + 1, rfl, rfl, by go_num, HG.out.1, HG.out.2, HT.out, H.out⟩
          case measure => clear hu2 hu3 hv2 hu1 hv1 hx1 hx2 hy1 hy2; simp [intOf]; omega
        · go_wp2_with fail
          refine (refUp_any _ _ xs (m : Int) j _ hl2 hj2 (HR.out.below H.out.since).1).mono ?_
          rw [rup.out]
          rintro e wz ⟨rfl, rfl⟩
          go_wp2_with fail
          refine (psteps_any S H.out).mono ?_
          rintro e wz ⟨rfl, h⟩
          replace H := Lib.hid h
          clear h
          go_wp2_with fail
          refine (placeAt S (m : Int) pl rpl.out HK.out H.out).mono ?_
          rintro e wz ⟨rfl, h⟩
          replace H := Lib.hid h
          clear h
          go_wp2_with fail
          refine (refSelect_any _ _ xs (m : Int) true _ hl2 (HR.out.below H.out.since).1).mono ?_
          rw [rpl.out]
          rintro e wz ⟨rfl, rfl⟩
          go_wp2_with fail
          refine (numberAt S (m : Int) nu rnu.out HK.out H.out).mono ?_
          rintro e wz ⟨rfl, h⟩
          replace H := Lib.hid h
          clear h
          go_wp2_with fail
          refine (refNumber_any _ _ xs (m : Int) _ hl2 (HR.out.below H.out.since).1).mono ?_
          rw [rnu.out]
          rintro e wz ⟨rfl, rfl⟩
          go_wp2_with fail
          refine (spanAt S (m : Int) sp rsp.out HK.out H.out).mono ?_
          rintro e wz ⟨rfl, h⟩
          replace H := Lib.hid h
          clear h
          go_wp2_with fail
          refine (refSpan_any _ _ xs (m : Int) _ hl2 (HR.out.below H.out.since).1).mono ?_
          rw [rsp.out]
          rintro e wz ⟨rfl, rfl⟩
          go_wp2
          go_roundw
          case rel => exact ⟨x, y, t + 1, rfl, rfl, by go_num, HG.out.1, HG.out.2, HT.out, H.out⟩
          case measure => clear hu2 hu3 hv2 hu1 hv1 hx1 hx2 hy1 hy2; simp [intOf]; omega
      · have rop : Hid (openB xs k = false) := Lib.hid (none_nat hin).1
        by_cases hk0 : 0 ≤ k
        · have i1 : decide (0 ≤ k) = true := decide_eq_true hk0
          have i2 : decide (k < (xs.length : Int)) = false := decide_eq_false (fun h => hin ⟨hk0, h⟩)
          clear hin
          go_wp2_with fail
          refine (openAt S k false rop.out HK.out H.out).mono ?_
          rintro e wz ⟨rfl, h⟩
          replace H := Lib.hid h
          clear h
          go_wp2_with fail
          try simp only [List.append_eq, List.cons_append, List.nil_append] at *
          refine (excessAt S k ex rex.out HK.out H.out).mono ?_
          rintro e wz ⟨rfl, h⟩
          replace H := Lib.hid h
          clear h
          go_wp2_with fail
          refine (refExcess_any _ _ xs k _ hl2 (HR.out.below H.out.since).1).mono ?_
          rw [rex.out]
          rintro e wz ⟨rfl, rfl⟩
          go_wp2_with fail
          refine (closeAt S k cl rcl.out HK.out H.out).mono ?_
          rintro e wz ⟨rfl, h⟩
          replace H := Lib.hid h
          clear h
          go_wp2_with fail
          refine (refClose_any _ _ xs k _ hl2 (HR.out.below H.out.since).1).mono ?_
          rw [rcl.out]
          rintro e wz ⟨rfl, rfl⟩
          go_wp2_with fail
          refine (psteps_any S H.out).mono ?_
          rintro e wz ⟨rfl, h⟩
          replace H := Lib.hid h
          clear h
          go_wp2_with fail
          refine (beginAt S k be rbe.out HK.out H.out).mono ?_
          rintro e wz ⟨rfl, h⟩
          replace H := Lib.hid h
          clear h
          go_wp2_with fail
          refine (refBegin_any _ _ xs k _ hl2 (HR.out.below H.out.since).1).mono ?_
          rw [rbe.out]
          rintro e wz ⟨rfl, rfl⟩
          go_wp2_with fail
          refine (psteps_any S H.out).mono ?_
          rintro e wz ⟨rfl, h⟩
          replace H := Lib.hid h
          clear h
          go_wp2_with fail
          refine (encloseAt S k en ren.out HK.out H.out).mono ?_
          rintro e wz ⟨rfl, h⟩
          replace H := Lib.hid h
          clear h
          go_wp2_with fail
          refine (refEnclose_any _ _ xs k _ hl2 (HR.out.below H.out.since).1).mono ?_
          rw [ren.out]
          rintro e wz ⟨rfl, rfl⟩
          go_wp2_with fail
          refine (psteps_any S H.out).mono ?_
          rintro e wz ⟨rfl, h⟩
          replace H := Lib.hid h
          clear h
          go_wp2_with fail
          refine (upAt S k j up rup.out HK.out HJ.out H.out).mono ?_
          rintro e wz ⟨rfl, h⟩
          replace H := Lib.hid h
          clear h
          by_cases hj3 : 3000 < j
          · go_wp2_with fail
            refine (refUp_any _ _ xs k 3000 _ hl2 (by decide) (HR.out.below H.out.since).1).mono ?_
            rw [(HFAR.out hj3).symm.trans rup.out]
            rintro e wz ⟨rfl, rfl⟩
            go_wp2_with fail
            refine (psteps_any S H.out).mono ?_
            rintro e wz ⟨rfl, h⟩
            replace H := Lib.hid h
            clear h
            go_wp2_with fail
            refine (placeAt S k pl rpl.out HK.out H.out).mono ?_
            rintro e wz ⟨rfl, h⟩
            replace H := Lib.hid h
            clear h
            go_wp2_with fail
            refine (refSelect_any _ _ xs k true _ hl2 (HR.out.below H.out.since).1).mono ?_
            rw [rpl.out]
            rintro e wz ⟨rfl, rfl⟩
            go_wp2_with fail
            refine (numberAt S k nu rnu.out HK.out H.out).mono ?_
            rintro e wz ⟨rfl, h⟩
            replace H := Lib.hid h
            clear h
            go_wp2_with fail
            refine (refNumber_any _ _ xs k _ hl2 (HR.out.below H.out.since).1).mono ?_
            rw [rnu.out]
            rintro e wz ⟨rfl, rfl⟩
            go_wp2_with fail
            refine (spanAt S k sp rsp.out HK.out H.out).mono ?_
            rintro e wz ⟨rfl, h⟩
            replace H := Lib.hid h
            clear h
            go_wp2_with fail
            refine (refSpan_any _ _ xs k _ hl2 (HR.out.below H.out.since).1).mono ?_
            rw [rsp.out]
            rintro e wz ⟨rfl, rfl⟩
            go_wp2
            go_roundw
            case rel => exact ⟨x, y, t + 1, rfl, rfl, by go_num, HG.out.1, HG.out.2, HT.out, H.out⟩
            case measure => clear hu2 hu3 hv2 hu1 hv1 hx1 hx2 hy1 hy2; simp [intOf]; omega
          · go_wp2_with fail
            refine (refUp_any _ _ xs k j _ hl2 hj2 (HR.out.below H.out.since).1).mono ?_
            rw [rup.out]
            rintro e wz ⟨rfl, rfl⟩
            go_wp2_with fail
            refine (psteps_any S H.out).mono ?_
            rintro e wz ⟨rfl, h⟩
            replace H := Lib.hid h
            clear h
            go_wp2_with fail
            refine (placeAt S k pl rpl.out HK.out H.out).mono ?_
            rintro e wz ⟨rfl, h⟩
            replace H := Lib.hid h
            clear h
            go_wp2_with fail
            refine (refSelect_any _ _ xs k true _ hl2 (HR.out.below H.out.since).1).mono ?_
            rw [rpl.out]
            rintro e wz ⟨rfl, rfl⟩
            go_wp2_with fail
            refine (numberAt S k nu rnu.out HK.out H.out).mono ?_
            rintro e wz ⟨rfl, h⟩
            replace H := Lib.hid h
            clear h
            go_wp2_with fail
            refine (refNumber_any _ _ xs k _ hl2 (HR.out.below H.out.since).1).mono ?_
            rw [rnu.out]
            rintro e wz ⟨rfl, rfl⟩
            go_wp2_with fail
            refine (spanAt S k sp rsp.out HK.out H.out).mono ?_
            rintro e wz ⟨rfl, h⟩
            replace H := Lib.hid h
            clear h
            go_wp2_with fail
            refine (refSpan_any _ _ xs k _ hl2 (HR.out.below H.out.since).1).mono ?_
            rw [rsp.out]
            rintro e wz ⟨rfl, rfl⟩
            go_wp2
            go_roundw
            case rel => exact ⟨x, y, t + 1, rfl, rfl, by go_num, HG.out.1, HG.out.2, HT.out, H.out⟩
            case measure => clear hu2 hu3 hv2 hu1 hv1 hx1 hx2 hy1 hy2; simp [intOf]; omega
        · have i1 : decide (0 ≤ k) = false := decide_eq_false hk0
          clear hin
          go_wp2_with fail
          refine (openAt S k false rop.out HK.out H.out).mono ?_
          rintro e wz ⟨rfl, h⟩
          replace H := Lib.hid h
          clear h
          go_wp2_with fail
          try simp only [List.append_eq, List.cons_append, List.nil_append] at *
          refine (excessAt S k ex rex.out HK.out H.out).mono ?_
          rintro e wz ⟨rfl, h⟩
          replace H := Lib.hid h
          clear h
          go_wp2_with fail
          refine (refExcess_any _ _ xs k _ hl2 (HR.out.below H.out.since).1).mono ?_
          rw [rex.out]
          rintro e wz ⟨rfl, rfl⟩
          go_wp2_with fail
          refine (closeAt S k cl rcl.out HK.out H.out).mono ?_
          rintro e wz ⟨rfl, h⟩
          replace H := Lib.hid h
          clear h
          go_wp2_with fail
          refine (refClose_any _ _ xs k _ hl2 (HR.out.below H.out.since).1).mono ?_
          rw [rcl.out]
          rintro e wz ⟨rfl, rfl⟩
          go_wp2_with fail
          refine (psteps_any S H.out).mono ?_
          rintro e wz ⟨rfl, h⟩
          replace H := Lib.hid h
          clear h
          go_wp2_with fail
          refine (beginAt S k be rbe.out HK.out H.out).mono ?_
          rintro e wz ⟨rfl, h⟩
          replace H := Lib.hid h
          clear h
          go_wp2_with fail
          refine (refBegin_any _ _ xs k _ hl2 (HR.out.below H.out.since).1).mono ?_
          rw [rbe.out]
          rintro e wz ⟨rfl, rfl⟩
          go_wp2_with fail
          refine (psteps_any S H.out).mono ?_
          rintro e wz ⟨rfl, h⟩
          replace H := Lib.hid h
          clear h
          go_wp2_with fail
          refine (encloseAt S k en ren.out HK.out H.out).mono ?_
          rintro e wz ⟨rfl, h⟩
          replace H := Lib.hid h
          clear h
          go_wp2_with fail
          refine (refEnclose_any _ _ xs k _ hl2 (HR.out.below H.out.since).1).mono ?_
          rw [ren.out]
          rintro e wz ⟨rfl, rfl⟩
          go_wp2_with fail
          refine (psteps_any S H.out).mono ?_
          rintro e wz ⟨rfl, h⟩
          replace H := Lib.hid h
          clear h
          go_wp2_with fail
          refine (upAt S k j up rup.out HK.out HJ.out H.out).mono ?_
          rintro e wz ⟨rfl, h⟩
          replace H := Lib.hid h
          clear h
          by_cases hj3 : 3000 < j
          · go_wp2_with fail
            refine (refUp_any _ _ xs k 3000 _ hl2 (by decide) (HR.out.below H.out.since).1).mono ?_
            rw [(HFAR.out hj3).symm.trans rup.out]
            rintro e wz ⟨rfl, rfl⟩
            go_wp2_with fail
            refine (psteps_any S H.out).mono ?_
            rintro e wz ⟨rfl, h⟩
            replace H := Lib.hid h
            clear h
            go_wp2_with fail
            refine (placeAt S k pl rpl.out HK.out H.out).mono ?_
            rintro e wz ⟨rfl, h⟩
            replace H := Lib.hid h
            clear h
            go_wp2_with fail
            refine (refSelect_any _ _ xs k true _ hl2 (HR.out.below H.out.since).1).mono ?_
            rw [rpl.out]
            rintro e wz ⟨rfl, rfl⟩
            go_wp2_with fail
            refine (numberAt S k nu rnu.out HK.out H.out).mono ?_
            rintro e wz ⟨rfl, h⟩
            replace H := Lib.hid h
            clear h
            go_wp2_with fail
            refine (refNumber_any _ _ xs k _ hl2 (HR.out.below H.out.since).1).mono ?_
            rw [rnu.out]
            rintro e wz ⟨rfl, rfl⟩
            go_wp2_with fail
            refine (spanAt S k sp rsp.out HK.out H.out).mono ?_
            rintro e wz ⟨rfl, h⟩
            replace H := Lib.hid h
            clear h
            go_wp2_with fail
            refine (refSpan_any _ _ xs k _ hl2 (HR.out.below H.out.since).1).mono ?_
            rw [rsp.out]
            rintro e wz ⟨rfl, rfl⟩
            go_wp2
            go_roundw
            case rel => exact ⟨x, y, t + 1, rfl, rfl, by go_num, HG.out.1, HG.out.2, HT.out, H.out⟩
            case measure => clear hu2 hu3 hv2 hu1 hv1 hx1 hx2 hy1 hy2; simp [intOf]; omega
          · go_wp2_with fail
            refine (refUp_any _ _ xs k j _ hl2 hj2 (HR.out.below H.out.since).1).mono ?_
            rw [rup.out]
            rintro e wz ⟨rfl, rfl⟩
            go_wp2_with fail
            refine (psteps_any S H.out).mono ?_
            rintro e wz ⟨rfl, h⟩
            replace H := Lib.hid h
            clear h
            go_wp2_with fail
            refine (placeAt S k pl rpl.out HK.out H.out).mono ?_
            rintro e wz ⟨rfl, h⟩
            replace H := Lib.hid h
            clear h
            go_wp2_with fail
            refine (refSelect_any _ _ xs k true _ hl2 (HR.out.below H.out.since).1).mono ?_
            rw [rpl.out]
            rintro e wz ⟨rfl, rfl⟩
            go_wp2_with fail
            refine (numberAt S k nu rnu.out HK.out H.out).mono ?_
            rintro e wz ⟨rfl, h⟩
            replace H := Lib.hid h
            clear h
            go_wp2_with fail
            refine (refNumber_any _ _ xs k _ hl2 (HR.out.below H.out.since).1).mono ?_
            rw [rnu.out]
            rintro e wz ⟨rfl, rfl⟩
            go_wp2_with fail
            refine (spanAt S k sp rsp.out HK.out H.out).mono ?_
            rintro e wz ⟨rfl, h⟩
            replace H := Lib.hid h
            clear h
            go_wp2_with fail
            refine (refSpan_any _ _ xs k _ hl2 (HR.out.below H.out.since).1).mono ?_
            rw [rsp.out]
            rintro e wz ⟨rfl, rfl⟩
            go_wp2
            go_roundw
            case rel => exact ⟨x, y, t + 1, rfl, rfl, by go_num, HG.out.1, HG.out.2, HT.out, H.out⟩
            case measure => clear hu2 hu3 hv2 hu1 hv1 hx1 hx2 hy1 hy2; simp [intOf]; omega
    · have t1 : decide (t < 2) = false := decide_eq_false ht2
      have t2 : decide ((t : Int) < 2) = false := decide_eq_false (by omega)
      go_wp2_with fail
      refine (told5_any S n _ (H.out.e S) (Nat.le_trans H.out.nb H.out.size)).mono ?_
      rintro e wz ⟨rfl, hb'⟩
      replace H := Lib.hid (H.out.other S hb')
      clear hb'
      go_wp2
      go_ret
      exact ⟨rfl, H.out.low HB.out (Nat.le_refl _)⟩
end Go.Proofs.Yteecanaibkpmfaa
