/-
  LAYER 6: brackenlaw6.WaveAsks, out of WavSaid: true for any symbols, any sigma, any numbers. (Written by gen_wasks.py.)
-/
import Derived.Test.YtnjlckgmoodkiaaWavArg
import Derived.Deep.QuietTactic
import Derived.BigQuiet
namespace Go.Proofs.Ytnjlckgmoodkiaa
open Go.RowKit

set_option maxHeartbeats 20000000 in
set_option maxRecDepth 100000 in
theorem wasks_any {E : Nat → World → Prop} {Is : Nat → Nat → World → Value → List Int → Int → Prop} (S : WavSaid E Is) (n : Nat) (l : Value) (sg k0 s0 lo0 hi : Int) (w : World) (hE : E n w) (hn : n ≤ w.heap.size) (hk0 : In64 k0) (hs0 : In64 s0) (hlo0 : In64 lo0) (hhi : In64 hi) (hl : SymArg w l) :
    Calls Try.prog 3 #[l, .int .i64 sg, .int .i64 k0, .int .i64 s0, .int .i64 lo0, .int .i64 hi] w fun e w' => e = .returned (.bool true) ∧ Below w.heap.size w w' := by
  have HE0 := Lib.hid hE
  have HN0 := Lib.hid hn
  have HL := Lib.hid hl
  have HHI := Lib.hid hhi
  obtain ⟨u0, x0, hu1, hu2, hu3, hx1, hx2⟩ := wrap_mod sg 300 (by decide) (by decide)
  replace hu2 : Int.tmod (u0 : Int) 300 = (x0 : Int) := hu2
  obtain ⟨sig, hsig⟩ : ∃ sig : Nat, 1 + x0 = sig := ⟨_, rfl⟩
  have e0 : (1 : Int) + (x0 : Int) = (sig : Int) := by rw [← hsig]; omega
  have hs1 : 1 ≤ sig := by omega
  have hs300 : sig ≤ 300 := by omega
  clear hE hn hl hsig hu3 hhi
  go_enter Try.func3, Try.ntmps3
  go_wp2_with fail
  try rw [e0]
  refine (wavRow_any l sig 400 w HL.out hs1 (by omega) (by decide)).mono ?_
  rintro e w1 ⟨a, cap, xs, rfl, hm⟩
  have hlb : xs.length ≤ 1048576 := by have := hm.few; omega
  have hl2 : xs.length ≤ 4294967296 := by omega
  have hl3 : xs.length ≤ 400 := hm.few
  have HB := Lib.hid hm.since
  have HM := Lib.hid (hm.may hs1 (by omega))
  have HR := Lib.hid hm.row
  have HMD := Lib.hid hm
  have HE := Lib.hid (S.stay n w w1 HE0.out (hm.since.mono HN0.out))
  have HN := Lib.hid (Nat.le_trans HN0.out hm.since.size)
  have HSG : Hid (1 ≤ sig ∧ sig ≤ 1048576) := Lib.hid ⟨hs1, by omega⟩
  clear HL HE0 HN0 hm hu1 hu2 hx1 hx2
  go_wp2_with fail
  refine (newAt S _ HE.out HN.out hlb HR.out HM.out).mono ?_
  rintro e wa ⟨p, T, rfl, h⟩
  have H := Lib.hid h
  clear h
  obtain ⟨sz, hsz⟩ : ∃ sz, waveN xs.length sig = sz := ⟨_, rfl⟩
  have HSZ := Lib.hid hsz
  clear hsz
  go_wp2_with fail
  refine (lenAt S xs.length rfl H.out).mono ?_
  rintro e wz ⟨rfl, h⟩
  replace H := Lib.hid h
  clear h
  go_wp2_with fail
  refine (sizeAt S sz HSZ.out H.out).mono ?_
  rintro e wz ⟨rfl, h⟩
  replace H := Lib.hid h
  clear h
  go_wp2_with fail
  refine (refWaveSize_any xs.length sig _ hlb HSG.out.1 HSG.out.2).mono ?_
  rw [HSZ.out]
  rintro e wz ⟨rfl, rfl⟩
  go_wp2
  go_loopw [2, 3, 4, 17] (fun kv sv lv tv wr => ∃ (k s lo : Int) (t : Nat), kv = .int .i64 k ∧ sv = .int .i64 s ∧ lv = .int .i64 lo ∧ tv = .int .i64 t ∧ In64 k ∧ In64 s ∧ In64 lo ∧ t ≤ 2 ∧ At E Is n w1.heap.size T w1 (.pointer (some p)) xs sig wr) (fun _ _ _ tv _ => 2 - (intOf tv).toNat)
  case atStart => exact ⟨k0, s0, lo0, 0, rfl, rfl, rfl, rfl, hk0, hs0, hlo0, by omega, H.out⟩
  case round =>
    obtain ⟨k, s, lo, t, rfl, rfl, rfl, rfl, hk, hs, hlo, ht, hA⟩ := hrel
    replace H := Lib.hid hA
    have HK := Lib.hid hk
    have HS := Lib.hid hs
    have HLO := Lib.hid hlo
    clear hA hk0 hs0 hlo0 hs hlo
    by_cases ht2 : t < 2
    · have t1 : decide (t < 2) = true := decide_eq_true ht2
      have t2 : decide ((t : Int) < 2) = true := decide_eq_true (by omega)
      obtain ⟨v1, y1, c1, c2, c3, hy1, d1, d2, m1, m2⟩ := wrap_mod3 k (xs.length + 1) (by omega) (by omega)
      rw [Int.natCast_add] at c2 c3 m1
      replace c2 : IntKind.u64.wrap ((xs.length : Int) + 1) = (xs.length : Int) + 1 := c2
      replace c3 : Int.tmod (v1 : Int) ((xs.length : Int) + 1) = (y1 : Int) := c3
      replace m1 : ((xs.length : Int) + 1 == 0) = false := m1
      obtain ⟨v2, y2, c4, c5, c6, hy2, d3, d4, m3, m4⟩ := wrap_mod3 s sig (by omega) (by omega)
      obtain ⟨v3, y3, c7, _, c9, hy3, d5, d6, _, _⟩ := wrap_mod3 lo (xs.length + 1) (by omega) (by omega)
      rw [Int.natCast_add] at c9
      replace c9 : Int.tmod (v3 : Int) ((xs.length : Int) + 1) = (y3 : Int) := c9
      have HG : Hid (In64 (y1 : Int) ∧ In64 (y2 : Int) ∧ In64 (y3 : Int)) := Lib.hid (by
        clear c1 c2 c3 c4 c5 c6 c7 c9 d1 d2 d3 d4 d5 d6 m1 m2 m3 m4
        exact ⟨⟨by omega, by omega⟩, ⟨by omega, by omega⟩, ⟨by omega, by omega⟩⟩)
      have HT : Hid (t + 1 ≤ 2) := Lib.hid ht2
      have HW : Hid (IntKind.u64.wrap k = (v1 : Int) ∧ IntKind.u64.wrap ((xs.length : Int) + 1) = (xs.length : Int) + 1 ∧ Int.tmod (v1 : Int) ((xs.length : Int) + 1) = (y1 : Int) ∧ ((xs.length : Int) + 1 == 0) = false ∧ IntKind.u64.wrap s = (v2 : Int) ∧ IntKind.u64.wrap (sig : Int) = (sig : Int) ∧ Int.tmod (v2 : Int) (sig : Int) = (y2 : Int) ∧ ((sig : Int) == 0) = false ∧ (sig == 0) = false ∧ IntKind.u64.wrap lo = (v3 : Int) ∧ Int.tmod (v3 : Int) ((xs.length : Int) + 1) = (y3 : Int)) := Lib.hid ⟨c1, c2, c3, m1, c4, c5, c6, m3, m4, c7, c9⟩
      have HW2 : Hid (IntKind.i64.wrap (y1 : Int) = (y1 : Int) ∧ IntKind.i64.wrap (y2 : Int) = (y2 : Int) ∧ IntKind.i64.wrap (y3 : Int) = (y3 : Int) ∧ IntKind.u64.wrap (y1 : Int) = (y1 : Int) ∧ IntKind.u64.wrap (y2 : Int) = (y2 : Int) ∧ IntKind.u64.wrap (y3 : Int) = (y3 : Int)) := Lib.hid ⟨d2, d4, d6, d1, d3, d5⟩
      clear c1 c2 c3 c4 c5 c6 c7 c9 d1 d2 d3 d4 d5 d6 m1 m2 m3 m4 hy1 hy2 hy3
      have H0 : Hid (In64 (0 : Int)) := Lib.hid (in64_small _)
      have HLEN : Hid ((xs.length : Int) ≤ 9223372036854775807) := Lib.hid (by omega)
      obtain ⟨rk, rrk⟩ : ∃ x, Hid (countL xs 0 k s = x) := ⟨_, Lib.hid rfl⟩
      obtain ⟨se, rse⟩ : ∃ x, Hid (nthL xs 0 xs.length s k = x) := ⟨_, Lib.hid rfl⟩
      obtain ⟨co, rco⟩ : ∃ x, Hid (countL xs lo hi s = x) := ⟨_, Lib.hid rfl⟩
      obtain ⟨nt, rnt⟩ : ∃ x, Hid (nthL xs lo hi s k = x) := ⟨_, Lib.hid rfl⟩
      by_cases hin : 0 ≤ k ∧ k < xs.length
      · obtain ⟨m, rfl⟩ := Int.eq_ofNat_of_zero_le hin.1
        have hml : m < xs.length := by omega
        obtain ⟨g, rfl, hg, hcell⟩ := HMD.out.cell m hml
        obtain ⟨b, hb⟩ : ∃ b, xs.getD m 0 = b := ⟨_, rfl⟩
        have HC : Hid (w1.cell? ⟨g, m, none⟩ = some (.int .i64 b)) := Lib.hid (by rw [← hb]; exact hcell m hml)
        have HX := Lib.hid ((getW_at xs m hml).trans hb)
        have HXE := Lib.hid (getWE_at xs m hml)
        have i1 : decide (m < xs.length) = true := decide_eq_true hml
        clear hcell hb hin hk
        go_wp2_with fail
        refine (getAt S (m : Int) b 0 HX.out HXE.out HK.out H.out).mono ?_
        rintro e wz ⟨rfl, h⟩
        replace H := Lib.hid h
        clear h
        have hcell : wz.cell? ⟨g, m, none⟩ = some (.int .i64 b) := by rw [H.out.since.cell (p := ⟨g, m, none⟩) hg]; exact HC.out
        go_wp2_with fail
        try simp only [List.append_eq, List.cons_append, List.nil_append] at *
        refine (wsteps_any S _ rfl HSG.out.1 HSG.out.2 H.out).mono ?_
        rintro e wz ⟨rfl, h⟩
        replace H := Lib.hid h
        clear h
        clear hcell
        by_cases s1 : 0 ≤ s
        · by_cases s2 : s < (sig : Int)
          · have g1 : decide (0 ≤ s) = true := decide_eq_true s1
            have g2 : decide (s < (sig : Int)) = true := decide_eq_true s2
            go_wp2_with fail
            refine (refCount_any _ _ xs 0 (m : Int) s _ hl2 (by decide) (HR.out.below H.out.since).1).mono ?_
            rw [rrk.out]
            rintro e wz ⟨rfl, rfl⟩
            go_wp2_with fail
            try simp only [List.append_eq, List.cons_append, List.nil_append] at *
            refine (rankAt S (m : Int) s rk rrk.out HK.out HS.out H.out).mono ?_
            rintro e wz ⟨rfl, h⟩
            replace H := Lib.hid h
            clear h
            go_wp2_with fail
            refine (wsteps_any S _ rfl HSG.out.1 HSG.out.2 H.out).mono ?_
            rintro e wz ⟨rfl, h⟩
            replace H := Lib.hid h
            clear h
            go_wp2_with fail
            refine (selectAt S (m : Int) s se rse.out HK.out HS.out H.out).mono ?_
            rintro e wz ⟨rfl, h⟩
            replace H := Lib.hid h
            clear h
            go_wp2_with fail
            refine (refNth_any _ _ xs 0 xs.length s (m : Int) _ hl2 (by decide) (HR.out.below H.out.since).1).mono ?_
            rw [rse.out]
            rintro e wz ⟨rfl, rfl⟩
            go_wp2_with fail
            refine (wsteps_any S _ rfl HSG.out.1 HSG.out.2 H.out).mono ?_
            rintro e wz ⟨rfl, h⟩
            replace H := Lib.hid h
            clear h
            go_wp2_with fail
            refine (countAt S lo hi s co rco.out HLO.out HHI.out HS.out H.out).mono ?_
            rintro e wz ⟨rfl, h⟩
            replace H := Lib.hid h
            clear h
            go_wp2_with fail
            refine (refCount_any _ _ xs lo hi s _ hl2 HLO.out.2 (HR.out.below H.out.since).1).mono ?_
            rw [rco.out]
            rintro e wz ⟨rfl, rfl⟩
            go_wp2_with fail
            refine (wsteps_any S _ rfl HSG.out.1 HSG.out.2 H.out).mono ?_
            rintro e wz ⟨rfl, h⟩
            replace H := Lib.hid h
            clear h
            go_wp2_with fail
            refine (nthAt S lo hi s (m : Int) nt rnt.out HLO.out HHI.out HS.out HK.out H.out).mono ?_
            rintro e wz ⟨rfl, h⟩
            replace H := Lib.hid h
            clear h
            go_wp2_with fail
            refine (refNth_any _ _ xs lo hi s (m : Int) _ hl2 HLO.out.2 (HR.out.below H.out.since).1).mono ?_
            rw [rnt.out]
            rintro e wz ⟨rfl, rfl⟩
            go_wp2_with fail
            refine (wsteps_any S _ rfl HSG.out.1 HSG.out.2 H.out).mono ?_
            rintro e wz ⟨rfl, h⟩
            replace H := Lib.hid h
            clear h
            obtain ⟨c1, c2, c3, m1, c4, c5, c6, m3, m4, c7, c9⟩ := HW.out
            obtain ⟨d2, d4, d6, d1, d3, d5⟩ := HW2.out
            have e8 : IntKind.i64.wrap ((xs.length : Int) + 1) = (xs.length : Int) + 1 := IntWalk.i64_in _ (by clear c1 c2 c3 c4 c5 c6 c7 c9 d1 d2 d3 d4 d5 d6 m1 m3 m4; omega)
            go_wp2
            try simp only [List.append_eq, List.cons_append, List.nil_append] at *
            go_quiet (fail)
            go_wp2
            go_roundw
            case rel => exact ⟨y1, y2, y3, t + 1, rfl, rfl, rfl, by clear c1 c2 c3 c4 c5 c6 c7 c9 d1 d2 d3 d4 d5 d6 m1 m3 m4; go_num, HG.out.1, HG.out.2.1, HG.out.2.2, HT.out, H.out.other S (wdrew _ _)⟩
            case measure => clear c1 c2 c3 c4 c5 c6 c7 c9 d1 d2 d3 d4 d5 d6 m1 m3 m4; simp [intOf]; omega
          · have g1 : decide (0 ≤ s) = true := decide_eq_true s1
            have g2 : decide (s < (sig : Int)) = false := decide_eq_false s2
            have HZ : Hid (countL xs 0 (m : Int) s = 0) := Lib.hid (count_out HM.out s 0 (m : Int) (fun h => s2 h.2))
            go_wp2_with fail
            try simp only [List.append_eq, List.cons_append, List.nil_append] at *
            refine (rankAt S (m : Int) s 0 HZ.out HK.out HS.out H.out).mono ?_
            rintro e wz ⟨rfl, h⟩
            replace H := Lib.hid h
            clear h
            go_wp2_with fail
            refine (wsteps_any S _ rfl HSG.out.1 HSG.out.2 H.out).mono ?_
            rintro e wz ⟨rfl, h⟩
            replace H := Lib.hid h
            clear h
            go_wp2_with fail
            refine (selectAt S (m : Int) s se rse.out HK.out HS.out H.out).mono ?_
            rintro e wz ⟨rfl, h⟩
            replace H := Lib.hid h
            clear h
            go_wp2_with fail
            refine (refNth_any _ _ xs 0 xs.length s (m : Int) _ hl2 (by decide) (HR.out.below H.out.since).1).mono ?_
            rw [rse.out]
            rintro e wz ⟨rfl, rfl⟩
            go_wp2_with fail
            refine (wsteps_any S _ rfl HSG.out.1 HSG.out.2 H.out).mono ?_
            rintro e wz ⟨rfl, h⟩
            replace H := Lib.hid h
            clear h
            go_wp2_with fail
            refine (countAt S lo hi s co rco.out HLO.out HHI.out HS.out H.out).mono ?_
            rintro e wz ⟨rfl, h⟩
            replace H := Lib.hid h
            clear h
            go_wp2_with fail
            refine (refCount_any _ _ xs lo hi s _ hl2 HLO.out.2 (HR.out.below H.out.since).1).mono ?_
            rw [rco.out]
            rintro e wz ⟨rfl, rfl⟩
            go_wp2_with fail
            refine (wsteps_any S _ rfl HSG.out.1 HSG.out.2 H.out).mono ?_
            rintro e wz ⟨rfl, h⟩
            replace H := Lib.hid h
            clear h
            go_wp2_with fail
            refine (nthAt S lo hi s (m : Int) nt rnt.out HLO.out HHI.out HS.out HK.out H.out).mono ?_
            rintro e wz ⟨rfl, h⟩
            replace H := Lib.hid h
            clear h
            go_wp2_with fail
            refine (refNth_any _ _ xs lo hi s (m : Int) _ hl2 HLO.out.2 (HR.out.below H.out.since).1).mono ?_
            rw [rnt.out]
            rintro e wz ⟨rfl, rfl⟩
            go_wp2_with fail
            refine (wsteps_any S _ rfl HSG.out.1 HSG.out.2 H.out).mono ?_
            rintro e wz ⟨rfl, h⟩
            replace H := Lib.hid h
            clear h
            obtain ⟨c1, c2, c3, m1, c4, c5, c6, m3, m4, c7, c9⟩ := HW.out
            obtain ⟨d2, d4, d6, d1, d3, d5⟩ := HW2.out
            have e8 : IntKind.i64.wrap ((xs.length : Int) + 1) = (xs.length : Int) + 1 := IntWalk.i64_in _ (by clear c1 c2 c3 c4 c5 c6 c7 c9 d1 d2 d3 d4 d5 d6 m1 m3 m4; omega)
            go_wp2
            try simp only [List.append_eq, List.cons_append, List.nil_append] at *
            go_quiet (fail)
            go_wp2
            go_roundw
            case rel => exact ⟨y1, y2, y3, t + 1, rfl, rfl, rfl, by clear c1 c2 c3 c4 c5 c6 c7 c9 d1 d2 d3 d4 d5 d6 m1 m3 m4; go_num, HG.out.1, HG.out.2.1, HG.out.2.2, HT.out, H.out.other S (wdrew _ _)⟩
            case measure => clear c1 c2 c3 c4 c5 c6 c7 c9 d1 d2 d3 d4 d5 d6 m1 m3 m4; simp [intOf]; omega
        · have g1 : decide (0 ≤ s) = false := decide_eq_false s1
          have HZ : Hid (countL xs 0 (m : Int) s = 0) := Lib.hid (count_out HM.out s 0 (m : Int) (fun h => s1 h.1))
          go_wp2_with fail
          try simp only [List.append_eq, List.cons_append, List.nil_append] at *
          refine (rankAt S (m : Int) s 0 HZ.out HK.out HS.out H.out).mono ?_
          rintro e wz ⟨rfl, h⟩
          replace H := Lib.hid h
          clear h
          go_wp2_with fail
          refine (wsteps_any S _ rfl HSG.out.1 HSG.out.2 H.out).mono ?_
          rintro e wz ⟨rfl, h⟩
          replace H := Lib.hid h
          clear h
          go_wp2_with fail
          refine (selectAt S (m : Int) s se rse.out HK.out HS.out H.out).mono ?_
          rintro e wz ⟨rfl, h⟩
          replace H := Lib.hid h
          clear h
          go_wp2_with fail
          refine (refNth_any _ _ xs 0 xs.length s (m : Int) _ hl2 (by decide) (HR.out.below H.out.since).1).mono ?_
          rw [rse.out]
          rintro e wz ⟨rfl, rfl⟩
          go_wp2_with fail
          refine (wsteps_any S _ rfl HSG.out.1 HSG.out.2 H.out).mono ?_
          rintro e wz ⟨rfl, h⟩
          replace H := Lib.hid h
          clear h
          go_wp2_with fail
          refine (countAt S lo hi s co rco.out HLO.out HHI.out HS.out H.out).mono ?_
          rintro e wz ⟨rfl, h⟩
          replace H := Lib.hid h
          clear h
          go_wp2_with fail
          refine (refCount_any _ _ xs lo hi s _ hl2 HLO.out.2 (HR.out.below H.out.since).1).mono ?_
          rw [rco.out]
          rintro e wz ⟨rfl, rfl⟩
          go_wp2_with fail
          refine (wsteps_any S _ rfl HSG.out.1 HSG.out.2 H.out).mono ?_
          rintro e wz ⟨rfl, h⟩
          replace H := Lib.hid h
          clear h
          go_wp2_with fail
          refine (nthAt S lo hi s (m : Int) nt rnt.out HLO.out HHI.out HS.out HK.out H.out).mono ?_
          rintro e wz ⟨rfl, h⟩
          replace H := Lib.hid h
          clear h
          go_wp2_with fail
          refine (refNth_any _ _ xs lo hi s (m : Int) _ hl2 HLO.out.2 (HR.out.below H.out.since).1).mono ?_
          rw [rnt.out]
          rintro e wz ⟨rfl, rfl⟩
          go_wp2_with fail
          refine (wsteps_any S _ rfl HSG.out.1 HSG.out.2 H.out).mono ?_
          rintro e wz ⟨rfl, h⟩
          replace H := Lib.hid h
          clear h
          obtain ⟨c1, c2, c3, m1, c4, c5, c6, m3, m4, c7, c9⟩ := HW.out
          obtain ⟨d2, d4, d6, d1, d3, d5⟩ := HW2.out
          have e8 : IntKind.i64.wrap ((xs.length : Int) + 1) = (xs.length : Int) + 1 := IntWalk.i64_in _ (by clear c1 c2 c3 c4 c5 c6 c7 c9 d1 d2 d3 d4 d5 d6 m1 m3 m4; omega)
          go_wp2
          try simp only [List.append_eq, List.cons_append, List.nil_append] at *
          go_quiet (fail)
          go_wp2
          go_roundw
          case rel => exact ⟨y1, y2, y3, t + 1, rfl, rfl, rfl, by clear c1 c2 c3 c4 c5 c6 c7 c9 d1 d2 d3 d4 d5 d6 m1 m3 m4; go_num, HG.out.1, HG.out.2.1, HG.out.2.2, HT.out, H.out.other S (wdrew _ _)⟩
          case measure => clear c1 c2 c3 c4 c5 c6 c7 c9 d1 d2 d3 d4 d5 d6 m1 m3 m4; simp [intOf]; omega
      · have HX := Lib.hid (getW_out xs k hin)
        have HXE := Lib.hid (getWE_out xs k hin)
        by_cases k1 : 0 ≤ k
        · have i1 : decide (0 ≤ k) = true := decide_eq_true k1
          have i2 : decide (k < (xs.length : Int)) = false := decide_eq_false (by omega)
          clear hin hk
          go_wp2_with fail
          refine (getAt S k 0 4 HX.out HXE.out HK.out H.out).mono ?_
          rintro e wz ⟨rfl, h⟩
          replace H := Lib.hid h
          clear h
          go_wp2_with fail
          try simp only [List.append_eq, List.cons_append, List.nil_append] at *
          refine (wsteps_any S _ rfl HSG.out.1 HSG.out.2 H.out).mono ?_
          rintro e wz ⟨rfl, h⟩
          replace H := Lib.hid h
          clear h
          by_cases s1 : 0 ≤ s
          · by_cases s2 : s < (sig : Int)
            · have g1 : decide (0 ≤ s) = true := decide_eq_true s1
              have g2 : decide (s < (sig : Int)) = true := decide_eq_true s2
              go_wp2_with fail
              refine (refCount_any _ _ xs 0 k s _ hl2 (by decide) (HR.out.below H.out.since).1).mono ?_
              rw [rrk.out]
              rintro e wz ⟨rfl, rfl⟩
              go_wp2_with fail
              try simp only [List.append_eq, List.cons_append, List.nil_append] at *
              refine (rankAt S k s rk rrk.out HK.out HS.out H.out).mono ?_
              rintro e wz ⟨rfl, h⟩
              replace H := Lib.hid h
              clear h
              go_wp2_with fail
              refine (wsteps_any S _ rfl HSG.out.1 HSG.out.2 H.out).mono ?_
              rintro e wz ⟨rfl, h⟩
              replace H := Lib.hid h
              clear h
              go_wp2_with fail
              refine (selectAt S k s se rse.out HK.out HS.out H.out).mono ?_
              rintro e wz ⟨rfl, h⟩
              replace H := Lib.hid h
              clear h
              go_wp2_with fail
              refine (refNth_any _ _ xs 0 xs.length s k _ hl2 (by decide) (HR.out.below H.out.since).1).mono ?_
              rw [rse.out]
              rintro e wz ⟨rfl, rfl⟩
              go_wp2_with fail
              refine (wsteps_any S _ rfl HSG.out.1 HSG.out.2 H.out).mono ?_
              rintro e wz ⟨rfl, h⟩
              replace H := Lib.hid h
              clear h
              go_wp2_with fail
              refine (countAt S lo hi s co rco.out HLO.out HHI.out HS.out H.out).mono ?_
              rintro e wz ⟨rfl, h⟩
              replace H := Lib.hid h
              clear h
              go_wp2_with fail
              refine (refCount_any _ _ xs lo hi s _ hl2 HLO.out.2 (HR.out.below H.out.since).1).mono ?_
              rw [rco.out]
              rintro e wz ⟨rfl, rfl⟩
              go_wp2_with fail
              refine (wsteps_any S _ rfl HSG.out.1 HSG.out.2 H.out).mono ?_
              rintro e wz ⟨rfl, h⟩
              replace H := Lib.hid h
              clear h
              go_wp2_with fail
              refine (nthAt S lo hi s k nt rnt.out HLO.out HHI.out HS.out HK.out H.out).mono ?_
              rintro e wz ⟨rfl, h⟩
              replace H := Lib.hid h
              clear h
              go_wp2_with fail
              refine (refNth_any _ _ xs lo hi s k _ hl2 HLO.out.2 (HR.out.below H.out.since).1).mono ?_
              rw [rnt.out]
              rintro e wz ⟨rfl, rfl⟩
              go_wp2_with fail
              refine (wsteps_any S _ rfl HSG.out.1 HSG.out.2 H.out).mono ?_
              rintro e wz ⟨rfl, h⟩
              replace H := Lib.hid h
              clear h
              obtain ⟨c1, c2, c3, m1, c4, c5, c6, m3, m4, c7, c9⟩ := HW.out
              obtain ⟨d2, d4, d6, d1, d3, d5⟩ := HW2.out
              have e8 : IntKind.i64.wrap ((xs.length : Int) + 1) = (xs.length : Int) + 1 := IntWalk.i64_in _ (by clear c1 c2 c3 c4 c5 c6 c7 c9 d1 d2 d3 d4 d5 d6 m1 m3 m4; omega)
              go_wp2
              try simp only [List.append_eq, List.cons_append, List.nil_append] at *
              go_quiet (fail)
              go_wp2
              go_roundw
              case rel => exact ⟨y1, y2, y3, t + 1, rfl, rfl, rfl, by clear c1 c2 c3 c4 c5 c6 c7 c9 d1 d2 d3 d4 d5 d6 m1 m3 m4; go_num, HG.out.1, HG.out.2.1, HG.out.2.2, HT.out, H.out.other S (wdrew _ _)⟩
              case measure => clear c1 c2 c3 c4 c5 c6 c7 c9 d1 d2 d3 d4 d5 d6 m1 m3 m4; simp [intOf]; omega
            · have g1 : decide (0 ≤ s) = true := decide_eq_true s1
              have g2 : decide (s < (sig : Int)) = false := decide_eq_false s2
              have HZ : Hid (countL xs 0 k s = 0) := Lib.hid (count_out HM.out s 0 k (fun h => s2 h.2))
              go_wp2_with fail
              try simp only [List.append_eq, List.cons_append, List.nil_append] at *
              refine (rankAt S k s 0 HZ.out HK.out HS.out H.out).mono ?_
              rintro e wz ⟨rfl, h⟩
              replace H := Lib.hid h
              clear h
              go_wp2_with fail
              refine (wsteps_any S _ rfl HSG.out.1 HSG.out.2 H.out).mono ?_
              rintro e wz ⟨rfl, h⟩
              replace H := Lib.hid h
              clear h
              go_wp2_with fail
              refine (selectAt S k s se rse.out HK.out HS.out H.out).mono ?_
              rintro e wz ⟨rfl, h⟩
              replace H := Lib.hid h
              clear h
              go_wp2_with fail
              refine (refNth_any _ _ xs 0 xs.length s k _ hl2 (by decide) (HR.out.below H.out.since).1).mono ?_
              rw [rse.out]
              rintro e wz ⟨rfl, rfl⟩
              go_wp2_with fail
              refine (wsteps_any S _ rfl HSG.out.1 HSG.out.2 H.out).mono ?_
              rintro e wz ⟨rfl, h⟩
              replace H := Lib.hid h
              clear h
              go_wp2_with fail
              refine (countAt S lo hi s co rco.out HLO.out HHI.out HS.out H.out).mono ?_
              rintro e wz ⟨rfl, h⟩
              replace H := Lib.hid h
              clear h
              go_wp2_with fail
              refine (refCount_any _ _ xs lo hi s _ hl2 HLO.out.2 (HR.out.below H.out.since).1).mono ?_
              rw [rco.out]
              rintro e wz ⟨rfl, rfl⟩
              go_wp2_with fail
              refine (wsteps_any S _ rfl HSG.out.1 HSG.out.2 H.out).mono ?_
              rintro e wz ⟨rfl, h⟩
              replace H := Lib.hid h
              clear h
              go_wp2_with fail
              refine (nthAt S lo hi s k nt rnt.out HLO.out HHI.out HS.out HK.out H.out).mono ?_
              rintro e wz ⟨rfl, h⟩
              replace H := Lib.hid h
              clear h
              go_wp2_with fail
              refine (refNth_any _ _ xs lo hi s k _ hl2 HLO.out.2 (HR.out.below H.out.since).1).mono ?_
              rw [rnt.out]
              rintro e wz ⟨rfl, rfl⟩
              go_wp2_with fail
              refine (wsteps_any S _ rfl HSG.out.1 HSG.out.2 H.out).mono ?_
              rintro e wz ⟨rfl, h⟩
              replace H := Lib.hid h
              clear h
              obtain ⟨c1, c2, c3, m1, c4, c5, c6, m3, m4, c7, c9⟩ := HW.out
              obtain ⟨d2, d4, d6, d1, d3, d5⟩ := HW2.out
              have e8 : IntKind.i64.wrap ((xs.length : Int) + 1) = (xs.length : Int) + 1 := IntWalk.i64_in _ (by clear c1 c2 c3 c4 c5 c6 c7 c9 d1 d2 d3 d4 d5 d6 m1 m3 m4; omega)
              go_wp2
              try simp only [List.append_eq, List.cons_append, List.nil_append] at *
              go_quiet (fail)
              go_wp2
              go_roundw
              case rel => exact ⟨y1, y2, y3, t + 1, rfl, rfl, rfl, by clear c1 c2 c3 c4 c5 c6 c7 c9 d1 d2 d3 d4 d5 d6 m1 m3 m4; go_num, HG.out.1, HG.out.2.1, HG.out.2.2, HT.out, H.out.other S (wdrew _ _)⟩
              case measure => clear c1 c2 c3 c4 c5 c6 c7 c9 d1 d2 d3 d4 d5 d6 m1 m3 m4; simp [intOf]; omega
          · have g1 : decide (0 ≤ s) = false := decide_eq_false s1
            have HZ : Hid (countL xs 0 k s = 0) := Lib.hid (count_out HM.out s 0 k (fun h => s1 h.1))
            go_wp2_with fail
            try simp only [List.append_eq, List.cons_append, List.nil_append] at *
            refine (rankAt S k s 0 HZ.out HK.out HS.out H.out).mono ?_
            rintro e wz ⟨rfl, h⟩
            replace H := Lib.hid h
            clear h
            go_wp2_with fail
            refine (wsteps_any S _ rfl HSG.out.1 HSG.out.2 H.out).mono ?_
            rintro e wz ⟨rfl, h⟩
            replace H := Lib.hid h
            clear h
            go_wp2_with fail
            refine (selectAt S k s se rse.out HK.out HS.out H.out).mono ?_
            rintro e wz ⟨rfl, h⟩
            replace H := Lib.hid h
            clear h
            go_wp2_with fail
            refine (refNth_any _ _ xs 0 xs.length s k _ hl2 (by decide) (HR.out.below H.out.since).1).mono ?_
            rw [rse.out]
            rintro e wz ⟨rfl, rfl⟩
            go_wp2_with fail
            refine (wsteps_any S _ rfl HSG.out.1 HSG.out.2 H.out).mono ?_
            rintro e wz ⟨rfl, h⟩
            replace H := Lib.hid h
            clear h
            go_wp2_with fail
            refine (countAt S lo hi s co rco.out HLO.out HHI.out HS.out H.out).mono ?_
            rintro e wz ⟨rfl, h⟩
            replace H := Lib.hid h
            clear h
            go_wp2_with fail
            refine (refCount_any _ _ xs lo hi s _ hl2 HLO.out.2 (HR.out.below H.out.since).1).mono ?_
            rw [rco.out]
            rintro e wz ⟨rfl, rfl⟩
            go_wp2_with fail
            refine (wsteps_any S _ rfl HSG.out.1 HSG.out.2 H.out).mono ?_
            rintro e wz ⟨rfl, h⟩
            replace H := Lib.hid h
            clear h
            go_wp2_with fail
            refine (nthAt S lo hi s k nt rnt.out HLO.out HHI.out HS.out HK.out H.out).mono ?_
            rintro e wz ⟨rfl, h⟩
            replace H := Lib.hid h
            clear h
            go_wp2_with fail
            refine (refNth_any _ _ xs lo hi s k _ hl2 HLO.out.2 (HR.out.below H.out.since).1).mono ?_
            rw [rnt.out]
            rintro e wz ⟨rfl, rfl⟩
            go_wp2_with fail
            refine (wsteps_any S _ rfl HSG.out.1 HSG.out.2 H.out).mono ?_
            rintro e wz ⟨rfl, h⟩
            replace H := Lib.hid h
            clear h
            obtain ⟨c1, c2, c3, m1, c4, c5, c6, m3, m4, c7, c9⟩ := HW.out
            obtain ⟨d2, d4, d6, d1, d3, d5⟩ := HW2.out
            have e8 : IntKind.i64.wrap ((xs.length : Int) + 1) = (xs.length : Int) + 1 := IntWalk.i64_in _ (by clear c1 c2 c3 c4 c5 c6 c7 c9 d1 d2 d3 d4 d5 d6 m1 m3 m4; omega)
            go_wp2
            try simp only [List.append_eq, List.cons_append, List.nil_append] at *
            go_quiet (fail)
            go_wp2
            go_roundw
            case rel => exact ⟨y1, y2, y3, t + 1, rfl, rfl, rfl, by clear c1 c2 c3 c4 c5 c6 c7 c9 d1 d2 d3 d4 d5 d6 m1 m3 m4; go_num, HG.out.1, HG.out.2.1, HG.out.2.2, HT.out, H.out.other S (wdrew _ _)⟩
            case measure => clear c1 c2 c3 c4 c5 c6 c7 c9 d1 d2 d3 d4 d5 d6 m1 m3 m4; simp [intOf]; omega
        · have i1 : decide (0 ≤ k) = false := decide_eq_false k1
          clear hin hk
          go_wp2_with fail
          refine (getAt S k 0 4 HX.out HXE.out HK.out H.out).mono ?_
          rintro e wz ⟨rfl, h⟩
          replace H := Lib.hid h
          clear h
          go_wp2_with fail
          try simp only [List.append_eq, List.cons_append, List.nil_append] at *
          refine (wsteps_any S _ rfl HSG.out.1 HSG.out.2 H.out).mono ?_
          rintro e wz ⟨rfl, h⟩
          replace H := Lib.hid h
          clear h
          by_cases s1 : 0 ≤ s
          · by_cases s2 : s < (sig : Int)
            · have g1 : decide (0 ≤ s) = true := decide_eq_true s1
              have g2 : decide (s < (sig : Int)) = true := decide_eq_true s2
              go_wp2_with fail
              refine (refCount_any _ _ xs 0 k s _ hl2 (by decide) (HR.out.below H.out.since).1).mono ?_
              rw [rrk.out]
              rintro e wz ⟨rfl, rfl⟩
              go_wp2_with fail
              try simp only [List.append_eq, List.cons_append, List.nil_append] at *
              refine (rankAt S k s rk rrk.out HK.out HS.out H.out).mono ?_
              rintro e wz ⟨rfl, h⟩
              replace H := Lib.hid h
              clear h
              go_wp2_with fail
              refine (wsteps_any S _ rfl HSG.out.1 HSG.out.2 H.out).mono ?_
              rintro e wz ⟨rfl, h⟩
              replace H := Lib.hid h
              clear h
              go_wp2_with fail
              refine (selectAt S k s se rse.out HK.out HS.out H.out).mono ?_
              rintro e wz ⟨rfl, h⟩
              replace H := Lib.hid h
              clear h
              go_wp2_with fail
              refine (refNth_any _ _ xs 0 xs.length s k _ hl2 (by decide) (HR.out.below H.out.since).1).mono ?_
              rw [rse.out]
              rintro e wz ⟨rfl, rfl⟩
              go_wp2_with fail
              refine (wsteps_any S _ rfl HSG.out.1 HSG.out.2 H.out).mono ?_
              rintro e wz ⟨rfl, h⟩
              replace H := Lib.hid h
              clear h
              go_wp2_with fail
              refine (countAt S lo hi s co rco.out HLO.out HHI.out HS.out H.out).mono ?_
              rintro e wz ⟨rfl, h⟩
              replace H := Lib.hid h
              clear h
              go_wp2_with fail
              refine (refCount_any _ _ xs lo hi s _ hl2 HLO.out.2 (HR.out.below H.out.since).1).mono ?_
              rw [rco.out]
              rintro e wz ⟨rfl, rfl⟩
              go_wp2_with fail
              refine (wsteps_any S _ rfl HSG.out.1 HSG.out.2 H.out).mono ?_
              rintro e wz ⟨rfl, h⟩
              replace H := Lib.hid h
              clear h
              go_wp2_with fail
              refine (nthAt S lo hi s k nt rnt.out HLO.out HHI.out HS.out HK.out H.out).mono ?_
              rintro e wz ⟨rfl, h⟩
              replace H := Lib.hid h
              clear h
              go_wp2_with fail
              refine (refNth_any _ _ xs lo hi s k _ hl2 HLO.out.2 (HR.out.below H.out.since).1).mono ?_
              rw [rnt.out]
              rintro e wz ⟨rfl, rfl⟩
              go_wp2_with fail
              refine (wsteps_any S _ rfl HSG.out.1 HSG.out.2 H.out).mono ?_
              rintro e wz ⟨rfl, h⟩
              replace H := Lib.hid h
              clear h
              obtain ⟨c1, c2, c3, m1, c4, c5, c6, m3, m4, c7, c9⟩ := HW.out
              obtain ⟨d2, d4, d6, d1, d3, d5⟩ := HW2.out
              have e8 : IntKind.i64.wrap ((xs.length : Int) + 1) = (xs.length : Int) + 1 := IntWalk.i64_in _ (by clear c1 c2 c3 c4 c5 c6 c7 c9 d1 d2 d3 d4 d5 d6 m1 m3 m4; omega)
              go_wp2
              try simp only [List.append_eq, List.cons_append, List.nil_append] at *
              go_quiet (fail)
              go_wp2
              go_roundw
              case rel => exact ⟨y1, y2, y3, t + 1, rfl, rfl, rfl, by clear c1 c2 c3 c4 c5 c6 c7 c9 d1 d2 d3 d4 d5 d6 m1 m3 m4; go_num, HG.out.1, HG.out.2.1, HG.out.2.2, HT.out, H.out.other S (wdrew _ _)⟩
              case measure => clear c1 c2 c3 c4 c5 c6 c7 c9 d1 d2 d3 d4 d5 d6 m1 m3 m4; simp [intOf]; omega
            · have g1 : decide (0 ≤ s) = true := decide_eq_true s1
              have g2 : decide (s < (sig : Int)) = false := decide_eq_false s2
              have HZ : Hid (countL xs 0 k s = 0) := Lib.hid (count_out HM.out s 0 k (fun h => s2 h.2))
              go_wp2_with fail
              try simp only [List.append_eq, List.cons_append, List.nil_append] at *
              refine (rankAt S k s 0 HZ.out HK.out HS.out H.out).mono ?_
              rintro e wz ⟨rfl, h⟩
              replace H := Lib.hid h
              clear h
              go_wp2_with fail
              refine (wsteps_any S _ rfl HSG.out.1 HSG.out.2 H.out).mono ?_
              rintro e wz ⟨rfl, h⟩
              replace H := Lib.hid h
              clear h
              go_wp2_with fail
              refine (selectAt S k s se rse.out HK.out HS.out H.out).mono ?_
              rintro e wz ⟨rfl, h⟩
              replace H := Lib.hid h
              clear h
              go_wp2_with fail
              refine (refNth_any _ _ xs 0 xs.length s k _ hl2 (by decide) (HR.out.below H.out.since).1).mono ?_
              rw [rse.out]
              rintro e wz ⟨rfl, rfl⟩
              go_wp2_with fail
              refine (wsteps_any S _ rfl HSG.out.1 HSG.out.2 H.out).mono ?_
              rintro e wz ⟨rfl, h⟩
              replace H := Lib.hid h
              clear h
              go_wp2_with fail
              refine (countAt S lo hi s co rco.out HLO.out HHI.out HS.out H.out).mono ?_
              rintro e wz ⟨rfl, h⟩
              replace H := Lib.hid h
              clear h
              go_wp2_with fail
              refine (refCount_any _ _ xs lo hi s _ hl2 HLO.out.2 (HR.out.below H.out.since).1).mono ?_
              rw [rco.out]
              rintro e wz ⟨rfl, rfl⟩
              go_wp2_with fail
              refine (wsteps_any S _ rfl HSG.out.1 HSG.out.2 H.out).mono ?_
              rintro e wz ⟨rfl, h⟩
              replace H := Lib.hid h
              clear h
              go_wp2_with fail
              refine (nthAt S lo hi s k nt rnt.out HLO.out HHI.out HS.out HK.out H.out).mono ?_
              rintro e wz ⟨rfl, h⟩
              replace H := Lib.hid h
              clear h
              go_wp2_with fail
              refine (refNth_any _ _ xs lo hi s k _ hl2 HLO.out.2 (HR.out.below H.out.since).1).mono ?_
              rw [rnt.out]
              rintro e wz ⟨rfl, rfl⟩
              go_wp2_with fail
              refine (wsteps_any S _ rfl HSG.out.1 HSG.out.2 H.out).mono ?_
              rintro e wz ⟨rfl, h⟩
              replace H := Lib.hid h
              clear h
              obtain ⟨c1, c2, c3, m1, c4, c5, c6, m3, m4, c7, c9⟩ := HW.out
              obtain ⟨d2, d4, d6, d1, d3, d5⟩ := HW2.out
              have e8 : IntKind.i64.wrap ((xs.length : Int) + 1) = (xs.length : Int) + 1 := IntWalk.i64_in _ (by clear c1 c2 c3 c4 c5 c6 c7 c9 d1 d2 d3 d4 d5 d6 m1 m3 m4; omega)
              go_wp2
              try simp only [List.append_eq, List.cons_append, List.nil_append] at *
              go_quiet (fail)
              go_wp2
              go_roundw
              case rel => exact ⟨y1, y2, y3, t + 1, rfl, rfl, rfl, by clear c1 c2 c3 c4 c5 c6 c7 c9 d1 d2 d3 d4 d5 d6 m1 m3 m4; go_num, HG.out.1, HG.out.2.1, HG.out.2.2, HT.out, H.out.other S (wdrew _ _)⟩
              case measure => clear c1 c2 c3 c4 c5 c6 c7 c9 d1 d2 d3 d4 d5 d6 m1 m3 m4; simp [intOf]; omega
          · have g1 : decide (0 ≤ s) = false := decide_eq_false s1
            have HZ : Hid (countL xs 0 k s = 0) := Lib.hid (count_out HM.out s 0 k (fun h => s1 h.1))
            go_wp2_with fail
            try simp only [List.append_eq, List.cons_append, List.nil_append] at *
            refine (rankAt S k s 0 HZ.out HK.out HS.out H.out).mono ?_
            rintro e wz ⟨rfl, h⟩
            replace H := Lib.hid h
            clear h
            go_wp2_with fail
            refine (wsteps_any S _ rfl HSG.out.1 HSG.out.2 H.out).mono ?_
            rintro e wz ⟨rfl, h⟩
            replace H := Lib.hid h
            clear h
            go_wp2_with fail
            refine (selectAt S k s se rse.out HK.out HS.out H.out).mono ?_
            rintro e wz ⟨rfl, h⟩
            replace H := Lib.hid h
            clear h
            go_wp2_with fail
            refine (refNth_any _ _ xs 0 xs.length s k _ hl2 (by decide) (HR.out.below H.out.since).1).mono ?_
            rw [rse.out]
            rintro e wz ⟨rfl, rfl⟩
            go_wp2_with fail
            refine (wsteps_any S _ rfl HSG.out.1 HSG.out.2 H.out).mono ?_
            rintro e wz ⟨rfl, h⟩
            replace H := Lib.hid h
            clear h
            go_wp2_with fail
            refine (countAt S lo hi s co rco.out HLO.out HHI.out HS.out H.out).mono ?_
            rintro e wz ⟨rfl, h⟩
            replace H := Lib.hid h
            clear h
            go_wp2_with fail
            refine (refCount_any _ _ xs lo hi s _ hl2 HLO.out.2 (HR.out.below H.out.since).1).mono ?_
            rw [rco.out]
            rintro e wz ⟨rfl, rfl⟩
            go_wp2_with fail
            refine (wsteps_any S _ rfl HSG.out.1 HSG.out.2 H.out).mono ?_
            rintro e wz ⟨rfl, h⟩
            replace H := Lib.hid h
            clear h
            go_wp2_with fail
            refine (nthAt S lo hi s k nt rnt.out HLO.out HHI.out HS.out HK.out H.out).mono ?_
            rintro e wz ⟨rfl, h⟩
            replace H := Lib.hid h
            clear h
            go_wp2_with fail
            refine (refNth_any _ _ xs lo hi s k _ hl2 HLO.out.2 (HR.out.below H.out.since).1).mono ?_
            rw [rnt.out]
            rintro e wz ⟨rfl, rfl⟩
            go_wp2_with fail
            refine (wsteps_any S _ rfl HSG.out.1 HSG.out.2 H.out).mono ?_
            rintro e wz ⟨rfl, h⟩
            replace H := Lib.hid h
            clear h
            obtain ⟨c1, c2, c3, m1, c4, c5, c6, m3, m4, c7, c9⟩ := HW.out
            obtain ⟨d2, d4, d6, d1, d3, d5⟩ := HW2.out
            have e8 : IntKind.i64.wrap ((xs.length : Int) + 1) = (xs.length : Int) + 1 := IntWalk.i64_in _ (by clear c1 c2 c3 c4 c5 c6 c7 c9 d1 d2 d3 d4 d5 d6 m1 m3 m4; omega)
            go_wp2
            try simp only [List.append_eq, List.cons_append, List.nil_append] at *
            go_quiet (fail)
            go_wp2
            go_roundw
            case rel => exact ⟨y1, y2, y3, t + 1, rfl, rfl, rfl, by clear c1 c2 c3 c4 c5 c6 c7 c9 d1 d2 d3 d4 d5 d6 m1 m3 m4; go_num, HG.out.1, HG.out.2.1, HG.out.2.2, HT.out, H.out.other S (wdrew _ _)⟩
            case measure => clear c1 c2 c3 c4 c5 c6 c7 c9 d1 d2 d3 d4 d5 d6 m1 m3 m4; simp [intOf]; omega
    · have t1 : decide (t < 2) = false := decide_eq_false ht2
      have t2 : decide ((t : Int) < 2) = false := decide_eq_false (by omega)
      go_wp2_with fail
      refine (told6_any S n _ (H.out.e S) (Nat.le_trans H.out.nb H.out.size)).mono ?_
      rintro e wz ⟨rfl, hb'⟩
      replace H := Lib.hid (H.out.other S hb')
      clear hb'
      go_wp2
      go_ret
      exact ⟨rfl, H.out.low HB.out (Nat.le_refl _)⟩
theorem wasks_law {E : Nat → World → Prop} {Is : Nat → Nat → World → Value → List Int → Int → Prop} (S : WavSaid E Is) (n : Nat) (l : Value) (sg k s lo hi : Int) (w : World) (hE : E n w) (hn : n ≤ w.heap.size) (hk : In64 k) (hs : In64 s) (hlo : In64 lo) (hhi : In64 hi) (hl : SymArg w l) :
    Calls Try.prog 3 #[l, .int .i64 sg, .int .i64 k, .int .i64 s, .int .i64 lo, .int .i64 hi] w fun e w' => e = .returned (.bool true) ∧ Below w.heap.size w w' := wasks_any S n l sg k s lo hi w hE hn hk hs hlo hhi hl
end Go.Proofs.Ytnjlckgmoodkiaa
