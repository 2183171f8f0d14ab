/-
  LAYER 6: brackenlaw6.WaveParts, out of WavSaid: true for any symbols, any sigma, any cuts. (Written by gen_wparts.py.)
-/
import Derived.Test.YtnjlckgmoodkiaaWavArg
import Derived.Deep.QuietTactic
import Derived.BigQuiet
import Derived.Deep.RegionHeld3
namespace Go.Proofs.Ytnjlckgmoodkiaa
open Go.RowKit

set_option maxHeartbeats 20000000 in
set_option maxRecDepth 100000 in
theorem wparts_any {E : Nat → World → Prop} {Is : Nat → Nat → World → Value → List Int → Int → Prop} (S : WavSaid E Is) (n : Nat) (l : Value) (sg a0 b0 : Int) (w : World) (hE : E n w) (hn : n ≤ w.heap.size) (hl : SymArg w l) :
    Calls Try.prog 5 #[l, .int .i64 sg, .int .i64 a0, .int .i64 b0] w fun e w' => e = .returned (.bool true) ∧ Below w.heap.size w w' := by
  have HE0 := Lib.hid hE
  have HN0 := Lib.hid hn
  have HL := Lib.hid hl
  obtain ⟨u0, x0, hu1, hu2, hu3, hx1, hx2⟩ := wrap_mod sg 40 (by decide) (by decide)
  replace hu2 : Int.tmod (u0 : Int) 40 = (x0 : Int) := hu2
  obtain ⟨sig, hsig⟩ : ∃ sig : Nat, 1 + x0 = sig := ⟨_, rfl⟩
  have e0 : (1 : Int) + (x0 : Int) = (sig : Int) := by rw [← hsig]; omega
  have hs1 : 1 ≤ sig := by omega
  have hs300 : sig ≤ 40 := by omega
  clear hE hn hl hsig hu3
  go_enter Try.func5, Try.ntmps5
  go_wp2_with fail
  try rw [e0]
  refine (wavRow_any l sig 300 w HL.out hs1 (by omega) (by decide)).mono ?_
  rintro e w1 ⟨a, cap, xs, rfl, hm⟩
  have hlb : xs.length ≤ 1048576 := by have := hm.few; omega
  have hl3 : xs.length ≤ 300 := hm.few
  have HB := Lib.hid hm.since
  have HM := Lib.hid (hm.may hs1 (by omega))
  have HR := Lib.hid hm.row
  have HMD := Lib.hid hm
  have HE := Lib.hid (S.stay n w w1 HE0.out (hm.since.mono HN0.out))
  have HN := Lib.hid (Nat.le_trans HN0.out hm.since.size)
  have HSG : Hid (1 ≤ sig ∧ sig ≤ 1048576) := Lib.hid ⟨hs1, by omega⟩
  clear HL HE0 HN0 hm hu1 hu2 hx1 hx2
  go_wp2_with fail
  refine (newAt S _ HE.out HN.out hlb HR.out HM.out).mono ?_
  rintro e wa ⟨p, T, rfl, h⟩
  have H := Lib.hid h
  clear h
  obtain ⟨v1, y1, c1, c2, c3, hy1, d1, d2, m1, m2⟩ := wrap_mod3 a0 (xs.length + 1) (by omega) (by omega)
  rw [Int.natCast_add] at c2 c3 m1
  replace c2 : IntKind.u64.wrap ((xs.length : Int) + 1) = (xs.length : Int) + 1 := c2
  replace c3 : Int.tmod (v1 : Int) ((xs.length : Int) + 1) = (y1 : Int) := c3
  replace m1 : ((xs.length : Int) + 1 == 0) = false := m1
  obtain ⟨v3, y3, c7, _, c9, hy3, d5, d6, _, _⟩ := wrap_mod3 b0 (xs.length + 1) (by omega) (by omega)
  rw [Int.natCast_add] at c9
  replace c9 : Int.tmod (v3 : Int) ((xs.length : Int) + 1) = (y3 : Int) := c9
  have e8 : IntKind.i64.wrap ((xs.length : Int) + 1) = (xs.length : Int) + 1 := IntWalk.i64_in _ (by clear c1 c2 c3 c7 c9 d1 d2 d5 d6 m1; omega)
  go_wp2
  go_quiet (fail)
  replace H := Lib.hid (H.out.other S (wdrew _ nq))
  clear c1 c2 c3 c7 c9 d1 d2 d5 d6 m1 m2 e8
  obtain ⟨wq, hwq⟩ : ∃ wq, wa.drewN nq = wq := ⟨_, rfl⟩
  rw [hwq] at H ⊢
  clear hwq
  have HALL := Lib.hid (fun a b h => allW_all (n := sig) HMD.out.syms a b h)
  by_cases hxy : y3 < y1
  · have i1 : decide (y3 < y1) = true := decide_eq_true hxy
    have hle : y3 ≤ y1 := by omega
    have hYl : y1 ≤ xs.length := by omega
    go_wp2
    go_loopw [15, 16] (fun sv iv wr => ∃ s : Nat, s ≤ sig ∧ iv = .int .i64 s ∧ sv = .int .i64 (allW xs y3 y1 s) ∧ At E Is n w1.heap.size T w1 (.pointer (some p)) xs sig wr) (fun _ iv _ => sig - (intOf iv).toNat)
    case atStart => exact ⟨0, Nat.zero_le _, rfl, rfl, H.out⟩
    case round =>
      obtain ⟨s, hss, rfl, rfl, hA⟩ := hrel
      replace H := Lib.hid hA
      clear hA
      have hal := allW_le xs y3 y1 s
      have H0 : Hid (In64 0) := Lib.hid (in64_small _)
      have HX := Lib.hid (⟨by omega, by omega⟩ : In64 (y3 : Int))
      have HY := Lib.hid (⟨by omega, by omega⟩ : In64 (y1 : Int))
      have HLN := Lib.hid (⟨by omega, by omega⟩ : In64 (xs.length : Int))
      by_cases hlt : s < sig
      · have HSS := Lib.hid (⟨by omega, by omega⟩ : In64 (s : Int))
        have h1 := count_split xs s 0 y3 y1 (Nat.zero_le _) hle
        have h2 := count_split xs s 0 y1 xs.length (Nat.zero_le _) hYl
        replace h1 : countL xs 0 (y3 : Int) s + countL xs y3 y1 s = countL xs 0 (y1 : Int) s := h1
        replace h2 : countL xs 0 (y1 : Int) s + countL xs y1 xs.length s = countL xs 0 (xs.length : Int) s := h2
        have h3 := count_leW xs s 0 xs.length
        have hnx : allW xs y3 y1 (s + 1) = allW xs y3 y1 s + countL xs y3 y1 s := rfl
        obtain ⟨p0, hp0⟩ : ∃ z, countL xs 0 (y3 : Int) s = z := ⟨_, rfl⟩
        have HP0 := Lib.hid hp0
        obtain ⟨p1, hp1⟩ : ∃ z, countL xs y3 y1 s = z := ⟨_, rfl⟩
        have HP1 := Lib.hid hp1
        obtain ⟨p2, hp2⟩ : ∃ z, countL xs y1 xs.length s = z := ⟨_, rfl⟩
        have HP2 := Lib.hid hp2
        obtain ⟨p3, hp3⟩ : ∃ z, countL xs 0 (xs.length : Int) s = z := ⟨_, rfl⟩
        have HP3 := Lib.hid hp3
        obtain ⟨p4, hp4⟩ : ∃ z, countL xs 0 (y1 : Int) s = z := ⟨_, rfl⟩
        have HP4 := Lib.hid hp4
        rw [hp0, hp1, hp4] at h1
        rw [hp4, hp2, hp3] at h2
        rw [hp3] at h3
        rw [hp1] at hnx
        have HNX := Lib.hid hnx
        generalize allW xs y3 y1 s = al at *
        clear hp0 hp1 hp2 hp3 hp4 hnx
        have g1 : ((p0 : Int) + (p1 : Int) + (p2 : Int) == (p3 : Int)) = true := beq_iff_eq.2 (by omega)
        have g2 : ((p0 : Int) + (p1 : Int) + (p2 : Int) != (p3 : Int)) = false := by rw [bne, g1]; rfl
        have g3 : decide ((p1 : Int) < 0) = false := decide_eq_false (by omega)
        go_wp2_with fail
        refine (countAt S (y3 : Int) (y1 : Int) (s : Int) p1 HP1.out HX.out HY.out HSS.out H.out).mono ?_
        rintro e wz ⟨rfl, h⟩
        replace H := Lib.hid h
        clear h
        go_wp2_with fail
        refine (countAt S 0 (y3 : Int) (s : Int) p0 HP0.out H0.out HX.out HSS.out H.out).mono ?_
        rintro e wz ⟨rfl, h⟩
        replace H := Lib.hid h
        clear h
        go_wp2_with fail
        try simp only [List.append_eq, List.cons_append, List.nil_append] at *
        refine (countAt S (y1 : Int) (xs.length : Int) (s : Int) p2 HP2.out HY.out HLN.out HSS.out H.out).mono ?_
        rintro e wz ⟨rfl, h⟩
        replace H := Lib.hid h
        clear h
        go_wp2_with fail
        refine (rankAt S (xs.length : Int) (s : Int) p3 HP3.out HLN.out HSS.out H.out).mono ?_
        rintro e wz ⟨rfl, h⟩
        replace H := Lib.hid h
        clear h
        go_wp2
        go_roundw
        case rel => exact ⟨s + 1, by omega, by go_num, by rw [HNX.out]; go_num, H.out⟩
        case measure => simp [intOf]; omega
      · have g1 : decide (s < sig) = false := decide_eq_false hlt
        obtain rfl : s = sig := by omega
        rw [HALL.out y3 y1 hYl]
        obtain ⟨df, hdf⟩ : ∃ df, y1 - y3 = df := ⟨_, rfl⟩
        have e5 : (y1 : Int) - (y3 : Int) = (df : Int) := by omega
        rw [hdf]
        clear hal
        go_wp2
        go_loopw [18] (fun kv wi => ∃ k : Nat, y3 ≤ k ∧ k ≤ 100000 ∧ kv = .int .i64 k ∧ At E Is n w1.heap.size T w1 (.pointer (some p)) xs s wi) (fun kv _ => y1 - (intOf kv).toNat)
        case atStart => exact ⟨y3, Nat.le_refl _, by omega, rfl, H.out⟩
        case round =>
          obtain ⟨k, hxk, hkb, rfl, hA⟩ := hrel
          replace H := Lib.hid hA
          by_cases hky : k < y1
          · have hkl : k < xs.length := by omega
            obtain ⟨g, rfl, hg, hcell⟩ := HMD.out.cell k hkl
            obtain ⟨b, hb⟩ : ∃ b, xs.getD k 0 = b := ⟨_, rfl⟩
            have hc0 := hcell k hkl
            rw [hb] at hc0
            have HCW : Hid (∀ W, At E Is n w1.heap.size T w1 (.pointer (some p)) xs s W → W.cell? ⟨g, k, none⟩ = some (.int .i64 b)) := Lib.hid (fun W h => by rw [h.since.cell (p := ⟨g, k, none⟩) hg]; exact hc0)
            have HDW : Hid (∀ W, At E Is n w1.heap.size T w1 (.pointer (some p)) xs s W → At E Is n w1.heap.size T w1 (.pointer (some p)) xs s W.drew) := Lib.hid (fun W h => h.other S (Below.refl _ _).drew)
            have hn1 := nth_count xs y3 k y1 hxk hky hkl
            rw [hb] at hn1
            obtain ⟨ct, hct⟩ : ∃ ct, countL xs (y3 : Int) (k : Int) b = ct := ⟨_, rfl⟩
            have HCT := Lib.hid hct
            have hctb : ct ≤ xs.length := by rw [← hct]; exact count_leW xs b y3 k
            rw [hct] at hn1
            have HNT := Lib.hid hn1
            have hbs := may_at HM.out k hkl
            rw [hb] at hbs
            have HBB := Lib.hid (⟨by omega, by omega⟩ : In64 b)
            have HKK := Lib.hid (⟨by omega, by omega⟩ : In64 (k : Int))
            have HCC := Lib.hid (⟨by omega, by omega⟩ : In64 (ct : Int))
            have ik0 : (0 : Int) ≤ (k : Int) := by omega
            have ik1 : (k : Int) < (xs.length : Int) := by omega
            obtain ⟨d, hd⟩ : ∃ d : Nat, (df : Int) / 20 = (d : Int) := ⟨df / 20, by omega⟩
            have hd2 : d ≤ 15 := by omega
            have hc1 : wr.cell? ⟨g, k, none⟩ = some (.int .i64 b) := HCW.out _ hA
            clear hA hcell hb hc0 hn1 hct hbs
            go_wp2_with fail
            go_region_held3 (fun W => At E Is n w1.heap.size T w1 (.pointer (some p)) xs s W ∧ W.cell? ⟨g, k, none⟩ = some (.int .i64 b))
              (first | exact ⟨HDW.out _ H.out, HCW.out _ (HDW.out _ H.out)⟩ | exact ⟨H.out, HCW.out _ H.out⟩ | exact ⟨by assumption, HCW.out _ (by assumption)⟩ | assumption)
              (first | ((go_at_call 19; refine (countAt S (y3 : Int) (k : Int) b ct HCT.out HX.out HKK.out HBB.out (And.left ‹_ ∧ World.cell? _ _ = _›)).mono ?_; rintro e u ⟨rfl, hb'⟩)) | ((go_at_call 20; refine (nthAt S (y3 : Int) (y1 : Int) b (ct : Int) (k : Int) HNT.out HX.out HY.out HBB.out HCC.out (And.left ‹_ ∧ World.cell? _ _ = _›)).mono ?_; rintro e u ⟨rfl, hb'⟩)))
            all_goals (rename_i hh; replace H := Lib.hid hh.1; clear hh)
            all_goals go_wp2
            all_goals go_roundw
            all_goals first
              | (case rel => exact ⟨k + 1 + d, by omega, by omega, by go_num, H.out⟩)
              | skip
            all_goals (simp [intOf]; omega)
          · have g3 : decide (k < y1) = false := decide_eq_false hky
            clear hA
            go_wp2_with fail
            refine (told6_any S n _ (H.out.e S) (Nat.le_trans H.out.nb H.out.size)).mono ?_
            rintro e wz ⟨rfl, hb'⟩
            replace H := Lib.hid (H.out.other S hb')
            clear hb'
            go_wp2
            go_ret
            exact ⟨rfl, H.out.low HB.out (Nat.le_refl _)⟩
  · have i1 : decide (y3 < y1) = false := decide_eq_false hxy
    have hle : y1 ≤ y3 := by omega
    have hYl : y3 ≤ xs.length := by omega
    go_wp2
    go_loopw [15, 16] (fun sv iv wr => ∃ s : Nat, s ≤ sig ∧ iv = .int .i64 s ∧ sv = .int .i64 (allW xs y1 y3 s) ∧ At E Is n w1.heap.size T w1 (.pointer (some p)) xs sig wr) (fun _ iv _ => sig - (intOf iv).toNat)
    case atStart => exact ⟨0, Nat.zero_le _, rfl, rfl, H.out⟩
    case round =>
      obtain ⟨s, hss, rfl, rfl, hA⟩ := hrel
      replace H := Lib.hid hA
      clear hA
      have hal := allW_le xs y1 y3 s
      have H0 : Hid (In64 0) := Lib.hid (in64_small _)
      have HX := Lib.hid (⟨by omega, by omega⟩ : In64 (y1 : Int))
      have HY := Lib.hid (⟨by omega, by omega⟩ : In64 (y3 : Int))
      have HLN := Lib.hid (⟨by omega, by omega⟩ : In64 (xs.length : Int))
      by_cases hlt : s < sig
      · have HSS := Lib.hid (⟨by omega, by omega⟩ : In64 (s : Int))
        have h1 := count_split xs s 0 y1 y3 (Nat.zero_le _) hle
        have h2 := count_split xs s 0 y3 xs.length (Nat.zero_le _) hYl
        replace h1 : countL xs 0 (y1 : Int) s + countL xs y1 y3 s = countL xs 0 (y3 : Int) s := h1
        replace h2 : countL xs 0 (y3 : Int) s + countL xs y3 xs.length s = countL xs 0 (xs.length : Int) s := h2
        have h3 := count_leW xs s 0 xs.length
        have hnx : allW xs y1 y3 (s + 1) = allW xs y1 y3 s + countL xs y1 y3 s := rfl
        obtain ⟨p0, hp0⟩ : ∃ z, countL xs 0 (y1 : Int) s = z := ⟨_, rfl⟩
        have HP0 := Lib.hid hp0
        obtain ⟨p1, hp1⟩ : ∃ z, countL xs y1 y3 s = z := ⟨_, rfl⟩
        have HP1 := Lib.hid hp1
        obtain ⟨p2, hp2⟩ : ∃ z, countL xs y3 xs.length s = z := ⟨_, rfl⟩
        have HP2 := Lib.hid hp2
        obtain ⟨p3, hp3⟩ : ∃ z, countL xs 0 (xs.length : Int) s = z := ⟨_, rfl⟩
        have HP3 := Lib.hid hp3
        obtain ⟨p4, hp4⟩ : ∃ z, countL xs 0 (y3 : Int) s = z := ⟨_, rfl⟩
        have HP4 := Lib.hid hp4
        rw [hp0, hp1, hp4] at h1
        rw [hp4, hp2, hp3] at h2
        rw [hp3] at h3
        rw [hp1] at hnx
        have HNX := Lib.hid hnx
        generalize allW xs y1 y3 s = al at *
        clear hp0 hp1 hp2 hp3 hp4 hnx
        have g1 : ((p0 : Int) + (p1 : Int) + (p2 : Int) == (p3 : Int)) = true := beq_iff_eq.2 (by omega)
        have g2 : ((p0 : Int) + (p1 : Int) + (p2 : Int) != (p3 : Int)) = false := by rw [bne, g1]; rfl
        have g3 : decide ((p1 : Int) < 0) = false := decide_eq_false (by omega)
        go_wp2_with fail
        refine (countAt S (y1 : Int) (y3 : Int) (s : Int) p1 HP1.out HX.out HY.out HSS.out H.out).mono ?_
        rintro e wz ⟨rfl, h⟩
        replace H := Lib.hid h
        clear h
        go_wp2_with fail
        refine (countAt S 0 (y1 : Int) (s : Int) p0 HP0.out H0.out HX.out HSS.out H.out).mono ?_
        rintro e wz ⟨rfl, h⟩
        replace H := Lib.hid h
        clear h
        go_wp2_with fail
        try simp only [List.append_eq, List.cons_append, List.nil_append] at *
        refine (countAt S (y3 : Int) (xs.length : Int) (s : Int) p2 HP2.out HY.out HLN.out HSS.out H.out).mono ?_
        rintro e wz ⟨rfl, h⟩
        replace H := Lib.hid h
        clear h
        go_wp2_with fail
        refine (rankAt S (xs.length : Int) (s : Int) p3 HP3.out HLN.out HSS.out H.out).mono ?_
        rintro e wz ⟨rfl, h⟩
        replace H := Lib.hid h
        clear h
        go_wp2
        go_roundw
        case rel => exact ⟨s + 1, by omega, by go_num, by rw [HNX.out]; go_num, H.out⟩
        case measure => simp [intOf]; omega
      · have g1 : decide (s < sig) = false := decide_eq_false hlt
        obtain rfl : s = sig := by omega
        rw [HALL.out y1 y3 hYl]
        obtain ⟨df, hdf⟩ : ∃ df, y3 - y1 = df := ⟨_, rfl⟩
        have e5 : (y3 : Int) - (y1 : Int) = (df : Int) := by omega
        rw [hdf]
        clear hal
        go_wp2
        go_loopw [18] (fun kv wi => ∃ k : Nat, y1 ≤ k ∧ k ≤ 100000 ∧ kv = .int .i64 k ∧ At E Is n w1.heap.size T w1 (.pointer (some p)) xs s wi) (fun kv _ => y3 - (intOf kv).toNat)
        case atStart => exact ⟨y1, Nat.le_refl _, by omega, rfl, H.out⟩
        case round =>
          obtain ⟨k, hxk, hkb, rfl, hA⟩ := hrel
          replace H := Lib.hid hA
          by_cases hky : k < y3
          · have hkl : k < xs.length := by omega
            obtain ⟨g, rfl, hg, hcell⟩ := HMD.out.cell k hkl
            obtain ⟨b, hb⟩ : ∃ b, xs.getD k 0 = b := ⟨_, rfl⟩
            have hc0 := hcell k hkl
            rw [hb] at hc0
            have HCW : Hid (∀ W, At E Is n w1.heap.size T w1 (.pointer (some p)) xs s W → W.cell? ⟨g, k, none⟩ = some (.int .i64 b)) := Lib.hid (fun W h => by rw [h.since.cell (p := ⟨g, k, none⟩) hg]; exact hc0)
            have HDW : Hid (∀ W, At E Is n w1.heap.size T w1 (.pointer (some p)) xs s W → At E Is n w1.heap.size T w1 (.pointer (some p)) xs s W.drew) := Lib.hid (fun W h => h.other S (Below.refl _ _).drew)
            have hn1 := nth_count xs y1 k y3 hxk hky hkl
            rw [hb] at hn1
            obtain ⟨ct, hct⟩ : ∃ ct, countL xs (y1 : Int) (k : Int) b = ct := ⟨_, rfl⟩
            have HCT := Lib.hid hct
            have hctb : ct ≤ xs.length := by rw [← hct]; exact count_leW xs b y1 k
            rw [hct] at hn1
            have HNT := Lib.hid hn1
            have hbs := may_at HM.out k hkl
            rw [hb] at hbs
            have HBB := Lib.hid (⟨by omega, by omega⟩ : In64 b)
            have HKK := Lib.hid (⟨by omega, by omega⟩ : In64 (k : Int))
            have HCC := Lib.hid (⟨by omega, by omega⟩ : In64 (ct : Int))
            have ik0 : (0 : Int) ≤ (k : Int) := by omega
            have ik1 : (k : Int) < (xs.length : Int) := by omega
            obtain ⟨d, hd⟩ : ∃ d : Nat, (df : Int) / 20 = (d : Int) := ⟨df / 20, by omega⟩
            have hd2 : d ≤ 15 := by omega
            have hc1 : wr.cell? ⟨g, k, none⟩ = some (.int .i64 b) := HCW.out _ hA
            clear hA hcell hb hc0 hn1 hct hbs
            go_wp2_with fail
            go_region_held3 (fun W => At E Is n w1.heap.size T w1 (.pointer (some p)) xs s W ∧ W.cell? ⟨g, k, none⟩ = some (.int .i64 b))
              (first | exact ⟨HDW.out _ H.out, HCW.out _ (HDW.out _ H.out)⟩ | exact ⟨H.out, HCW.out _ H.out⟩ | exact ⟨by assumption, HCW.out _ (by assumption)⟩ | assumption)
              (first | ((go_at_call 19; refine (countAt S (y1 : Int) (k : Int) b ct HCT.out HX.out HKK.out HBB.out (And.left ‹_ ∧ World.cell? _ _ = _›)).mono ?_; rintro e u ⟨rfl, hb'⟩)) | ((go_at_call 20; refine (nthAt S (y1 : Int) (y3 : Int) b (ct : Int) (k : Int) HNT.out HX.out HY.out HBB.out HCC.out (And.left ‹_ ∧ World.cell? _ _ = _›)).mono ?_; rintro e u ⟨rfl, hb'⟩)))
            all_goals (rename_i hh; replace H := Lib.hid hh.1; clear hh)
            all_goals go_wp2
            all_goals go_roundw
            all_goals first
              | (case rel => exact ⟨k + 1 + d, by omega, by omega, by go_num, H.out⟩)
              | skip
            all_goals (simp [intOf]; omega)
          · have g3 : decide (k < y3) = false := decide_eq_false hky
            clear hA
            go_wp2_with fail
            refine (told6_any S n _ (H.out.e S) (Nat.le_trans H.out.nb H.out.size)).mono ?_
            rintro e wz ⟨rfl, hb'⟩
            replace H := Lib.hid (H.out.other S hb')
            clear hb'
            go_wp2
            go_ret
            exact ⟨rfl, H.out.low HB.out (Nat.le_refl _)⟩
end Go.Proofs.Ytnjlckgmoodkiaa
