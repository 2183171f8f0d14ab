/-
  LAYER 6: brackenlaw6.WaveOne, out of WavSaid: true for any number of one symbol, any sigma. (Written by gen_wone.py.)
-/
import Derived.Test.YtnjlckgmoodkiaaWavArg
import Derived.Deep.OwnRows
import Derived.RegionTactic
import Derived.BigRegion
import Derived.Deep.QuietTactic
import Derived.BigQuiet
namespace Go.Proofs.Ytnjlckgmoodkiaa
open Go.RowKit

theorem make_ints (n : Nat) (h : n ≤ 4294967296) (w : World) :
    (Instr.makeSlice 22 (.int .i64 (n : Int)) (.int .i64 (n : Int))).run Try.prog w = .ok (.slice (some ⟨w.heap.size, 0, none⟩) n n) (w.alloc (.cells (madeCells #[.int .i64 0] n) 3)) :=
  run_make_row' 22 3 (.int .i64 0) 8 Try.underlying22 info_int rfl .i64 .i64 n (by omega) (by omega) w
theorem symOK_row {w : World} {b k : Nat} {c : Int} (h : w.rowIs b 3 k (fun _ => .int .i64 c)) : SymOK w (.slice (some ⟨b, 0, none⟩) k k) (List.replicate k c) := by
  refine ⟨Or.inr ⟨b, 0, k, by rw [List.length_replicate], h.lt, fun i hi => ?_⟩, _, k, by rw [List.length_replicate], by rw [List.length_replicate]; exact Nat.le_refl _⟩
  rw [List.length_replicate] at hi
  rw [Nat.zero_add, h.cell hi]
  simp [List.getD, hi]

set_option maxHeartbeats 20000000 in
set_option maxRecDepth 100000 in
theorem wone_any {E : Nat → World → Prop} {Is : Nat → Nat → World → Value → List Int → Int → Prop} (S : WavSaid E Is) (n : Nat) (n0 sg s0 : Int) (w : World) (hE : E n w) (hn : n ≤ w.heap.size) :
    Calls Try.prog 6 #[.int .i64 n0, .int .i64 sg, .int .i64 s0] w fun e w' => e = .returned (.bool true) ∧ Below w.heap.size w w' := by
  have HE0 := Lib.hid hE
  have HN0 := Lib.hid hn
  obtain ⟨u1, k, hk1, hk2, hk301, hk3, hk4⟩ := wrap_mod n0 301 (by decide) (by decide)
  replace hk2 : Int.tmod (u1 : Int) 301 = (k : Int) := hk2
  obtain ⟨u0, x0, hu1, hu2, hu3, hx1, hx2⟩ := wrap_mod sg 200 (by decide) (by decide)
  replace hu2 : Int.tmod (u0 : Int) 200 = (x0 : Int) := hu2
  obtain ⟨sig, hsig⟩ : ∃ sig : Nat, 1 + x0 = sig := ⟨_, rfl⟩
  have e0 : (1 : Int) + (x0 : Int) = (sig : Int) := by rw [← hsig]; omega
  have hs1 : 1 ≤ sig := by omega
  have hs200 : sig ≤ 200 := by omega
  obtain ⟨u2, c, hc1, hc2, hc3, hcs, hc4, hc5, hc6, hc7⟩ := wrap_mod3 s0 sig (by omega) (by omega)
  have hmk := make_ints k (by omega) w
  have hb0 : Below w.heap.size w (w.alloc (.cells (madeCells #[.int .i64 0] k) 3)) := (Below.refl w.heap.size w).alloc (Nat.le_refl _) _
  have hr0 := World.rowIs_made w (.int .i64 0) k 3
  clear hE hn hsig hu3
  go_enter Try.func6, Try.ntmps6
  go_wp2
  go_loopw [11] (fun iv wr => ∃ i : Nat, i ≤ k ∧ iv = .int .i64 i ∧ Below w.heap.size w wr ∧ wr.rowIs w.heap.size 3 k (fun j => if j < i then .int .i64 c else .int .i64 0)) (fun iv _ => k - (intOf iv).toNat)
  case atStart => exact ⟨0, Nat.zero_le _, rfl, hb0, hr0.congr fun j _ => by rw [if_neg (by omega)]⟩
  case round =>
    obtain ⟨i, hi, rfl, hb, hr⟩ := hrel
    clear hmk hb0 hr0 hu1 hu2 hx1 hx2 hk1 hk2 hk3 hk4 hc1 hc2 hc3 hc4 hc5 hc6 hc7
    by_cases hik : i < k
    · have hf := World.rowIs.frozen hr i
      have hcell := World.rowIs.cell hr hik
      rw [if_neg (by omega)] at hcell
      go_wp2
      go_roundw
      case rel =>
        refine ⟨i + 1, by omega, by go_num, hb.setCell (Nat.le_refl _) _, World.rowIs.congr (hr.set i _) fun j _ => ?_⟩
        by_cases e : j = i
        · rw [if_pos e, if_pos (by omega)]
        · rw [if_neg e]
          by_cases e2 : j < i
          · rw [if_pos e2, if_pos (by omega)]
          · rw [if_neg e2, if_neg (by omega)]
      case measure => simp [intOf]; omega
    · have i1 : decide (i < k) = false := decide_eq_false hik
      have HR := Lib.hid (symOK_row (World.rowIs.congr hr (g := fun _ => .int .i64 c) fun j hj => by rw [if_pos (by omega)]))
      have hxl : (List.replicate k (c : Int)).length = k := List.length_replicate
      have HM := Lib.hid (may_ofW (xs := List.replicate k (c : Int)) (sigma := sig) (fun x hx => by rw [(List.mem_replicate.1 hx).2]; omega) (by omega) (by omega))
      have HCT := Lib.hid (fun a b h1 h2 => one_count k c a b h1 h2)
      have HGD := Lib.hid (fun j (hj : j < k) => show (List.replicate k (c : Int)).getD j 0 = c by simp [List.getD, hj])
      have HB := Lib.hid hb
      have HE := Lib.hid (S.stay n w wr HE0.out (hb.mono HN0.out))
      have HN := Lib.hid (Nat.le_trans HN0.out hb.size)
      have HSG : Hid (1 ≤ sig ∧ sig ≤ 1048576) := Lib.hid ⟨hs1, by omega⟩
      generalize List.replicate k (c : Int) = xs at *
      have HXL := Lib.hid hxl
      clear hr hb HE0 HN0 hxl
      go_wp2_with fail
      refine (newAt S _ HE.out HN.out (by rw [HXL.out]; omega) HR.out HM.out).mono ?_
      rintro e wa ⟨p, T, rfl, h⟩
      have H := Lib.hid h
      clear h
      have H0 : Hid (In64 0) := Lib.hid (in64_small _)
      have HCC := Lib.hid (⟨by omega, by omega⟩ : In64 (c : Int))
      have HKK := Lib.hid (⟨by omega, by omega⟩ : In64 (k : Int))
      go_wp2
      go_loopw [14] (fun iv wi => ∃ i : Nat, iv = .int .i64 i ∧ i ≤ 1000 ∧ At E Is n wr.heap.size T wr (.pointer (some p)) xs sig wi) (fun iv _ => k - (intOf iv).toNat)
      case atStart => exact ⟨0, rfl, by omega, H.out⟩
      case round =>
        clear i1 hik hi
        obtain ⟨i, rfl, hi2, hA⟩ := hrel
        replace H := Lib.hid hA
        clear hA
        by_cases hik : i < k
        · have HII := Lib.hid (⟨by omega, by omega⟩ : In64 (i : Int))
          have HRK : Hid (countL xs 0 (i : Int) c = i) := Lib.hid (by
            have := HCT.out 0 i (Nat.zero_le _) (by omega)
            rw [Nat.sub_zero] at this
            exact this)
          have HSE : Hid (nthL xs 0 xs.length c (i : Int) = (i : Int)) := Lib.hid (by
            have := nth_count xs 0 i xs.length (Nat.zero_le _) (by rw [HXL.out]; exact hik) (by rw [HXL.out]; exact hik)
            rw [HGD.out i hik] at this
            replace this : nthL xs 0 xs.length c (countL xs 0 (i : Int) c : Nat) = (i : Int) := this
            rw [HRK.out] at this
            exact this)
          have HNT : Hid (nthL xs (i : Int) (k : Int) c 0 = (i : Int)) := Lib.hid (by
            have := nth_count xs i i k (Nat.le_refl _) hik (by rw [HXL.out]; exact hik)
            rw [HGD.out i hik, count_same] at this
            exact this)
          obtain ⟨d, hd⟩ : ∃ d : Nat, (k : Int) / 20 = (d : Int) := ⟨k / 20, by omega⟩
          have hd2 : d ≤ 15 := by omega
          go_wp2_with fail
          refine (rankAt S (i : Int) c i HRK.out HII.out HCC.out H.out).mono ?_
          rintro e wz ⟨rfl, h⟩
          replace H := Lib.hid h
          clear h
          go_wp2_with fail
          try simp only [List.append_eq, List.cons_append, List.nil_append] at *
          refine (selectAt S (i : Int) c (i : Int) HSE.out HII.out HCC.out H.out).mono ?_
          rintro e wz ⟨rfl, h⟩
          replace H := Lib.hid h
          clear h
          go_wp2_with fail
          refine (nthAt S (i : Int) k c 0 (i : Int) HNT.out HII.out HKK.out HCC.out H0.out H.out).mono ?_
          rintro e wz ⟨rfl, h⟩
          replace H := Lib.hid h
          clear h
          go_wp2_with fail
          refine (countAt S 0 (i : Int) c i HRK.out H0.out HII.out HCC.out H.out).mono ?_
          rintro e wz ⟨rfl, h⟩
          replace H := Lib.hid h
          clear h
          go_wp2
          go_roundw
          case rel => exact ⟨i + 1 + d, by go_num, by omega, H.out⟩
          case measure => simp [intOf]; omega
        · have i2 : decide (i < k) = false := decide_eq_false hik
          have HRK : Hid (countL xs 0 (k : Int) c = k) := Lib.hid (by
            have := HCT.out 0 k (Nat.zero_le _) (Nat.le_refl _)
            rw [Nat.sub_zero] at this
            exact this)
          have HSE : Hid (nthL xs 0 xs.length c (k : Int) = -1) := Lib.hid (nth_many xs 0 xs.length c k (by rw [HXL.out, HRK.out]; exact Int.le_refl _))
          go_wp2_with fail
          refine (told6_any S n _ (H.out.e S) (Nat.le_trans H.out.nb H.out.size)).mono ?_
          rintro e wz ⟨rfl, hb'⟩
          replace H := Lib.hid (H.out.other S hb')
          clear hb'
          go_wp2_with fail
          try simp only [List.append_eq, List.cons_append, List.nil_append] at *
          refine (rankAt S (k : Int) c k HRK.out HKK.out HCC.out H.out).mono ?_
          rintro e wz ⟨rfl, h⟩
          replace H := Lib.hid h
          clear h
          go_wp2_with fail
          try simp only [List.append_eq, List.cons_append, List.nil_append] at *
          refine (selectAt S (k : Int) c (-1) HSE.out HKK.out HCC.out H.out).mono ?_
          rintro e wz ⟨rfl, h⟩
          replace H := Lib.hid h
          clear h
          by_cases hm1 : 1 < sig
          · have g1 : decide (1 < sig) = true := decide_eq_true hm1
            have g2 : decide ((1 : Int) < (sig : Int)) = true := decide_eq_true (by omega)
            go_wp2
            go_ret
            exact ⟨rfl, H.out.low HB.out (Nat.le_refl _)⟩
          · have g1 : decide (1 < sig) = false := decide_eq_false hm1
            have g2 : decide ((1 : Int) < (sig : Int)) = false := decide_eq_false (by omega)
            have HZ : Hid (waveN xs.length (sig : Int) = 0) := Lib.hid (by
              obtain rfl : sig = 1 := by omega
              unfold waveN levelsN
              rw [show (((1 : Nat) : Int) - 1).toNat = 0 by decide, widthN_zero, Nat.zero_mul])
            go_wp2_with fail
            refine (sizeAt S 0 HZ.out H.out).mono ?_
            rintro e wz ⟨rfl, h⟩
            replace H := Lib.hid h
            clear h
            go_wp2
            go_ret
            exact ⟨rfl, H.out.low HB.out (Nat.le_refl _)⟩
end Go.Proofs.Ytnjlckgmoodkiaa
