/-
  LAYER 6: brackenlaw6.WaveSelects, out of WavSaid: true for any symbols, any sigma. (Written by gen_wsel.py.)
-/
import Derived.Test.YtnjlckgmoodkiaaWavArg
import Derived.Deep.QuietTactic
import Derived.BigQuiet
namespace Go.Proofs.Ytnjlckgmoodkiaa
open Go.RowKit

set_option maxHeartbeats 20000000 in
set_option maxRecDepth 100000 in
theorem wsel_any {E : Nat → World → Prop} {Is : Nat → Nat → World → Value → List Int → Int → Prop} (S : WavSaid E Is) (n : Nat) (l : Value) (sg : Int) (w : World) (hE : E n w) (hn : n ≤ w.heap.size) (hl : SymArg w l) :
    Calls Try.prog 7 #[l, .int .i64 sg] w fun e w' => e = .returned (.bool true) ∧ Below w.heap.size w w' := by
  have HE0 := Lib.hid hE
  have HN0 := Lib.hid hn
  have HL := Lib.hid hl
  obtain ⟨u0, x0, hu1, hu2, hu3, hx1, hx2⟩ := wrap_mod sg 100 (by decide) (by decide)
  replace hu2 : Int.tmod (u0 : Int) 100 = (x0 : Int) := hu2
  obtain ⟨sig, hsig⟩ : ∃ sig : Nat, 1 + x0 = sig := ⟨_, rfl⟩
  have e0 : (1 : Int) + (x0 : Int) = (sig : Int) := by rw [← hsig]; omega
  have hs1 : 1 ≤ sig := by omega
  have hs300 : sig ≤ 100 := by omega
  clear hE hn hl hsig hu3
  go_enter Try.func7, Try.ntmps7
  go_wp2_with fail
  try rw [e0]
  refine (wavRow_any l sig 300 w HL.out hs1 (by omega) (by decide)).mono ?_
  rintro e w1 ⟨a, cap, xs, rfl, hm⟩
  have hlb : xs.length ≤ 1048576 := by have := hm.few; omega
  have hl3 : xs.length ≤ 300 := hm.few
  have HB := Lib.hid hm.since
  have HM := Lib.hid (hm.may hs1 (by omega))
  have HR := Lib.hid hm.row
  have HMD := Lib.hid hm
  have HE := Lib.hid (S.stay n w w1 HE0.out (hm.since.mono HN0.out))
  have HN := Lib.hid (Nat.le_trans HN0.out hm.since.size)
  have HSG : Hid (1 ≤ sig ∧ sig ≤ 1048576) := Lib.hid ⟨hs1, by omega⟩
  clear HL HE0 HN0 hm hu1 hu2 hx1 hx2
  go_wp2_with fail
  refine (newAt S _ HE.out HN.out hlb HR.out HM.out).mono ?_
  rintro e wa ⟨p, T, rfl, h⟩
  have H := Lib.hid h
  clear h
  go_wp2
  go_loopw [9] (fun iv wr => ∃ i : Nat, i ≤ xs.length ∧ iv = .int .i64 i ∧ At E Is n w1.heap.size T w1 (.pointer (some p)) xs sig wr) (fun iv _ => xs.length - (intOf iv).toNat)
  case atStart => exact ⟨0, Nat.zero_le _, rfl, H.out⟩
  case round =>
    obtain ⟨i, hi, rfl, hA⟩ := hrel
    replace H := Lib.hid hA
    clear hA
    by_cases hlt : i < xs.length
    · obtain ⟨g, rfl, hg, hcell⟩ := HMD.out.cell i hlt
      obtain ⟨b, hb⟩ : ∃ b, xs.getD i 0 = b := ⟨_, rfl⟩
      have HC : Hid (w1.cell? ⟨g, i, none⟩ = some (.int .i64 b)) := Lib.hid (by rw [← hb]; exact hcell i hlt)
      have HX := Lib.hid ((getW_at xs i hlt).trans hb)
      have HXE := Lib.hid (getWE_at xs i hlt)
      obtain ⟨r, hr⟩ : ∃ r, countL xs 0 (i : Int) b = r := ⟨_, rfl⟩
      have HRK := Lib.hid hr
      have hr3 : r ≤ xs.length := by rw [← hr]; exact count_leW xs b 0 i
      have h0 := nth_count xs 0 i xs.length (Nat.zero_le _) hlt hlt
      have h1 := nth_count xs i i xs.length (Nat.le_refl _) hlt hlt
      rw [count_same] at h1
      rw [hb] at h0 h1
      replace h0 : nthL xs 0 xs.length b (countL xs 0 (i : Int) b) = (i : Int) := h0
      rw [hr] at h0
      have HS0 := Lib.hid h0
      have HS1 : Hid (nthL xs (i : Int) xs.length b 0 = (i : Int)) := Lib.hid h1
      obtain ⟨q, hq⟩ : ∃ q, nthL xs ((i : Int) + 1) xs.length b 0 = q := ⟨_, rfl⟩
      have HS2 := Lib.hid hq
      have q1 : (q == (i : Int)) = false := beq_eq_false_iff_ne.2 (by rw [← hq]; exact nth_after xs i xs.length b 0)
      have hbs := may_at HM.out i hlt
      rw [hb] at hbs
      have HI := Lib.hid (⟨by omega, by omega⟩ : In64 (i : Int))
      have HI1 := Lib.hid (⟨by omega, by omega⟩ : In64 ((i : Int) + 1))
      have HBB := Lib.hid (⟨by omega, by omega⟩ : In64 b)
      have HRR := Lib.hid (⟨by omega, by omega⟩ : In64 (r : Int))
      have HLN := Lib.hid (⟨by omega, by omega⟩ : In64 (xs.length : Int))
      have H0 : Hid (In64 0) := Lib.hid (in64_small _)
      clear hcell hb hr h0 h1 hq hbs
      go_wp2_with fail
      refine (getAt S (i : Int) b 0 HX.out HXE.out HI.out H.out).mono ?_
      rintro e wz ⟨rfl, h⟩
      replace H := Lib.hid h
      clear h
      have hcell : wz.cell? ⟨g, i, none⟩ = some (.int .i64 b) := by rw [H.out.since.cell (p := ⟨g, i, none⟩) hg]; exact HC.out
      go_wp2_with fail
      refine (rankAt S (i : Int) b r HRK.out HI.out HBB.out H.out).mono ?_
      rintro e wz ⟨rfl, h⟩
      replace H := Lib.hid h
      clear h
      clear hcell
      have hcell : wz.cell? ⟨g, i, none⟩ = some (.int .i64 b) := by rw [H.out.since.cell (p := ⟨g, i, none⟩) hg]; exact HC.out
      go_wp2_with fail
      try simp only [List.append_eq, List.cons_append, List.nil_append] at *
      refine (selectAt S (r : Int) b (i : Int) HS0.out HRR.out HBB.out H.out).mono ?_
      rintro e wz ⟨rfl, h⟩
      replace H := Lib.hid h
      clear h
      clear hcell
      go_wp2_with fail
      refine (nthAt S 0 xs.length b (r : Int) (i : Int) HS0.out H0.out HLN.out HBB.out HRR.out H.out).mono ?_
      rintro e wz ⟨rfl, h⟩
      replace H := Lib.hid h
      clear h
      go_wp2_with fail
      refine (nthAt S (i : Int) xs.length b 0 (i : Int) HS1.out HI.out HLN.out HBB.out H0.out H.out).mono ?_
      rintro e wz ⟨rfl, h⟩
      replace H := Lib.hid h
      clear h
      go_wp2_with fail
      refine (nthAt S ((i : Int) + 1) xs.length b 0 q HS2.out HI1.out HLN.out HBB.out H0.out H.out).mono ?_
      rintro e wz ⟨rfl, h⟩
      replace H := Lib.hid h
      clear h
      go_wp2
      go_roundw
      case rel => exact ⟨i + 1, by omega, by go_num, H.out⟩
      case measure => simp [intOf]; omega
    · have i1 : decide (i < xs.length) = false := decide_eq_false hlt
      go_wp2_with fail
      refine (told6_any S n _ (H.out.e S) (Nat.le_trans H.out.nb H.out.size)).mono ?_
      rintro e wz ⟨rfl, hb'⟩
      replace H := Lib.hid (H.out.other S hb')
      clear hb'
      go_wp2_with fail
      refine (lenAt S xs.length rfl H.out).mono ?_
      rintro e wz ⟨rfl, h⟩
      replace H := Lib.hid h
      clear h
      go_wp2
      go_ret
      exact ⟨rfl, H.out.low HB.out (Nat.le_refl _)⟩
end Go.Proofs.Ytnjlckgmoodkiaa
