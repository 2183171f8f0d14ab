/-
  LAYER 7: brackenlaw7.OffsAsks, out of OffSaid: true for any numbers, any place. (Written by gen_oasks.py.)
-/
import Derived.Test.YtcgglpjapkjphaaOffTold
import Derived.Test.YtcgglpjapkjphaaSymArg
namespace Go.Proofs.Ytcgglpjapkjphaa
open Go.RowKit

set_option maxHeartbeats 1000000 in
set_option maxRecDepth 100000 in
theorem oasks_long {E : World → Prop} {Is : Nat → World → Value → List Int → Prop} (S : OffSaid E Is) (a : Option Addr) (len cap : Nat) (k : Int) (w : World) (hE : E w) (hl : 100 < len) :
    Calls Try.prog 3 #[.slice a len cap, .int .i64 k] w fun e w' => e = .returned (.bool true) ∧ Below w.heap.size w w' := by
  have C := Lib.hid (told7_any S w hE)
  clear hE
  have g : decide ((100 : Int) < (len : Int)) = true := decide_eq_true (by omega)
  have g2 : decide (100 < len) = true := decide_eq_true hl
  go_enter Try.func3, Try.ntmps3
  go_wp2_with fail
  refine C.out.mono ?_
  rintro e w1 ⟨rfl, hb⟩
  go_wp2
  go_ret
  exact ⟨rfl, hb⟩
set_option maxHeartbeats 2000000 in
set_option maxRecDepth 100000 in
theorem oasks_no {E : World → Prop} {Is : Nat → World → Value → List Int → Prop} (S : OffSaid E Is) (a : Option Addr) (cap : Nat) (xs : List Int) (k : Int) (w : World) (hE : E w) (hl : xs.length ≤ 100) (hx : ∀ z ∈ xs, In64 z) (hr : SymOK w (.slice a xs.length cap) xs) (hm : mayOffs xs = false) :
    Calls Try.prog 3 #[.slice a xs.length cap, .int .i64 k] w fun e w' => e = .returned (.bool true) ∧ Below w.heap.size w w' := by
  have HE := Lib.hid hE
  have HR := Lib.hid hr
  have HX := Lib.hid hx
  have HM := Lib.hid hm
  have g : decide ((100 : Int) < (xs.length : Int)) = false := decide_eq_false (by omega)
  have g2 : decide (100 < xs.length) = false := decide_eq_false (by omega)
  clear hE hr hx hm
  go_enter Try.func3, Try.ntmps3
  go_wp2_with fail
  refine (S.newNo _ xs w HE.out (by omega) HX.out HR.out HM.out).mono ?_
  rintro e w1 ⟨rfl, hb1⟩
  have HB := Lib.hid hb1
  clear hb1
  go_wp2_with fail
  refine (refMayO_any _ _ xs w1 (by omega) (HR.out.below HB.out).1).mono ?_
  rw [HM.out]
  rintro e w2 ⟨rfl, rfl⟩
  go_wp2_with fail
  refine (told7_any S w1 (S.below _ _ HE.out HB.out)).mono ?_
  rintro e w2 ⟨rfl, hb2⟩
  go_wp2
  go_ret
  exact ⟨rfl, step_below7 HB.out hb2⟩

set_option maxHeartbeats 8000000 in
set_option maxRecDepth 100000 in
theorem oasks_any {E : World → Prop} {Is : Nat → World → Value → List Int → Prop} (S : OffSaid E Is) (a : Option Addr) (cap : Nat) (xs : List Int) (k : Int) (w : World) (hE : E w) (hl : xs.length ≤ 100) (hk : In64 k) (hr : SymOK w (.slice a xs.length cap) xs) (hm : mayOffs xs = true) :
    Calls Try.prog 3 #[.slice a xs.length cap, .int .i64 k] w fun e w' => e = .returned (.bool true) ∧ Below w.heap.size w w' := by
  have HE := Lib.hid hE
  have HR := Lib.hid hr
  have HM := Lib.hid hm
  have HK := Lib.hid hk
  have g : decide ((100 : Int) < (xs.length : Int)) = false := decide_eq_false (by omega)
  have g2 : decide (100 < xs.length) = false := decide_eq_false (by omega)
  have hlb : xs.length ≤ 1048576 := by omega
  have hl63 : xs.length ≤ 9223372036854775807 := by omega
  obtain ⟨lw, hlw⟩ : ∃ lw, lowN xs = lw := ⟨_, rfl⟩
  have HLW := Lib.hid hlw
  obtain ⟨sz, hsz⟩ : ∃ sz, offsN xs = sz := ⟨_, rfl⟩
  have HSZ := Lib.hid hsz
  clear hE hr hm hlw hsz
  go_enter Try.func3, Try.ntmps3
  go_wp2_with fail
  refine (onewAt S _ HE.out hlb HR.out HM.out (Below.refl _ _)).mono ?_
  rintro e wa ⟨p, rfl, h, _⟩
  have H := Lib.hid h
  clear h
  go_wp2_with fail
  refine (refMayO_any _ _ xs _ hl63 (HR.out.below H.out.since).1).mono ?_
  rw [HM.out]
  rintro e w2 ⟨rfl, rfl⟩
  go_wp2_with fail
  refine (olenAt S xs.length rfl H.out).mono ?_
  rintro e wz ⟨rfl, h⟩
  replace H := Lib.hid h
  clear h
  go_wp2_with fail
  refine (olowAt S lw HLW.out H.out).mono ?_
  rintro e wz ⟨rfl, h⟩
  replace H := Lib.hid h
  clear h
  go_wp2_with fail
  refine (refLow_any _ _ xs _ (Nat.le_trans hlb (by decide)) HM.out (HR.out.below H.out.since).1).mono ?_
  rw [HLW.out]
  rintro e w2 ⟨rfl, rfl⟩
  go_wp2_with fail
  try simp only [List.append_eq, List.cons_append, List.nil_append] at *
  refine (osizeAt S sz HSZ.out H.out).mono ?_
  rintro e wz ⟨rfl, h⟩
  replace H := Lib.hid h
  clear h
  go_wp2_with fail
  refine (refOffsSize_any _ _ xs _ (Nat.le_trans hlb (by decide)) HM.out (HR.out.below H.out.since).1).mono ?_
  rw [HSZ.out]
  rintro e w2 ⟨rfl, nd, rfl⟩
  replace H := Lib.hid (H.out.other S ((Below.refl wz.heap.size wz).trans ⟨rfl, rfl, rfl, Nat.le_refl _, fun _ _ => rfl⟩ : Below wz.heap.size wz (wz.drewN nd)))
  go_wp2
  go_loopw [7] (fun iv wr => ∃ i : Nat, i ≤ xs.length ∧ iv = .int .i64 i ∧ OAt E Is w.heap.size w (.pointer (some p)) xs wr) (fun iv _ => xs.length - (intOf iv).toNat)
  case atStart => exact ⟨0, Nat.zero_le _, rfl, H.out⟩
  case round =>
    obtain ⟨i, hi, rfl, hA⟩ := hrel
    replace H := Lib.hid hA
    clear hA
    by_cases hlt : i < xs.length
    · obtain ⟨g', off, rfl, hg, hcell⟩ := HR.out.cell i hlt
      obtain ⟨b, hb⟩ : ∃ b, xs.getD i 0 = b := ⟨_, rfl⟩
      have HC : Hid (w.cell? ⟨g', off + i, none⟩ = some (.int .i64 b)) := Lib.hid (by rw [← hb]; exact hcell i hlt)
      have HX := Lib.hid ((getW_at xs i hlt).trans hb)
      have HXE := Lib.hid (getWE_at xs i hlt)
      have HI := Lib.hid (⟨by omega, by omega⟩ : In64 (i : Int))
      clear hcell hb
      go_wp2_with fail
      refine (ogetAt S (i : Int) b 0 HX.out HXE.out HI.out H.out).mono ?_
      rintro e wz ⟨rfl, h⟩
      replace H := Lib.hid h
      clear h
      have hcell : wz.cell? ⟨g', off + i, none⟩ = some (.int .i64 b) := by rw [H.out.since.cell (p := ⟨g', off + i, none⟩) hg]; exact HC.out
      by_cases hz : i = 0
      · subst hz
        rw [Nat.add_zero] at hcell
        go_wp2
        go_roundw
        case rel => exact ⟨0 + 1, by omega, by go_num, H.out⟩
        case measure => simp [intOf]; omega
      · go_wp2
        go_roundw
        case rel => exact ⟨i + 1, by omega, by go_num, H.out⟩
        case measure => simp [intOf]; omega
    · have i0 : decide (i < xs.length) = false := decide_eq_false hlt
      by_cases hin : 0 ≤ k ∧ k < xs.length
      · obtain ⟨x, hx⟩ : ∃ x, getW xs k = x := ⟨_, rfl⟩
        have HX := Lib.hid hx
        have HXE : Hid (getWE xs k = 0) := Lib.hid (by unfold getWE; rw [if_pos hin])
        have i1 : decide ((0 : Int) ≤ k) = true := decide_eq_true hin.1
        have i2 : decide (k < (xs.length : Int)) = true := decide_eq_true hin.2
        clear hx
        go_wp2_with fail
        refine (ogetAt S k x 0 HX.out HXE.out HK.out H.out).mono ?_
        rintro e wz ⟨rfl, h⟩
        replace H := Lib.hid h
        clear h
        go_wp2_with fail
        refine (told7_any S _ H.out.e).mono ?_
        rintro e wz ⟨rfl, hb'⟩
        replace H := Lib.hid (H.out.other S hb')
        clear hb'
        go_wp2
        go_ret
        exact ⟨rfl, H.out.since⟩
      · have HX := Lib.hid (getW_out xs k hin)
        have HXE := Lib.hid (getWE_out xs k hin)
        by_cases h0 : 0 ≤ k
        · have i1 : decide ((0 : Int) ≤ k) = true := decide_eq_true h0
          have i2 : decide (k < (xs.length : Int)) = false := decide_eq_false (by omega)
          go_wp2_with fail
          refine (ogetAt S k 0 4 HX.out HXE.out HK.out H.out).mono ?_
          rintro e wz ⟨rfl, h⟩
          replace H := Lib.hid h
          clear h
          go_wp2_with fail
          refine (told7_any S _ H.out.e).mono ?_
          rintro e wz ⟨rfl, hb'⟩
          replace H := Lib.hid (H.out.other S hb')
          clear hb'
          go_wp2
          go_ret
          exact ⟨rfl, H.out.since⟩
        · have i1 : decide ((0 : Int) ≤ k) = false := decide_eq_false h0
          go_wp2_with fail
          refine (ogetAt S k 0 4 HX.out HXE.out HK.out H.out).mono ?_
          rintro e wz ⟨rfl, h⟩
          replace H := Lib.hid h
          clear h
          go_wp2_with fail
          refine (told7_any S _ H.out.e).mono ?_
          rintro e wz ⟨rfl, hb'⟩
          replace H := Lib.hid (H.out.other S hb')
          clear hb'
          go_wp2
          go_ret
          exact ⟨rfl, H.out.since⟩
theorem oasks_law {E : World → Prop} {Is : Nat → World → Value → List Int → Prop} (S : OffSaid E Is) (v : Value) (k : Int) (w : World) (hE : E w) (hk : In64 k) (hv : SymArg w v) :
    Calls Try.prog 3 #[v, .int .i64 k] w fun e w' => e = .returned (.bool true) ∧ Below w.heap.size w w' := by
  obtain ⟨a, cap, xs, rfl, h, hx, _⟩ := hv
  by_cases h2 : xs.length ≤ 100
  · obtain ⟨m, hm⟩ : ∃ m, mayOffs xs = m := ⟨_, rfl⟩
    cases m
    · exact oasks_no S a cap xs k w hE h2 hx h hm
    · exact oasks_any S a cap xs k w hE h2 hk h hm
  · exact oasks_long S a xs.length cap k w hE (by omega)
end Go.Proofs.Ytcgglpjapkjphaa
