/-
  LAYER 7: brackenlaw7.OffsLow, out of OffSaid: true for any steps. (Written by gen_orise.py.)
-/
import Derived.Test.YtcgglpjapkjphaaOffTold
import Derived.Test.YtcgglpjapkjphaaOwnSyms
import Derived.Test.YtcgglpjapkjphaaSymArg
import Derived.IntWalk
namespace Go.Proofs.Ytcgglpjapkjphaa
open Go.RowKit

set_option maxHeartbeats 20000000 in
set_option maxRecDepth 100000 in
theorem olow_any {E : World → Prop} {Is : Nat → World → Value → List Int → Prop} (S : OffSaid E Is) (v : Value) (w : World) (hE : E w) (hv : SymArg w v) :
    Calls Try.prog 5 #[v] w fun e w' => e = .returned (.bool true) ∧ Below w.heap.size w w' := by
  obtain ⟨a, cap, zs, rfl, hr, _, hz63⟩ := hv
  have HE := Lib.hid hE
  have HR := Lib.hid hr
  obtain ⟨i0, hi, hz0, hz1, hz2⟩ := info_parts info_int
  clear hE hr
  go_enter Try.func5, Try.ntmps5
  go_wp2
  go_loopw [3, 4, 5] (fun v tv iv wr => ∃ (i t : Nat) (xs : List Int) (p : Option Addr) (c : Nat), i ≤ zs.length ∧ i ≤ 150 ∧ iv = .int .i64 i ∧ tv = .int .i64 t ∧ t ≤ 10000 * i ∧ v = .slice p xs.length c ∧ Hid (xs.length = i) ∧ Hid (Rise 0 xs t) ∧ OwnI wr w.heap.size v xs ∧ Below w.heap.size w wr) (fun _ _ iv _ => zs.length - (intOf iv).toNat)
  case atStart => exact ⟨0, 0, [], none, 0, Nat.zero_le _, Nat.zero_le _, rfl, rfl, by omega, rfl, Lib.hid rfl, Lib.hid rfl, World.ownsRow_nil _ _ _ _, Below.refl _ _⟩
  case round =>
    obtain ⟨i, t, xs, p, c, hil, hi150, rfl, rfl, htb, rfl, HXI, HRI, hown, hbel⟩ := hrel
    have hxl150 : xs.length ≤ 150 := by have := HXI.out; omega
    have hsz := hbel.size
    by_cases hlt : i < zs.length
    · by_cases h150 : i < 150
      · obtain ⟨g, off, rfl, hg, hcell⟩ := HR.out.cell i hlt
        obtain ⟨z, hzz⟩ : ∃ z, zs.getD i 0 = z := ⟨_, rfl⟩
        have hcw : wr.cell? ⟨g, off + i, none⟩ = some (.int .i64 z) := by rw [hbel.cell (p := ⟨g, off + i, none⟩) hg, ← hzz]; exact hcell i hlt
        have hown0 : wr.ownsRow w.heap.size 3 1 (.slice p xs.length c) xs.length (xs.map ival) := hown
        have hblk := ownI_block hown
        obtain ⟨u, y, hu1, hu2, hu3, hy1, hy2⟩ := wrap_mod z 10001 (by decide) (by decide)
        replace hu2 : Int.tmod (u : Int) 10001 = (y : Int) := hu2
        obtain ⟨s2, hs2⟩ : ∃ s2, t + y = s2 := ⟨_, rfl⟩
        have hs2b : s2 ≤ 10000 * (i + 1) := by clear hu1 hu2 hy1 hy2; omega
        have hs2c : s2 ≤ 1510000 := by clear hu1 hu2 hy1 hy2; omega
        have HN1 : Hid (Rise 0 (xs ++ [(s2 : Int)]) (s2 : Int)) := Lib.hid (rise_append HRI.out (by clear hu1 hu2 hy1 hy2; omega))
        have e1 : (t : Int) + (y : Int) = (s2 : Int) := by clear hu1 hu2 hy1 hy2; omega
        have e1w : IntKind.i64.wrap (s2 : Int) = (s2 : Int) := IntWalk.i64_in _ (by clear hu1 hu2 hy1 hy2; omega)
        clear hcell hzz hs2
        by_cases hi0 : i = 0
        · subst hi0
          rw [Nat.add_zero] at hcw
          go_wp2_with (at_builtin; refine wpList_append_own _ rfl _ _ 22 rfl w.heap.size 3 i0 (.int .i64 0) 1 8 Try.underlying22 hi hz0 hz1 hz2 rfl (by decide) _ _ _ rfl (hown0.alloc _) ⟨wr.heap.size, 0, none⟩ 1 1 [.int .i64 (s2 : Int)] rfl rfl (cell_one_new _ _ _) (by intro u hu; simp at hu; subst hu; rfl) (by unfold maxLen; clear hu1 hu2 hy1 hy2 e1w; omega) (by clear hu1 hu2 hy1 hy2 e1w; omega) (by simp; clear hu1 hu2 hy1 hy2 e1w; omega) ?_; intro v' w2 hown3 hgrow3 _; have hown4 : OwnI w2 w.heap.size v' (xs ++ [(s2 : Int)]) := ownI_next _ hown3; obtain ⟨a4, c4, rfl⟩ := ownI_slice1 hown4)
          clear hu1 hu2 hy1 hy2 e1w
          go_roundw
          case rel => exact ⟨0 + 1, s2, xs ++ [(s2 : Int)], a4, c4, by omega, by omega, by go_num, rfl, by omega, by rw [List.length_append]; rfl, Lib.hid (by rw [List.length_append, HXI.out]; rfl), HN1, hown4, (hbel.alloc hbel.size _).grown hgrow3 (by simp; omega) hblk⟩
          case measure => first | (simp [intOf]; done) | (simp [intOf]; omega)
        · go_wp2_with (at_builtin; refine wpList_append_own _ rfl _ _ 22 rfl w.heap.size 3 i0 (.int .i64 0) 1 8 Try.underlying22 hi hz0 hz1 hz2 rfl (by decide) _ _ _ rfl (hown0.alloc _) ⟨wr.heap.size, 0, none⟩ 1 1 [.int .i64 (s2 : Int)] rfl rfl (cell_one_new _ _ _) (by intro u hu; simp at hu; subst hu; rfl) (by unfold maxLen; clear hu1 hu2 hy1 hy2 e1w; omega) (by clear hu1 hu2 hy1 hy2 e1w; omega) (by simp; clear hu1 hu2 hy1 hy2 e1w; omega) ?_; intro v' w2 hown3 hgrow3 _; have hown4 : OwnI w2 w.heap.size v' (xs ++ [(s2 : Int)]) := ownI_next _ hown3; obtain ⟨a4, c4, rfl⟩ := ownI_slice1 hown4)
          clear hu1 hu2 hy1 hy2 e1w
          go_roundw
          case rel => exact ⟨i + 1, s2, xs ++ [(s2 : Int)], a4, c4, by omega, by omega, by go_num, rfl, by omega, by rw [List.length_append]; rfl, Lib.hid (by rw [List.length_append, HXI.out]; rfl), HN1, hown4, (hbel.alloc hbel.size _).grown hgrow3 (by simp; omega) hblk⟩
          case measure => first | (simp [intOf]; done) | (simp [intOf]; omega)
      · have g1 : decide (i < 150) = false := decide_eq_false h150
        have hlb : xs.length ≤ 1048576 := by omega
        have hl150 : xs.length ≤ 150 := by omega
        have HM : Hid (mayOffs xs = true) := Lib.hid (rise_may HRI.out (by omega))
        have HRS := Lib.hid (symOK_of hown)
        have HOW := Lib.hid hown
        have HB := Lib.hid hbel
        obtain ⟨lw, hlw⟩ : ∃ lw, lowN xs = lw := ⟨_, rfl⟩
        have HLW := Lib.hid hlw
        have hlw23 : lw ≤ 23 := by rw [← hlw]; exact low_le HM.out
        clear hbel hown
        go_wp2_with fail
        refine (onewAt S _ (S.below _ _ HE.out HB.out) hlb HRS.out HM.out (Below.refl _ _)).mono ?_
        rintro e wa ⟨q, rfl, h, _⟩
        have H := Lib.hid h
        clear h
        by_cases hx0 : xs.length = 0
        · have HZ : Hid (lowN xs = 0) := Lib.hid (by
            have : xs = [] := List.eq_nil_of_length_eq_zero hx0
            subst this; decide)
          have z1 : ((xs.length : Int) == 0) = true := beq_iff_eq.2 (by omega)
          have z2 : (xs.length == 0) = true := beq_iff_eq.2 hx0
          go_wp2_with fail
          refine (told7_any S _ H.out.e).mono ?_
          rintro e wz ⟨rfl, hb'⟩
          replace H := Lib.hid (H.out.other S hb')
          clear hb'
          go_wp2_with fail
          refine (olowAt S 0 HZ.out H.out).mono ?_
          rintro e wz ⟨rfl, h⟩
          replace H := Lib.hid h
          clear h
          go_wp2
          go_ret
          exact ⟨rfl, HB.out.trans (H.out.since.mono HB.out.size)⟩
        · have z1 : ((xs.length : Int) == 0) = false := beq_eq_false_iff_ne.2 (by omega)
          have z2 : (xs.length == 0) = false := beq_eq_false_iff_ne.2 hx0
          have hla := rise_last HRI.out hx0
          have hlast : lastN xs = t := by unfold lastN; rw [hla]; omega
          have hfew := low_few xs.length (lastN xs) (lowN xs) (by omega) rfl
          rw [hlast, hlw] at hfew
          obtain ⟨up, hup⟩ : ∃ up, t / 2 ^ lw = up := ⟨_, rfl⟩
          have e1 : (t : Int) / 2 ^ lw = (up : Int) := by rw [← hup, Int.natCast_ediv, Int.natCast_pow]; rfl
          rw [hup] at hfew
          have e2 : IntKind.u64.wrap (lw : Int) = (lw : Int) := by simp [IntKind.wrap, IntKind.bits, IntKind.signed]; omega
          have e3 : (lw : Int).toNat = lw := Int.toNat_natCast lw
          obtain ⟨hf, hhf⟩ : ∃ hf, xs.length / 2 = hf := ⟨_, rfl⟩
          have e4 : (xs.length : Int) / 2 = (hf : Int) := by omega
          have g5 : decide (up < 2 * xs.length) = true := decide_eq_true hfew.1
          have g6 : decide ((up : Int) < 2 * (xs.length : Int)) = true := decide_eq_true (by omega)
          have hfew2 := hfew.2
          clear hup hla hlast hlw hhf hfew
          go_wp2_with fail
          refine (told7_any S _ H.out.e).mono ?_
          rintro e wz ⟨rfl, hb'⟩
          replace H := Lib.hid (H.out.other S hb')
          clear hb'
          go_wp2_with fail
          refine (olowAt S lw HLW.out H.out).mono ?_
          rintro e wz ⟨rfl, h⟩
          replace H := Lib.hid h
          clear h
          go_wp2_with fail
          try simp only [List.append_eq, List.cons_append, List.nil_append] at *
          refine (olowAt S lw HLW.out H.out).mono ?_
          rintro e wz ⟨rfl, h⟩
          replace H := Lib.hid h
          clear h
          go_wp2_with fail
          try simp only [List.append_eq, List.cons_append, List.nil_append] at *
          refine (olowAt S lw HLW.out H.out).mono ?_
          rintro e wz ⟨rfl, h⟩
          replace H := Lib.hid h
          clear h
          by_cases hl0 : lw = 0
          · have g7 : ((lw : Int) == 0) = true := beq_iff_eq.2 (by omega)
            have g8 : (lw == 0) = true := beq_iff_eq.2 hl0
            go_wp2
            go_ret
            exact ⟨rfl, HB.out.trans (H.out.since.mono HB.out.size)⟩
          · have g7 : ((lw : Int) == 0) = false := beq_eq_false_iff_ne.2 (by omega)
            have g8 : (lw == 0) = false := beq_eq_false_iff_ne.2 hl0
            have g9 : decide (hf ≤ up) = true := decide_eq_true (by omega)
            have g10 : decide ((hf : Int) ≤ (up : Int)) = true := decide_eq_true (by omega)
            go_wp2_with fail
            refine (olowAt S lw HLW.out H.out).mono ?_
            rintro e wz ⟨rfl, h⟩
            replace H := Lib.hid h
            clear h
            go_wp2
            go_ret
            exact ⟨rfl, HB.out.trans (H.out.since.mono HB.out.size)⟩
    · have g1 : decide (i < zs.length) = false := decide_eq_false hlt
      have hlb : xs.length ≤ 1048576 := by omega
      have hl150 : xs.length ≤ 150 := by omega
      have HM : Hid (mayOffs xs = true) := Lib.hid (rise_may HRI.out (by omega))
      have HRS := Lib.hid (symOK_of hown)
      have HOW := Lib.hid hown
      have HB := Lib.hid hbel
      obtain ⟨lw, hlw⟩ : ∃ lw, lowN xs = lw := ⟨_, rfl⟩
      have HLW := Lib.hid hlw
      have hlw23 : lw ≤ 23 := by rw [← hlw]; exact low_le HM.out
      clear hbel hown
      go_wp2_with fail
      refine (onewAt S _ (S.below _ _ HE.out HB.out) hlb HRS.out HM.out (Below.refl _ _)).mono ?_
      rintro e wa ⟨q, rfl, h, _⟩
      have H := Lib.hid h
      clear h
      by_cases hx0 : xs.length = 0
      · have HZ : Hid (lowN xs = 0) := Lib.hid (by
          have : xs = [] := List.eq_nil_of_length_eq_zero hx0
          subst this; decide)
        have z1 : ((xs.length : Int) == 0) = true := beq_iff_eq.2 (by omega)
        have z2 : (xs.length == 0) = true := beq_iff_eq.2 hx0
        go_wp2_with fail
        refine (told7_any S _ H.out.e).mono ?_
        rintro e wz ⟨rfl, hb'⟩
        replace H := Lib.hid (H.out.other S hb')
        clear hb'
        go_wp2_with fail
        refine (olowAt S 0 HZ.out H.out).mono ?_
        rintro e wz ⟨rfl, h⟩
        replace H := Lib.hid h
        clear h
        go_wp2
        go_ret
        exact ⟨rfl, HB.out.trans (H.out.since.mono HB.out.size)⟩
      · have z1 : ((xs.length : Int) == 0) = false := beq_eq_false_iff_ne.2 (by omega)
        have z2 : (xs.length == 0) = false := beq_eq_false_iff_ne.2 hx0
        have hla := rise_last HRI.out hx0
        have hlast : lastN xs = t := by unfold lastN; rw [hla]; omega
        have hfew := low_few xs.length (lastN xs) (lowN xs) (by omega) rfl
        rw [hlast, hlw] at hfew
        obtain ⟨up, hup⟩ : ∃ up, t / 2 ^ lw = up := ⟨_, rfl⟩
        have e1 : (t : Int) / 2 ^ lw = (up : Int) := by rw [← hup, Int.natCast_ediv, Int.natCast_pow]; rfl
        rw [hup] at hfew
        have e2 : IntKind.u64.wrap (lw : Int) = (lw : Int) := by simp [IntKind.wrap, IntKind.bits, IntKind.signed]; omega
        have e3 : (lw : Int).toNat = lw := Int.toNat_natCast lw
        obtain ⟨hf, hhf⟩ : ∃ hf, xs.length / 2 = hf := ⟨_, rfl⟩
        have e4 : (xs.length : Int) / 2 = (hf : Int) := by omega
        have g5 : decide (up < 2 * xs.length) = true := decide_eq_true hfew.1
        have g6 : decide ((up : Int) < 2 * (xs.length : Int)) = true := decide_eq_true (by omega)
        have hfew2 := hfew.2
        clear hup hla hlast hlw hhf hfew
        go_wp2_with fail
        refine (told7_any S _ H.out.e).mono ?_
        rintro e wz ⟨rfl, hb'⟩
        replace H := Lib.hid (H.out.other S hb')
        clear hb'
        go_wp2_with fail
        refine (olowAt S lw HLW.out H.out).mono ?_
        rintro e wz ⟨rfl, h⟩
        replace H := Lib.hid h
        clear h
        go_wp2_with fail
        try simp only [List.append_eq, List.cons_append, List.nil_append] at *
        refine (olowAt S lw HLW.out H.out).mono ?_
        rintro e wz ⟨rfl, h⟩
        replace H := Lib.hid h
        clear h
        go_wp2_with fail
        try simp only [List.append_eq, List.cons_append, List.nil_append] at *
        refine (olowAt S lw HLW.out H.out).mono ?_
        rintro e wz ⟨rfl, h⟩
        replace H := Lib.hid h
        clear h
        by_cases hl0 : lw = 0
        · have g7 : ((lw : Int) == 0) = true := beq_iff_eq.2 (by omega)
          have g8 : (lw == 0) = true := beq_iff_eq.2 hl0
          go_wp2
          go_ret
          exact ⟨rfl, HB.out.trans (H.out.since.mono HB.out.size)⟩
        · have g7 : ((lw : Int) == 0) = false := beq_eq_false_iff_ne.2 (by omega)
          have g8 : (lw == 0) = false := beq_eq_false_iff_ne.2 hl0
          have g9 : decide (hf ≤ up) = true := decide_eq_true (by omega)
          have g10 : decide ((hf : Int) ≤ (up : Int)) = true := decide_eq_true (by omega)
          go_wp2_with fail
          refine (olowAt S lw HLW.out H.out).mono ?_
          rintro e wz ⟨rfl, h⟩
          replace H := Lib.hid h
          clear h
          go_wp2
          go_ret
          exact ⟨rfl, HB.out.trans (H.out.since.mono HB.out.size)⟩
end Go.Proofs.Ytcgglpjapkjphaa
