/-
  THE LANDED PACKAGE wave: the ways down and up through the levels.
-/
import Derived.Test.YtnjlckgmoodkiaaRunWBase
import Derived.Deep.QuietTactic
import Derived.BigQuiet
namespace Go.Proofs.Ytnjlckgmoodkiaa
open Go.RowKit

section
variable {lb lt sb s t b : Nat} {a : Addr} {bs : List Bool} {w w' : World}
theorem LevBox.ahead (h : LevBox lb lt sb b a bs s w) (hs : s ≤ 1000000) {bit : Bool} {A : Nat} (hA : aheadL bs bit = A) :
    Calls Try.prog 39 #[.agg #[.pointer (some a)], .bool bit, .pointer (some ⟨sb, 0, none⟩)] w fun e w' => e = .returned (.int .i64 A) ∧ ∃ d, d ≤ 1 ∧ LevBox lb lt sb b a bs (s + d) w' ∧ Went sb (s + d) w w' :=
  (rlahead_any bit w hs h.lev).mono fun _ _ hp => by
    obtain ⟨h1, d, h2, h3⟩ := hp
    exact ⟨by rw [← hA]; exact h1, d, h2, h.went h3, h3⟩
theorem LevBox.rankAt (h : LevBox lb lt sb b a bs s w) (hs : s ≤ 1000000) {k R : Nat} {bit : Bool} (hR : rankN bs k bit = R) :
    Calls Try.prog 40 #[.agg #[.pointer (some a)], .int .i64 k, .bool bit, .pointer (some ⟨sb, 0, none⟩)] w fun e w' => e = .returned (.int .i64 R) ∧ LevBox lb lt sb b a bs (s + 1) w' ∧ Went sb (s + 1) w w' :=
  (rlrank_any k bit w hs h.lev).mono fun _ _ hp => ⟨by rw [← hR]; have := hp.1; unfold rankL at this; rw [Int.toNat_natCast] at this; exact this, h.went hp.2, hp.2⟩
theorem LevBox.find (h : LevBox lb lt sb b a bs s w) (hs : s ≤ 1000000) {k r : Int} {bit : Bool} (hr : selL bs k bit = r) :
    Calls Try.prog 42 #[.agg #[.pointer (some a)], .int .i64 k, .bool bit, .pointer (some ⟨sb, 0, none⟩)] w fun e w' => e = .returned (.int .i64 r) ∧ LevBox lb lt sb b a bs (s + 1) w' ∧ Went sb (s + 1) w w' :=
  (rlfind_any k bit w hs h.lev).mono fun _ _ hp => ⟨by rw [← hr]; exact hp.1, h.went hp.2, hp.2⟩
theorem Went.two {d : Nat} {u v : World} (h1 : Went sb (t + d) w u) (e : Nat) (h2 : Went sb (t + d + e) u v) : Went sb (t + (d + e)) w v := by
  rw [← Nat.add_assoc]
  exact h1.trans h2
end
section
variable {B T p q L cap st sb s : Nat} {qa : Option Addr} {lb lt : Nat → Nat} {ba : Nat → Addr} {xs : List Int} {sigma : Int}
set_option maxHeartbeats 400000 in
set_option maxRecDepth 100000 in
theorem rat_any (k : Int) (w : World) (hs : s ≤ 1000) (hk64 : In64 k) (h : MidW B T p q L cap st sb qa lb lt ba xs sigma s w) :
    Calls Try.prog 28 #[.pointer (some ⟨p, 0, none⟩), .int .i64 k, .pointer (some ⟨sb, 0, none⟩)] w fun o w' =>
      o = .returned (.tuple #[.int .i64 (getW xs k), .int .i64 (getWE xs k)]) ∧ ∃ d, d ≤ 2 * L ∧ Went sb (s + d) w w' := by
  have H0 := Lib.hid h
  have CL := Lib.hid (rwlen_any p xs.length w h.pa.num)
  have hxl := h.inw.len
  have hfew := h.few
  have hsl := h.pa.slc
  clear h
  by_cases hk : 0 ≤ k ∧ k < xs.length
  · obtain ⟨j, rfl⟩ : ∃ j : Nat, k = (j : Int) := ⟨k.toNat, by omega⟩
    have hj : j < xs.length := by omega
    have HR : Hid (getW xs (j : Int) = xs.getD j 0 ∧ getWE xs (j : Int) = 0) := Lib.hid ⟨getW_at xs j hj, getWE_at xs j hj⟩
    have HJ := Lib.hid hj
    obtain ⟨x, hx⟩ : ∃ x, xs.getD j 0 = x := ⟨_, rfl⟩
    have HX := Lib.hid hx
    have hx0 := may_at H0.out.inw.may j hj
    have hsg := may_sigma H0.out.inw.may
    rw [hx] at hx0
    rw [HR.out.1, HR.out.2, hx]
    clear hx HR
    have g1 : decide ((j : Int) < 0) = false := decide_eq_false (by omega)
    have g2 : decide (xs.length ≤ j) = false := decide_eq_false (by omega)
    go_enter Try.func28, Try.ntmps28
    go_wp2_with fail
    refine CL.out.mono ?_
    rintro o w0 ⟨rfl, rfl⟩
    go_wp2
    go_loopw [1, 8, 25] (fun kv sv iv wr => ∃ i d : Nat, i ≤ L ∧ kv = .int .i64 (downL xs L x j i) ∧ sv = .int .i64 ((x.toNat / 2 ^ (L - i) : Nat) : Int) ∧ iv = .int .i64 i ∧ d ≤ 2 * i ∧ Went sb (s + d) w wr) (fun _ _ iv _ => L - (intOf iv).toNat)
    case atStart => exact ⟨0, 0, Nat.zero_le _, rfl, by rw [Nat.sub_zero, H0.out.inw.lev, top_none hx0.2]; rfl, rfl, Nat.le_refl _, Went.stay H0.out.sr (Below.refl _ _)⟩
    case round =>
      obtain ⟨i, d, hi, rfl, rfl, rfl, hd, hw⟩ := hrel
      have htb : s + d ≤ 2000 := by omega
      obtain ⟨t, ht⟩ : ∃ t, s + d = t := ⟨_, rfl⟩
      rw [ht] at hw htb
      have HT := Lib.hid ht
      have HD := Lib.hid hd
      have HW := Lib.hid hw
      have HM := Lib.hid (H0.out.went hw)
      clear hw hd ht
      by_cases hlt : i < L
      · have hwh := way_here H0.out.inw.may j HJ.out i (by rw [← H0.out.inw.lev]; omega)
        have hwb := way_bit H0.out.inw.may j HJ.out i (by rw [← H0.out.inw.lev]; omega)
        rw [← H0.out.inw.lev, HX.out] at hwh hwb
        have hnx := get_next x L i hlt
        have hyb : x.toNat / 2 ^ (L - i) ≤ x.toNat := Nat.div_le_self _ _
        have HLB := HM.out.levIn hlt
        have hdn : downL xs L x j (i + 1) = aheadL (bitsL xs L i) (bitW x (L - 1 - i)) + rankN (bitsL xs L i) (downL xs L x j i) (bitW x (L - 1 - i)) := rfl
        have har := ahead_rank_le (bitsL xs L i) (downL xs L x j i) (bitW x (L - 1 - i))
        have hbl := bitsL_length xs L i
        rw [hbl] at har
        have hgB := at_get (xs := bitsL xs L i) (k := downL xs L x j i) (by rw [hbl]; exact hwh.1)
        rw [hwb] at hgB
        have hwf := hwh.1
        clear hwb hwh
        generalize bitsL xs L i = bs at *
        generalize downL xs L x j i = f at *
        generalize x.toNat / 2 ^ (L - i) = y at *
        generalize bitW x (L - 1 - i) = bit at *
        obtain ⟨A, hA⟩ : ∃ A, aheadL bs bit = A := ⟨_, rfl⟩
        obtain ⟨R, hR⟩ : ∃ R, rankN bs f bit = R := ⟨_, rfl⟩
        rw [hA, hR] at hdn har
        have HA := Lib.hid hA
        have HR := Lib.hid hR
        have HDN := Lib.hid hdn
        have HNX := Lib.hid hnx
        have HGB := Lib.hid hgB
        have HLV := Lib.hid HLB
        clear hA hR hdn hnx hgB HLB
        have CV := Lib.hid (HM.out.level hlt)
        obtain ⟨ca, hca⟩ : ∃ ca, ba i = ca := ⟨_, rfl⟩
        rw [hca] at CV HLV
        clear hca
        go_wp2_with fail
        refine CV.out.mono ?_
        rintro o w1 ⟨rfl, hb1⟩
        have HL1 := Lib.hid (HLV.out.other hb1)
        have HBX := Lib.hid (levbox_new HL1.out 49)
        have hcell := HBX.out.cell
        have HWB := Lib.hid (HW.out.other (hb1.alloc hb1.size (.cells #[.pointer (some ca)] 49)))
        have CA := Lib.hid (rlat_any _ _ bs f _ ⟨by omega, by omega⟩ HBX.out.lev.len HBX.out.lev.kept.kept)
        rw [HGB.out] at CA
        go_wp2_with fail
        generalize w1.alloc (.cells #[.pointer (some ca)] 49) = W1 at *
        generalize w1.heap.size = bb at *
        refine CA.out.mono ?_
        rintro o w2 ⟨rfl, hb2⟩
        have HB2 := Lib.hid (HBX.out.other hb2)
        have HW2 := Lib.hid (HWB.out.other hb2)
        have hcell2 := HB2.out.cell
        have hMd := HB2.out.other (Below.refl _ _).drew
        have HW3 := Lib.hid (HW2.out.other (Below.refl _ _).drew)
        clear hb2 hb1 hcell
        cases bit
        all_goals
          go_wp2_with fail
          go_region_held3 (fun W => W.cell? ⟨bb, 0, none⟩ = some (.pointer (some ca)))
            (first | exact (‹LevBox (lb i) (lt i) sb bb ca bs _ _›).cell | assumption)
            (first | ((go_at_call 39; refine (LevBox.ahead ‹LevBox (lb i) (lt i) sb bb ca bs _ _› (by omega) HA.out).mono ?_; rintro o u ⟨rfl, d2, hd2, hM2, hW2⟩)) | ((go_at_call 40; refine (LevBox.rankAt ‹LevBox (lb i) (lt i) sb bb ca bs _ _› (by omega) HR.out).mono ?_; rintro o u ⟨rfl, hM3, hM3w⟩)))
        all_goals
          rw [show IntKind.i64.wrap ((A : Int) + (R : Int)) = ((A + R : Nat) : Int) by rw [IntKind.wrap_i64]; omega]
          go_wp2
          go_roundw
          case rel =>
            refine ⟨i + 1, d + (d2 + 1), by omega, by rw [HDN.out], by rw [HNX.out]; first | rfl | (simp; done) | (simp; omega), by go_num, by have := HD.out; omega, ?_⟩
            rw [show s + (d + (d2 + 1)) = t + (d2 + 1) by have := HT.out; omega]
            exact (HW3.out.trans hW2).two 1 hM3w
          case measure => simp [intOf]; omega
      · have hi2 : i = L := by omega
        subst hi2
        have g2 : decide (i < i) = false := decide_eq_false (Nat.lt_irrefl _)
        go_wp2
        go_ret2
        exact ⟨by rw [Nat.sub_self, Nat.pow_zero, Nat.div_one, Int.toNat_of_nonneg hx0.1]; rfl, d, HD.out, by rw [HT.out]; exact HW.out⟩
  · have HR : Hid (getW xs k = 0 ∧ getWE xs k = 4) := Lib.hid ⟨getW_out xs k hk, getWE_out xs k hk⟩
    rw [HR.out.1, HR.out.2]
    by_cases h0 : k < 0
    · go_enter Try.func28, Try.ntmps28
      go_wp2
      go_ret2
      exact ⟨rfl, 0, Nat.zero_le _, Went.stay H0.out.sr (Below.refl _ _)⟩
    · have g1 : decide (k < 0) = false := decide_eq_false h0
      go_enter Try.func28, Try.ntmps28
      go_wp2_with fail
      refine CL.out.mono ?_
      rintro o w0 ⟨rfl, rfl⟩
      go_wp2
      go_ret2
      exact ⟨rfl, 0, Nat.zero_le _, Went.stay H0.out.sr (Below.refl _ _)⟩
set_option maxHeartbeats 400000 in
set_option maxRecDepth 100000 in
theorem rgather_in (lo hi x : Int) (a b : Nat) (w : World) (hs : s ≤ 1000) (ha : (a : Int) = max lo 0) (hb : (b : Int) = min hi xs.length) (hab : a < b) (hx0 : 0 ≤ x) (hx1 : x < sigma) (h : MidW B T p q L cap st sb qa lb lt ba xs sigma s w) :
    Calls Try.prog 31 #[.pointer (some ⟨p, 0, none⟩), .int .i64 lo, .int .i64 hi, .int .i64 x, .pointer (some ⟨sb, 0, none⟩)] w fun o w' =>
      o = .returned (.tuple #[.int .i64 (downL xs L x a L), .int .i64 (downL xs L x b L)]) ∧ ∃ d, d ≤ 3 * L ∧ Went sb (s + d) w w' := by
  have H0 := Lib.hid h
  have CL := Lib.hid (rwlen_any p xs.length w h.pa.num)
  have hxl := h.inw.len
  have hfew := h.few
  have hsl := h.pa.slc
  have hsg0 := h.pa.sig
  have hsg := may_sigma h.inw.may
  clear h
  have g1 : decide ((b : Int) ≤ (a : Int)) = false := decide_eq_false (by omega)
  have g2 : decide (x < 0) = false := decide_eq_false (by omega)
  have g3 : decide (sigma ≤ x) = false := decide_eq_false (by omega)
  have GMX : Hid (max lo 0 = (a : Int)) := Lib.hid ha.symm
  have GMN : Hid (min hi (xs.length : Int) = (b : Int)) := Lib.hid hb.symm
  have gm : decide (min hi (xs.length : Int) ≤ (a : Int)) = false := decide_eq_false (by omega)
  clear ha hb
  go_enter Try.func31, Try.ntmps31
  go_wp2_with fail
  refine CL.out.mono ?_
  rintro o w0 ⟨rfl, rfl⟩
  rw [GMX.out]
  go_wp2
  rw [GMN.out]
  go_loopw [10, 11, 42] (fun fv ev iv wr => ∃ i d : Nat, i ≤ L ∧ fv = .int .i64 (downL xs L x a i) ∧ ev = .int .i64 (downL xs L x b i) ∧ iv = .int .i64 i ∧ d ≤ 3 * i ∧ Went sb (s + d) w wr) (fun _ _ iv _ => L - (intOf iv).toNat)
  case atStart => exact ⟨0, 0, Nat.zero_le _, rfl, rfl, rfl, Nat.le_refl _, Went.stay H0.out.sr (Below.refl _ _)⟩
  case round =>
    obtain ⟨i, d, hi, rfl, rfl, rfl, hd, hw⟩ := hrel
    have htb : s + d ≤ 2000 := by omega
    obtain ⟨t, ht⟩ : ∃ t, s + d = t := ⟨_, rfl⟩
    rw [ht] at hw htb
    have HT := Lib.hid ht
    have HD := Lib.hid hd
    have HW := Lib.hid hw
    have HM := Lib.hid (H0.out.went hw)
    clear hw hd ht
    by_cases hlt : i < L
    · have HLB := HM.out.levIn hlt
      have hda : downL xs L x a (i + 1) = aheadL (bitsL xs L i) (bitW x (L - 1 - i)) + rankN (bitsL xs L i) (downL xs L x a i) (bitW x (L - 1 - i)) := rfl
      have hdb : downL xs L x b (i + 1) = aheadL (bitsL xs L i) (bitW x (L - 1 - i)) + rankN (bitsL xs L i) (downL xs L x b i) (bitW x (L - 1 - i)) := rfl
      have hra := ahead_rank_le (bitsL xs L i) (downL xs L x a i) (bitW x (L - 1 - i))
      have hrb := ahead_rank_le (bitsL xs L i) (downL xs L x b i) (bitW x (L - 1 - i))
      have hbl := bitsL_length xs L i
      rw [hbl] at hra hrb
      have CV := Lib.hid (HM.out.level hlt)
      have CB := Lib.hid (fun w1 (hb1 : Below wr.heap.size wr w1) => (HM.out.other hb1).bit hlt hx0 (by omega : x ≤ 1048576))
      generalize bitsL xs L i = bs at *
      generalize downL xs L x a i = f at *
      generalize downL xs L x b i = g at *
      generalize bitW x (L - 1 - i) = bit at *
      obtain ⟨A, hA⟩ : ∃ A, aheadL bs bit = A := ⟨_, rfl⟩
      obtain ⟨R, hR⟩ : ∃ R, rankN bs f bit = R := ⟨_, rfl⟩
      obtain ⟨Q, hQ⟩ : ∃ Q, rankN bs g bit = Q := ⟨_, rfl⟩
      rw [hA, hR] at hda hra
      rw [hA, hQ] at hdb hrb
      have HA := Lib.hid hA
      have HR := Lib.hid hR
      have HQ := Lib.hid hQ
      have HDA := Lib.hid hda
      have HDB := Lib.hid hdb
      have HLV := Lib.hid HLB
      clear hA hR hQ hda hdb HLB
      obtain ⟨ca, hca⟩ : ∃ ca, ba i = ca := ⟨_, rfl⟩
      rw [hca] at CV HLV
      clear hca
      go_wp2_with fail
      refine CV.out.mono ?_
      rintro o w1 ⟨rfl, hb1⟩
      go_wp2_with fail
      refine (CB.out w1 hb1).mono ?_
      rintro o w1' ⟨rfl, rfl⟩
      have HL1 := Lib.hid (HLV.out.other hb1)
      have HBX := Lib.hid (levbox_new HL1.out 49)
      have hcell := HBX.out.cell
      have HWB := Lib.hid (HW.out.other (hb1.alloc hb1.size (.cells #[.pointer (some ca)] 49)))
      have CA := Lib.hid (LevBox.ahead HBX.out (by omega) HA.out)
      go_wp2_with fail
      generalize w1.alloc (.cells #[.pointer (some ca)] 49) = W1 at *
      generalize w1.heap.size = bb at *
      refine CA.out.mono ?_
      rintro o w2 ⟨rfl, d2, hd2, hB2, hW2⟩
      have HW2 := Lib.hid (HWB.out.trans hW2)
      have hcell2 := hB2.cell
      have hMd := hB2.other (Below.refl _ _).drew
      have HW3 := Lib.hid (HW2.out.other (Below.refl _ _).drew)
      clear hb1 hcell hB2 hW2
      go_wp2_with fail
      go_region_held3 (fun W => W.cell? ⟨bb, 0, none⟩ = some (.pointer (some ca)))
        (first | exact (‹LevBox (lb i) (lt i) sb bb ca bs _ _›).cell | assumption)
        (first | ((go_at_call 40; refine (LevBox.rankAt ‹LevBox (lb i) (lt i) sb bb ca bs _ _› (by omega) (by first | exact HR.out | exact HQ.out)).mono ?_; rintro o u ⟨rfl, hM3, hM3w⟩)))
      have hfst := ‹Went sb (t + d2 + 1) w2.drew _›
      rw [show IntKind.i64.wrap ((A : Int) + (R : Int)) = ((A + R : Nat) : Int) by rw [IntKind.wrap_i64]; omega, show IntKind.i64.wrap ((A : Int) + (Q : Int)) = ((A + Q : Nat) : Int) by rw [IntKind.wrap_i64]; omega]
      go_wp2
      go_roundw
      case rel =>
        refine ⟨i + 1, d + (d2 + 2), by omega, by rw [HDA.out], by rw [HDB.out], by go_num, by have := HD.out; omega, ?_⟩
        rw [show s + (d + (d2 + 2)) = t + d2 + 1 + 1 by have := HT.out; omega]
        exact (HW3.out.trans hfst).trans hM3w
      case measure => simp [intOf]; omega
    · have hi2 : i = L := by omega
      subst hi2
      have g4 : decide (i < i) = false := decide_eq_false (Nat.lt_irrefl _)
      go_wp2
      go_ret2
      exact ⟨rfl, d, HD.out, by rw [HT.out]; exact HW.out⟩
set_option maxHeartbeats 400000 in
set_option maxRecDepth 100000 in
theorem rgather_out (lo hi x : Int) (w : World) (hno : min hi xs.length ≤ max lo 0 ∨ x < 0 ∨ sigma ≤ x) (h : MidW B T p q L cap st sb qa lb lt ba xs sigma s w) :
    Calls Try.prog 31 #[.pointer (some ⟨p, 0, none⟩), .int .i64 lo, .int .i64 hi, .int .i64 x, .pointer (some ⟨sb, 0, none⟩)] w fun o w' =>
      o = .returned (.tuple #[.int .i64 0, .int .i64 0]) ∧ w = w' := by
  have CL := Lib.hid (rwlen_any p xs.length w h.pa.num)
  have hsg0 := h.pa.sig
  clear h
  obtain ⟨a, ha⟩ : ∃ a, max lo 0 = a := ⟨_, rfl⟩
  obtain ⟨b, hb⟩ : ∃ b, min hi (xs.length : Int) = b := ⟨_, rfl⟩
  have GMX := Lib.hid ha
  have GMN := Lib.hid hb
  have hge : decide (min hi (xs.length : Int) ≤ a) = decide (b ≤ a) := by rw [hb]
  rw [ha, hb] at hno
  clear ha hb
  by_cases hba : b ≤ a
  · rw [decide_eq_true hba] at hge
    have g1 : decide (b ≤ a) = true := decide_eq_true hba
    go_enter Try.func31, Try.ntmps31
    go_wp2_with fail
    refine CL.out.mono ?_
    rintro o w0 ⟨rfl, rfl⟩
    rw [GMX.out]
    go_wp2
    go_ret2
    exact ⟨rfl, rfl⟩
  · rw [decide_eq_false hba] at hge
    have g1 : decide (b ≤ a) = false := decide_eq_false hba
    by_cases hx0 : x < 0
    · have g2 : decide (x < 0) = true := decide_eq_true hx0
      go_enter Try.func31, Try.ntmps31
      go_wp2_with fail
      refine CL.out.mono ?_
      rintro o w0 ⟨rfl, rfl⟩
      rw [GMX.out]
      go_wp2
      go_ret2
      exact ⟨rfl, rfl⟩
    · have g2 : decide (x < 0) = false := decide_eq_false hx0
      have g3 : decide (sigma ≤ x) = true := decide_eq_true (by omega)
      go_enter Try.func31, Try.ntmps31
      go_wp2_with fail
      refine CL.out.mono ?_
      rintro o w0 ⟨rfl, rfl⟩
      rw [GMX.out]
      go_wp2
      go_ret2
      exact ⟨rfl, rfl⟩
end
end Go.Proofs.Ytnjlckgmoodkiaa
