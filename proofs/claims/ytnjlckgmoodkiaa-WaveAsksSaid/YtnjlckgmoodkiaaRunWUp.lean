/-
  THE LANDED PACKAGE wave: the way back up through the levels.
-/
import Derived.Test.YtnjlckgmoodkiaaRunWAsk
namespace Go.Proofs.Ytnjlckgmoodkiaa
open Go.RowKit

section
variable {B T p q L cap st sb s : Nat} {qa : Option Addr} {lb lt : Nat → Nat} {ba : Nat → Addr} {xs : List Int} {sigma : Int}
set_option maxHeartbeats 400000 in
set_option maxRecDepth 100000 in
/-- the way back up: from the place of j's symbol below the last level to j -/
theorem rclimb_any (j : Nat) (x : Int) (w : World) (hs : s ≤ 1000) (hj : j < xs.length) (hx : xs.getD j 0 = x) (h : MidW B T p q L cap st sb qa lb lt ba xs sigma s w) :
    Calls Try.prog 32 #[.pointer (some ⟨p, 0, none⟩), .int .i64 (downL xs L x j L), .int .i64 x, .pointer (some ⟨sb, 0, none⟩)] w fun o w' =>
      o = .returned (.int .i64 j) ∧ ∃ d, d ≤ 2 * L ∧ Went sb (s + d) w w' := by
  have H0 := Lib.hid h
  have hxl := h.inw.len
  have hfew := h.few
  have hsl := h.pa.slc
  have hsg := may_sigma h.inw.may
  have hx0 := may_at h.inw.may j hj
  rw [hx] at hx0
  have HJ := Lib.hid hj
  have HX := Lib.hid hx
  clear h hx
  go_enter Try.func32, Try.ntmps32
  go_wp2
  go_loopw [1, 9] (fun kv iv wr => ∃ i d : Nat, i ≤ L ∧ kv = .int .i64 (downL xs L x j i) ∧ iv = .int .i64 ((i : Int) - 1) ∧ d ≤ 2 * (L - i) ∧ Went sb (s + d) w wr) (fun _ iv _ => (intOf iv + 1).toNat)
  case atStart => exact ⟨L, 0, Nat.le_refl _, rfl, rfl, Nat.zero_le _, Went.stay H0.out.sr (Below.refl _ _)⟩
  case round =>
    obtain ⟨i, d, hi, rfl, rfl, hd, hw⟩ := hrel
    have htb : s + d ≤ 2000 := by omega
    obtain ⟨t, ht⟩ : ∃ t, s + d = t := ⟨_, rfl⟩
    rw [ht] at hw htb
    have HT := Lib.hid ht
    have HD := Lib.hid hd
    have HW := Lib.hid hw
    have HM := Lib.hid (H0.out.went hw)
    clear hw hd ht
    by_cases h0 : i = 0
    · subst h0
      go_wp2
      go_ret
      exact ⟨rfl, d, by have := HD.out; omega, by rw [HT.out]; exact HW.out⟩
    · obtain ⟨i, rfl⟩ : ∃ m, i = m + 1 := ⟨i - 1, by omega⟩
      have hlt : i < L := by omega
      have ei : ((i + 1 : Nat) : Int) - 1 = (i : Int) := by omega
      rw [ei]
      have HLB := HM.out.levIn hlt
      have hda : downL xs L x j (i + 1) = aheadL (bitsL xs L i) (bitW x (L - 1 - i)) + rankN (bitsL xs L i) (downL xs L x j i) (bitW x (L - 1 - i)) := rfl
      have hra := ahead_rank_le (bitsL xs L i) (downL xs L x j i) (bitW x (L - 1 - i))
      have hbk := way_back H0.out.inw.may j HJ.out i (by rw [← H0.out.inw.lev]; omega)
      rw [← H0.out.inw.lev, HX.out, hda, Nat.add_sub_cancel_left] at hbk
      have hbl := bitsL_length xs L i
      rw [hbl] at hra
      have hlj := downL_le xs L x j (by omega) i
      have CV := Lib.hid (HM.out.level hlt)
      have CB := Lib.hid (fun w1 (hb1 : Below wr.heap.size wr w1) => (HM.out.other hb1).bit hlt hx0.1 (by omega : x ≤ 1048576))
      generalize downL xs L x j (i + 1) = k at *
      generalize bitsL xs L i = bs at *
      generalize hf : downL xs L x j i = f at *
      generalize bitW x (L - 1 - i) = bit at *
      obtain ⟨A, hA⟩ : ∃ A, aheadL bs bit = A := ⟨_, rfl⟩
      obtain ⟨R, hR⟩ : ∃ R, rankN bs f bit = R := ⟨_, rfl⟩
      rw [hA, hR] at hda hra
      rw [hR] at hbk
      have HA := Lib.hid hA
      have HBK := Lib.hid hbk
      have HLV := Lib.hid HLB
      have HF := Lib.hid hf
      clear hA hR HLB hbk hf
      obtain ⟨ca, hca⟩ : ∃ ca, ba i = ca := ⟨_, rfl⟩
      rw [hca] at CV HLV
      clear hca
      have eR : (k : Int) - (A : Int) = (R : Int) := by omega
      have wR : IntKind.i64.wrap (R : Int) = (R : Int) := by rw [IntKind.wrap_i64]; omega
      clear hda
      go_wp2_with fail
      refine CV.out.mono ?_
      rintro o w1 ⟨rfl, hb1⟩
      go_wp2_with fail
      refine (CB.out w1 hb1).mono ?_
      rintro o w1' ⟨rfl, rfl⟩
      have HL1 := Lib.hid (HLV.out.other hb1)
      have HBX := Lib.hid (levbox_new HL1.out 49)
      have hcell := HBX.out.cell
      have HWB := Lib.hid (HW.out.other (hb1.alloc hb1.size (.cells #[.pointer (some ca)] 49)))
      have hMd := HBX.out.other (Below.refl _ _).drew
      have HW3 := Lib.hid (HWB.out.other (Below.refl _ _).drew)
      clear hb1
      go_wp2_with fail
      generalize w1.alloc (.cells #[.pointer (some ca)] 49) = W1 at *
      generalize w1.heap.size = bb at *
      go_region_held3 (fun W => W.cell? ⟨bb, 0, none⟩ = some (.pointer (some ca)))
        (first | exact (‹LevBox (lb i) (lt i) sb bb ca bs _ _›).cell | assumption)
        (first | ((go_at_call 39; refine (LevBox.ahead ‹LevBox (lb i) (lt i) sb bb ca bs _ _› (by omega) HA.out).mono ?_; rintro o u ⟨rfl, d2, hd2, hM2, hW2⟩)) | ((go_at_call 42; refine (LevBox.find ‹LevBox (lb i) (lt i) sb bb ca bs _ _› (by omega) HBK.out).mono ?_; rintro o u ⟨rfl, hM3, hM3w⟩)))
      go_wp2
      go_roundw
      case rel =>
        refine ⟨i, d + (d2 + 1), by omega, by rw [HF.out], by go_num, by have := HD.out; omega, ?_⟩
        rw [show s + (d + (d2 + 1)) = t + (d2 + 1) by have := HT.out; omega]
        exact (HW3.out.trans hW2).two 1 hM3w
      case measure => simp [intOf]
end
end Go.Proofs.Ytnjlckgmoodkiaa
