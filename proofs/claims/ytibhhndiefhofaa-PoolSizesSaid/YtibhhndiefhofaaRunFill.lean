/-
  THE CONTRACTS OF widest AND write OF THE LANDED PACKAGE ints: numbers are put into words.
-/
import Derived.Test.YtibhhndiefhofaaIntWord
import Derived.Test.YtibhhndiefhofaaNumRow
import Derived.Test.YtibhhndiefhofaaRunWid
import Derived.Test.YtibhhndiefhofaaShelf
import Derived.Laws.Bits64b
import Derived.Deep.OwnRows
import Derived.RegionTactic
import Derived.BigRegion
import Derived.IntWalk
import Derived.KernelRfl
namespace Go.Proofs.Ytibhhndiefhofaa
open Go.RowKit

theorem shl_u64Z (u n : Nat) : IntKind.u64.wrap ((u : Int) * 2 ^ n) = ((u * 2 ^ n % 2 ^ 64 : Nat) : Int) := by
  rw [IntKind.wrap_u64, Int.natCast_emod, Int.natCast_mul, Int.natCast_pow]
  rfl
theorem or_lt64 (a b : Nat) (ha : a ≤ 18446744073709551615) (hb : b ≤ 18446744073709551615) : a ||| b ≤ 18446744073709551615 := by
  have := Nat.or_lt_two_pow (x := a) (y := b) (n := 64) (by omega) (by omega)
  omega
theorem orN_lt : ∀ l : List Nat, (∀ z ∈ l, z ≤ 18446744073709551615) → orN l ≤ 18446744073709551615
  | [], _ => by simp [orN]
  | n :: t, h => or_lt64 n _ (h n (by simp)) (orN_lt t fun z hz => h z (by simp [hz]))
theorem orTo_lt (zs : List Nat) (h : ∀ z ∈ zs, z ≤ 18446744073709551615) (k : Nat) : orTo zs k ≤ 18446744073709551615 := orN_lt _ fun z hz => h z (List.mem_of_mem_take hz)

set_option maxHeartbeats 1000000 in
set_option maxRecDepth 100000 in
theorem rwidestSome_any (b off cap : Nat) (zs : List Nat) (w : World) (hl : zs.length ≤ 4294967296) (hz : ∀ z ∈ zs, z ≤ 18446744073709551615) (hc : ∀ i, i < zs.length → w.cell? ⟨b, off + i, none⟩ = some (.int .u64 (zs.getD i 0))) :
    Calls Try.prog 57 #[.slice (some ⟨b, off, none⟩) zs.length cap] w fun e w' => e = .returned (.int .i64 (widestN zs)) ∧ w = w' := by
  have HC := Lib.hid hc
  have HZ := Lib.hid hz
  have HO := Lib.hid (orTo_lt zs hz)
  clear hc hz
  go_enter Try.func57, Try.ntmps57
  go_wp2
  go_loop [3, 8] (fun m i => ∃ k a : Nat, k ≤ zs.length ∧ i = .int .i64 k ∧ m = .int .u64 a ∧ a = orTo zs k ∧ a ≤ 18446744073709551615) (fun _ i => zs.length - (intOf i).toNat)
  case atStart => exact ⟨0, 0, Nat.zero_le _, rfl, rfl, rfl, by omega⟩
  case round =>
    obtain ⟨k, a, hk, rfl, rfl, ha, ha64⟩ := hrel
    have HA := Lib.hid ha
    clear ha
    by_cases hlt : k < zs.length
    · obtain ⟨z, hzz⟩ : ∃ z, zs.getD k 0 = z := ⟨_, rfl⟩
      have hzb : z ≤ 18446744073709551615 := by
        refine HZ.out z ?_
        rw [← hzz]
        simp [List.getD, List.getElem?_eq_getElem hlt]
      have hcell : w.cell? ⟨b, off + k, none⟩ = some (.int .u64 z) := by rw [← hzz]; exact HC.out k hlt
      have HS := Lib.hid (orTo_step zs k z hlt hzz)
      have HB := Lib.hid (bits_or_u64_nat a z (by omega) (by omega))
      clear hzz
      go_wp2
      go_round
      case rel => exact ⟨k + 1, a ||| z, by omega, by go_num, by rw [HB.out], by rw [HS.out, ← HA.out], or_lt64 a z ha64 hzb⟩
      case measure => simp [intOf]; omega
    · have hke : k = zs.length := by omega
      have HF : Hid (widthN a = widestN zs) := by
        rw [HA.out, ← orN_width]; unfold orTo
        rw [List.take_of_length_le (by omega)]; exact rfl
      have C := Lib.hid (rwidth_any a w ha64)
      go_wp2_with fail
      refine C.out.mono ?_
      rintro e w' ⟨rfl, rfl⟩
      go_wp2
      go_ret
      exact ⟨by rw [HF.out]; rfl, rfl⟩
set_option maxHeartbeats 1000000 in
set_option maxRecDepth 100000 in
theorem rwidestNone_any (a : Option Addr) (cap : Nat) (w : World) :
    Calls Try.prog 57 #[.slice a 0 cap] w fun e w' => e = .returned (.int .i64 0) ∧ w = w' := by
  have C : Hid (Calls Try.prog 47 #[.int .u64 0] w fun e w' => e = .returned (.int .i64 0) ∧ w = w') := Lib.hid (rwidth_any 0 w (by omega))
  go_enter Try.func57, Try.ntmps57
  go_wp2
  go_loop [3, 8] (fun m i => m = .int .u64 0 ∧ i = .int .i64 0) (fun _ _ => 0)
  case atStart => exact ⟨rfl, rfl⟩
  case round =>
    obtain ⟨rfl, rfl⟩ := hrel
    go_wp2_with fail
    refine C.out.mono ?_
    rintro e w' ⟨rfl, rfl⟩
    go_wp2
    go_ret
    exact ⟨rfl, rfl⟩
theorem rwidest_any (B : Nat) (v : Value) (zs : List Nat) (w : World) (hl : zs.length ≤ 4294967296) (hz : ∀ z ∈ zs, z ≤ 18446744073709551615) (hv : NumsAt .u64 B w v zs) :
    Calls Try.prog 57 #[v] w fun e w' => e = .returned (.int .i64 (widestN zs)) ∧ w = w' := by
  rcases hv with ⟨a, cap, rfl, rfl⟩ | ⟨b, off, cap, rfl, _, hc⟩
  · exact rwidestNone_any a cap w
  · exact rwidestSome_any b off cap zs w hl hz hc

/-- the words of the first k numbers lie in block b -/
def Filled (w : World) (b nw W : Nat) (zs : List Nat) (k : Nat) : Prop := w.rowIs b 82 nw (fun i => .int .u64 (wordZ W (zs.take k) i))

theorem HHIGH2 (W : Nat) (zs : List Nat) (k z i a : Nat) (hW : 0 < W) (h64 : W ≤ 64) (hz : zs.getD k 0 = z) (hf : z < 2 ^ W) (ha : a < 64) (hp : 64 * i + a = k * W) :
    bits .or .u64 (wordZ W (zs.take k) (i + 1) : Int) ((z : Int) / 2 ^ (64 - a)) = (wordZ W (zs.take (k + 1)) (i + 1) : Int) := by
  have hz64 : z < 2 ^ 64 := Nat.lt_of_lt_of_le hf (Nat.pow_le_pow_right (by decide) h64)
  have hd : z / 2 ^ (64 - a) ≤ z := Nat.div_le_self _ _
  rw [show ((z : Int) / 2 ^ (64 - a)) = ((z / 2 ^ (64 - a) : Nat) : Int) by rw [Int.natCast_ediv, Int.natCast_pow]; rfl,
    bits_or_u64_nat _ _ (wordZ_lt _ _ _) (by omega), wordZ_high W zs k z i a hW h64 hz hf ha hp]
set_option maxHeartbeats 400000 in
set_option maxRecDepth 100000 in
theorem write_any (b nw W k z : Nat) (zs : List Nat) (w : World) (hW : 0 < W) (h64 : W ≤ 64) (hz : zs.getD k 0 = z) (hf : z < 2 ^ W) (hk : k * W / 64 < nw) (hn : 64 < k * W % 64 + W → k * W / 64 + 1 < nw) (hnw : nw ≤ 67108864) (hr : Filled w b nw W zs k) :
    Calls Try.prog 71 #[.slice (some ⟨b, 0, none⟩) nw nw, .int .i64 (k * W : Nat), .int .i64 W, .int .u64 z] w fun e w' => e = .returned (.tuple #[]) ∧ Filled w' b nw W zs (k + 1) ∧ Below b w w' := by
  obtain ⟨pl, hpl⟩ : ∃ pl, k * W = pl := ⟨_, rfl⟩
  obtain ⟨i, hi⟩ : ∃ i, pl / 64 = i := ⟨_, rfl⟩
  obtain ⟨a, ha⟩ : ∃ a, pl % 64 = a := ⟨_, rfl⟩
  rw [hpl, hi, ha] at hn
  rw [hpl, hi] at hk
  rw [hpl]
  have hp : 64 * i + a = k * W := by omega
  have ha64 : a < 64 := by omega
  have q1 : (pl : Int) / 64 = (i : Int) := by omega
  have b7 : Int.tmod (pl : Int) 64 = (a : Int) := by rw [Int.tmod_eq_emod_of_nonneg (by omega)]; omega
  have b2 : (i : Int) < (nw : Int) := by omega
  have b3 : (0 : Int) ≤ (i : Int) := by omega
  have b4 : (i : Int).toNat = i := Int.toNat_natCast i
  have b5 : (a : Int).toNat = a := Int.toNat_natCast a
  have b6 : (0 : Int) ≤ (a : Int) := by omega
  have hw1 : w.cell? ⟨b, i, none⟩ = some (.int .u64 (wordZ W (zs.take k) i)) := World.rowIs.cell hr hk
  have hw2 : w.frozen? ⟨b, i, none⟩ = false := World.rowIs.frozen hr _
  have HLOW := wordZ_low W zs k z i a hW hz hf hp
  have HO : bits .or .u64 (wordZ W (zs.take k) i : Int) (IntKind.u64.wrap ((z : Int) * 2 ^ a)) = (wordZ W (zs.take (k + 1)) i : Int) := by
    rw [shl_u64Z, bits_or_u64_nat _ _ (wordZ_lt _ _ _) (Nat.mod_lt _ (by decide)), HLOW]
  have HO' := Lib.hid HO
  clear HO HLOW
  have HOTH := Lib.hid (wordZ_other W zs k z i a hW hz hf hp)
  have HZ := Lib.hid hz
  have HF := Lib.hid hf
  have HP := Lib.hid hp
  have HR1 : Hid ((w.setCell ⟨b, i, none⟩ (.int .u64 (wordZ W (zs.take (k + 1)) i))).drew.rowIs b 82 nw (fun j => .int .u64 (if j = i then wordZ W (zs.take (k + 1)) i else wordZ W (zs.take k) j))) := by
    refine Lib.hid (World.rowIs.congr (World.rowIs.of_block (hr.set i _) rfl) fun j _ => ?_)
    by_cases e : j = i
    · rw [if_pos e, if_pos e]
    · rw [if_neg e, if_neg e]
  have HB1 : Hid (Below b w (w.setCell ⟨b, i, none⟩ (.int .u64 (wordZ W (zs.take (k + 1)) i))).drew) := Lib.hid ((Below.refl b w).setCell (Nat.le_refl _) _).drew
  have HN := Lib.hid hn
  generalize wordZ W (zs.take k) i = u at hw1 HO'
  clear hpl hi ha hf hp hz hn hr
  go_enter Try.func71, Try.ntmps71
  go_wp2
  go_region
  rw [HO'.out]
  clear b7 b4 b5 hw1 hw2
  clear HO'
  obtain ⟨w1, hw1⟩ : ∃ w1, (w.setCell ⟨b, i, none⟩ (.int .u64 (wordZ W (zs.take (k + 1)) i))).drew = w1 := ⟨_, rfl⟩
  rw [hw1] at HR1 HB1 ⊢
  clear hw1
  generalize hu1 : wordZ W (zs.take (k + 1)) i = u1
  rw [hu1] at HR1
  have HU1 := Lib.hid hu1
  clear hu1
  generalize IntKind.u64.wrap ((z : Int) * 2 ^ a) = sh
  by_cases hcut : 64 < a + W
  · have hs : (64 : Int) < (a : Int) + (W : Int) := by omega
    have hin := HN.out hcut
    have hw1 : w1.cell? ⟨b, i + 1, none⟩ = some (.int .u64 (wordZ W (zs.take k) (i + 1))) := by
      have := World.rowIs.cell HR1.out hin
      simpa using this
    have hw2 : w1.frozen? ⟨b, i + 1, none⟩ = false := World.rowIs.frozen HR1.out _
    have HO2 := Lib.hid (HHIGH2 W zs k z i a hW h64 HZ.out HF.out ha64 HP.out)
    generalize wordZ W (zs.take k) (i + 1) = v at hw1 HO2
    have c2 : ((i + 1 : Nat) : Int) < (nw : Int) := by omega
    have c1 : IntKind.i64.wrap ((i : Int) + 1) = ((i + 1 : Nat) : Int) := IntWalk.i64_in _ (by omega)
    have c4 : IntKind.i64.wrap (64 - (a : Int)) = ((64 - a : Nat) : Int) := by rw [show (64 - (a : Int)) = ((64 - a : Nat) : Int) by omega]; exact IntWalk.i64_in _ (by omega)
    go_wp2
    go_region
    rw [HO2.out]
    clear c1 c4 hw1 hw2
    go_wp2
    go_end0
    refine ⟨rfl, ?_, ((HB1.out.setCell (Nat.le_refl _) _).drew)⟩
    refine World.rowIs.congr (World.rowIs.of_block (World.rowIs.set HR1.out (i + 1) _) rfl) fun j _ => ?_
    by_cases e : j = i + 1
    · rw [if_pos e, e]
    · rw [if_neg e]
      by_cases e2 : j = i
      · rw [if_pos e2, e2, HU1.out]
      · rw [if_neg e2, HOTH.out j (by omega) h64 ha64]
  · have hs : decide ((64 : Int) < (a : Int) + (W : Int)) = false := decide_eq_false (by omega)
    have hs2 : decide (64 < a + W) = false := decide_eq_false (by omega)
    go_wp2
    go_end0
    refine ⟨rfl, ?_, HB1.out⟩
    refine World.rowIs.congr HR1.out fun j _ => ?_
    by_cases e2 : j = i
    · rw [if_pos e2, e2, HU1.out]
    · rw [if_neg e2, HOTH.out j (by omega) h64 ha64]
end Go.Proofs.Ytibhhndiefhofaa
