/-
  THE CONTRACTS OF pack AND read OF THE LANDED PACKAGE ints.
-/
import Derived.Test.YtibhhndiefhofaaRunFill
namespace Go.Proofs.Ytibhhndiefhofaa
open Go.RowKit

theorem info_u64Z : (Try.prog.info? 82).map (fun i => (i.zero, i.size, i.bytes)) = some (some (.int .u64 0), 1, 8) := by kernel_rfl
theorem make_wordsZ (n : Nat) (h : n ≤ 4294967296) (w : World) :
    (Instr.makeSlice 108 (.int .i64 (n : Int)) (.int .i64 (n : Int))).run Try.prog w = .ok (.slice (some ⟨w.heap.size, 0, none⟩) n n) (w.alloc (.cells (madeCells #[.int .u64 0] n) 82)) :=
  run_make_row' 108 82 (.int .u64 0) 8 Try.underlying108 info_u64Z rfl .i64 .i64 n (by omega) (by omega) w
theorem filled_start {w : World} {b nw W : Nat} {zs : List Nat} (h : w.rowIs b 82 nw (fun _ => .int .u64 0)) : Filled w b nw W zs 0 := h.congr fun i _ => by rw [wordZ_none]; rfl
theorem mul_le64 (k W n : Nat) (hk : k ≤ n) (hn : n ≤ 4194304) (hW : W ≤ 64) : k * W ≤ 268435456 := Nat.le_trans (Nat.mul_le_mul (Nat.le_trans hk hn) hW) (by decide)

set_option maxHeartbeats 1000000 in
set_option maxRecDepth 100000 in
theorem pack_anyZ (g off cap : Nat) (zs : List Nat) (W : Nat) (w : World) (hx : zs.length ≤ 4194304) (hW : 0 < W) (h64 : W ≤ 64) (hfit : ∀ k, zs.getD k 0 < 2 ^ W) (hg : g < w.heap.size)
    (hc : ∀ i, i < zs.length → w.cell? ⟨g, off + i, none⟩ = some (.int .u64 (zs.getD i 0))) :
    Calls Try.prog 58 #[.slice (some ⟨g, off, none⟩) zs.length cap, .int .i64 W] w fun e w' =>
      e = .returned (.slice (some ⟨w.heap.size, 0, none⟩) (begunN (zs.length * W) 64) (begunN (zs.length * W) 64)) ∧ w'.rowIs w.heap.size 82 (begunN (zs.length * W) 64) (fun i => .int .u64 (wordZ W zs i)) ∧ Below w.heap.size w w' := by
  have HC := Lib.hid hc
  have HFIT := Lib.hid hfit
  clear hc hfit
  have hm := mul_le64 zs.length W zs.length (Nat.le_refl _) hx h64
  have HPI := Lib.hid (fun k (hk : k < zs.length) => place_in zs.length W k hW hk)
  have HPN := Lib.hid (fun k (hk : k < zs.length) => place_next zs.length W k hk)
  have HPL := Lib.hid (fun k (hk : k ≤ zs.length) => mul_le64 k W zs.length hk hx h64)
  obtain ⟨m, hmm⟩ : ∃ m, zs.length * W = m := ⟨_, rfl⟩
  have e1 : (zs.length : Int) * (W : Int) = (m : Int) := by rw [← hmm]; rfl
  rw [hmm] at hm HPI HPN ⊢
  have q1 : ((m : Int) + 64 - 1) / 64 = ((begunN m 64 : Nat) : Int) := by unfold begunN; omega
  have hnw : begunN m 64 ≤ 67108864 := by unfold begunN; omega
  generalize begunN m 64 = nw at *
  clear hmm
  have hmk := make_wordsZ nw (by omega) w
  have hbel0 : Below w.heap.size w (w.alloc (.cells (madeCells #[.int .u64 0] nw) 82)) := (Below.refl w.heap.size w).alloc (Nat.le_refl _) _
  have hrow0 : Filled (w.alloc (.cells (madeCells #[.int .u64 0] nw) 82)) w.heap.size nw W zs 0 := filled_start (World.rowIs_made w _ _ _)
  go_enter Try.func58, Try.ntmps58
  go_wp2
  go_loopw [18] (fun i wr => ∃ k : Nat, k ≤ zs.length ∧ i = .int .i64 k ∧ Below w.heap.size w wr ∧ Filled wr w.heap.size nw W zs k) (fun i _ => zs.length - (intOf i).toNat)
  case atStart => exact ⟨0, Nat.zero_le _, rfl, hbel0, hrow0⟩
  case round =>
    obtain ⟨k, hk, rfl, hbel, hrow⟩ := hrel
    clear hmk hbel0 hrow0 q1 e1
    by_cases hlt : k < zs.length
    · obtain ⟨z, hzz⟩ : ∃ z, zs.getD k 0 = z := ⟨_, rfl⟩
      have hcell : wr.cell? ⟨g, off + k, none⟩ = some (.int .u64 z) := by rw [hbel.cell (p := ⟨g, off + k, none⟩) hg, ← hzz]; exact HC.out k hlt
      have hf := HFIT.out k
      rw [hzz] at hf
      have C := write_any w.heap.size nw W k z zs wr hW h64 hzz hf (HPI.out k hlt) (HPN.out k hlt) hnw hrow
      have hpb := HPL.out k hk
      obtain ⟨pl, hpl⟩ : ∃ pl, k * W = pl := ⟨_, rfl⟩
      have e2 : (k : Int) * (W : Int) = (pl : Int) := by rw [← hpl]; rfl
      rw [hpl] at C hpb
      have C' := Lib.hid C
      clear C hpl hzz hf
      go_wp2_with fail
      refine C'.out.mono ?_
      rintro e w' ⟨rfl, hrow', hb'⟩
      go_wp2
      go_roundw
      case rel => exact ⟨k + 1, by omega, by go_num, hbel.trans hb', hrow'⟩
      case measure => simp [intOf]; omega
    · have hke : k = zs.length := by omega
      subst hke
      go_wp2
      go_ret
      exact ⟨rfl, World.rowIs.congr hrow fun i _ => by rw [List.take_length], hbel⟩

theorem shl_mask (W : Nat) (h : W ≤ 64) : IntKind.u64.wrap (IntKind.u64.wrap (2 ^ W) - 1) = ((2 ^ W - 1 : Nat) : Int) := by
  have h1 := shl_u64Z 1 W
  rw [Nat.one_mul, show ((1 : Nat) : Int) = 1 from rfl, Int.one_mul] at h1
  rw [h1]
  have hp : 2 ^ W ≤ 2 ^ 64 := Nat.pow_le_pow_right (by decide) h
  have hp0 : 0 < 2 ^ W := Nat.two_pow_pos W
  rw [IntKind.wrap_u64]
  by_cases he : 2 ^ W = 2 ^ 64
  · rw [he]; decide
  · rw [Nat.mod_eq_of_lt (by omega)]
    omega
theorem mask_lt (W : Nat) (h : W ≤ 64) : 2 ^ W - 1 < 18446744073709551616 := by
  have hp : 2 ^ W ≤ 2 ^ 64 := Nat.pow_le_pow_right (by decide) h
  omega
theorem shr_nat (u a : Nat) : ((u : Int) / 2 ^ a) = ((u / 2 ^ a : Nat) : Int) := by rw [Int.natCast_ediv, Int.natCast_pow]; rfl
theorem read_low_val (u a W z : Nat) (hu : u < 18446744073709551616) (h64 : W ≤ 64) (h : u / 2 ^ a &&& (2 ^ W - 1) = z) :
    bits .and .u64 ((u : Int) / 2 ^ a) (IntKind.u64.wrap (IntKind.u64.wrap (2 ^ W) - 1)) = (z : Int) := by
  have hd : u / 2 ^ a ≤ u := Nat.div_le_self _ _
  rw [shl_mask W h64, shr_nat, bits_and_u64_nat _ _ (by omega) (mask_lt W h64), h]
theorem read_high_val (u v a W z : Nat) (hu : u < 18446744073709551616) (h64 : W ≤ 64) (h : (u / 2 ^ a ||| v * 2 ^ (64 - a) % 2 ^ 64) &&& (2 ^ W - 1) = z) :
    bits .and .u64 (bits .or .u64 ((u : Int) / 2 ^ a) (IntKind.u64.wrap ((v : Int) * 2 ^ (64 - a)))) (IntKind.u64.wrap (IntKind.u64.wrap (2 ^ W) - 1)) = (z : Int) := by
  have hd : u / 2 ^ a ≤ u := Nat.div_le_self _ _
  have hm : v * 2 ^ (64 - a) % 2 ^ 64 < 2 ^ 64 := Nat.mod_lt _ (by decide)
  have ho : u / 2 ^ a ||| v * 2 ^ (64 - a) % 2 ^ 64 < 2 ^ 64 := Nat.or_lt_two_pow (by omega) hm
  rw [shl_mask W h64, shr_nat, shl_u64Z, bits_or_u64_nat _ _ (by omega) hm, bits_and_u64_nat _ _ ho (mask_lt W h64), h]
set_option maxHeartbeats 1000000 in
set_option maxRecDepth 100000 in
theorem read_any (b nw W k z : Nat) (zs : List Nat) (w : World) (hW : 0 < W) (h64 : W ≤ 64) (hz : zs.getD k 0 = z) (hf : z < 2 ^ W) (hk : k * W / 64 < nw) (hn : 64 < k * W % 64 + W → k * W / 64 + 1 < nw) (hnw : nw ≤ 67108864)
    (hr : w.rowIs b 82 nw (fun i => .int .u64 (wordZ W zs i))) :
    Calls Try.prog 74 #[.slice (some ⟨b, 0, none⟩) nw nw, .int .i64 (k * W : Nat), .int .i64 W] w fun e w' => e = .returned (.int .u64 z) ∧ w = w' := by
  obtain ⟨pl, hpl⟩ : ∃ pl, k * W = pl := ⟨_, rfl⟩
  obtain ⟨i, hi⟩ : ∃ i, pl / 64 = i := ⟨_, rfl⟩
  obtain ⟨a, ha⟩ : ∃ a, pl % 64 = a := ⟨_, rfl⟩
  rw [hpl, hi, ha] at hn
  rw [hpl, hi] at hk
  rw [hpl]
  have hp : 64 * i + a = k * W := by omega
  have ha64 : a < 64 := by omega
  have q1 : (pl : Int) / 64 = (i : Int) := by omega
  have b7 : Int.tmod (pl : Int) 64 = (a : Int) := by rw [Int.tmod_eq_emod_of_nonneg (by omega)]; omega
  have b2 : (i : Int) < (nw : Int) := by omega
  have b3 : (0 : Int) ≤ (i : Int) := by omega
  have b6 : (0 : Int) ≤ (a : Int) := by omega
  have hw1 : w.cell? ⟨b, i, none⟩ = some (.int .u64 (wordZ W zs i)) := World.rowIs.cell hr hk
  by_cases hcut : 64 < a + W
  · have hw2 : w.cell? ⟨b, i + 1, none⟩ = some (.int .u64 (wordZ W zs (i + 1))) := World.rowIs.cell hr (hn hcut)
    have hin := hn hcut
    have HR := Lib.hid (wordZ_read_high W zs k z i a hz hf hp ha64 h64)
    have HU := Lib.hid (wordZ_lt W zs i)
    have HV := Lib.hid (wordZ_lt W zs (i + 1))
    generalize wordZ W zs i = u at *
    generalize wordZ W zs (i + 1) = v at *
    have hs : (64 : Int) < (a : Int) + (W : Int) := by omega
    have c2 : ((i + 1 : Nat) : Int) < (nw : Int) := by omega
    clear hpl hi ha hf hp hz hn hr
    go_enter Try.func74, Try.ntmps74
    go_wp2
    go_ret
    exact ⟨by rw [← read_high_val u v a W z HU.out h64 HR.out]; rfl, rfl⟩
  · have HR := Lib.hid (wordZ_read_low W zs k z i a hz hf hp (by omega))
    have HU := Lib.hid (wordZ_lt W zs i)
    generalize wordZ W zs i = u at *
    have hs : decide ((64 : Int) < (a : Int) + (W : Int)) = false := decide_eq_false (by omega)
    have hs2 : decide (64 < a + W) = false := decide_eq_false (by omega)
    clear hpl hi ha hf hp hz hn hr
    go_enter Try.func74, Try.ntmps74
    go_wp2
    go_ret
    exact ⟨by rw [← read_low_val u a W z HU.out h64 HR.out]; rfl, rfl⟩
end Go.Proofs.Ytibhhndiefhofaa
