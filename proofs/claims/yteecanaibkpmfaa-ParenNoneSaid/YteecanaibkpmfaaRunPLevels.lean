/-
  THE LANDED PACKAGE paren: blocks and the levels above them.
-/
import Derived.Test.YteecanaibkpmfaaRunPMake
namespace Go.Proofs.Yteecanaibkpmfaa
open Go.RowKit

theorem rmay_any (B : Nat) (v : Value) (xs : List Bool) (w : World) (hx : xs.length ≤ 4194304) (hv : BoolsAt B w v xs) :
    Calls Try.prog 34 #[v] w fun e w' => e = .returned (.bool (mayL xs)) ∧ w = w' := by
  rcases hv with ⟨a, cap, rfl, rfl⟩ | ⟨g, off, cap, rfl, hg, hc⟩
  · have h0 : mayL [] = true := rfl
    rw [h0]
    go_enter Try.func34, Try.ntmps34
    go_wp2
    go_loopw [3, 8] (fun ev iv wr => ev = .int .i64 0 ∧ iv = .int .i64 0 ∧ wr = w) (fun _ _ _ => 0)
    case atStart => exact ⟨rfl, rfl, rfl⟩
    case round =>
      obtain ⟨rfl, rfl, rfl⟩ := hrel
      go_wp2
      go_ret
      exact ⟨rfl, rfl⟩
  · exact rmaySome_any g off cap xs w hx hc
set_option maxHeartbeats 2000000 in
set_option maxRecDepth 100000 in
theorem rblocks_any (g off cap : Nat) (xs : List Bool) (w : World) (hx : xs.length ≤ 4194304) (h1 : 1 ≤ xs.length) (hg : g < w.heap.size) (hc : ∀ i, i < xs.length → w.cell? ⟨g, off + i, none⟩ = some (.bool (xs.getD i false))) :
    Calls Try.prog 37 #[.slice (some ⟨g, off, none⟩) xs.length cap] w fun e w' =>
      e = .returned (.slice (some ⟨w.heap.size, 0, none⟩) (cntP xs.length 1) (cntP xs.length 1)) ∧ w'.rowIs w.heap.size 21 (cntP xs.length 1) (fun i => .int .i32 (leastP xs 1 i)) ∧ Below w.heap.size w w' := by
  have HC := Lib.hid hc
  clear hc
  have HALL := Lib.hid (fun i (hi : i < cntP xs.length 1) => partF_all xs 0 i hi)
  have hcb : cntP xs.length 1 ≤ 4194304 := by have := cntP_le xs.length 1; omega
  have HLT := Lib.hid (fun k (hk : k < xs.length) => show k / 128 < cntP xs.length 1 by rw [cnt_one]; omega)
  have hcn : (xs.length + 127) / 128 = cntP xs.length 1 := (cnt_one _).symm
  generalize cntP xs.length 1 = c at *
  obtain ⟨m, hm⟩ : ∃ m, xs.length + 127 = m := ⟨_, rfl⟩
  have em : (xs.length : Int) + 128 - 1 = (m : Int) := by omega
  have hmb : m ≤ 8589934592 := by omega
  rw [hm] at hcn
  have hcn2 : (m : Int) / 128 = (c : Int) := by omega
  clear hm
  have hmk := make_leasts c (by omega) w
  have hrow0 := lows_start (f := leastP xs 0) (g := 128) (World.rowIs_made w (.int .i32 0) c 21)
  have hbel0 := (Below.refl w.heap.size w).alloc (Nat.le_refl _) (.cells (madeCells #[.int .i32 0] c) 21)
  go_enter Try.func37, Try.ntmps37
  go_wp2
  go_loopw [4, 16] (fun ev iv wr => ∃ k : Nat, k ≤ xs.length ∧ ev = .int .i32 (exc xs k) ∧ iv = .int .i64 k ∧ Below w.heap.size w wr ∧ Lows (leastP xs 0) 128 c k w.heap.size wr) (fun _ iv _ => xs.length - (intOf iv).toNat)
  case atStart => exact ⟨0, Nat.zero_le _, rfl, rfl, hbel0, hrow0⟩
  case round =>
    clear hmk hrow0 hbel0 hcn hcn2
    obtain ⟨k, hk, rfl, rfl, hbel, hlow⟩ := hrel
    have HBE := Lib.hid hbel
    have HLO := Lib.hid hlow
    clear hbel hlow
    by_cases hlt : k < xs.length
    · obtain ⟨b, hb⟩ : ∃ b, xs.getD k false = b := ⟨_, rfl⟩
      have hcell : wr.cell? ⟨g, off + k, none⟩ = some (.bool b) := by rw [HBE.out.cell (p := ⟨g, off + k, none⟩) hg, ← hb]; exact HC.out k hlt
      have hes := exc_succ xs k b hlt hb
      have heb := exc_bound xs k
      have heb2 := exc_bound xs (k + 1)
      have hsb := sgn_bound b
      obtain ⟨y, hy⟩ : ∃ y, exc xs (k + 1) = y := ⟨_, rfl⟩
      have HY : Hid (leastP xs 0 k = y) := Lib.hid hy
      have HY2 := Lib.hid hy
      rw [hy] at hes heb2
      generalize exc xs k = x at *
      have ex : x + sgn b = y := hes.symm
      clear hb hy hes
      obtain ⟨j, hj⟩ : ∃ j, k / 128 = j := ⟨_, rfl⟩
      have hjc : j < c := by rw [← hj]; exact HLT.out k hlt
      have hj2 : (k : Int) / 128 = (j : Int) := by omega
      have hw1 := HLO.out.cell hjc
      have hw2 := HLO.out.frozen j
      obtain ⟨z, hz⟩ : ∃ z, partF (leastP xs 0) 128 k j = z := ⟨_, rfl⟩
      have hzb := partF_bound (leastP xs 0) 4194304 (fun i => by have := least_bound xs 0 i; omega) (by omega) 128 k j
      rw [hz] at hw1 hzb
      have HZ := Lib.hid hz
      have HJ := Lib.hid hj
      have HSET := Lib.hid (fun hx => lows_set HLO.out (by decide) y hx)
      rw [hj] at HSET
      clear hz
      have e1 : IntKind.i32.wrap (sgn b) = sgn b := by simp [IntKind.wrap, IntKind.bits, IntKind.signed]; omega
      have e2 : IntKind.i32.wrap y = y := by simp [IntKind.wrap, IntKind.bits, IntKind.signed]; omega
      by_cases hk0 : k % 128 = 0
      · have hm1 : ((k : Int) % 128 == 0) = true := beq_iff_eq.2 (by omega)
        have hm2 : (k % 128 == 0) = true := beq_iff_eq.2 hk0
        have HS := Lib.hid (HSET.out (by rw [← HJ.out, partF_new (leastP xs 0) 128 k (by decide) hk0, HY.out]))
        clear hj
        go_wp2_with fail
        refine (rrise_any b wr).mono ?_
        rintro o w2 ⟨rfl, rfl⟩
        go_wp2
        go_roundw
        case rel => exact ⟨k + 1, by omega, by rw [HY2.out], by go_num, HBE.out.setCell (Nat.le_refl _) _, HS.out⟩
        case measure => simp [intOf]; omega
      · have hm1 : ((k : Int) % 128 == 0) = false := beq_eq_false_iff_ne.2 (by omega)
        have hm2 : (k % 128 == 0) = false := beq_eq_false_iff_ne.2 hk0
        have hon := partF_on (leastP xs 0) 128 k (by decide) hk0
        rw [hj, HY.out, HZ.out] at hon
        by_cases hyz : y < z
        · have g1 : decide (y < z) = true := decide_eq_true hyz
          rw [if_pos hyz] at hon
          have HS := Lib.hid (HSET.out hon.symm)
          clear hj hon
          go_wp2_with fail
          refine (rrise_any b wr).mono ?_
          rintro o w2 ⟨rfl, rfl⟩
          go_wp2
          go_roundw
          case rel => exact ⟨k + 1, by omega, by rw [HY2.out], by go_num, HBE.out.setCell (Nat.le_refl _) _, HS.out⟩
          case measure => simp [intOf]; omega
        · have g1 : decide (y < z) = false := decide_eq_false hyz
          rw [if_neg hyz] at hon
          have HS := Lib.hid (lows_stay HLO.out (by decide) (by rw [HJ.out, hon, HZ.out]))
          clear hj hon
          go_wp2_with fail
          refine (rrise_any b wr).mono ?_
          rintro o w2 ⟨rfl, rfl⟩
          go_wp2
          go_roundw
          case rel => exact ⟨k + 1, by omega, by rw [HY2.out], by go_num, HBE.out, HS.out⟩
          case measure => simp [intOf]; omega
    · have hke : k = xs.length := by omega
      subst hke
      go_wp2
      go_ret
      exact ⟨rfl, World.rowIs.congr HLO.out fun i hi => by rw [← HALL.out i hi]; rfl, HBE.out⟩
theorem rblocksNone_any (a : Option Addr) (cap : Nat) (w : World) :
    Calls Try.prog 37 #[.slice a 0 cap] w fun e w' => e = .returned (.slice (some ⟨w.heap.size, 0, none⟩) 0 0) ∧ Below w.heap.size w w' := by
  have hmk : (Instr.makeSlice 53 (.int .i64 0) (.int .i64 0)).run Try.prog w = .ok (.slice (some ⟨w.heap.size, 0, none⟩) 0 0) (w.alloc (.cells (madeCells #[.int .i32 0] 0) 21)) := make_leasts 0 (by omega) w
  have hbel0 := (Below.refl w.heap.size w).alloc (Nat.le_refl _) (.cells (madeCells #[.int .i32 0] 0) 21)
  go_enter Try.func37, Try.ntmps37
  go_wp2
  go_loopw [4, 16] (fun ev iv wr => ev = .int .i32 0 ∧ iv = .int .i64 0 ∧ Below w.heap.size w wr) (fun _ _ _ => 0)
  case atStart => exact ⟨rfl, rfl, hbel0⟩
  case round =>
    clear hmk
    obtain ⟨rfl, rfl, hb⟩ := hrel
    go_wp2
    go_ret
    exact ⟨rfl, hb⟩
end Go.Proofs.Yteecanaibkpmfaa
