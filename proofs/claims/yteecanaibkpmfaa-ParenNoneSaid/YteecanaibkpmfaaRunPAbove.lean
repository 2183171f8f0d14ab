/-
  THE LANDED PACKAGE paren: one level above another.
-/
import Derived.Test.YteecanaibkpmfaaRunPLevels
namespace Go.Proofs.Yteecanaibkpmfaa
open Go.RowKit

theorem raboveNo_any (a : Option Addr) (m : Nat) (w : World) (h : m ≤ 8) :
    Calls Try.prog 39 #[.slice a m m] w fun e w' => e = .returned (.slice none 0 0) ∧ w = w' := by
  have g1 : decide (m ≤ 8) = true := decide_eq_true h
  go_enter Try.func39, Try.ntmps39
  go_wp2
  go_ret
  exact ⟨rfl, rfl⟩
set_option maxHeartbeats 2000000 in
set_option maxRecDepth 100000 in
theorem rabove_any (g l : Nat) (xs : List Bool) (w : World) (hx : xs.length ≤ 4194304) (h1 : 1 ≤ l) (h8 : 8 < cntP xs.length l) (hr : w.rowIs g 21 (cntP xs.length l) (fun i => .int .i32 (leastP xs l i))) :
    Calls Try.prog 39 #[.slice (some ⟨g, 0, none⟩) (cntP xs.length l) (cntP xs.length l)] w fun e w' =>
      e = .returned (.slice (some ⟨w.heap.size, 0, none⟩) (cntP xs.length (l + 1)) (cntP xs.length (l + 1))) ∧ w'.rowIs w.heap.size 21 (cntP xs.length (l + 1)) (fun i => .int .i32 (leastP xs (l + 1) i)) ∧ Below w.heap.size w w' := by
  have hgr : grpP l = 8 := if_neg (by omega)
  have hall := fun i (hi : i < cntP xs.length (l + 1)) => partF_all xs l i hi
  rw [hgr] at hall
  have hcb : cntP xs.length (l + 1) ≤ 4194304 := by have := cntP_le xs.length (l + 1); omega
  have hcb0 : cntP xs.length l ≤ 4194304 := by have := cntP_le xs.length l; omega
  have hnx : (cntP xs.length l + 8 - 1) / 8 = cntP xs.length (l + 1) := by rw [cnt_next, hgr]
  have hlt := fun k (hk : k < cntP xs.length l) => show k / 8 < cntP xs.length (l + 1) by omega
  have HB := Lib.hid (fun i => show -4194304 ≤ leastP xs l i ∧ leastP xs l i ≤ 4194304 by have := least_bound xs l i; omega)
  have hg := hr.lt
  have HALL := Lib.hid hall
  have HLT := Lib.hid hlt
  have HR := Lib.hid hr
  clear hall hlt hr hgr
  generalize hf : leastP xs l = f at *
  generalize cntP xs.length (l + 1) = c at *
  generalize cntP xs.length l = n at *
  obtain ⟨m, hm⟩ : ∃ m, n + 7 = m := ⟨_, rfl⟩
  have em : (n : Int) + 8 - 1 = (m : Int) := by omega
  have hmb : m ≤ 8589934592 := by omega
  have hcn : m / 8 = c := by rw [← hnx]; congr 1; omega
  have hcn2 : (m : Int) / 8 = (c : Int) := by omega
  have hmk := make_leasts c (by omega) w
  have hrow0 := lows_start (f := f) (g := 8) (World.rowIs_made w (.int .i32 0) c 21)
  have hbel0 := (Below.refl w.heap.size w).alloc (Nat.le_refl _) (.cells (madeCells #[.int .i32 0] c) 21)
  have g8 : decide (n ≤ 8) = false := decide_eq_false (by omega)
  clear hm hnx hf
  go_enter Try.func39, Try.ntmps39
  go_wp2
  go_loopw [17] (fun iv wr => ∃ k : Nat, k ≤ n ∧ iv = .int .i64 k ∧ Below w.heap.size w wr ∧ Lows f 8 c k w.heap.size wr) (fun iv _ => n - (intOf iv).toNat)
  case atStart => exact ⟨0, Nat.zero_le _, rfl, hbel0, hrow0⟩
  case round =>
    clear hmk hrow0 hbel0 hcn hcn2 em
    obtain ⟨k, hk, rfl, hbel, hlow⟩ := hrel
    have HBE := Lib.hid hbel
    have HLO := Lib.hid hlow
    clear hbel hlow
    by_cases hlt : k < n
    · obtain ⟨y, hy⟩ : ∃ y, f k = y := ⟨_, rfl⟩
      have hcell : wr.cell? ⟨g, k, none⟩ = some (.int .i32 y) := by rw [HBE.out.cell (p := ⟨g, k, none⟩) hg, ← hy]; exact HR.out.cell hlt
      have hyb := HB.out k
      have HY := Lib.hid hy
      rw [hy] at hyb
      clear hy
      obtain ⟨j, hj⟩ : ∃ j, k / 8 = j := ⟨_, rfl⟩
      have hjc : j < c := by rw [← hj]; exact HLT.out k hlt
      have hj2 : (k : Int) / 8 = (j : Int) := by omega
      have hw1 := HLO.out.cell hjc
      have hw2 := HLO.out.frozen j
      obtain ⟨z, hz⟩ : ∃ z, partF f 8 k j = z := ⟨_, rfl⟩
      have hzb := partF_bound f 4194304 HB.out (by omega) 8 k j
      rw [hz] at hw1 hzb
      have HZ := Lib.hid hz
      have HJ := Lib.hid hj
      have HSET := Lib.hid (fun hx => lows_set HLO.out (by decide) y hx)
      rw [hj] at HSET
      clear hz
      by_cases hk0 : k % 8 = 0
      · have hm1 : ((k : Int) % 8 == 0) = true := beq_iff_eq.2 (by omega)
        have hm2 : (k % 8 == 0) = true := beq_iff_eq.2 hk0
        have HS := Lib.hid (HSET.out (by rw [← HJ.out, partF_new f 8 k (by decide) hk0, HY.out]))
        go_wp2
        go_roundw
        case rel => exact ⟨k + 1, by omega, by go_num, HBE.out.setCell (Nat.le_refl _) _, HS.out⟩
        case measure => simp [intOf]; omega
      · have hm1 : ((k : Int) % 8 == 0) = false := beq_eq_false_iff_ne.2 (by omega)
        have hm2 : (k % 8 == 0) = false := beq_eq_false_iff_ne.2 hk0
        have hon := partF_on f 8 k (by decide) hk0
        rw [hj, HY.out, HZ.out] at hon
        by_cases hyz : y < z
        · have g1 : decide (y < z) = true := decide_eq_true hyz
          rw [if_pos hyz] at hon
          have HS := Lib.hid (HSET.out hon.symm)
          clear hon
          go_wp2
          go_roundw
          case rel => exact ⟨k + 1, by omega, by go_num, HBE.out.setCell (Nat.le_refl _) _, HS.out⟩
          case measure => simp [intOf]; omega
        · have g1 : decide (y < z) = false := decide_eq_false hyz
          rw [if_neg hyz] at hon
          have HS := Lib.hid (lows_stay HLO.out (by decide) (by rw [HJ.out, hon, HZ.out]))
          clear hon
          go_wp2
          go_roundw
          case rel => exact ⟨k + 1, by omega, by go_num, HBE.out, HS.out⟩
          case measure => simp [intOf]; omega
    · have hke : k = n := by omega
      subst hke
      go_wp2
      go_ret
      exact ⟨rfl, World.rowIs.congr HLO.out fun i hi => by rw [← HALL.out i hi], HBE.out⟩
end Go.Proofs.Yteecanaibkpmfaa
