/-
  THE CONTRACT OF count OF THE LANDED PACKAGE bits: both directories of the words.
-/
import Derived.Test.YteecanaibkpmfaaRunPack
namespace Go.Proofs.Yteecanaibkpmfaa
open Go.RowKit

theorem inner_zero (xs : List Bool) (k : Nat) (h : k % 8 = 0) : innerN xs k = 0 := by
  unfold innerN
  rw [show 8 * (k / 8) = k by omega]
  omega
theorem inner_next (xs : List Bool) (k : Nat) (h : (k + 1) % 8 ≠ 0) : innerN xs (k + 1) = innerN xs k + cnt (wordOf xs k) 64 := by
  have h1 := inner_sum xs k
  have h2 := inner_sum xs (k + 1)
  rw [show (k + 1) / 8 = k / 8 by omega] at h2
  have h3 := ahead_next xs k
  omega
theorem info_u32 : (Try.prog.info? 88).map (fun i => (i.zero, i.size, i.bytes)) = some (some (.int .u32 0), 1, 4) := by kernel_rfl
theorem info_u16 : (Try.prog.info? 89).map (fun i => (i.zero, i.size, i.bytes)) = some (some (.int .u16 0), 1, 2) := by kernel_rfl
theorem make_blocks (n : Nat) (h : n ≤ 4294967296) (w : World) :
    (Instr.makeSlice 72 (.int .i64 (n : Int)) (.int .i64 (n : Int))).run Try.prog w = .ok (.slice (some ⟨w.heap.size, 0, none⟩) n n) (w.alloc (.cells (madeCells #[.int .u32 0] n) 88)) :=
  run_make_row' 72 88 (.int .u32 0) 4 Try.underlying72 info_u32 rfl .i64 .i64 n (by omega) (by omega) w
theorem make_inner (n : Nat) (h : n ≤ 4294967296) (w : World) :
    (Instr.makeSlice 74 (.int .i64 (n : Int)) (.int .i64 (n : Int))).run Try.prog w = .ok (.slice (some ⟨w.heap.size, 0, none⟩) n n) (w.alloc (.cells (madeCells #[.int .u16 0] n) 89)) :=
  run_make_row' 74 89 (.int .u16 0) 2 Try.underlying74 info_u16 rfl .i64 .i64 n (by omega) (by omega) w

/-- the directories of the first k words lie in blocks b and c -/
structure Counted (w : World) (b c nb nw : Nat) (xs : List Bool) (k : Nat) : Prop where
  blocks : w.rowIs b 88 nb (fun i => .int .u32 ((if 8 * i < k then aheadN xs (8 * i) else 0 : Nat) : Int))
  inner : w.rowIs c 89 nw (fun i => .int .u16 ((if i < k then innerN xs i else 0 : Nat) : Int))
theorem counted_start {w : World} {b c nb nw : Nat} {xs : List Bool} (h1 : w.rowIs b 88 nb (fun _ => .int .u32 0)) (h2 : w.rowIs c 89 nw (fun _ => .int .u16 0)) : Counted w b c nb nw xs 0 :=
  ⟨h1.congr fun i _ => by rw [if_neg (Nat.not_lt_zero _)]; rfl, h2.congr fun i _ => by rw [if_neg (Nat.not_lt_zero _)]; rfl⟩
theorem counted_in {w : World} {b c nb nw : Nat} {xs : List Bool} {k : Nat} (h : Counted w b c nb nw xs k) (hbc : b ≠ c) (hk : k % 8 ≠ 0) (x : Int) (hx : x = (innerN xs k : Int)) :
    Counted (w.setCell ⟨c, k, none⟩ (.int .u16 x)) b c nb nw xs (k + 1) := by
  subst hx
  refine ⟨World.rowIs.congr (h.blocks.setOther (a := ⟨c, k, none⟩) hbc _) fun i _ => ?_, World.rowIs.congr (h.inner.set k _) fun i _ => ?_⟩
  · by_cases e : 8 * i < k
    · rw [if_pos e, if_pos (by omega)]
    · rw [if_neg e, if_neg (by omega)]
  · by_cases e : i = k
    · rw [if_pos e, e, if_pos (by omega)]
    · rw [if_neg e]
      by_cases e2 : i < k
      · rw [if_pos e2, if_pos (by omega)]
      · rw [if_neg e2, if_neg (by omega)]
theorem counted_on {w : World} {b c nb nw : Nat} {xs : List Bool} {k : Nat} (h : Counted w b c nb nw xs k) (hbc : b ≠ c) (hk : k % 8 = 0) (x y : Int) (hx : x = (aheadN xs k : Int)) (hy : y = (innerN xs k : Int)) :
    Counted ((w.setCell ⟨b, k / 8, none⟩ (.int .u32 x)).setCell ⟨c, k, none⟩ (.int .u16 y)) b c nb nw xs (k + 1) := by
  subst hx
  subst hy
  refine ⟨World.rowIs.congr ((h.blocks.set (k / 8) _).setOther (a := ⟨c, k, none⟩) hbc _) fun i _ => ?_, World.rowIs.congr ((h.inner.setOther (a := ⟨b, k / 8, none⟩) (Ne.symm hbc) _).set k _) fun i _ => ?_⟩
  · by_cases e : i = k / 8
    · rw [if_pos e, if_pos (by omega), show 8 * i = k by omega]
    · rw [if_neg e]
      by_cases e2 : 8 * i < k
      · rw [if_pos e2, if_pos (by omega)]
      · rw [if_neg e2, if_neg (by omega)]
  · by_cases e : i = k
    · rw [if_pos e, e, if_pos (by omega)]
    · rw [if_neg e]
      by_cases e2 : i < k
      · rw [if_pos e2, if_pos (by omega)]
      · rw [if_neg e2, if_neg (by omega)]
def OwnIs (xs : List Bool) (k o : Nat) : Prop := o ≤ 512 ∧ (k % 8 ≠ 0 → o = innerN xs k)

set_option maxHeartbeats 2000000 in
set_option maxRecDepth 100000 in
theorem count_any (g : Nat) (xs : List Bool) (w : World) (hx : xs.length ≤ 4194304) (hw : w.rowIs g 66 (nWords xs) (fun i => .int .u64 (wordOf xs i))) :
    Calls Try.prog 55 #[.slice (some ⟨g, 0, none⟩) (nWords xs) (nWords xs)] w fun e w' =>
      e = .returned (.tuple #[.slice (some ⟨w.heap.size, 0, none⟩) (nBlocks xs) (nBlocks xs), .slice (some ⟨w.heap.size + 1, 0, none⟩) (nWords xs) (nWords xs)]) ∧
        Counted w' w.heap.size (w.heap.size + 1) (nBlocks xs) (nWords xs) xs (nWords xs) ∧ Below w.heap.size w w' := by
  have hn : nWords xs ≤ 65536 := by unfold nWords begunN; omega
  have hnb2 : nBlocks xs ≤ 65536 := by unfold nBlocks begunN; omega
  have hnw : ∀ k, k < nWords xs → k / 8 < nBlocks xs := fun k hk => by unfold nBlocks begunN; omega
  have HN := Lib.hid hnw
  clear hnw
  have CB := rbegun_any (nWords xs) 8 w (by omega) (by decide) (by decide)
  rw [show begunN (nWords xs) 8 = nBlocks xs from rfl] at CB
  have CB' := Lib.hid CB
  clear CB
  have hg := hw.lt
  generalize nWords xs = nw at *
  generalize nBlocks xs = nb at *
  have hmk := make_blocks nb (by omega) w
  have hmk2 := make_inner nw (by omega) (w.alloc (.cells (madeCells #[.int .u32 0] nb) 88))
  have hs1 : (w.alloc (.cells (madeCells #[.int .u32 0] nb) 88)).heap.size = w.heap.size + 1 := by show (w.heap.push _).size = _; rw [Array.size_push]
  rw [hs1] at hmk2
  have hbel0 : Below w.heap.size w ((w.alloc (.cells (madeCells #[.int .u32 0] nb) 88)).alloc (.cells (madeCells #[.int .u16 0] nw) 89)) := ((Below.refl w.heap.size w).alloc (Nat.le_refl _) _).alloc (by rw [hs1]; omega) _
  have hrow1 := World.rowIs.alloc (World.rowIs_made w (.int .u32 0) nb 88) (.cells (madeCells #[.int .u16 0] nw) 89)
  have hrow2 := World.rowIs_made (w.alloc (.cells (madeCells #[.int .u32 0] nb) 88)) (.int .u16 0) nw 89
  rw [hs1] at hrow2
  have hc0 : Counted ((w.alloc (.cells (madeCells #[.int .u32 0] nb) 88)).alloc (.cells (madeCells #[.int .u16 0] nw) 89)) w.heap.size (w.heap.size + 1) nb nw xs 0 := counted_start hrow1 hrow2
  have HW := Lib.hid hw
  clear hs1 hrow1 hrow2 hw
  go_enter Try.func55, Try.ntmps55
  go_wp2_with fail
  refine CB'.out.mono ?_
  rintro e w' ⟨rfl, rfl⟩
  go_wp2
  go_loopw [6, 7, 20] (fun a o i wr => ∃ k ow : Nat, k ≤ nw ∧ i = .int .i64 k ∧ a = .int .i64 (aheadN xs k) ∧ o = .int .i64 ow ∧ OwnIs xs k ow ∧ Below w.heap.size w wr ∧ Counted wr w.heap.size (w.heap.size + 1) nb nw xs k) (fun _ _ i _ => nw - (intOf i).toNat)
  case atStart => exact ⟨0, 0, Nat.zero_le _, rfl, rfl, rfl, ⟨by omega, fun h => absurd rfl h⟩, hbel0, hc0⟩
  case round =>
    obtain ⟨k, ow, hk, rfl, rfl, rfl, hown, hbel, hcnt⟩ := hrel
    clear hmk hmk2 hbel0 hc0
    by_cases hlt : k < nw
    · have hcell : wr.cell? ⟨g, k, none⟩ = some (.int .u64 (wordOf xs k)) := by rw [hbel.cell (p := ⟨g, k, none⟩) hg]; exact HW.out.cell hlt
      have hjn := HN.out k hlt
      have hw1 := hcnt.blocks.cell hjn
      have hw2 := hcnt.blocks.frozen (k / 8)
      have hw3 := hcnt.inner.cell hlt
      have hw4 := hcnt.inner.frozen k
      have C3 := Lib.hid (ones_any (wordOf xs k) (wordOf_lt xs k))
      have hnx := ahead_next xs k
      have hal : aheadN xs k ≤ 4194304 := Nat.le_trans (ahead_le xs k) hx
      have hcl := cnt_le (wordOf xs k) 64
      have hil := inner_le xs k
      by_cases h8 : k % 8 = 0
      · have hm : ((k : Int) % 8 == 0) = true := beq_iff_eq.2 (by omega)
        have HI := Lib.hid (inner_zero xs k h8)
        have HK := fun x hx => counted_on hcnt (show w.heap.size ≠ w.heap.size + 1 by omega) h8 x 0 hx (by rw [HI.out]; rfl)
        have HK' := Lib.hid HK
        have hin : (k + 1) % 8 ≠ 0 → innerN xs (k + 1) = cnt (wordOf xs k) 64 := fun h => by rw [inner_next xs k h, HI.out, Nat.zero_add]
        have HIN := Lib.hid hin
        have H8 := Lib.hid h8
        clear HK hin h8 hown hcnt
        generalize aheadN xs k = a at *
        generalize wordOf xs k = u at *
        generalize cnt u 64 = c at *
        have HX := Lib.hid hnx
        clear hnx
        generalize (if 8 * (k / 8) < k then aheadN xs (8 * (k / 8)) else 0) = y1 at *
        generalize (if k < k then innerN xs k else 0) = y2 at *
        go_wp2_with fail
        refine (C3.out _).mono ?_
        rintro e w' ⟨rfl, rfl⟩
        go_wp2
        go_roundw
        case rel => exact ⟨k + 1, c, by omega, by go_num, by rw [HX.out]; go_num, rfl, ⟨by omega, fun h => (HIN.out h).symm⟩, (hbel.setCell (Nat.le_refl _) _).setCell (Nat.le_succ _) _, HK'.out _ rfl⟩
        case measure => simp [intOf]; omega
      · have hm : ((k : Int) % 8 == 0) = false := beq_eq_false_iff_ne.2 (by omega)
        obtain ⟨ho1, ho2⟩ := hown
        have ho := ho2 h8
        have HK' := Lib.hid (counted_in hcnt (show w.heap.size ≠ w.heap.size + 1 by omega) h8 (ow : Int) (by rw [ho]))
        have hin : (k + 1) % 8 ≠ 0 → ow + cnt (wordOf xs k) 64 = innerN xs (k + 1) := fun h => by rw [inner_next xs k h, ho]
        have HIN := Lib.hid hin
        have how : ow ≤ 448 := by omega
        clear hin hcnt ho ho2
        generalize aheadN xs k = a at *
        generalize wordOf xs k = u at *
        generalize cnt u 64 = c at *
        have HX := Lib.hid hnx
        clear hnx
        generalize (if 8 * (k / 8) < k then aheadN xs (8 * (k / 8)) else 0) = y1 at *
        generalize (if k < k then innerN xs k else 0) = y2 at *
        go_wp2_with fail
        refine (C3.out _).mono ?_
        rintro e w' ⟨rfl, rfl⟩
        go_wp2
        go_roundw
        case rel => exact ⟨k + 1, ow + c, by omega, by go_num, by rw [HX.out]; go_num, by go_num, ⟨by omega, HIN.out⟩, hbel.setCell (Nat.le_succ _) _, HK'.out⟩
        case measure => simp [intOf]; omega
    · have hke : k = nw := by omega
      subst hke
      go_wp2
      go_ret2
      exact ⟨rfl, hcnt, hbel⟩
end Go.Proofs.Yteecanaibkpmfaa
