/-
  THE CONTRACT OF pack OF THE LANDED PACKAGE bits: words are filled bit by bit.
  THE CONTRACT OF count OF THE LANDED PACKAGE bits: both directories of the words.
  THE CONTRACT OF New OF THE LANDED PACKAGE bits: the bits are kept, in new blocks.
-/
import Derived.Test.YtibhhndiefhofaaRunBitA
import Derived.RegionTactic
import Derived.BigRegion
namespace Go.Proofs.Ytibhhndiefhofaa
open Go.RowKit

theorem info_u64 : (Try.prog.info? 82).map (fun i => (i.zero, i.size, i.bytes)) = some (some (.int .u64 0), 1, 8) := by kernel_rfl
theorem make_words (n : Nat) (h : n ≤ 4294967296) (w : World) :
    (Instr.makeSlice 111 (.int .i64 (n : Int)) (.int .i64 (n : Int))).run Try.prog w = .ok (.slice (some ⟨w.heap.size, 0, none⟩) n n) (w.alloc (.cells (madeCells #[.int .u64 0] n) 82)) :=
  run_make_row' 111 82 (.int .u64 0) 8 Try.underlying111 info_u64 rfl .i64 .i64 n (by omega) (by omega) w
theorem or_bit (u t : Nat) (hu : u < 18446744073709551616) (ht : t < 64) : bits .or .u64 (u : Int) (IntKind.u64.wrap (2 ^ t)) = ((u ||| 2 ^ t : Nat) : Int) := by
  have hp : 2 ^ t < 2 ^ 64 := Nat.pow_lt_pow_right (by decide) ht
  have e : IntKind.u64.wrap (2 ^ t) = ((2 ^ t : Nat) : Int) := by
    have := shl_u64 1 t
    rw [Nat.one_mul, Nat.mod_eq_of_lt hp, show ((1 : Nat) : Int) = 1 from rfl, Int.one_mul] at this
    exact this
  rw [e]
  exact bits_or_u64_nat u (2 ^ t) hu hp

/-- the words of the first k bits lie in block b -/
def Packed (w : World) (b n : Nat) (xs : List Bool) (k : Nat) : Prop := w.rowIs b 82 n (fun i => .int .u64 (wordOf (xs.take k) i))
theorem packed_start {w : World} {b n : Nat} {xs : List Bool} (h : w.rowIs b 82 n (fun _ => .int .u64 0)) : Packed w b n xs 0 := h.congr fun i _ => by rw [word_none]; rfl
theorem packed_nought {w : World} {b n : Nat} {xs : List Bool} {k : Nat} (h : Packed w b n xs k) (hb : xs.getD k false = false) : Packed w b n xs (k + 1) :=
  h.congr fun i _ => by rw [word_nought xs k i hb]
theorem packed_one {w : World} {b n : Nat} {xs : List Bool} {k : Nat} (h : Packed w b n xs k) (hb : xs.getD k false = true) (m : Nat) :
    Packed ((w.setCell ⟨b, k / 64, none⟩ (.int .u64 ((wordOf (xs.take k) (k / 64) ||| 2 ^ (k % 64) : Nat) : Int))).drewN m) b n xs (k + 1) := by
  refine World.rowIs.congr (World.rowIs.of_block (h.set (k / 64) _) rfl) fun i _ => ?_
  by_cases e : i = k / 64
  · rw [if_pos e, e, word_one xs k hb]
  · rw [if_neg e, word_other xs k i e]

set_option maxHeartbeats 2000000 in
set_option maxRecDepth 100000 in
theorem packSome_any (g off cap : Nat) (xs : List Bool) (w : World) (hx : xs.length ≤ 4194304) (hg : g < w.heap.size)
    (hc : ∀ i, i < xs.length → w.cell? ⟨g, off + i, none⟩ = some (.bool (xs.getD i false))) :
    Calls Try.prog 60 #[.slice (some ⟨g, off, none⟩) xs.length cap] w fun e w' =>
      e = .returned (.slice (some ⟨w.heap.size, 0, none⟩) (nWords xs) (nWords xs)) ∧ w'.rowIs w.heap.size 82 (nWords xs) (fun i => .int .u64 (wordOf xs i)) ∧ Below w.heap.size w w' := by
  have HC := Lib.hid hc
  clear hc
  have hn : nWords xs ≤ 65536 := by unfold nWords begunN; omega
  have hnw : ∀ k, k < xs.length → k / 64 < nWords xs := fun k hk => by unfold nWords begunN; omega
  have HN := Lib.hid hnw
  clear hnw
  have CB := rbegun_any xs.length 64 w (by omega) (by decide) (by decide)
  rw [show begunN xs.length 64 = nWords xs from rfl] at CB
  have CB' := Lib.hid CB
  clear CB
  generalize nWords xs = nw at *
  have hmk := make_words nw (by omega) w
  have hbel0 : Below w.heap.size w (w.alloc (.cells (madeCells #[.int .u64 0] nw) 82)) := (Below.refl w.heap.size w).alloc (Nat.le_refl _) _
  have hrow0 : Packed (w.alloc (.cells (madeCells #[.int .u64 0] nw) 82)) w.heap.size nw xs 0 := packed_start (World.rowIs_made w _ _ _)
  go_enter Try.func60, Try.ntmps60
  go_wp2_with fail
  refine CB'.out.mono ?_
  rintro e w' ⟨rfl, rfl⟩
  go_wp2
  go_loopw [12] (fun i wr => ∃ k : Nat, k ≤ xs.length ∧ i = .int .i64 k ∧ Below w.heap.size w wr ∧ Packed wr w.heap.size nw xs k) (fun i _ => xs.length - (intOf i).toNat)
  case atStart => exact ⟨0, Nat.zero_le _, rfl, hbel0, hrow0⟩
  case round =>
    obtain ⟨k, hk, rfl, hbel, hrow⟩ := hrel
    clear hmk hbel0 hrow0
    by_cases hlt : k < xs.length
    · obtain ⟨x, hxx⟩ : ∃ x, xs.getD k false = x := ⟨_, rfl⟩
      have hcell : wr.cell? ⟨g, off + k, none⟩ = some (.bool x) := by rw [hbel.cell (p := ⟨g, off + k, none⟩) hg, ← hxx]; exact HC.out k hlt
      have HX := Lib.hid hxx
      clear hxx
      cases x
      · go_wp2
        go_roundw
        case rel => exact ⟨k + 1, by omega, by go_num, hbel, packed_nought hrow HX.out⟩
        case measure => simp [intOf]; omega
      · have hjn := HN.out k hlt
        have hw1 : wr.cell? ⟨w.heap.size, k / 64, none⟩ = some (.int .u64 (wordOf (xs.take k) (k / 64))) := World.rowIs.cell hrow hjn
        have hw2 : wr.frozen? ⟨w.heap.size, k / 64, none⟩ = false := World.rowIs.frozen hrow _
        have HO := Lib.hid (or_bit (wordOf (xs.take k) (k / 64)) (k % 64) (wordOf_lt _ _) (by omega))
        have HP := fun m => packed_one hrow HX.out m
        have HP' := Lib.hid HP
        clear HP
        generalize wordOf (xs.take k) (k / 64) = u at *
        obtain ⟨j, hj⟩ : ∃ j, k / 64 = j := ⟨_, rfl⟩
        obtain ⟨t, ht⟩ : ∃ t, k % 64 = t := ⟨_, rfl⟩
        rw [hj] at hw1 hw2 HP' hjn
        rw [ht] at HP' HO
        have q1 : (k : Int) / 64 = (j : Int) := by omega
        have q2 : (k : Int) % 64 = (t : Int) := by omega
        have htb : t < 64 := by omega
        have b2 : (j : Int) < (nw : Int) := by omega
        have b3 : (0 : Int) ≤ (j : Int) := by omega
        have b4 : (j : Int).toNat = j := Int.toNat_natCast j
        have b5 : (t : Int).toNat = t := Int.toNat_natCast t
        have b6 : (0 : Int) ≤ (t : Int) := by omega
        have b0 : Int.tdiv (k : Int) 64 = (j : Int) := by rw [Int.tdiv_eq_ediv_of_nonneg (by omega)]; exact q1
        have b7 : Int.tmod (k : Int) 64 = (t : Int) := by rw [Int.tmod_eq_emod_of_nonneg (by omega)]; exact q2
        have b1 : IntKind.i64.wrap (j : Int) = (j : Int) := IntWalk.i64_in _ (by clear b0 b7; omega)
        clear q1 q2 hj ht
        go_wp2
        go_region
        rw [HO.out]
        clear b0 b1 b4 b5 b7 hw1 hw2
        go_wp2
        go_roundw
        case rel => exact ⟨k + 1, by omega, by go_num, (hbel.setCell (Nat.le_refl _) _).drew, HP'.out 1⟩
        case measure => simp [intOf]; omega
    · have hke : k = xs.length := by omega
      subst hke
      go_wp2
      go_ret
      exact ⟨rfl, World.rowIs.congr hrow fun i _ => by rw [word_all], hbel⟩
theorem packNone_any (a : Option Addr) (cap : Nat) (w : World) :
    Calls Try.prog 60 #[.slice a 0 cap] w fun e w' =>
      e = .returned (.slice (some ⟨w.heap.size, 0, none⟩) 0 0) ∧ w'.rowIs w.heap.size 82 0 (fun i => .int .u64 (wordOf [] i)) ∧ Below w.heap.size w w' := by
  have CB : Calls Try.prog 72 #[.int .i64 0, .int .i64 64] w fun e w' => e = .returned (.int .i64 0) ∧ w = w' := rbegun_any 0 64 w (by omega) (by decide) (by decide)
  have CB' := Lib.hid CB
  clear CB
  have hmk : (Instr.makeSlice 111 (.int .i64 0) (.int .i64 0)).run Try.prog w = .ok (.slice (some ⟨w.heap.size, 0, none⟩) 0 0) (w.alloc (.cells (madeCells #[.int .u64 0] 0) 82)) := make_words 0 (by omega) w
  have hbel0 : Below w.heap.size w (w.alloc (.cells (madeCells #[.int .u64 0] 0) 82)) := (Below.refl w.heap.size w).alloc (Nat.le_refl _) _
  have hrow0 := World.rowIs_made w (.int .u64 0) 0 82
  go_enter Try.func60, Try.ntmps60
  go_wp2_with fail
  refine CB'.out.mono ?_
  rintro e w' ⟨rfl, rfl⟩
  go_wp2
  go_loopw [12] (fun i wr => i = .int .i64 0 ∧ wr = w.alloc (.cells (madeCells #[.int .u64 0] 0) 82)) (fun _ _ => 0)
  case atStart => exact ⟨rfl, rfl⟩
  case round =>
    obtain ⟨rfl, rfl⟩ := hrel
    go_wp2
    go_ret
    exact ⟨rfl, hrow0.congr fun i hi => absurd hi (Nat.not_lt_zero _), hbel0⟩
theorem pack_any (v : Value) (xs : List Bool) (w : World) (hx : xs.length ≤ 4194304) (hv : BoolsAt w.heap.size w v xs) :
    Calls Try.prog 60 #[v] w fun e w' =>
      e = .returned (.slice (some ⟨w.heap.size, 0, none⟩) (nWords xs) (nWords xs)) ∧ w'.rowIs w.heap.size 82 (nWords xs) (fun i => .int .u64 (wordOf xs i)) ∧ Below w.heap.size w w' := by
  rcases hv with ⟨a, cap, rfl, rfl⟩ | ⟨g, off, cap, rfl, hg, hc⟩
  · exact packNone_any a cap w
  · exact packSome_any g off cap xs w hx hg hc
end Go.Proofs.Ytibhhndiefhofaa
namespace Go.Proofs.Ytibhhndiefhofaa
open Go.RowKit

theorem inner_zero (xs : List Bool) (k : Nat) (h : k % 8 = 0) : innerN xs k = 0 := by
  unfold innerN
  rw [show 8 * (k / 8) = k by omega]
  omega
theorem inner_next (xs : List Bool) (k : Nat) (h : (k + 1) % 8 ≠ 0) : innerN xs (k + 1) = innerN xs k + cnt (wordOf xs k) 64 := by
  have h1 := inner_sum xs k
  have h2 := inner_sum xs (k + 1)
  rw [show (k + 1) / 8 = k / 8 by omega] at h2
  have h3 := ahead_next xs k
  omega
theorem info_u32 : (Try.prog.info? 129).map (fun i => (i.zero, i.size, i.bytes)) = some (some (.int .u32 0), 1, 4) := by kernel_rfl
theorem info_u16 : (Try.prog.info? 130).map (fun i => (i.zero, i.size, i.bytes)) = some (some (.int .u16 0), 1, 2) := by kernel_rfl
theorem make_blocks (n : Nat) (h : n ≤ 4294967296) (w : World) :
    (Instr.makeSlice 114 (.int .i64 (n : Int)) (.int .i64 (n : Int))).run Try.prog w = .ok (.slice (some ⟨w.heap.size, 0, none⟩) n n) (w.alloc (.cells (madeCells #[.int .u32 0] n) 129)) :=
  run_make_row' 114 129 (.int .u32 0) 4 Try.underlying114 info_u32 rfl .i64 .i64 n (by omega) (by omega) w
theorem make_inner (n : Nat) (h : n ≤ 4294967296) (w : World) :
    (Instr.makeSlice 116 (.int .i64 (n : Int)) (.int .i64 (n : Int))).run Try.prog w = .ok (.slice (some ⟨w.heap.size, 0, none⟩) n n) (w.alloc (.cells (madeCells #[.int .u16 0] n) 130)) :=
  run_make_row' 116 130 (.int .u16 0) 2 Try.underlying116 info_u16 rfl .i64 .i64 n (by omega) (by omega) w

/-- the directories of the first k words lie in blocks b and c -/
structure Counted (w : World) (b c nb nw : Nat) (xs : List Bool) (k : Nat) : Prop where
  blocks : w.rowIs b 129 nb (fun i => .int .u32 ((if 8 * i < k then aheadN xs (8 * i) else 0 : Nat) : Int))
  inner : w.rowIs c 130 nw (fun i => .int .u16 ((if i < k then innerN xs i else 0 : Nat) : Int))
theorem counted_start {w : World} {b c nb nw : Nat} {xs : List Bool} (h1 : w.rowIs b 129 nb (fun _ => .int .u32 0)) (h2 : w.rowIs c 130 nw (fun _ => .int .u16 0)) : Counted w b c nb nw xs 0 :=
  ⟨h1.congr fun i _ => by rw [if_neg (Nat.not_lt_zero _)]; rfl, h2.congr fun i _ => by rw [if_neg (Nat.not_lt_zero _)]; rfl⟩
theorem counted_in {w : World} {b c nb nw : Nat} {xs : List Bool} {k : Nat} (h : Counted w b c nb nw xs k) (hbc : b ≠ c) (hk : k % 8 ≠ 0) (x : Int) (hx : x = (innerN xs k : Int)) :
    Counted (w.setCell ⟨c, k, none⟩ (.int .u16 x)) b c nb nw xs (k + 1) := by
  subst hx
  refine ⟨World.rowIs.congr (h.blocks.setOther (a := ⟨c, k, none⟩) hbc _) fun i _ => ?_, World.rowIs.congr (h.inner.set k _) fun i _ => ?_⟩
  · by_cases e : 8 * i < k
    · rw [if_pos e, if_pos (by omega)]
    · rw [if_neg e, if_neg (by omega)]
  · by_cases e : i = k
    · rw [if_pos e, e, if_pos (by omega)]
    · rw [if_neg e]
      by_cases e2 : i < k
      · rw [if_pos e2, if_pos (by omega)]
      · rw [if_neg e2, if_neg (by omega)]
theorem counted_on {w : World} {b c nb nw : Nat} {xs : List Bool} {k : Nat} (h : Counted w b c nb nw xs k) (hbc : b ≠ c) (hk : k % 8 = 0) (x y : Int) (hx : x = (aheadN xs k : Int)) (hy : y = (innerN xs k : Int)) :
    Counted ((w.setCell ⟨b, k / 8, none⟩ (.int .u32 x)).setCell ⟨c, k, none⟩ (.int .u16 y)) b c nb nw xs (k + 1) := by
  subst hx
  subst hy
  refine ⟨World.rowIs.congr ((h.blocks.set (k / 8) _).setOther (a := ⟨c, k, none⟩) hbc _) fun i _ => ?_, World.rowIs.congr ((h.inner.setOther (a := ⟨b, k / 8, none⟩) (Ne.symm hbc) _).set k _) fun i _ => ?_⟩
  · by_cases e : i = k / 8
    · rw [if_pos e, if_pos (by omega), show 8 * i = k by omega]
    · rw [if_neg e]
      by_cases e2 : 8 * i < k
      · rw [if_pos e2, if_pos (by omega)]
      · rw [if_neg e2, if_neg (by omega)]
  · by_cases e : i = k
    · rw [if_pos e, e, if_pos (by omega)]
    · rw [if_neg e]
      by_cases e2 : i < k
      · rw [if_pos e2, if_pos (by omega)]
      · rw [if_neg e2, if_neg (by omega)]
def OwnIs (xs : List Bool) (k o : Nat) : Prop := o ≤ 512 ∧ (k % 8 ≠ 0 → o = innerN xs k)

set_option maxHeartbeats 2000000 in
set_option maxRecDepth 100000 in
theorem count_any (g : Nat) (xs : List Bool) (w : World) (hx : xs.length ≤ 4194304) (hw : w.rowIs g 82 (nWords xs) (fun i => .int .u64 (wordOf xs i))) :
    Calls Try.prog 61 #[.slice (some ⟨g, 0, none⟩) (nWords xs) (nWords xs)] w fun e w' =>
      e = .returned (.tuple #[.slice (some ⟨w.heap.size, 0, none⟩) (nBlocks xs) (nBlocks xs), .slice (some ⟨w.heap.size + 1, 0, none⟩) (nWords xs) (nWords xs)]) ∧
        Counted w' w.heap.size (w.heap.size + 1) (nBlocks xs) (nWords xs) xs (nWords xs) ∧ Below w.heap.size w w' := by
  have hn : nWords xs ≤ 65536 := by unfold nWords begunN; omega
  have hnb2 : nBlocks xs ≤ 65536 := by unfold nBlocks begunN; omega
  have hnw : ∀ k, k < nWords xs → k / 8 < nBlocks xs := fun k hk => by unfold nBlocks begunN; omega
  have HN := Lib.hid hnw
  clear hnw
  have CB := rbegun_any (nWords xs) 8 w (by omega) (by decide) (by decide)
  rw [show begunN (nWords xs) 8 = nBlocks xs from rfl] at CB
  have CB' := Lib.hid CB
  clear CB
  have hg := hw.lt
  generalize nWords xs = nw at *
  generalize nBlocks xs = nb at *
  have hmk := make_blocks nb (by omega) w
  have hmk2 := make_inner nw (by omega) (w.alloc (.cells (madeCells #[.int .u32 0] nb) 129))
  have hs1 : (w.alloc (.cells (madeCells #[.int .u32 0] nb) 129)).heap.size = w.heap.size + 1 := by show (w.heap.push _).size = _; rw [Array.size_push]
  rw [hs1] at hmk2
  have hbel0 : Below w.heap.size w ((w.alloc (.cells (madeCells #[.int .u32 0] nb) 129)).alloc (.cells (madeCells #[.int .u16 0] nw) 130)) := ((Below.refl w.heap.size w).alloc (Nat.le_refl _) _).alloc (by rw [hs1]; omega) _
  have hrow1 := World.rowIs.alloc (World.rowIs_made w (.int .u32 0) nb 129) (.cells (madeCells #[.int .u16 0] nw) 130)
  have hrow2 := World.rowIs_made (w.alloc (.cells (madeCells #[.int .u32 0] nb) 129)) (.int .u16 0) nw 130
  rw [hs1] at hrow2
  have hc0 : Counted ((w.alloc (.cells (madeCells #[.int .u32 0] nb) 129)).alloc (.cells (madeCells #[.int .u16 0] nw) 130)) w.heap.size (w.heap.size + 1) nb nw xs 0 := counted_start hrow1 hrow2
  have HW := Lib.hid hw
  clear hs1 hrow1 hrow2 hw
  go_enter Try.func61, Try.ntmps61
  go_wp2_with fail
  refine CB'.out.mono ?_
  rintro e w' ⟨rfl, rfl⟩
  go_wp2
  go_loopw [6, 7, 20] (fun a o i wr => ∃ k ow : Nat, k ≤ nw ∧ i = .int .i64 k ∧ a = .int .i64 (aheadN xs k) ∧ o = .int .i64 ow ∧ OwnIs xs k ow ∧ Below w.heap.size w wr ∧ Counted wr w.heap.size (w.heap.size + 1) nb nw xs k) (fun _ _ i _ => nw - (intOf i).toNat)
  case atStart => exact ⟨0, 0, Nat.zero_le _, rfl, rfl, rfl, ⟨by omega, fun h => absurd rfl h⟩, hbel0, hc0⟩
  case round =>
    obtain ⟨k, ow, hk, rfl, rfl, rfl, hown, hbel, hcnt⟩ := hrel
    clear hmk hmk2 hbel0 hc0
    by_cases hlt : k < nw
    · have hcell : wr.cell? ⟨g, k, none⟩ = some (.int .u64 (wordOf xs k)) := by rw [hbel.cell (p := ⟨g, k, none⟩) hg]; exact HW.out.cell hlt
      have hjn := HN.out k hlt
      have hw1 := hcnt.blocks.cell hjn
      have hw2 := hcnt.blocks.frozen (k / 8)
      have hw3 := hcnt.inner.cell hlt
      have hw4 := hcnt.inner.frozen k
      have C3 := Lib.hid (ones_any (wordOf xs k) (wordOf_lt xs k))
      have hnx := ahead_next xs k
      have hal : aheadN xs k ≤ 4194304 := Nat.le_trans (ahead_le xs k) hx
      have hcl := cnt_le (wordOf xs k) 64
      have hil := inner_le xs k
      by_cases h8 : k % 8 = 0
      · have hm : ((k : Int) % 8 == 0) = true := beq_iff_eq.2 (by omega)
        have HI := Lib.hid (inner_zero xs k h8)
        have HK := fun x hx => counted_on hcnt (show w.heap.size ≠ w.heap.size + 1 by omega) h8 x 0 hx (by rw [HI.out]; rfl)
        have HK' := Lib.hid HK
        have hin : (k + 1) % 8 ≠ 0 → innerN xs (k + 1) = cnt (wordOf xs k) 64 := fun h => by rw [inner_next xs k h, HI.out, Nat.zero_add]
        have HIN := Lib.hid hin
        have H8 := Lib.hid h8
        clear HK hin h8 hown hcnt
        generalize aheadN xs k = a at *
        generalize wordOf xs k = u at *
        generalize cnt u 64 = c at *
        have HX := Lib.hid hnx
        clear hnx
        generalize (if 8 * (k / 8) < k then aheadN xs (8 * (k / 8)) else 0) = y1 at *
        generalize (if k < k then innerN xs k else 0) = y2 at *
        go_wp2_with fail
        refine (C3.out _).mono ?_
        rintro e w' ⟨rfl, rfl⟩
        go_wp2
        go_roundw
        case rel => exact ⟨k + 1, c, by omega, by go_num, by rw [HX.out]; go_num, rfl, ⟨by omega, fun h => (HIN.out h).symm⟩, (hbel.setCell (Nat.le_refl _) _).setCell (Nat.le_succ _) _, HK'.out _ rfl⟩
        case measure => simp [intOf]; omega
      · have hm : ((k : Int) % 8 == 0) = false := beq_eq_false_iff_ne.2 (by omega)
        obtain ⟨ho1, ho2⟩ := hown
        have ho := ho2 h8
        have HK' := Lib.hid (counted_in hcnt (show w.heap.size ≠ w.heap.size + 1 by omega) h8 (ow : Int) (by rw [ho]))
        have hin : (k + 1) % 8 ≠ 0 → ow + cnt (wordOf xs k) 64 = innerN xs (k + 1) := fun h => by rw [inner_next xs k h, ho]
        have HIN := Lib.hid hin
        have how : ow ≤ 448 := by omega
        clear hin hcnt ho ho2
        generalize aheadN xs k = a at *
        generalize wordOf xs k = u at *
        generalize cnt u 64 = c at *
        have HX := Lib.hid hnx
        clear hnx
        generalize (if 8 * (k / 8) < k then aheadN xs (8 * (k / 8)) else 0) = y1 at *
        generalize (if k < k then innerN xs k else 0) = y2 at *
        go_wp2_with fail
        refine (C3.out _).mono ?_
        rintro e w' ⟨rfl, rfl⟩
        go_wp2
        go_roundw
        case rel => exact ⟨k + 1, ow + c, by omega, by go_num, by rw [HX.out]; go_num, by go_num, ⟨by omega, HIN.out⟩, hbel.setCell (Nat.le_succ _) _, HK'.out⟩
        case measure => simp [intOf]; omega
    · have hke : k = nw := by omega
      subst hke
      go_wp2
      go_ret2
      exact ⟨rfl, hcnt, hbel⟩
end Go.Proofs.Ytibhhndiefhofaa
namespace Go.Proofs.Ytibhhndiefhofaa
open Go.RowKit

theorem kept_new (w w1 w2 : World) (xs : List Bool) (h1 : w1.rowIs w.heap.size 82 (nWords xs) (fun i => .int .u64 (wordOf xs i))) (hb1 : Below w.heap.size w w1)
    (h2 : Counted w2 w1.heap.size (w1.heap.size + 1) (nBlocks xs) (nWords xs) xs (nWords xs)) (hb2 : Below w1.heap.size w1 w2) :
    Kept w.heap.size ((w2.alloc (.cells #[.iface 111 (.slice (some ⟨w.heap.size, 0, none⟩) (nWords xs) (nWords xs)), .iface 114 (.slice (some ⟨w1.heap.size, 0, none⟩) (nBlocks xs) (nBlocks xs)), .iface 116 (.slice (some ⟨w1.heap.size + 1, 0, none⟩) (nWords xs) (nWords xs))] 123)).alloc (.cells #[.int .i64 xs.length, .slice (some ⟨w2.heap.size, 0, none⟩) 3 3] 121)) (.pointer (some ⟨w2.heap.size + 1, 0, none⟩)) xs := by
  have z1 := hb1.size
  have z2 := hb2.size
  have z3 := h1.lt
  generalize hc1 : (#[.iface 111 (.slice (some ⟨w.heap.size, 0, none⟩) (nWords xs) (nWords xs)), .iface 114 (.slice (some ⟨w1.heap.size, 0, none⟩) (nBlocks xs) (nBlocks xs)), .iface 116 (.slice (some ⟨w1.heap.size + 1, 0, none⟩) (nWords xs) (nWords xs))] : Array Value) = c1
  generalize hc2 : (#[.int .i64 xs.length, .slice (some ⟨w2.heap.size, 0, none⟩) 3 3] : Array Value) = c2
  have hs : (w2.alloc (.cells c1 123)).heap.size = w2.heap.size + 1 := by show (w2.heap.push _).size = _; rw [Array.size_push]
  have r1 := World.rowIs_alloc (w2.alloc (.cells c1 123)) c2 121 (fun i => if i = 0 then .int .i64 xs.length else .slice (some ⟨w2.heap.size, 0, none⟩) 3 3) (by
    subst hc2
    intro i hi
    rcases (show i = 0 ∨ i = 1 by have : i < 2 := hi; omega) with rfl | rfl <;> rfl)
  rw [hs, show c2.size = 2 by rw [← hc2]; rfl] at r1
  have r2 := (World.rowIs_alloc w2 c1 123 (fun i => if i = 0 then .iface 111 (.slice (some ⟨w.heap.size, 0, none⟩) (nWords xs) (nWords xs)) else if i = 1 then .iface 114 (.slice (some ⟨w1.heap.size, 0, none⟩) (nBlocks xs) (nBlocks xs)) else .iface 116 (.slice (some ⟨w1.heap.size + 1, 0, none⟩) (nWords xs) (nWords xs))) (by
    subst hc1
    intro i hi
    rcases (show i = 0 ∨ i = 1 ∨ i = 2 by have : i < 3 := hi; omega) with rfl | rfl | rfl <;> rfl)).alloc (.cells c2 121)
  rw [show c1.size = 3 by rw [← hc1]; rfl] at r2
  have r3 := ((h1.of_block (hb2.block _ z3)).alloc (.cells c1 123)).alloc (.cells c2 121)
  have k1 := h2.blocks.congr (g := fun i => .int .u32 (aheadN xs (8 * i))) fun i hi => by
    rw [if_pos]
    unfold nBlocks begunN at hi
    omega
  have k2 := h2.inner.congr (g := fun i => .int .u16 (innerN xs i)) fun i hi => by rw [if_pos hi]
  have r4 := (k1.alloc (.cells c1 123)).alloc (.cells c2 121)
  have r5 := (k2.alloc (.cells c1 123)).alloc (.cells c2 121)
  exact ⟨w2.heap.size + 1, w2.heap.size, w.heap.size, w1.heap.size, w1.heap.size + 1, rfl, by omega, by omega, by omega, by omega, by omega, r1, r2, r3, r4, r5⟩

set_option maxHeartbeats 2000000 in
set_option maxRecDepth 100000 in
theorem rnew_any (s : Value) (xs : List Bool) (w : World) (hx : xs.length ≤ 4194304) (hs : RowOK w s xs) :
    Calls Try.prog 50 #[s] w fun e w' => ∃ v, e = .returned (.tuple #[v, .int .i64 0]) ∧ Kept w.heap.size w' v xs ∧ Below w.heap.size w w' := by
  obtain ⟨hat, a, cap, rfl, hcap⟩ := hs
  have C1 := Lib.hid (pack_any _ xs w hx hat)
  clear hat
  go_enter Try.func50, Try.ntmps50
  go_wp2_with fail
  refine C1.out.mono ?_
  rintro e w1 ⟨rfl, hrow, hb1⟩
  go_wp2_with fail
  refine (count_any _ xs w1 hx hrow).mono ?_
  rintro e w2 ⟨rfl, hcnt, hb2⟩
  have hk := kept_new w w1 w2 xs hrow hb1 hcnt hb2
  have hb : Below w.heap.size w w2 := hb1.trans (hb2.mono hb1.size)
  have hbs := hb.size
  go_wp2
  go_ret2
  exact ⟨_, rfl, hk, (hb.alloc hbs _).alloc (by simp; omega) _⟩
end Go.Proofs.Ytibhhndiefhofaa
