/-
  THE CONTRACT OF pack OF THE LANDED PACKAGE bits: words are filled bit by bit.
-/
import Derived.Test.YteecanaibkpmfaaRunGet
import Derived.RegionTactic
import Derived.BigRegion
namespace Go.Proofs.Yteecanaibkpmfaa
open Go.RowKit

theorem info_u64 : (Try.prog.info? 66).map (fun i => (i.zero, i.size, i.bytes)) = some (some (.int .u64 0), 1, 8) := by kernel_rfl
theorem make_words (n : Nat) (h : n ≤ 4294967296) (w : World) :
    (Instr.makeSlice 69 (.int .i64 (n : Int)) (.int .i64 (n : Int))).run Try.prog w = .ok (.slice (some ⟨w.heap.size, 0, none⟩) n n) (w.alloc (.cells (madeCells #[.int .u64 0] n) 66)) :=
  run_make_row' 69 66 (.int .u64 0) 8 Try.underlying69 info_u64 rfl .i64 .i64 n (by omega) (by omega) w
theorem or_bit (u t : Nat) (hu : u < 18446744073709551616) (ht : t < 64) : bits .or .u64 (u : Int) (IntKind.u64.wrap (2 ^ t)) = ((u ||| 2 ^ t : Nat) : Int) := by
  have hp : 2 ^ t < 2 ^ 64 := Nat.pow_lt_pow_right (by decide) ht
  have e : IntKind.u64.wrap (2 ^ t) = ((2 ^ t : Nat) : Int) := by
    have := shl_u64 1 t
    rw [Nat.one_mul, Nat.mod_eq_of_lt hp, show ((1 : Nat) : Int) = 1 from rfl, Int.one_mul] at this
    exact this
  rw [e]
  exact bits_or_u64_nat u (2 ^ t) hu hp

/-- the words of the first k bits lie in block b -/
def Packed (w : World) (b n : Nat) (xs : List Bool) (k : Nat) : Prop := w.rowIs b 66 n (fun i => .int .u64 (wordOf (xs.take k) i))
theorem packed_start {w : World} {b n : Nat} {xs : List Bool} (h : w.rowIs b 66 n (fun _ => .int .u64 0)) : Packed w b n xs 0 := h.congr fun i _ => by rw [word_none]; rfl
theorem packed_nought {w : World} {b n : Nat} {xs : List Bool} {k : Nat} (h : Packed w b n xs k) (hb : xs.getD k false = false) : Packed w b n xs (k + 1) :=
  h.congr fun i _ => by rw [word_nought xs k i hb]
theorem packed_one {w : World} {b n : Nat} {xs : List Bool} {k : Nat} (h : Packed w b n xs k) (hb : xs.getD k false = true) (m : Nat) :
    Packed ((w.setCell ⟨b, k / 64, none⟩ (.int .u64 ((wordOf (xs.take k) (k / 64) ||| 2 ^ (k % 64) : Nat) : Int))).drewN m) b n xs (k + 1) := by
  refine World.rowIs.congr (World.rowIs.of_block (h.set (k / 64) _) rfl) fun i _ => ?_
  by_cases e : i = k / 64
  · rw [if_pos e, e, word_one xs k hb]
  · rw [if_neg e, word_other xs k i e]

set_option maxHeartbeats 2000000 in
set_option maxRecDepth 100000 in
theorem packSome_any (g off cap : Nat) (xs : List Bool) (w : World) (hx : xs.length ≤ 4194304) (hg : g < w.heap.size)
    (hc : ∀ i, i < xs.length → w.cell? ⟨g, off + i, none⟩ = some (.bool (xs.getD i false))) :
    Calls Try.prog 54 #[.slice (some ⟨g, off, none⟩) xs.length cap] w fun e w' =>
      e = .returned (.slice (some ⟨w.heap.size, 0, none⟩) (nWords xs) (nWords xs)) ∧ w'.rowIs w.heap.size 66 (nWords xs) (fun i => .int .u64 (wordOf xs i)) ∧ Below w.heap.size w w' := by
  have HC := Lib.hid hc
  clear hc
  have hn : nWords xs ≤ 65536 := by unfold nWords begunN; omega
  have hnw : ∀ k, k < xs.length → k / 64 < nWords xs := fun k hk => by unfold nWords begunN; omega
  have HN := Lib.hid hnw
  clear hnw
  have CB := rbegun_any xs.length 64 w (by omega) (by decide) (by decide)
  rw [show begunN xs.length 64 = nWords xs from rfl] at CB
  have CB' := Lib.hid CB
  clear CB
  generalize nWords xs = nw at *
  have hmk := make_words nw (by omega) w
  have hbel0 : Below w.heap.size w (w.alloc (.cells (madeCells #[.int .u64 0] nw) 66)) := (Below.refl w.heap.size w).alloc (Nat.le_refl _) _
  have hrow0 : Packed (w.alloc (.cells (madeCells #[.int .u64 0] nw) 66)) w.heap.size nw xs 0 := packed_start (World.rowIs_made w _ _ _)
  go_enter Try.func54, Try.ntmps54
  go_wp2_with fail
  refine CB'.out.mono ?_
  rintro e w' ⟨rfl, rfl⟩
  go_wp2
  go_loopw [12] (fun i wr => ∃ k : Nat, k ≤ xs.length ∧ i = .int .i64 k ∧ Below w.heap.size w wr ∧ Packed wr w.heap.size nw xs k) (fun i _ => xs.length - (intOf i).toNat)
  case atStart => exact ⟨0, Nat.zero_le _, rfl, hbel0, hrow0⟩
  case round =>
    obtain ⟨k, hk, rfl, hbel, hrow⟩ := hrel
    clear hmk hbel0 hrow0
    by_cases hlt : k < xs.length
    · obtain ⟨x, hxx⟩ : ∃ x, xs.getD k false = x := ⟨_, rfl⟩
      have hcell : wr.cell? ⟨g, off + k, none⟩ = some (.bool x) := by rw [hbel.cell (p := ⟨g, off + k, none⟩) hg, ← hxx]; exact HC.out k hlt
      have HX := Lib.hid hxx
      clear hxx
      cases x
      · go_wp2
        go_roundw
        case rel => exact ⟨k + 1, by omega, by go_num, hbel, packed_nought hrow HX.out⟩
        case measure => simp [intOf]; omega
      · have hjn := HN.out k hlt
        have hw1 : wr.cell? ⟨w.heap.size, k / 64, none⟩ = some (.int .u64 (wordOf (xs.take k) (k / 64))) := World.rowIs.cell hrow hjn
        have hw2 : wr.frozen? ⟨w.heap.size, k / 64, none⟩ = false := World.rowIs.frozen hrow _
        have HO := Lib.hid (or_bit (wordOf (xs.take k) (k / 64)) (k % 64) (wordOf_lt _ _) (by omega))
        have HP := fun m => packed_one hrow HX.out m
        have HP' := Lib.hid HP
        clear HP
        generalize wordOf (xs.take k) (k / 64) = u at *
        obtain ⟨j, hj⟩ : ∃ j, k / 64 = j := ⟨_, rfl⟩
        obtain ⟨t, ht⟩ : ∃ t, k % 64 = t := ⟨_, rfl⟩
        rw [hj] at hw1 hw2 HP' hjn
        rw [ht] at HP' HO
        have q1 : (k : Int) / 64 = (j : Int) := by omega
        have q2 : (k : Int) % 64 = (t : Int) := by omega
        have htb : t < 64 := by omega
        have b2 : (j : Int) < (nw : Int) := by omega
        have b3 : (0 : Int) ≤ (j : Int) := by omega
        have b4 : (j : Int).toNat = j := Int.toNat_natCast j
        have b5 : (t : Int).toNat = t := Int.toNat_natCast t
        have b6 : (0 : Int) ≤ (t : Int) := by omega
        have b0 : Int.tdiv (k : Int) 64 = (j : Int) := by rw [Int.tdiv_eq_ediv_of_nonneg (by omega)]; exact q1
        have b7 : Int.tmod (k : Int) 64 = (t : Int) := by rw [Int.tmod_eq_emod_of_nonneg (by omega)]; exact q2
        have b1 : IntKind.i64.wrap (j : Int) = (j : Int) := IntWalk.i64_in _ (by clear b0 b7; omega)
        clear q1 q2 hj ht
        go_wp2
        go_region
        rw [HO.out]
        clear b0 b1 b4 b5 b7 hw1 hw2
        go_wp2
        go_roundw
        case rel => exact ⟨k + 1, by omega, by go_num, (hbel.setCell (Nat.le_refl _) _).drew, HP'.out 1⟩
        case measure => simp [intOf]; omega
    · have hke : k = xs.length := by omega
      subst hke
      go_wp2
      go_ret
      exact ⟨rfl, World.rowIs.congr hrow fun i _ => by rw [word_all], hbel⟩
theorem packNone_any (a : Option Addr) (cap : Nat) (w : World) :
    Calls Try.prog 54 #[.slice a 0 cap] w fun e w' =>
      e = .returned (.slice (some ⟨w.heap.size, 0, none⟩) 0 0) ∧ w'.rowIs w.heap.size 66 0 (fun i => .int .u64 (wordOf [] i)) ∧ Below w.heap.size w w' := by
  have CB : Calls Try.prog 66 #[.int .i64 0, .int .i64 64] w fun e w' => e = .returned (.int .i64 0) ∧ w = w' := rbegun_any 0 64 w (by omega) (by decide) (by decide)
  have CB' := Lib.hid CB
  clear CB
  have hmk : (Instr.makeSlice 69 (.int .i64 0) (.int .i64 0)).run Try.prog w = .ok (.slice (some ⟨w.heap.size, 0, none⟩) 0 0) (w.alloc (.cells (madeCells #[.int .u64 0] 0) 66)) := make_words 0 (by omega) w
  have hbel0 : Below w.heap.size w (w.alloc (.cells (madeCells #[.int .u64 0] 0) 66)) := (Below.refl w.heap.size w).alloc (Nat.le_refl _) _
  have hrow0 := World.rowIs_made w (.int .u64 0) 0 66
  go_enter Try.func54, Try.ntmps54
  go_wp2_with fail
  refine CB'.out.mono ?_
  rintro e w' ⟨rfl, rfl⟩
  go_wp2
  go_loopw [12] (fun i wr => i = .int .i64 0 ∧ wr = w.alloc (.cells (madeCells #[.int .u64 0] 0) 66)) (fun _ _ => 0)
  case atStart => exact ⟨rfl, rfl⟩
  case round =>
    obtain ⟨rfl, rfl⟩ := hrel
    go_wp2
    go_ret
    exact ⟨rfl, hrow0.congr fun i hi => absurd hi (Nat.not_lt_zero _), hbel0⟩
theorem pack_any (v : Value) (xs : List Bool) (w : World) (hx : xs.length ≤ 4194304) (hv : BoolsAt w.heap.size w v xs) :
    Calls Try.prog 54 #[v] w fun e w' =>
      e = .returned (.slice (some ⟨w.heap.size, 0, none⟩) (nWords xs) (nWords xs)) ∧ w'.rowIs w.heap.size 66 (nWords xs) (fun i => .int .u64 (wordOf xs i)) ∧ Below w.heap.size w w' := by
  rcases hv with ⟨a, cap, rfl, rfl⟩ | ⟨g, off, cap, rfl, hg, hc⟩
  · exact packNone_any a cap w
  · exact packSome_any g off cap xs w hx hg hc
end Go.Proofs.Yteecanaibkpmfaa
