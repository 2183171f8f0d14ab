/-
  THE CONTRACT OF brackenlaw5.Row: it returns a balanced row of its own, of no more pairs than it may; of what was there before the call nothing turns.
-/
import Derived.Test.YteecanaibkpmfaaOwnBools
import Derived.Test.YteecanaibkpmfaaParLaws
namespace Go.Proofs.Yteecanaibkpmfaa
open Go.RowKit

/-- a balanced row of its own, of no more pairs than most -/
def ParPost (most : Nat) (w : World) (e : Ending) (w' : World) : Prop := ∃ v xs p, e = .returned v ∧ p ≤ most ∧ Bal xs 0 p ∧ OwnS w' w.heap.size v xs ∧ Below w.heap.size w w'

set_option maxHeartbeats 4000000 in
set_option maxRecDepth 100000 in
theorem parRowSome_any (b off cap : Nat) (zs : List Int) (most : Nat) (w : World) (hm : most ≤ 4294967296) (hz : zs.length ≤ 9223372036854775807) (hb : b < w.heap.size)
    (hc : ∀ i, i < zs.length → w.cell? ⟨b, off + i, none⟩ = some (.int .i64 (zs.getD i 0))) :
    Calls Try.prog 11 #[.slice (some ⟨b, off, none⟩) zs.length cap, .int .i64 most] w (ParPost most w) := by
  obtain ⟨i0, hi, hz0, hz1, hz2⟩ := info_parts info_bool
  have HC := Lib.hid hc
  clear hc
  go_enter Try.func11, Try.ntmps11
  go_wp2
  go_loopw [5, 6, 7, 8] (fun v e p i wr => ∃ (k : Nat) (xs : List Bool) (en pn : Nat), k ≤ zs.length ∧ i = .int .i64 k ∧ e = .int .i64 en ∧ p = .int .i64 pn ∧ pn ≤ most ∧ Bal xs en pn ∧ OwnS wr w.heap.size v xs ∧ Below w.heap.size w wr) (fun _ _ _ i _ => zs.length - (intOf i).toNat)
  case atStart => exact ⟨0, [], 0, 0, Nat.zero_le _, rfl, rfl, rfl, Nat.zero_le _, bal_nil, World.ownsRow_nil _ _ _ _, Below.refl _ _⟩
  case round =>
    obtain ⟨k, xs, en, pn, hk, rfl, rfl, rfl, hp, hbal, hown, hbel⟩ := hrel
    have HB := Lib.hid hbal
    have hlen0 := bal_length hbal
    have hlen : xs.length + en ≤ 2 * most := by omega
    clear hbal hlen0
    by_cases hlt : k < zs.length
    · obtain ⟨z, hzz⟩ : ∃ z, zs.getD k 0 = z := ⟨_, rfl⟩
      have hcell : wr.cell? ⟨b, off + k, none⟩ = some (.int .i64 z) := by rw [hbel.cell (p := ⟨b, off + k, none⟩) hb, ← hzz]; exact HC.out k hlt
      have HZ := Lib.hid hzz
      have HW : Hid (w.cell? ⟨b, off + k, none⟩ = some (.int .i64 z)) := by rw [← hzz]; exact HC.out k hlt
      clear hzz
      obtain ⟨u, hu⟩ : ∃ u : Nat, IntKind.u64.wrap z = (u : Int) := ⟨(IntKind.u64.wrap z).toNat, by simp [IntKind.wrap, IntKind.bits, IntKind.signed]; omega⟩
      obtain ⟨c, hcn, hc12⟩ : ∃ c : Nat, IntKind.u64.wrap (1 + (IntKind.u64.wrap ((u : Int) / 2)).tmod 12) = (c : Int) ∧ c ≤ 12 := by
        have h0 : 0 ≤ IntKind.u64.wrap ((u : Int) / 2) := by simp [IntKind.wrap, IntKind.bits, IntKind.signed]; omega
        have h1 : (IntKind.u64.wrap ((u : Int) / 2)).tmod 12 = IntKind.u64.wrap ((u : Int) / 2) % 12 := Int.tmod_eq_emod_of_nonneg h0
        rw [h1]
        refine ⟨(1 + IntKind.u64.wrap ((u : Int) / 2) % 12).toNat, ?_, ?_⟩
        · generalize IntKind.u64.wrap ((u : Int) / 2) = t at *
          simp [IntKind.wrap, IntKind.bits, IntKind.signed]; omega
        · omega
      have HCN := Lib.hid hcn
      clear hcn
      go_wp2
      go_loopw [5, 6, 7, 9] (fun v e p n wi => ∃ (ys : List Bool) (m en pn : Nat), n = .int .u64 m ∧ m ≤ 12 ∧ e = .int .i64 en ∧ p = .int .i64 pn ∧ pn ≤ most ∧ Bal ys en pn ∧ OwnS wi w.heap.size v ys ∧ Below w.heap.size w wi) (fun _ _ _ n _ => (intOf n).toNat)
      case atStart => exact ⟨xs, c, en, pn, by rw [HCN.out], hc12, rfl, rfl, hp, HB.out, hown, hbel⟩
      case round =>
        clear hp hown hbel hcell HB hlen
        obtain ⟨ys, m, en, pn, rfl, hm12, rfl, rfl, hp, hbal, hown2, hbel2⟩ := hrel
        have hcell2 : wr.cell? ⟨b, off + k, none⟩ = some (.int .i64 z) := by rw [hbel2.cell (p := ⟨b, off + k, none⟩) hb, ← HZ.out]; exact HC.out k hlt
        have hown0 : wr.ownsRow w.heap.size 4 1 u5 ys.length (ys.map Value.bool) := hown2
        have HB := Lib.hid hbal
        have hlen := bal_length hbal
        have hlen2 : ys.length ≤ 8589934592 := by omega
        have hen : en ≤ 8589934592 := by omega
        have hblk := ownS_block hown2
        have hsz := hbel2.size
        clear hbal hlen
        by_cases hm0 : m = 0
        · subst hm0
          go_wp2
          go_roundw
          case rel => exact ⟨k + 1, ys, en, pn, by omega, by go_num, rfl, rfl, hp, HB.out, hown2, hbel2⟩
          case measure => first | (simp [intOf]; done) | (simp [intOf]; omega)
        · have g1 : decide ((0 : Int) < (m : Int)) = true := decide_eq_true (by omega)
          have g2 : decide (0 < m) = true := decide_eq_true (by omega)
          obtain ⟨x, hxb⟩ : ∃ x, bits BinOp.and IntKind.i64 z 1 = x := ⟨_, rfl⟩
          by_cases x1 : x = 1
          · subst x1
            by_cases hpm : pn < most
            · have g3 : decide (pn < most) = true := decide_eq_true hpm
              go_wp2_with (at_builtin; refine wpList_append_own _ rfl _ _ 23 rfl w.heap.size 4 i0 (.bool false) 1 1 Try.underlying23 hi hz0 hz1 hz2 rfl (by decide) _ _ _ rfl (hown0.alloc _) ⟨wr.heap.size, 0, none⟩ 1 1 [.bool true] rfl rfl (cell_one_new _ _ _) (by intro u hu; simp at hu; subst hu; rfl) (by unfold maxLen; omega) (by omega) (by simp; omega) ?_; intro v' w2 hown3 hgrow3 _; have hcell3 : w2.cell? ⟨b, off + k, none⟩ = some (.int .i64 z) := (((hbel2.alloc hbel2.size _).grown hgrow3 (by simp; omega) hblk).cell (p := ⟨b, off + k, none⟩) hb).trans HW.out)
              go_roundw
              case rel => exact ⟨_ ++ [true], m - 1, en + 1, pn + 1, by go_num, by omega, by go_num, by go_num, by omega, bal_open HB.out, ownS_next _ hown3, (hbel2.alloc hbel2.size _).grown hgrow3 (by simp; omega) hblk⟩
              case measure => first | (simp [intOf]; done) | (simp [intOf]; omega)
            · have g3 : decide (pn < most) = false := decide_eq_false hpm
              go_wp2
              go_roundw
              case rel => exact ⟨ys, m - 1, en, pn, by go_num, by omega, rfl, rfl, hp, HB.out, hown2, hbel2⟩
              case measure => first | (simp [intOf]; done) | (simp [intOf]; omega)
          · have g3 : (x == 1) = false := beq_eq_false_iff_ne.2 x1
            clear x1
            by_cases x0 : x = 0
            · subst x0
              cases en with
              | zero =>
                go_wp2
                go_roundw
                case rel => exact ⟨ys, m - 1, 0, pn, by go_num, by omega, rfl, rfl, hp, HB.out, hown2, hbel2⟩
                case measure => first | (simp [intOf]; done) | (simp [intOf]; omega)
              | succ ed =>
                go_wp2_with (at_builtin; refine wpList_append_own _ rfl _ _ 23 rfl w.heap.size 4 i0 (.bool false) 1 1 Try.underlying23 hi hz0 hz1 hz2 rfl (by decide) _ _ _ rfl (hown0.alloc _) ⟨wr.heap.size, 0, none⟩ 1 1 [.bool false] rfl rfl (cell_one_new _ _ _) (by intro u hu; simp at hu; subst hu; rfl) (by unfold maxLen; omega) (by omega) (by simp; omega) ?_; intro v' w2 hown3 hgrow3 _)
                go_roundw
                case rel => exact ⟨_ ++ [false], m - 1, ed, pn, by go_num, by omega, by first | go_num | (congr 1; omega), rfl, hp, bal_shut HB.out, ownS_next _ hown3, (hbel2.alloc hbel2.size _).grown hgrow3 (by simp; omega) hblk⟩
                case measure => first | (simp [intOf]; done) | (simp [intOf]; omega)
            · have g4 : (x == 0) = false := beq_eq_false_iff_ne.2 x0
              clear x0
              go_wp2
              go_roundw
              case rel => exact ⟨ys, m - 1, en, pn, by go_num, by omega, rfl, rfl, hp, HB.out, hown2, hbel2⟩
              case measure => first | (simp [intOf]; done) | (simp [intOf]; omega)
    · go_wp2
      go_loopw [5, 6] (fun v e wi => ∃ (ys : List Bool) (en : Nat), e = .int .i64 en ∧ Bal ys en pn ∧ OwnS wi w.heap.size v ys ∧ Below w.heap.size w wi) (fun _ e _ => (intOf e).toNat)
      case atStart => exact ⟨xs, en, rfl, HB.out, hown, hbel⟩
      case round =>
        clear hown hbel HB hlen
        obtain ⟨ys, en, rfl, hbal, hown2, hbel2⟩ := hrel
        have hown0 : wr.ownsRow w.heap.size 4 1 u5 ys.length (ys.map Value.bool) := hown2
        have HB := Lib.hid hbal
        have hlen := bal_length hbal
        have hlen2 : ys.length ≤ 8589934592 := by omega
        have hen : en ≤ 8589934592 := by omega
        have hblk := ownS_block hown2
        have hsz := hbel2.size
        clear hbal hlen
        cases en with
        | zero =>
          go_wp2
          go_ret
          exact ⟨_, ys, pn, rfl, hp, HB.out, hown2, hbel2⟩
        | succ ed =>
          go_wp2_with (at_builtin; refine wpList_append_own _ rfl _ _ 23 rfl w.heap.size 4 i0 (.bool false) 1 1 Try.underlying23 hi hz0 hz1 hz2 rfl (by decide) _ _ _ rfl (hown0.alloc _) ⟨wr.heap.size, 0, none⟩ 1 1 [.bool false] rfl rfl (cell_one_new _ _ _) (by intro u hu; simp at hu; subst hu; rfl) (by unfold maxLen; omega) (by omega) (by simp; omega) ?_; intro v' w2 hown3 hgrow3 _)
          go_roundw
          case rel => exact ⟨_ ++ [false], ed, by first | go_num | (congr 1; omega), bal_shut HB.out, ownS_next _ hown3, (hbel2.alloc hbel2.size _).grown hgrow3 (by simp; omega) hblk⟩
          case measure => first | (simp [intOf]; done) | (simp [intOf]; omega)

set_option maxHeartbeats 1000000 in
set_option maxRecDepth 100000 in
theorem parRowNone_any (a : Option Addr) (cap most : Nat) (w : World) :
    Calls Try.prog 11 #[.slice a 0 cap, .int .i64 most] w (ParPost most w) := by
  go_enter Try.func11, Try.ntmps11
  go_wp2
  go_loopw [5, 6, 7, 8] (fun v e p i wr => v = .slice none 0 0 ∧ e = .int .i64 0 ∧ p = .int .i64 0 ∧ i = .int .i64 0 ∧ wr = w) (fun _ _ _ _ _ => 0)
  case atStart => exact ⟨rfl, rfl, rfl, rfl, rfl⟩
  case round =>
    obtain ⟨rfl, rfl, rfl, rfl, rfl⟩ := hrel
    go_wp2
    go_loopw [5, 6] (fun v e wi => v = .slice none 0 0 ∧ e = .int .i64 0 ∧ Below wr.heap.size wr wi) (fun _ _ _ => 0)
    case atStart => exact ⟨rfl, rfl, Below.refl _ _⟩
    case round =>
      obtain ⟨rfl, rfl, hbel⟩ := hrel
      go_wp2
      go_ret
      exact ⟨_, [], 0, rfl, Nat.zero_le _, bal_nil, World.ownsRow_nil _ _ _ _, hbel⟩
end Go.Proofs.Yteecanaibkpmfaa
