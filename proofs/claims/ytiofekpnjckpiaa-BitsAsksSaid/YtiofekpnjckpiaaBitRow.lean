/-
  THE CONTRACT OF brackenlaw3.Row: it returns a row of bools of its own, no longer than it may be; of what was there before the call nothing turns.
-/
import Derived.Test.YtiofekpnjckpiaaOwnBools
namespace Go.Proofs.Ytiofekpnjckpiaa
open Go.RowKit

/-- a row of its own, no longer than most -/
def RowPost (most : Nat) (w : World) (e : Ending) (w' : World) : Prop := ∃ v xs, e = .returned v ∧ xs.length ≤ most ∧ OwnS w' w.heap.size v xs ∧ Below w.heap.size w w'

set_option maxHeartbeats 2000000 in
set_option maxRecDepth 100000 in
theorem rowSome_any (b off cap : Nat) (zs : List Int) (most : Nat) (w : World) (hm : most ≤ 4294967296) (hz : zs.length ≤ 9223372036854775807) (hb : b < w.heap.size)
    (hc : ∀ i, i < zs.length → w.cell? ⟨b, off + i, none⟩ = some (.int .i64 (zs.getD i 0))) :
    Calls Try.prog 7 #[.slice (some ⟨b, off, none⟩) zs.length cap, .int .i64 most] w (RowPost most w) := by
  obtain ⟨i0, hi, hz0, hz1, hz2⟩ := info_parts info_bool
  have HC := Lib.hid hc
  clear hc
  go_enter Try.func7, Try.ntmps7
  go_wp2
  go_loopw [5, 6] (fun v i wr => ∃ (k : Nat) (xs : List Bool), k ≤ zs.length ∧ i = .int .i64 k ∧ xs.length ≤ most ∧ OwnS wr w.heap.size v xs ∧ Below w.heap.size w wr) (fun _ i _ => zs.length - (intOf i).toNat)
  case atStart => exact ⟨0, [], Nat.zero_le _, rfl, Nat.zero_le _, World.ownsRow_nil _ _ _ _, Below.refl _ _⟩
  case round =>
    obtain ⟨k, xs, hk, rfl, hx, hown, hbel⟩ := hrel
    by_cases hlt : k < zs.length
    · obtain ⟨z, hzz⟩ : ∃ z, zs.getD k 0 = z := ⟨_, rfl⟩
      have hcell : wr.cell? ⟨b, off + k, none⟩ = some (.int .i64 z) := by rw [hbel.cell (p := ⟨b, off + k, none⟩) hb, ← hzz]; exact HC.out k hlt
      have HZ := Lib.hid hzz
      clear hzz
      obtain ⟨u, hu, hub⟩ : ∃ u : Nat, IntKind.u64.wrap z = (u : Int) ∧ u ≤ 18446744073709551615 := ⟨(IntKind.u64.wrap z).toNat, by simp [IntKind.wrap, IntKind.bits, IntKind.signed]; omega, by simp [IntKind.wrap, IntKind.bits, IntKind.signed]; omega⟩
      obtain ⟨c, hcn, hc90⟩ : ∃ c : Nat, IntKind.u64.wrap (1 + (IntKind.u64.wrap ((u : Int) / 2)).tmod 90) = (c : Int) ∧ c ≤ 90 := by
        have h0 : 0 ≤ IntKind.u64.wrap ((u : Int) / 2) := by simp [IntKind.wrap, IntKind.bits, IntKind.signed]; omega
        have h1 : (IntKind.u64.wrap ((u : Int) / 2)).tmod 90 = IntKind.u64.wrap ((u : Int) / 2) % 90 := Int.tmod_eq_emod_of_nonneg h0
        rw [h1]
        refine ⟨(1 + IntKind.u64.wrap ((u : Int) / 2) % 90).toNat, ?_, ?_⟩
        · generalize IntKind.u64.wrap ((u : Int) / 2) = t at *
          simp [IntKind.wrap, IntKind.bits, IntKind.signed]; omega
        · omega
      have HCN := Lib.hid hcn
      clear hub hcn
      go_wp2
      go_loopw [5, 7] (fun v n wi => ∃ (ys : List Bool) (m : Nat), n = .int .u64 m ∧ m ≤ 90 ∧ ys.length ≤ most ∧ OwnS wi w.heap.size v ys ∧ Below w.heap.size w wi) (fun _ n _ => (intOf n).toNat)
      case atStart => exact ⟨xs, c, by rw [HCN.out], hc90, hx, hown, hbel⟩
      case round =>
        obtain ⟨ys, m, rfl, hm90, hy, hown2, hbel2⟩ := hrel
        have hcell2 : wr.cell? ⟨b, off + k, none⟩ = some (.int .i64 z) := by rw [hbel2.cell (p := ⟨b, off + k, none⟩) hb, ← HZ.out]; exact HC.out k hlt
        have hown0 : wr.ownsRow w.heap.size 4 1 u5 ys.length (ys.map Value.bool) := hown2
        clear hcell hown hbel hx
        by_cases hm0 : m = 0
        · subst hm0
          go_wp2
          go_roundw
          case rel => exact ⟨k + 1, ys, by omega, by go_num, hy, hown2, hbel2⟩
          case measure => simp [intOf]; omega
        · have g1 : decide ((0 : Int) < (m : Int)) = true := decide_eq_true (by omega)
          have g2 : decide (0 < m) = true := decide_eq_true (by omega)
          by_cases hl : ys.length < most
          · have g3 : decide (ys.length < most) = true := decide_eq_true hl
            have hblk := ownS_block hown2
            have hsz := hbel2.size
            rcases ownS_shape hown2 with ⟨rfl, rfl⟩ | ⟨g, cap', rfl⟩
            all_goals
              go_wp2_with (at_builtin; refine wpList_append_own _ rfl _ _ 23 rfl w.heap.size 4 i0 (.bool false) 1 1 Try.underlying23 hi hz0 hz1 hz2 rfl (by decide) _ _ _ rfl (hown0.alloc _) ⟨wr.heap.size, 0, none⟩ 1 1 [.bool (bits BinOp.and IntKind.i64 z 1 == 1)] rfl rfl (cell_one_new _ _ _) (by intro u hu; simp at hu; subst hu; rfl) (by unfold maxLen; first | omega | (simp; done) | (simp; omega)) (by first | omega | (simp; done) | (simp; omega)) (by first | omega | (simp; done) | (simp; omega)) ?_; intro v' w2 hown3 hgrow3 _)
              go_roundw
              case rel => exact ⟨_ ++ [bits BinOp.and IntKind.i64 z 1 == 1], m - 1, by go_num, by omega, by first | (simp; done) | (simp; omega), ownS_next _ hown3, (hbel2.alloc hbel2.size _).grown hgrow3 (by first | (simp; done) | (simp; omega)) hblk⟩
              case measure => simp [intOf]; omega
          · have g3 : decide (ys.length < most) = false := decide_eq_false hl
            rcases ownS_shape hown2 with ⟨rfl, rfl⟩ | ⟨g, cap', rfl⟩
            all_goals
              go_wp2
              go_roundw
              case rel => exact ⟨k + 1, _, by omega, by go_num, hy, hown2, hbel2⟩
              case measure => simp [intOf]; omega
    · go_wp2
      go_ret
      exact ⟨_, xs, rfl, hx, hown, hbel⟩

set_option maxHeartbeats 1000000 in
set_option maxRecDepth 100000 in
theorem rowNone_any (a : Option Addr) (cap most : Nat) (w : World) :
    Calls Try.prog 7 #[.slice a 0 cap, .int .i64 most] w (RowPost most w) := by
  go_enter Try.func7, Try.ntmps7
  go_wp2
  go_loopw [5, 6] (fun v i wr => v = .slice none 0 0 ∧ i = .int .i64 0 ∧ wr = w) (fun _ _ _ => 0)
  case atStart => exact ⟨rfl, rfl, rfl⟩
  case round =>
    obtain ⟨rfl, rfl, rfl⟩ := hrel
    go_wp2
    go_ret
    exact ⟨_, [], rfl, Nat.zero_le _, World.ownsRow_nil _ _ _ _, Below.refl _ _⟩
end Go.Proofs.Ytiofekpnjckpiaa
