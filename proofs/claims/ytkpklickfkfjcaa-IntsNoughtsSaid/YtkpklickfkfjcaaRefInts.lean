/-
  THE CONTRACTS OF brackenref1.Widest, IntsSize: over a slice of uint64s that lies in memory as a list; the world is left alone.
-/
import Derived.Test.YtkpklickfkfjcaaRefWidth
import Derived.Test.YtkpklickfkfjcaaRefBegun
namespace Go.Proofs.Ytkpklickfkfjcaa
open Go.RowKit

/-- THE VALUE v IS A SLICE THAT HOLDS THE NUMBERS zs (of kind k), in a block below B. -/
def NumsAt (k : IntKind) (B : Nat) (w : World) (v : Value) (zs : List Nat) : Prop :=
  (∃ a cap, v = .slice a 0 cap ∧ zs = []) ∨
  ∃ b off cap, v = .slice (some ⟨b, off, none⟩) zs.length cap ∧ b < B ∧ ∀ i, i < zs.length → w.cell? ⟨b, off + i, none⟩ = some (.int k (zs.getD i 0))
theorem NumsAt.below {k : IntKind} {B : Nat} {w w' : World} {v : Value} {zs : List Nat} (h : NumsAt k B w v zs) (hb : Below B w w') : NumsAt k B w' v zs := by
  rcases h with h | ⟨b, off, cap, h1, h2, h3⟩
  · exact Or.inl h
  · exact Or.inr ⟨b, off, cap, h1, h2, fun i hi => by rw [hb.cell (p := ⟨b, off + i, none⟩) h2]; exact h3 i hi⟩
theorem widest_step (zs : List Nat) (k z : Nat) (h : k < zs.length) (hz : zs.getD k 0 = z) : widestTo zs (k + 1) = max (widestTo zs k) (widthN z) := by
  have e : zs[k]'h = z := by rw [← hz]; simp [List.getD, List.getElem?_eq_getElem h]
  unfold widestTo
  rw [List.take_succ_eq_append_getElem h, widestN_append, e]
  simp only [widestN]
  omega
theorem widest_le : ∀ (zs : List Nat), (∀ z ∈ zs, z ≤ 18446744073709551615) → widestN zs ≤ 64
  | [], _ => by simp [widestN]
  | z :: t, h => by
    have h1 := widthN_64 z (h z (by simp))
    have h2 := widest_le t (fun x hx => h x (by simp [hx]))
    simp only [widestN]
    omega

set_option maxHeartbeats 1000000 in
set_option maxRecDepth 100000 in
theorem widestSome_any (b off cap : Nat) (zs : List Nat) (w : World) (hl : zs.length ≤ 4294967296) (hz : ∀ z ∈ zs, z ≤ 18446744073709551615) (hc : ∀ i, i < zs.length → w.cell? ⟨b, off + i, none⟩ = some (.int .u64 (zs.getD i 0))) :
    Calls Try.prog 14 #[.slice (some ⟨b, off, none⟩) zs.length cap] w fun e w' => e = .returned (.int .i64 (widestN zs)) ∧ w = w' := by
  have HC := Lib.hid hc
  have HZ := Lib.hid hz
  clear hc hz
  go_enter Try.func14, Try.ntmps14
  go_wp2
  go_loop [3, 4] (fun m i => ∃ k a : Nat, k ≤ zs.length ∧ i = .int .i64 k ∧ m = .int .i64 a ∧ a = widestTo zs k ∧ a ≤ 64) (fun _ i => zs.length - (intOf i).toNat)
  case atStart => exact ⟨0, 0, Nat.zero_le _, rfl, rfl, rfl, by omega⟩
  case round =>
    obtain ⟨k, a, hk, rfl, rfl, ha, ha64⟩ := hrel
    have HA := Lib.hid ha
    clear ha
    by_cases hlt : k < zs.length
    · obtain ⟨z, hzz⟩ : ∃ z, zs.getD k 0 = z := ⟨_, rfl⟩
      have hzb : z ≤ 18446744073709551615 := by
        refine HZ.out z ?_
        rw [← hzz]
        simp [List.getD, List.getElem?_eq_getElem hlt]
      have hcell : w.cell? ⟨b, off + k, none⟩ = some (.int .u64 z) := by rw [← hzz]; exact HC.out k hlt
      have HS := Lib.hid (widest_step zs k z hlt hzz)
      have c1 := fun w => refWidth_any z w hzb
      have hw64 := widthN_64 z hzb
      generalize widthN z = y at *
      clear hzz hzb
      by_cases hay : a < y
      · have HF : Hid (y = widestTo zs (k + 1)) := by rw [HS.out, ← HA.out]; show _ = _; omega
        clear HS
        go_wp2_with (go_at_call 16; refine (c1 _).mono ?_; rintro e w' ⟨rfl, rfl⟩)
        all_goals
          go_round
          case rel => exact ⟨k + 1, y, by omega, by go_num, by first | rfl | go_num | (congr 1; omega), HF.out, hw64⟩
          case measure => simp [intOf]; omega
      · have HF : Hid (a = widestTo zs (k + 1)) := by rw [HS.out, ← HA.out]; show _ = _; omega
        clear HS
        go_wp2_with (go_at_call 16; refine (c1 _).mono ?_; rintro e w' ⟨rfl, rfl⟩)
        all_goals
          go_round
          case rel => exact ⟨k + 1, a, by omega, by go_num, by first | rfl | go_num | (congr 1; omega), HF.out, ha64⟩
          case measure => simp [intOf]; omega
    · have HF : Hid (a = widestN zs) := by
        rw [HA.out]; unfold widestTo
        rw [List.take_of_length_le (by omega)]; exact rfl
      go_wp2
      go_ret
      exact ⟨by rw [← HF.out]; rfl, rfl⟩

set_option maxHeartbeats 1000000 in
set_option maxRecDepth 100000 in
theorem widestNone_any (a : Option Addr) (cap : Nat) (w : World) :
    Calls Try.prog 14 #[.slice a 0 cap] w fun e w' => e = .returned (.int .i64 0) ∧ w = w' := by
  go_enter Try.func14, Try.ntmps14
  go_wp2
  go_loop [3, 4] (fun m i => m = .int .i64 0 ∧ i = .int .i64 0) (fun _ _ => 0)
  case atStart => exact ⟨rfl, rfl⟩
  case round =>
    obtain ⟨rfl, rfl⟩ := hrel
    go_wp2
    go_ret
    exact ⟨rfl, rfl⟩
theorem refWidest_any (B : Nat) (v : Value) (zs : List Nat) (w : World) (hl : zs.length ≤ 4294967296) (hz : ∀ z ∈ zs, z ≤ 18446744073709551615) (hv : NumsAt .u64 B w v zs) :
    Calls Try.prog 14 #[v] w fun e w' => e = .returned (.int .i64 (widestN zs)) ∧ w = w' := by
  rcases hv with ⟨a, cap, rfl, rfl⟩ | ⟨b, off, cap, rfl, _, hc⟩
  · exact widestNone_any a cap w
  · exact widestSome_any b off cap zs w hl hz hc

set_option maxHeartbeats 1000000 in
theorem refIntsSize_any (n width : Nat) (w : World) (h1 : n ≤ 16777216) (h2 : width ≤ 64) :
    Calls Try.prog 15 #[.int .i64 n, .int .i64 width] w fun e w' => e = .returned (.int .i64 (intsN n width)) ∧ w = w' := by
  obtain ⟨m, hm⟩ : ∃ m : Nat, n * width = m := ⟨_, rfl⟩
  have hmb : m ≤ 1073741824 := by
    rw [← hm]
    exact Nat.le_trans (Nat.mul_le_mul h1 h2) (by decide)
  have e1 : (n : Int) * (width : Int) = (m : Int) := by rw [← hm]; rfl
  obtain ⟨x, hx⟩ : ∃ x, begunN m 64 = x := ⟨_, rfl⟩
  have HV : Hid (intsN n width = 64 * x) := by unfold intsN; rw [hm, hx]; exact rfl
  have hxb : x ≤ 4294967296 := by rw [← hx]; unfold begunN; omega
  have c1 := Lib.hid (fun w => begun_at m 64 x w (by omega) (by decide) (by decide) hx)
  clear hx hm
  go_enter Try.func15, Try.ntmps15
  go_wp2_with fail
  refine (c1.out _).mono ?_
  rintro e w' ⟨rfl, rfl⟩
  go_wp2
  go_ret
  exact ⟨by rw [HV.out]; go_num, rfl⟩
end Go.Proofs.Ytkpklickfkfjcaa
