/-
  THE LANDED PACKAGE paren: how a Paren's levels are made.
-/
import Derived.Test.YteecanaibkpmfaaRunPMore
import Derived.Test.YteecanaibkpmfaaRunNew
namespace Go.Proofs.Yteecanaibkpmfaa
open Go.RowKit

/-- a fold goes on -/
theorem lowF_next (f : Nat → Int) (a m : Nat) : lowF f a (m + 1) = if f (a + m + 1) < lowF f a m then f (a + m + 1) else lowF f a m := by
  show min (lowF f a m) (f (a + m + 1)) = _
  split <;> omega
/-- what stands at i when k things of level l have been gone through -/
def partF (f : Nat → Int) (g k i : Nat) : Int := if g * i < k then lowF f (g * i) (min (g * i + g) k - g * i - 1) else 0
theorem partF_new (f : Nat → Int) (g k : Nat) (hg : 0 < g) (hk : k % g = 0) : partF f g (k + 1) (k / g) = f k := by
  have h1 : g * (k / g) = k := by have := Nat.div_add_mod k g; omega
  unfold partF
  rw [h1, if_pos (by omega), show min (k + g) (k + 1) - k - 1 = 0 by omega]
  rfl
theorem partF_on (f : Nat → Int) (g k : Nat) (hg : 0 < g) (hk : k % g ≠ 0) : partF f g (k + 1) (k / g) = if f k < partF f g k (k / g) then f k else partF f g k (k / g) := by
  have h1 := Nat.div_add_mod k g
  have h2 := Nat.mod_lt k hg
  generalize hj : g * (k / g) = j at *
  unfold partF
  rw [hj, if_pos (show j < k + 1 by omega), if_pos (show j < k by omega), show min (j + g) (k + 1) - j - 1 = (min (j + g) k - j - 1) + 1 by omega, lowF_next, show j + (min (j + g) k - j - 1) + 1 = k by omega]
theorem partF_other (f : Nat → Int) (g k i : Nat) (hg : 0 < g) (hi : i ≠ k / g) : partF f g (k + 1) i = partF f g k i := by
  unfold partF
  by_cases h : g * i < k
  · rw [if_pos h, if_pos (by omega)]
    have h3 : g * i + g ≤ k := by
      have h4 : i < k / g := by
        have : i ≤ k / g := (Nat.le_div_iff_mul_le hg).2 (by rw [Nat.mul_comm]; omega)
        omega
      have h5 := (Nat.le_div_iff_mul_le hg).1 (show i + 1 ≤ k / g from h4)
      rw [Nat.add_mul, Nat.one_mul, Nat.mul_comm] at h5
      exact h5
    rw [Nat.min_eq_left h3, Nat.min_eq_left (by omega)]
  · rw [if_neg h, if_neg]
    intro h2
    have h3 : g * i = k := by omega
    apply hi
    rw [← h3, Nat.mul_div_cancel_left i hg]
theorem partF_all (xs : List Bool) (l i : Nat) (hi : i < cntP xs.length (l + 1)) : partF (leastP xs l) (grpP l) (cntP xs.length l) i = leastP xs (l + 1) i := by
  unfold partF
  rw [if_pos ((lt_begun (grp_pos l)).1 hi)]
  rfl
theorem partF_bound (f : Nat → Int) (N : Int) (h : ∀ i, -N ≤ f i ∧ f i ≤ N) (hN : 0 ≤ N) (g k i : Nat) : -N ≤ partF f g k i ∧ partF f g k i ≤ N := by
  unfold partF
  split
  · exact lowF_bound f N h _ _
  · omega
/-- the first k things have been gone through: their leasts lie in block b -/
def Lows (f : Nat → Int) (g c k b : Nat) (w : World) : Prop := w.rowIs b 21 c (fun i => .int .i32 (partF f g k i))
theorem lows_start {f : Nat → Int} {g c b : Nat} {w : World} (h : w.rowIs b 21 c (fun _ => .int .i32 0)) : Lows f g c 0 b w := h.congr fun i _ => by unfold partF; rw [if_neg (Nat.not_lt_zero _)]
theorem lows_set {f : Nat → Int} {g c k b : Nat} {w : World} (h : Lows f g c k b w) (hg : 0 < g) (x : Int) (hx : x = partF f g (k + 1) (k / g)) : Lows f g c (k + 1) b (w.setCell ⟨b, k / g, none⟩ (.int .i32 x)) := by
  subst hx
  refine (World.rowIs.set h (k / g) _).congr fun i _ => ?_
  by_cases e : i = k / g
  · rw [if_pos e, e]
  · rw [if_neg e, partF_other f g k i hg e]
theorem lows_stay {f : Nat → Int} {g c k b : Nat} {w : World} (h : Lows f g c k b w) (hg : 0 < g) (hs : partF f g (k + 1) (k / g) = partF f g k (k / g)) : Lows f g c (k + 1) b w :=
  World.rowIs.congr h fun i _ => by
    by_cases e : i = k / g
    · rw [e, hs]
    · rw [partF_other f g k i hg e]
theorem info_i32 : (Try.prog.info? 21).map (fun i => (i.zero, i.size, i.bytes)) = some (some (.int .i32 0), 1, 4) := by kernel_rfl
theorem make_leasts (n : Nat) (h : n ≤ 4294967296) (w : World) :
    (Instr.makeSlice 53 (.int .i64 (n : Int)) (.int .i64 (n : Int))).run Try.prog w = .ok (.slice (some ⟨w.heap.size, 0, none⟩) n n) (w.alloc (.cells (madeCells #[.int .i32 0] n) 21)) :=
  run_make_row' 53 21 (.int .i32 0) 4 Try.underlying53 info_i32 rfl .i64 .i64 n (by omega) (by omega) w

set_option maxHeartbeats 1000000 in
set_option maxRecDepth 100000 in
theorem rmaySome_any (g off cap : Nat) (xs : List Bool) (w : World) (hx : xs.length ≤ 4194304) (hc : ∀ i, i < xs.length → w.cell? ⟨g, off + i, none⟩ = some (.bool (xs.getD i false))) :
    Calls Try.prog 34 #[.slice (some ⟨g, off, none⟩) xs.length cap] w fun e w' => e = .returned (.bool (mayL xs)) ∧ w = w' := by
  have HC := Lib.hid hc
  clear hc
  go_enter Try.func34, Try.ntmps34
  go_wp2
  go_loopw [3, 8] (fun ev iv wr => ∃ k : Nat, k ≤ xs.length ∧ ev = .int .i64 (exc xs k) ∧ iv = .int .i64 k ∧ mayN xs k = true ∧ wr = w) (fun _ iv _ => xs.length - (intOf iv).toNat)
  case atStart => exact ⟨0, Nat.zero_le _, rfl, rfl, rfl, rfl⟩
  case round =>
    obtain ⟨k, hk, rfl, rfl, hm, rfl⟩ := hrel
    have HM := Lib.hid hm
    clear hm
    by_cases hlt : k < xs.length
    · obtain ⟨b, hb⟩ : ∃ b, xs.getD k false = b := ⟨_, rfl⟩
      have hcell := HC.out k hlt
      rw [hb] at hcell
      have hes := exc_succ xs k b hlt hb
      have heb := exc_bound xs k
      have hsb := sgn_bound b
      obtain ⟨y, hy⟩ : ∃ y, exc xs (k + 1) = y := ⟨_, rfl⟩
      have HY := Lib.hid hy
      rw [hy] at hes
      generalize exc xs k = x at *
      have ex : x + sgn b = y := hes.symm
      clear hb hy hes
      go_wp2_with fail
      refine (rrise_any b wr).mono ?_
      rintro o w2 ⟨rfl, rfl⟩
      by_cases hy0 : y < 0
      · have g1 : decide (y < 0) = true := decide_eq_true hy0
        go_wp2
        go_ret
        refine ⟨?_, rfl⟩
        rw [mayL_no xs (k + 1) (by omega) (mayN_next xs k false (decide_eq_false (by rw [HY.out]; omega)) HM.out)]
        rfl
      · have g1 : decide (y < 0) = false := decide_eq_false hy0
        go_wp2
        go_roundw
        case rel => exact ⟨k + 1, by omega, by rw [HY.out], by go_num, mayN_next xs k true (decide_eq_true (by rw [HY.out]; omega)) HM.out, trivial⟩
        case measure => simp [intOf]; omega
    · have hke : k = xs.length := by omega
      subst hke
      have hml : mayL xs = decide (exc xs xs.length = 0) := by unfold mayL; rw [HM.out, Bool.true_and]
      have heb := exc_bound xs xs.length
      generalize exc xs xs.length = y at *
      have HML := Lib.hid hml
      clear hml
      go_wp2
      go_ret
      refine ⟨?_, rfl⟩
      rw [HML.out]
      first | rfl | (congr 2; rw [Bool.eq_iff_iff]; simp)
end Go.Proofs.Yteecanaibkpmfaa
