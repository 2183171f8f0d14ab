/-
  THE LANDED PACKAGE paren: how a Paren's levels are made.
  THE LANDED PACKAGE paren: blocks and the levels above them.
  THE LANDED PACKAGE paren: one level above another.
  THE LANDED PACKAGE paren: a Paren whose levels are being put on.
-/
import Derived.Test.YteecanaibkpmfaaRunPAll
import Derived.Test.YteecanaibkpmfaaRunBitB
namespace Go.Proofs.Yteecanaibkpmfaa
open Go.RowKit

/-- a fold goes on -/
theorem lowF_next (f : Nat → Int) (a m : Nat) : lowF f a (m + 1) = if f (a + m + 1) < lowF f a m then f (a + m + 1) else lowF f a m := by
  show min (lowF f a m) (f (a + m + 1)) = _
  split <;> omega
/-- what stands at i when k things of level l have been gone through -/
def partF (f : Nat → Int) (g k i : Nat) : Int := if g * i < k then lowF f (g * i) (min (g * i + g) k - g * i - 1) else 0
theorem partF_new (f : Nat → Int) (g k : Nat) (hg : 0 < g) (hk : k % g = 0) : partF f g (k + 1) (k / g) = f k := by
  have h1 : g * (k / g) = k := by have := Nat.div_add_mod k g; omega
  unfold partF
  rw [h1, if_pos (by omega), show min (k + g) (k + 1) - k - 1 = 0 by omega]
  rfl
theorem partF_on (f : Nat → Int) (g k : Nat) (hg : 0 < g) (hk : k % g ≠ 0) : partF f g (k + 1) (k / g) = if f k < partF f g k (k / g) then f k else partF f g k (k / g) := by
  have h1 := Nat.div_add_mod k g
  have h2 := Nat.mod_lt k hg
  generalize hj : g * (k / g) = j at *
  unfold partF
  rw [hj, if_pos (show j < k + 1 by omega), if_pos (show j < k by omega), show min (j + g) (k + 1) - j - 1 = (min (j + g) k - j - 1) + 1 by omega, lowF_next, show j + (min (j + g) k - j - 1) + 1 = k by omega]
theorem partF_other (f : Nat → Int) (g k i : Nat) (hg : 0 < g) (hi : i ≠ k / g) : partF f g (k + 1) i = partF f g k i := by
  unfold partF
  by_cases h : g * i < k
  · rw [if_pos h, if_pos (by omega)]
    have h3 : g * i + g ≤ k := by
      have h4 : i < k / g := by
        have : i ≤ k / g := (Nat.le_div_iff_mul_le hg).2 (by rw [Nat.mul_comm]; omega)
        omega
      have h5 := (Nat.le_div_iff_mul_le hg).1 (show i + 1 ≤ k / g from h4)
      rw [Nat.add_mul, Nat.one_mul, Nat.mul_comm] at h5
      exact h5
    rw [Nat.min_eq_left h3, Nat.min_eq_left (by omega)]
  · rw [if_neg h, if_neg]
    intro h2
    have h3 : g * i = k := by omega
    apply hi
    rw [← h3, Nat.mul_div_cancel_left i hg]
theorem partF_all (xs : List Bool) (l i : Nat) (hi : i < cntP xs.length (l + 1)) : partF (leastP xs l) (grpP l) (cntP xs.length l) i = leastP xs (l + 1) i := by
  unfold partF
  rw [if_pos ((lt_begun (grp_pos l)).1 hi)]
  rfl
theorem partF_bound (f : Nat → Int) (N : Int) (h : ∀ i, -N ≤ f i ∧ f i ≤ N) (hN : 0 ≤ N) (g k i : Nat) : -N ≤ partF f g k i ∧ partF f g k i ≤ N := by
  unfold partF
  split
  · exact lowF_bound f N h _ _
  · omega
/-- the first k things have been gone through: their leasts lie in block b -/
def Lows (f : Nat → Int) (g c k b : Nat) (w : World) : Prop := w.rowIs b 21 c (fun i => .int .i32 (partF f g k i))
theorem lows_start {f : Nat → Int} {g c b : Nat} {w : World} (h : w.rowIs b 21 c (fun _ => .int .i32 0)) : Lows f g c 0 b w := h.congr fun i _ => by unfold partF; rw [if_neg (Nat.not_lt_zero _)]
theorem lows_set {f : Nat → Int} {g c k b : Nat} {w : World} (h : Lows f g c k b w) (hg : 0 < g) (x : Int) (hx : x = partF f g (k + 1) (k / g)) : Lows f g c (k + 1) b (w.setCell ⟨b, k / g, none⟩ (.int .i32 x)) := by
  subst hx
  refine (World.rowIs.set h (k / g) _).congr fun i _ => ?_
  by_cases e : i = k / g
  · rw [if_pos e, e]
  · rw [if_neg e, partF_other f g k i hg e]
theorem lows_stay {f : Nat → Int} {g c k b : Nat} {w : World} (h : Lows f g c k b w) (hg : 0 < g) (hs : partF f g (k + 1) (k / g) = partF f g k (k / g)) : Lows f g c (k + 1) b w :=
  World.rowIs.congr h fun i _ => by
    by_cases e : i = k / g
    · rw [e, hs]
    · rw [partF_other f g k i hg e]
theorem info_i32 : (Try.prog.info? 21).map (fun i => (i.zero, i.size, i.bytes)) = some (some (.int .i32 0), 1, 4) := by kernel_rfl
theorem make_leasts (n : Nat) (h : n ≤ 4294967296) (w : World) :
    (Instr.makeSlice 53 (.int .i64 (n : Int)) (.int .i64 (n : Int))).run Try.prog w = .ok (.slice (some ⟨w.heap.size, 0, none⟩) n n) (w.alloc (.cells (madeCells #[.int .i32 0] n) 21)) :=
  run_make_row' 53 21 (.int .i32 0) 4 Try.underlying53 info_i32 rfl .i64 .i64 n (by omega) (by omega) w

set_option maxHeartbeats 1000000 in
set_option maxRecDepth 100000 in
theorem rmaySome_any (g off cap : Nat) (xs : List Bool) (w : World) (hx : xs.length ≤ 4194304) (hc : ∀ i, i < xs.length → w.cell? ⟨g, off + i, none⟩ = some (.bool (xs.getD i false))) :
    Calls Try.prog 34 #[.slice (some ⟨g, off, none⟩) xs.length cap] w fun e w' => e = .returned (.bool (mayL xs)) ∧ w = w' := by
  have HC := Lib.hid hc
  clear hc
  go_enter Try.func34, Try.ntmps34
  go_wp2
  go_loopw [3, 8] (fun ev iv wr => ∃ k : Nat, k ≤ xs.length ∧ ev = .int .i64 (exc xs k) ∧ iv = .int .i64 k ∧ mayN xs k = true ∧ wr = w) (fun _ iv _ => xs.length - (intOf iv).toNat)
  case atStart => exact ⟨0, Nat.zero_le _, rfl, rfl, rfl, rfl⟩
  case round =>
    obtain ⟨k, hk, rfl, rfl, hm, rfl⟩ := hrel
    have HM := Lib.hid hm
    clear hm
    by_cases hlt : k < xs.length
    · obtain ⟨b, hb⟩ : ∃ b, xs.getD k false = b := ⟨_, rfl⟩
      have hcell := HC.out k hlt
      rw [hb] at hcell
      have hes := exc_succ xs k b hlt hb
      have heb := exc_bound xs k
      have hsb := sgn_bound b
      obtain ⟨y, hy⟩ : ∃ y, exc xs (k + 1) = y := ⟨_, rfl⟩
      have HY := Lib.hid hy
      rw [hy] at hes
      generalize exc xs k = x at *
      have ex : x + sgn b = y := hes.symm
      clear hb hy hes
      go_wp2_with fail
      refine (rrise_any b wr).mono ?_
      rintro o w2 ⟨rfl, rfl⟩
      by_cases hy0 : y < 0
      · have g1 : decide (y < 0) = true := decide_eq_true hy0
        go_wp2
        go_ret
        refine ⟨?_, rfl⟩
        rw [mayL_no xs (k + 1) (by omega) (mayN_next xs k false (decide_eq_false (by rw [HY.out]; omega)) HM.out)]
        rfl
      · have g1 : decide (y < 0) = false := decide_eq_false hy0
        go_wp2
        go_roundw
        case rel => exact ⟨k + 1, by omega, by rw [HY.out], by go_num, mayN_next xs k true (decide_eq_true (by rw [HY.out]; omega)) HM.out, trivial⟩
        case measure => simp [intOf]; omega
    · have hke : k = xs.length := by omega
      subst hke
      have hml : mayL xs = decide (exc xs xs.length = 0) := by unfold mayL; rw [HM.out, Bool.true_and]
      have heb := exc_bound xs xs.length
      generalize exc xs xs.length = y at *
      have HML := Lib.hid hml
      clear hml
      go_wp2
      go_ret
      refine ⟨?_, rfl⟩
      rw [HML.out]
      first | rfl | (congr 2; rw [Bool.eq_iff_iff]; simp)
end Go.Proofs.Yteecanaibkpmfaa
namespace Go.Proofs.Yteecanaibkpmfaa
open Go.RowKit

theorem rmay_any (B : Nat) (v : Value) (xs : List Bool) (w : World) (hx : xs.length ≤ 4194304) (hv : BoolsAt B w v xs) :
    Calls Try.prog 34 #[v] w fun e w' => e = .returned (.bool (mayL xs)) ∧ w = w' := by
  rcases hv with ⟨a, cap, rfl, rfl⟩ | ⟨g, off, cap, rfl, hg, hc⟩
  · have h0 : mayL [] = true := rfl
    rw [h0]
    go_enter Try.func34, Try.ntmps34
    go_wp2
    go_loopw [3, 8] (fun ev iv wr => ev = .int .i64 0 ∧ iv = .int .i64 0 ∧ wr = w) (fun _ _ _ => 0)
    case atStart => exact ⟨rfl, rfl, rfl⟩
    case round =>
      obtain ⟨rfl, rfl, rfl⟩ := hrel
      go_wp2
      go_ret
      exact ⟨rfl, rfl⟩
  · exact rmaySome_any g off cap xs w hx hc
set_option maxHeartbeats 2000000 in
set_option maxRecDepth 100000 in
theorem rblocks_any (g off cap : Nat) (xs : List Bool) (w : World) (hx : xs.length ≤ 4194304) (h1 : 1 ≤ xs.length) (hg : g < w.heap.size) (hc : ∀ i, i < xs.length → w.cell? ⟨g, off + i, none⟩ = some (.bool (xs.getD i false))) :
    Calls Try.prog 37 #[.slice (some ⟨g, off, none⟩) xs.length cap] w fun e w' =>
      e = .returned (.slice (some ⟨w.heap.size, 0, none⟩) (cntP xs.length 1) (cntP xs.length 1)) ∧ w'.rowIs w.heap.size 21 (cntP xs.length 1) (fun i => .int .i32 (leastP xs 1 i)) ∧ Below w.heap.size w w' := by
  have HC := Lib.hid hc
  clear hc
  have HALL := Lib.hid (fun i (hi : i < cntP xs.length 1) => partF_all xs 0 i hi)
  have hcb : cntP xs.length 1 ≤ 4194304 := by have := cntP_le xs.length 1; omega
  have HLT := Lib.hid (fun k (hk : k < xs.length) => show k / 128 < cntP xs.length 1 by rw [cnt_one]; omega)
  have hcn : (xs.length + 127) / 128 = cntP xs.length 1 := (cnt_one _).symm
  generalize cntP xs.length 1 = c at *
  obtain ⟨m, hm⟩ : ∃ m, xs.length + 127 = m := ⟨_, rfl⟩
  have em : (xs.length : Int) + 128 - 1 = (m : Int) := by omega
  have hmb : m ≤ 8589934592 := by omega
  rw [hm] at hcn
  have hcn2 : (m : Int) / 128 = (c : Int) := by omega
  clear hm
  have hmk := make_leasts c (by omega) w
  have hrow0 := lows_start (f := leastP xs 0) (g := 128) (World.rowIs_made w (.int .i32 0) c 21)
  have hbel0 := (Below.refl w.heap.size w).alloc (Nat.le_refl _) (.cells (madeCells #[.int .i32 0] c) 21)
  go_enter Try.func37, Try.ntmps37
  go_wp2
  go_loopw [4, 16] (fun ev iv wr => ∃ k : Nat, k ≤ xs.length ∧ ev = .int .i32 (exc xs k) ∧ iv = .int .i64 k ∧ Below w.heap.size w wr ∧ Lows (leastP xs 0) 128 c k w.heap.size wr) (fun _ iv _ => xs.length - (intOf iv).toNat)
  case atStart => exact ⟨0, Nat.zero_le _, rfl, rfl, hbel0, hrow0⟩
  case round =>
    clear hmk hrow0 hbel0 hcn hcn2
    obtain ⟨k, hk, rfl, rfl, hbel, hlow⟩ := hrel
    have HBE := Lib.hid hbel
    have HLO := Lib.hid hlow
    clear hbel hlow
    by_cases hlt : k < xs.length
    · obtain ⟨b, hb⟩ : ∃ b, xs.getD k false = b := ⟨_, rfl⟩
      have hcell : wr.cell? ⟨g, off + k, none⟩ = some (.bool b) := by rw [HBE.out.cell (p := ⟨g, off + k, none⟩) hg, ← hb]; exact HC.out k hlt
      have hes := exc_succ xs k b hlt hb
      have heb := exc_bound xs k
      have heb2 := exc_bound xs (k + 1)
      have hsb := sgn_bound b
      obtain ⟨y, hy⟩ : ∃ y, exc xs (k + 1) = y := ⟨_, rfl⟩
      have HY : Hid (leastP xs 0 k = y) := Lib.hid hy
      have HY2 := Lib.hid hy
      rw [hy] at hes heb2
      generalize exc xs k = x at *
      have ex : x + sgn b = y := hes.symm
      clear hb hy hes
      obtain ⟨j, hj⟩ : ∃ j, k / 128 = j := ⟨_, rfl⟩
      have hjc : j < c := by rw [← hj]; exact HLT.out k hlt
      have hj2 : (k : Int) / 128 = (j : Int) := by omega
      have hw1 := HLO.out.cell hjc
      have hw2 := HLO.out.frozen j
      obtain ⟨z, hz⟩ : ∃ z, partF (leastP xs 0) 128 k j = z := ⟨_, rfl⟩
      have hzb := partF_bound (leastP xs 0) 4194304 (fun i => by have := least_bound xs 0 i; omega) (by omega) 128 k j
      rw [hz] at hw1 hzb
      have HZ := Lib.hid hz
      have HJ := Lib.hid hj
      have HSET := Lib.hid (fun hx => lows_set HLO.out (by decide) y hx)
      rw [hj] at HSET
      clear hz
      have e1 : IntKind.i32.wrap (sgn b) = sgn b := by simp [IntKind.wrap, IntKind.bits, IntKind.signed]; omega
      have e2 : IntKind.i32.wrap y = y := by simp [IntKind.wrap, IntKind.bits, IntKind.signed]; omega
      by_cases hk0 : k % 128 = 0
      · have hm1 : ((k : Int) % 128 == 0) = true := beq_iff_eq.2 (by omega)
        have hm2 : (k % 128 == 0) = true := beq_iff_eq.2 hk0
        have HS := Lib.hid (HSET.out (by rw [← HJ.out, partF_new (leastP xs 0) 128 k (by decide) hk0, HY.out]))
        clear hj
        go_wp2_with fail
        refine (rrise_any b wr).mono ?_
        rintro o w2 ⟨rfl, rfl⟩
        go_wp2
        go_roundw
        case rel => exact ⟨k + 1, by omega, by rw [HY2.out], by go_num, HBE.out.setCell (Nat.le_refl _) _, HS.out⟩
        case measure => simp [intOf]; omega
      · have hm1 : ((k : Int) % 128 == 0) = false := beq_eq_false_iff_ne.2 (by omega)
        have hm2 : (k % 128 == 0) = false := beq_eq_false_iff_ne.2 hk0
        have hon := partF_on (leastP xs 0) 128 k (by decide) hk0
        rw [hj, HY.out, HZ.out] at hon
        by_cases hyz : y < z
        · have g1 : decide (y < z) = true := decide_eq_true hyz
          rw [if_pos hyz] at hon
          have HS := Lib.hid (HSET.out hon.symm)
          clear hj hon
          go_wp2_with fail
          refine (rrise_any b wr).mono ?_
          rintro o w2 ⟨rfl, rfl⟩
          go_wp2
          go_roundw
          case rel => exact ⟨k + 1, by omega, by rw [HY2.out], by go_num, HBE.out.setCell (Nat.le_refl _) _, HS.out⟩
          case measure => simp [intOf]; omega
        · have g1 : decide (y < z) = false := decide_eq_false hyz
          rw [if_neg hyz] at hon
          have HS := Lib.hid (lows_stay HLO.out (by decide) (by rw [HJ.out, hon, HZ.out]))
          clear hj hon
          go_wp2_with fail
          refine (rrise_any b wr).mono ?_
          rintro o w2 ⟨rfl, rfl⟩
          go_wp2
          go_roundw
          case rel => exact ⟨k + 1, by omega, by rw [HY2.out], by go_num, HBE.out, HS.out⟩
          case measure => simp [intOf]; omega
    · have hke : k = xs.length := by omega
      subst hke
      go_wp2
      go_ret
      exact ⟨rfl, World.rowIs.congr HLO.out fun i hi => by rw [← HALL.out i hi]; rfl, HBE.out⟩
theorem rblocksNone_any (a : Option Addr) (cap : Nat) (w : World) :
    Calls Try.prog 37 #[.slice a 0 cap] w fun e w' => e = .returned (.slice (some ⟨w.heap.size, 0, none⟩) 0 0) ∧ Below w.heap.size w w' := by
  have hmk : (Instr.makeSlice 53 (.int .i64 0) (.int .i64 0)).run Try.prog w = .ok (.slice (some ⟨w.heap.size, 0, none⟩) 0 0) (w.alloc (.cells (madeCells #[.int .i32 0] 0) 21)) := make_leasts 0 (by omega) w
  have hbel0 := (Below.refl w.heap.size w).alloc (Nat.le_refl _) (.cells (madeCells #[.int .i32 0] 0) 21)
  go_enter Try.func37, Try.ntmps37
  go_wp2
  go_loopw [4, 16] (fun ev iv wr => ev = .int .i32 0 ∧ iv = .int .i64 0 ∧ Below w.heap.size w wr) (fun _ _ _ => 0)
  case atStart => exact ⟨rfl, rfl, hbel0⟩
  case round =>
    clear hmk
    obtain ⟨rfl, rfl, hb⟩ := hrel
    go_wp2
    go_ret
    exact ⟨rfl, hb⟩
end Go.Proofs.Yteecanaibkpmfaa
namespace Go.Proofs.Yteecanaibkpmfaa
open Go.RowKit

theorem raboveNo_any (a : Option Addr) (m : Nat) (w : World) (h : m ≤ 8) :
    Calls Try.prog 39 #[.slice a m m] w fun e w' => e = .returned (.slice none 0 0) ∧ w = w' := by
  have g1 : decide (m ≤ 8) = true := decide_eq_true h
  go_enter Try.func39, Try.ntmps39
  go_wp2
  go_ret
  exact ⟨rfl, rfl⟩
set_option maxHeartbeats 2000000 in
set_option maxRecDepth 100000 in
theorem rabove_any (g l : Nat) (xs : List Bool) (w : World) (hx : xs.length ≤ 4194304) (h1 : 1 ≤ l) (h8 : 8 < cntP xs.length l) (hr : w.rowIs g 21 (cntP xs.length l) (fun i => .int .i32 (leastP xs l i))) :
    Calls Try.prog 39 #[.slice (some ⟨g, 0, none⟩) (cntP xs.length l) (cntP xs.length l)] w fun e w' =>
      e = .returned (.slice (some ⟨w.heap.size, 0, none⟩) (cntP xs.length (l + 1)) (cntP xs.length (l + 1))) ∧ w'.rowIs w.heap.size 21 (cntP xs.length (l + 1)) (fun i => .int .i32 (leastP xs (l + 1) i)) ∧ Below w.heap.size w w' := by
  have hgr : grpP l = 8 := if_neg (by omega)
  have hall := fun i (hi : i < cntP xs.length (l + 1)) => partF_all xs l i hi
  rw [hgr] at hall
  have hcb : cntP xs.length (l + 1) ≤ 4194304 := by have := cntP_le xs.length (l + 1); omega
  have hcb0 : cntP xs.length l ≤ 4194304 := by have := cntP_le xs.length l; omega
  have hnx : (cntP xs.length l + 8 - 1) / 8 = cntP xs.length (l + 1) := by rw [cnt_next, hgr]
  have hlt := fun k (hk : k < cntP xs.length l) => show k / 8 < cntP xs.length (l + 1) by omega
  have HB := Lib.hid (fun i => show -4194304 ≤ leastP xs l i ∧ leastP xs l i ≤ 4194304 by have := least_bound xs l i; omega)
  have hg := hr.lt
  have HALL := Lib.hid hall
  have HLT := Lib.hid hlt
  have HR := Lib.hid hr
  clear hall hlt hr hgr
  generalize hf : leastP xs l = f at *
  generalize cntP xs.length (l + 1) = c at *
  generalize cntP xs.length l = n at *
  obtain ⟨m, hm⟩ : ∃ m, n + 7 = m := ⟨_, rfl⟩
  have em : (n : Int) + 8 - 1 = (m : Int) := by omega
  have hmb : m ≤ 8589934592 := by omega
  have hcn : m / 8 = c := by rw [← hnx]; congr 1; omega
  have hcn2 : (m : Int) / 8 = (c : Int) := by omega
  have hmk := make_leasts c (by omega) w
  have hrow0 := lows_start (f := f) (g := 8) (World.rowIs_made w (.int .i32 0) c 21)
  have hbel0 := (Below.refl w.heap.size w).alloc (Nat.le_refl _) (.cells (madeCells #[.int .i32 0] c) 21)
  have g8 : decide (n ≤ 8) = false := decide_eq_false (by omega)
  clear hm hnx hf
  go_enter Try.func39, Try.ntmps39
  go_wp2
  go_loopw [17] (fun iv wr => ∃ k : Nat, k ≤ n ∧ iv = .int .i64 k ∧ Below w.heap.size w wr ∧ Lows f 8 c k w.heap.size wr) (fun iv _ => n - (intOf iv).toNat)
  case atStart => exact ⟨0, Nat.zero_le _, rfl, hbel0, hrow0⟩
  case round =>
    clear hmk hrow0 hbel0 hcn hcn2 em
    obtain ⟨k, hk, rfl, hbel, hlow⟩ := hrel
    have HBE := Lib.hid hbel
    have HLO := Lib.hid hlow
    clear hbel hlow
    by_cases hlt : k < n
    · obtain ⟨y, hy⟩ : ∃ y, f k = y := ⟨_, rfl⟩
      have hcell : wr.cell? ⟨g, k, none⟩ = some (.int .i32 y) := by rw [HBE.out.cell (p := ⟨g, k, none⟩) hg, ← hy]; exact HR.out.cell hlt
      have hyb := HB.out k
      have HY := Lib.hid hy
      rw [hy] at hyb
      clear hy
      obtain ⟨j, hj⟩ : ∃ j, k / 8 = j := ⟨_, rfl⟩
      have hjc : j < c := by rw [← hj]; exact HLT.out k hlt
      have hj2 : (k : Int) / 8 = (j : Int) := by omega
      have hw1 := HLO.out.cell hjc
      have hw2 := HLO.out.frozen j
      obtain ⟨z, hz⟩ : ∃ z, partF f 8 k j = z := ⟨_, rfl⟩
      have hzb := partF_bound f 4194304 HB.out (by omega) 8 k j
      rw [hz] at hw1 hzb
      have HZ := Lib.hid hz
      have HJ := Lib.hid hj
      have HSET := Lib.hid (fun hx => lows_set HLO.out (by decide) y hx)
      rw [hj] at HSET
      clear hz
      by_cases hk0 : k % 8 = 0
      · have hm1 : ((k : Int) % 8 == 0) = true := beq_iff_eq.2 (by omega)
        have hm2 : (k % 8 == 0) = true := beq_iff_eq.2 hk0
        have HS := Lib.hid (HSET.out (by rw [← HJ.out, partF_new f 8 k (by decide) hk0, HY.out]))
        go_wp2
        go_roundw
        case rel => exact ⟨k + 1, by omega, by go_num, HBE.out.setCell (Nat.le_refl _) _, HS.out⟩
        case measure => simp [intOf]; omega
      · have hm1 : ((k : Int) % 8 == 0) = false := beq_eq_false_iff_ne.2 (by omega)
        have hm2 : (k % 8 == 0) = false := beq_eq_false_iff_ne.2 hk0
        have hon := partF_on f 8 k (by decide) hk0
        rw [hj, HY.out, HZ.out] at hon
        by_cases hyz : y < z
        · have g1 : decide (y < z) = true := decide_eq_true hyz
          rw [if_pos hyz] at hon
          have HS := Lib.hid (HSET.out hon.symm)
          clear hon
          go_wp2
          go_roundw
          case rel => exact ⟨k + 1, by omega, by go_num, HBE.out.setCell (Nat.le_refl _) _, HS.out⟩
          case measure => simp [intOf]; omega
        · have g1 : decide (y < z) = false := decide_eq_false hyz
          rw [if_neg hyz] at hon
          have HS := Lib.hid (lows_stay HLO.out (by decide) (by rw [HJ.out, hon, HZ.out]))
          clear hon
          go_wp2
          go_roundw
          case rel => exact ⟨k + 1, by omega, by go_num, HBE.out, HS.out⟩
          case measure => simp [intOf]; omega
    · have hke : k = n := by omega
      subst hke
      go_wp2
      go_ret
      exact ⟨rfl, World.rowIs.congr HLO.out fun i hi => by rw [← HALL.out i hi], HBE.out⟩
end Go.Proofs.Yteecanaibkpmfaa
namespace Go.Proofs.Yteecanaibkpmfaa
open Go.RowKit

theorem info_part : (Try.prog.info? 82).map (fun i => (i.zero, i.size, i.bytes)) = some (some .nilIface, 1, 16) := by kernel_rfl
theorem own_same {w w' : World} {base size n : Nat} {e : TypeId} {q cap : Nat} {xs : List Value} (h : w.ownsRow base e size (.slice (some ⟨q, 0, none⟩) n cap) n xs) (hb : w'.heap[q]? = w.heap[q]?) : w'.ownsRow base e size (.slice (some ⟨q, 0, none⟩) n cap) n xs := by
  refine ⟨h.1, ?_⟩
  rcases h.2 with ⟨h', _⟩ | ⟨g, c, cur, h', hbs, hg, rest⟩
  · cases h'
  · have e1 : q = g := by injection h' with h1; injection h1 with h1; injection h1
    subst e1
    exact .inr ⟨q, c, cur, h', hbs, hb.trans hg, rest⟩
theorem own_shape {w : World} {base size n : Nat} {e : TypeId} {v : Value} {xs : List Value} (h : w.ownsRow base e size v n xs) (hn : 0 < n) : ∃ q cap, v = .slice (some ⟨q, 0, none⟩) n cap ∧ base ≤ q := by
  rcases h.2 with ⟨_, h0⟩ | ⟨g, c, cur, h', hbs, _⟩
  · omega
  · exact ⟨g, c, h', hbs⟩
theorem own_lt {w : World} {base size n : Nat} {e : TypeId} {q cap : Nat} {xs : List Value} (h : w.ownsRow base e size (.slice (some ⟨q, 0, none⟩) n cap) n xs) : base ≤ q ∧ q < w.heap.size := h.lt q rfl
theorem own_other {w : World} {base size n m b : Nat} {e t : TypeId} {q cap : Nat} {xs : List Value} {f : Nat → Value} (h : w.ownsRow base e size (.slice (some ⟨q, 0, none⟩) n cap) n xs) (hr : w.rowIs b t m f) (ht : t ≠ e) : b ≠ q := by
  rintro rfl
  rcases h.2 with ⟨h', _⟩ | ⟨g, c, cur, h', _, hg, _⟩
  · cases h'
  · have e1 : b = g := by injection h' with h1; injection h1 with h1; injection h1
    subst e1
    obtain ⟨cc, hcc, _⟩ := hr
    rw [hg] at hcc
    injection hcc with hcc
    injection hcc with _ h2 _
    exact ht h2.symm
/-- A Paren OF l PARTS, p, its parts in q; all of it in blocks from K on, the bits in blocks from B to below K. -/
structure Rising (B K p q l cap : Nat) (bv : Value) (bl : Nat → Nat) (xs : List Bool) (w : World) : Prop where
  BK : B ≤ K
  Kp : K ≤ p
  own : w.ownsRow K 82 1 (.slice (some ⟨q, 0, none⟩) l cap) l ((List.range l).map (partV bv bl xs.length))
  pa : PaV p q l cap 0 w
  qp : q ≠ p
  lv : ∀ i, 1 ≤ i → i < l → K ≤ bl i ∧ bl i ≠ p ∧ bl i ≠ q ∧ w.rowIs (bl i) 21 (cntP xs.length i) (fun j => .int .i32 (leastP xs i j))
  kept : KeptIn B K w bv xs
section
variable {B K p q l cap : Nat} {bv : Value} {bl : Nat → Nat} {xs : List Bool} {w w' : World}
theorem Rising.below (h : Rising B K p q l cap bv bl xs w) (hb : Below w.heap.size w w') : Rising B K p q l cap bv bl xs w' :=
  ⟨h.BK, h.Kp, own_same h.own (hb.block q (own_lt h.own).2), h.pa.of_block (hb.block p h.pa.lt), h.qp, fun i h1 h2 => ⟨(h.lv i h1 h2).1, (h.lv i h1 h2).2.1, (h.lv i h1 h2).2.2.1, (h.lv i h1 h2).2.2.2.of_block (hb.block _ (h.lv i h1 h2).2.2.2.lt)⟩,
    h.kept.keep fun k _ h2 => hb.block k (by have := h.pa.lt; have := h.Kp; omega)⟩
/-- one level more is put on: appended to the parts, and stored into the Paren -/
theorem Rising.add (h : Rising B K p q l cap bv bl xs w) (hl : 1 ≤ l) (b : Nat) (hKb : K ≤ b) (hbp : b ≠ p) (hbq : b ≠ q) (hbr : w.rowIs b 21 (cntP xs.length l) (fun j => .int .i32 (leastP xs l j)))
    (q2 cap2 : Nat) (c : Array Value) (t : TypeId) (w2 : World) (hg : (w.alloc (.cells c t)).grownBy w2 (some q))
    (ho : w2.ownsRow K 82 1 (.slice (some ⟨q2, 0, none⟩) (l + 1) cap2) (l + 1) ((List.range l).map (partV bv bl xs.length) ++ [.iface 53 (.slice (some ⟨b, 0, none⟩) (cntP xs.length l) (cntP xs.length l))])) :
    Rising B K p q2 (l + 1) cap2 bv (fun i => if i = l then b else bl i) xs (w2.setCell ⟨p, 0, none⟩ (.slice (some ⟨q2, 0, none⟩) (l + 1) cap2)) ∧
      (w2.setCell ⟨p, 0, none⟩ (.slice (some ⟨q2, 0, none⟩) (l + 1) cap2)).rowIs b 21 (cntP xs.length l) (fun j => .int .i32 (leastP xs l j)) := by
  have hsz : w.heap.size ≤ (w.alloc (.cells c t)).heap.size := by show _ ≤ (w.heap.push _).size; rw [Array.size_push]; omega
  have hblk : ∀ k, k < w.heap.size → k ≠ q → w2.heap[k]? = w.heap[k]? := fun k hk hne =>
    (hg.block k (by omega) (fun e => by injection e with e; exact hne e)).trans (Below.heap_alloc w _ k hk)
  have hp2 : PaV p q l cap 0 w2 := h.pa.of_block (hblk p h.pa.lt (fun e => h.qp e.symm))
  have hq2p : q2 ≠ p := fun e => own_other ho hp2 (by decide) e.symm
  have hset : ∀ k, k ≠ p → (w2.setCell ⟨p, 0, none⟩ (.slice (some ⟨q2, 0, none⟩) (l + 1) cap2)).heap[k]? = w2.heap[k]? := fun k hk => Below.heap_setCell _ _ _ _ hk
  have hb2 : w2.rowIs b 21 (cntP xs.length l) (fun j => .int .i32 (leastP xs l j)) := hbr.of_block (hblk b hbr.lt hbq)
  have hbe : (w2.setCell ⟨p, 0, none⟩ (.slice (some ⟨q2, 0, none⟩) (l + 1) cap2)).rowIs b 21 (cntP xs.length l) (fun j => .int .i32 (leastP xs l j)) := hb2.of_block (hset b hbp)
  refine ⟨⟨h.BK, h.Kp, ?_, ?_, hq2p, fun i h1 h2 => ?_, ?_⟩, hbe⟩
  · have e : (List.range (l + 1)).map (partV bv (fun i => if i = l then b else bl i) xs.length) = (List.range l).map (partV bv bl xs.length) ++ [.iface 53 (.slice (some ⟨b, 0, none⟩) (cntP xs.length l) (cntP xs.length l))] := by
      rw [List.range_succ, List.map_append]
      congr 1
      · refine List.map_congr_left fun i hi => ?_
        have : i < l := List.mem_range.1 hi
        simp only [partV, show ¬ i = l by omega, if_false]
      · show [partV bv _ xs.length l] = _
        simp only [partV, show ¬ l = 0 by omega, if_true, if_false]
    rw [e]
    exact own_same ho (hset q2 hq2p)
  · refine (World.rowIs.set hp2 0 _).congr fun i hi => ?_
    rcases (show i = 0 ∨ i = 1 by omega) with rfl | rfl <;> rfl
  · by_cases e : i = l
    · subst e
      simp only [if_true]
      exact ⟨hKb, hbp, own_other ho hb2 (by decide), hbe⟩
    · rw [if_neg e]
      obtain ⟨g1, g2, g3, g4⟩ := h.lv i h1 (by omega)
      have h5 := g4.of_block (hblk _ g4.lt g3)
      exact ⟨g1, g2, own_other ho h5 (by decide), h5.of_block (hset _ g2)⟩
  · refine h.kept.keep fun k hk1 hk2 => ?_
    have := h.Kp
    have := (own_lt h.own).1
    have := h.pa.lt
    rw [hset k (by omega)]
    exact hblk k (by omega) (by omega)
/-- ALL LEVELS ARE ON. -/
theorem Rising.done (h : Rising B K p q l cap bv bl xs w) (ht : TopP xs.length l) (hm : mayL xs = true) (hx : xs.length ≤ 4194304) : IsP B w.heap.size w (.pointer (some ⟨p, 0, none⟩)) xs := by
  have hq := own_lt h.own
  have hBK := h.BK
  have hKp := h.Kp
  refine isp_of (st := 0) (cap := cap) (q := q) (P := l) (bv := bv) (bl := bl) ⟨ht, hm, hx, by omega, h.pa.lt, by omega, hq.2, h.qp, fun i h1 h2 => ?_, Nat.le_refl _, ?_, fun i hi => ?_, fun i h1 h2 => (h.lv i h1 h2).2.2.2⟩ h.pa (Nat.zero_le _)
  · obtain ⟨g1, g2, _, g4⟩ := h.lv i h1 h2
    exact ⟨by omega, g4.lt, g2⟩
  · obtain ⟨w0, k0, k1, k2⟩ := h.kept
    exact ⟨w0, by omega, k1, k2⟩
  · rw [World.ownsRow.cellAt h.own i (by omega), List.getElem?_map, List.getElem?_range hi]
    rfl
end
/-- a Paren of the row alone -/
theorem rising_start (B : Nat) (bv : Value) (bl : Nat → Nat) (xs : List Bool) (w1 : World) (hB : B ≤ w1.heap.size) (hk : Kept B w1 bv xs) :
    Rising B w1.heap.size (w1.heap.size + 1) w1.heap.size 1 1 bv bl xs ((w1.alloc (.cells #[.iface 48 (.agg #[bv])] 82)).alloc (.cells #[.slice (some ⟨w1.heap.size, 0, none⟩) 1 1, .int .i64 0] 51)) := by
  have h1 : (w1.alloc (.cells #[.iface 48 (.agg #[bv])] 82)).heap.size = w1.heap.size + 1 := by show (w1.heap.push _).size = _; rw [Array.size_push]
  refine ⟨hB, by omega, ?_, ?_, by omega, fun i g1 g2 => by omega, ⟨w1, Nat.le_refl _, hk, fun k _ g2 => ?_⟩⟩
  · exact World.ownsRow.alloc (World.ownsRow_lit w1 #[.iface 48 (.agg #[bv])] 1 (Nat.le_refl _) (by decide) rfl) _
  · have h2 := World.rowIs_alloc (w1.alloc (.cells #[.iface 48 (.agg #[bv])] 82)) #[.slice (some ⟨w1.heap.size, 0, none⟩) 1 1, .int .i64 0] 51 (fun i => if i = 0 then .slice (some ⟨w1.heap.size, 0, none⟩) 1 1 else .int .i64 (0 : Nat)) (by
      intro i hi
      rcases (show i = 0 ∨ i = 1 by have : i < 2 := hi; omega) with rfl | rfl <;> rfl)
    rw [h1] at h2
    exact h2
  · rw [Below.heap_alloc _ _ k (by omega), Below.heap_alloc _ _ k g2]
def sliceLen : Value → Nat
  | .slice _ n _ => n
  | _ => 0
end Go.Proofs.Yteecanaibkpmfaa
