/-
  LAYER 4: brackenlaw4.IntsOwn, out of IntSaid: true for any numbers.
-/
import Derived.Test.YtkpklickfkfjcaaIntNums
namespace Go.Proofs.Ytkpklickfkfjcaa
open Go.RowKit

set_option maxHeartbeats 1000000 in
set_option maxRecDepth 100000 in
theorem iown_none {E : World → Prop} {Is : Nat → World → Value → List Nat → Prop} (T : IntSaid E Is) (a : Option Addr) (n cap : Nat) (w : World) (hE : E w) (hl : n < 1 ∨ 100 < n) :
    Calls Try.prog 6 #[.slice a n cap] w fun e w' => e = .returned (.bool true) ∧ Below w.heap.size w w' := by
  have C := Lib.hid (told4_any T w hE)
  clear hE
  rcases hl with hl | hl
  · obtain rfl : n = 0 := by omega
    go_enter Try.func6, Try.ntmps6
    go_wp2_with fail
    refine C.out.mono ?_
    rintro e w1 ⟨rfl, hb⟩
    go_wp2
    go_ret
    exact ⟨rfl, hb⟩
  · have g : decide ((100 : Int) < (n : Int)) = true := decide_eq_true (by omega)
    have g2 : decide (100 < n) = true := decide_eq_true hl
    have g3 : decide ((n : Int) < 1) = false := decide_eq_false (by omega)
    have g4 : decide (n < 1) = false := decide_eq_false (by omega)
    go_enter Try.func6, Try.ntmps6
    go_wp2_with fail
    refine C.out.mono ?_
    rintro e w1 ⟨rfl, hb⟩
    go_wp2
    go_ret
    exact ⟨rfl, hb⟩
/-- n cells of block g that hold numbers and may be written -/
def Loose (w : World) (g n : Nat) : Prop := ∀ j, j < n → (∃ y : Int, w.cell? ⟨g, j, none⟩ = some (.int .u64 y)) ∧ w.frozen? ⟨g, j, none⟩ = false
theorem Loose.set {w : World} {g n : Nat} (h : Loose w g n) (j : Nat) (x : Int) : Loose (w.setCell ⟨g, j, none⟩ (.int .u64 x)) g n := by
  intro i hi
  obtain ⟨⟨y, hy⟩, hf⟩ := h i hi
  refine ⟨?_, by rw [World.frozen?_setCell]; exact hf⟩
  by_cases e : i = j
  · subst e
    exact ⟨x, World.cell?_setCell_same' w ⟨g, i, none⟩ _ (by rw [hy]; rfl)⟩
  · exact ⟨y, (World.cell?_setCell_other (w := w) (a := ⟨g, j, none⟩) (b := ⟨g, i, none⟩) (v := .int .u64 x) (by intro h; injection h with h1 h2 h3; exact e h2.symm)).trans hy⟩

set_option maxHeartbeats 8000000 in
set_option maxRecDepth 100000 in
theorem iown_any {E : World → Prop} {Is : Nat → World → Value → List Nat → Prop} (T : IntSaid E Is) (b off cap : Nat) (zs : List Nat) (w : World) (hE : E w) (h1 : ¬ zs.length < 1) (h100 : ¬ 100 < zs.length) (hz : ∀ z ∈ zs, z ≤ 18446744073709551615)
    (hblk : b < w.heap.size) (hc : ∀ i, i < zs.length → w.cell? ⟨b, off + i, none⟩ = some (.int .u64 (zs.getD i 0))) :
    Calls Try.prog 6 #[.slice (some ⟨b, off, none⟩) zs.length cap] w fun e w' => e = .returned (.bool true) ∧ Below w.heap.size w w' := by
  obtain ⟨i0, hi, hz0, hz1, hz2⟩ := info_parts info_num
  have HE := Lib.hid hE
  have HZ := Lib.hid hz
  have hm64 := widest_le zs hz
  have hlb : zs.length ≤ 4194304 := by omega
  obtain ⟨m, hm⟩ : ∃ m, widestN zs = m := ⟨_, rfl⟩
  have HM := Lib.hid hm
  rw [hm] at hm64
  obtain ⟨nm, hnm⟩ : ∃ nm : Nat, zs.length * m = nm := ⟨_, rfl⟩
  have hnmb : nm ≤ 6400 := by
    rw [← hnm]
    exact Nat.le_trans (Nat.mul_le_mul (show zs.length ≤ 100 by omega) hm64) (by decide)
  have e1 : (zs.length : Int) * (m : Int) = (nm : Int) := by rw [← hnm]; rfl
  obtain ⟨q, hq⟩ : ∃ q, begunN nm 64 = q := ⟨_, rfl⟩
  obtain ⟨s, hs⟩ : ∃ s, 64 * q = s := ⟨_, rfl⟩
  have HSZ : Hid (intsN zs.length (widestN zs) = s) := Lib.hid (by unfold intsN; rw [hm, hnm, hq, hs])
  have hq1 : nm ≤ s ∧ s < nm + 64 := by rw [← hs, ← hq]; unfold begunN; omega
  obtain ⟨hq2, hq3⟩ := hq1
  have q1 : ((s : Int) % 64 == 0) = true := beq_iff_eq.2 (by omega)
  have q2 : decide (nm ≤ s) = true := decide_eq_true hq2
  have q3 : decide ((s : Int) < (nm : Int) + 64) = true := decide_eq_true (by omega)
  have q4 : decide (s < nm + 64) = true := decide_eq_true hq3
  clear hs
  have HC := Lib.hid hc
  have HB1 := Lib.hid ((Below.refl w.heap.size w).alloc (Nat.le_refl _) (.cells #[] 22 (0, 0)))
  have hO := World.ownsRow_lit (base := w.heap.size) (e := 22) (size := 1) w #[] 0 (Nat.le_refl _) (by unfold maxLen; omega) rfl
  have hcell : ∀ i, i < zs.length → (w.alloc (.cells #[] 22 (0, 0))).cell? ⟨b, off + i, none⟩ = some (.int .u64 (zs.getD i 0)) := fun i hi => by
    rw [HB1.out.cell (p := ⟨b, off + i, none⟩) hblk]; exact hc i hi
  have E1 := Lib.hid e1
  clear hE hz hm hnm hq hc e1
  have g : decide ((100 : Int) < (zs.length : Int)) = false := decide_eq_false (by omega)
  have g2 : decide (100 < zs.length) = false := decide_eq_false (by omega)
  have g3 : decide ((zs.length : Int) < 1) = false := decide_eq_false (by omega)
  have g4 : decide (zs.length < 1) = false := decide_eq_false (by omega)
  go_enter Try.func6, Try.ntmps6
  go_wp2_with (at_builtin; refine wpList_append_own _ rfl _ _ 24 rfl w.heap.size 22 i0 (.int .u64 0) 1 8 Try.underlying24 hi hz0 hz1 hz2 rfl (by decide) _ _ _ rfl hO ⟨b, off, none⟩ zs.length cap (zs.map nval) rfl (by simp) (num_cells hcell) (num_one zs) (by unfold maxLen; omega) (by omega) (by simp) ?_; intro v1 w2 hown2 hgrow2 _)
  have hb : Below w.heap.size w w2 := HB1.out.grown hgrow2 (by simp) (fun k hk => by cases hk; exact Nat.le_refl _)
  have hown : OwnN w2 w.heap.size v1 zs := by
    unfold OwnN
    rw [Nat.zero_add] at hown2
    exact hown2
  clear hO hown2 hgrow2 hcell
  rcases ownN_shape hown with ⟨rfl, rfl⟩ | ⟨gb, cap', rfl, hcap', hge, hglt⟩
  · exact (h1 (by simp)).elim
  have hok := ownN_ok hown HZ.out
  have hlo : Loose w2 gb zs.length := fun j hj => ⟨⟨_, ownN_cell hown rfl j hj⟩, World.ownsRow.frozenAt hown j⟩
  clear hown
  go_wp2_with fail
  refine (T.new _ zs _ (T.below _ _ HE.out hb) hlb hok).mono ?_
  rintro e w3 ⟨v, rfl, hI, hb'⟩
  obtain ⟨p, rfl⟩ := T.isPtr _ _ _ _ hI
  have hlo3 : Loose w3 gb zs.length := fun j hj => by
    obtain ⟨⟨y, hy⟩, hf⟩ := hlo j hj
    exact ⟨⟨y, by rw [hb'.cell (p := ⟨gb, j, none⟩) hglt]; exact hy⟩, by rw [hb'.frozen (p := ⟨gb, j, none⟩) hglt]; exact hf⟩
  have hs23 : w2.heap.size ≤ w3.heap.size := hb'.size
  replace hb := step_below4 hb hb'
  clear hb' hok hlo
  go_wp2
  go_loopw [5] (fun i wr => ∃ j : Nat, j ≤ zs.length ∧ i = .int .i64 j ∧ Loose wr gb zs.length ∧ Is w2.heap.size wr (.pointer (some p)) zs ∧ Below w.heap.size w wr) (fun i _ => zs.length - (intOf i).toNat)
  case atStart => exact ⟨0, Nat.zero_le _, rfl, hlo3, hI, hb⟩
  case round =>
    obtain ⟨j, hj, rfl, hL, hI2, hbel⟩ := hrel
    clear hlo3 hI hb
    by_cases hlt : j < zs.length
    · obtain ⟨⟨y, hy⟩, hf⟩ := hL j hlt
      have HL := Lib.hid hL
      clear hL
      go_wp2
      go_roundw
      case rel => exact ⟨j + 1, by omega, by go_num, HL.out.set j _, T.keep _ _ _ _ _ hI2 (fun q hq _ => Below.heap_setCell _ _ _ q (by show q ≠ gb; omega)), hbel.setCell (p := ⟨gb, j, none⟩) hge _⟩
      case measure => simp [intOf]; omega
    · have g5 : decide (j < zs.length) = false := decide_eq_false hlt
      have g6 : decide ((j : Int) < (zs.length : Int)) = false := decide_eq_false (by omega)
      clear hL
      go_wp2
      go_loopw [6] (fun i ws => ∃ k : Nat, k ≤ zs.length ∧ i = .int .i64 k ∧ Is w2.heap.size ws (.pointer (some p)) zs ∧ Below w.heap.size w ws) (fun i _ => zs.length - (intOf i).toNat)
      case atStart => exact ⟨0, Nat.zero_le _, rfl, hI2, hbel⟩
      case round =>
        obtain ⟨k, hk, rfl, hI, hb⟩ := hrel
        clear hI2 hbel
        by_cases hlt2 : k < zs.length
        · obtain ⟨z, hz⟩ : ∃ z, zs.getD k 0 = z := ⟨_, rfl⟩
          have HX := Lib.hid ((getZ_at zs k hlt2).trans hz)
          have HW : Hid (w.cell? ⟨b, off + k, none⟩ = some (.int .u64 z)) := Lib.hid (by rw [← hz]; exact HC.out k hlt2)
          clear hz
          go_wp2_with fail
          refine (T.getIs (k : Int) z 0 HX.out (getE_at zs k hlt2) _ (T.below _ _ HE.out hb) hlb ⟨by omega, by omega⟩ hI).mono ?_
          rintro e w8 ⟨rfl, hb'⟩
          replace hI := T.isBelow hI hb'
          replace hb := step_below4 hb hb'
          clear hb'
          have hcell : w8.cell? ⟨b, off + k, none⟩ = some (.int .u64 z) := by rw [hb.cell (p := ⟨b, off + k, none⟩) hblk]; exact HW.out
          go_wp2
          go_roundw
          case rel => exact ⟨k + 1, by omega, by go_num, hI, hb⟩
          case measure => simp [intOf]; omega
        · have g7 : decide (k < zs.length) = false := decide_eq_false hlt2
          have g8 : decide ((k : Int) < (zs.length : Int)) = false := decide_eq_false (by omega)
          go_wp2_with fail
          refine (T.widIs m HM.out _ (T.below _ _ HE.out hb) hlb hI).mono ?_
          rintro e w8 ⟨rfl, hb'⟩
          replace hI := T.isBelow hI hb'
          replace hb := step_below4 hb hb'
          clear hb'
          have e1 := E1.out
          go_wp2_with fail
          refine (told4_any T _ (T.below _ _ HE.out hb)).mono ?_
          rintro e w9 ⟨rfl, hb'⟩
          replace hI := T.isBelow hI hb'
          replace hb := step_below4 hb hb'
          clear hb' e1
          go_wp2_with fail
          refine (T.sizeIs s HSZ.out _ (T.below _ _ HE.out hb) hlb hI).mono ?_
          rintro e w10 ⟨rfl, hb'⟩
          replace hI := T.isBelow hI hb'
          replace hb := step_below4 hb hb'
          clear hb'
          go_wp2_with fail
          refine (T.sizeIs s HSZ.out _ (T.below _ _ HE.out hb) hlb hI).mono ?_
          rintro e w11 ⟨rfl, hb'⟩
          replace hI := T.isBelow hI hb'
          replace hb := step_below4 hb hb'
          clear hb'
          go_wp2_with fail
          refine (T.sizeIs s HSZ.out _ (T.below _ _ HE.out hb) hlb hI).mono ?_
          rintro e w12 ⟨rfl, hb'⟩
          replace hI := T.isBelow hI hb'
          replace hb := step_below4 hb hb'
          clear hb'
          go_wp2
          go_ret
          exact ⟨rfl, hb⟩
end Go.Proofs.Ytkpklickfkfjcaa
