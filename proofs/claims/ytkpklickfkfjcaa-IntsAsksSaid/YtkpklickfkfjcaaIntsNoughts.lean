/-
  LAYER 4: brackenlaw4.IntsNoughts, out of IntSaid: true for any two numbers.
-/
import Derived.Test.YtkpklickfkfjcaaIntNums
namespace Go.Proofs.Ytkpklickfkfjcaa
open Go.RowKit

def noughts (k : Nat) : List Nat := List.replicate k 0
def noughtsX (k x : Nat) : List Nat := List.replicate k 0 ++ [x]
theorem noughts_len (k : Nat) : (noughts k).length = k := by simp [noughts]
theorem noughtsX_len (k x : Nat) : (noughtsX k x).length = k + 1 := by simp [noughtsX]
theorem noughts_le (k : Nat) : ∀ z ∈ noughts k, z ≤ 18446744073709551615 := by
  intro z hz
  simp [noughts] at hz
  omega
theorem noughtsX_le (k x : Nat) (hx : x ≤ 18446744073709551615) : ∀ z ∈ noughtsX k x, z ≤ 18446744073709551615 := by
  intro z hz
  simp [noughtsX] at hz
  omega
theorem noughts_get (k i : Nat) (h : i < k) : getZ (noughts k) (i : Int) = 0 := by
  rw [getZ_at _ _ (by rw [noughts_len]; exact h)]
  simp [noughts, List.getD, h]
theorem noughts_getE (k i : Nat) (h : i < k) : getE (noughts k) (i : Int) = 0 := getE_at _ _ (by rw [noughts_len]; exact h)
theorem noughtsX_get (k x i : Nat) (h : i < k) : getZ (noughtsX k x) (i : Int) = 0 := by
  rw [getZ_at _ _ (by rw [noughtsX_len]; omega)]
  simp [noughtsX, List.getD, List.getElem?_append, h]
theorem noughtsX_getE (k x i : Nat) (h : i < k + 1) : getE (noughtsX k x) (i : Int) = 0 := getE_at _ _ (by rw [noughtsX_len]; exact h)
theorem noughtsX_last (k x : Nat) : getZ (noughtsX k x) (k : Int) = x := by
  rw [getZ_at _ _ (by rw [noughtsX_len]; omega)]
  simp [noughtsX, List.getD]
theorem noughts_wid : ∀ k, widestN (noughts k) = 0
  | 0 => rfl
  | k + 1 => by
    have := noughts_wid k
    unfold noughts at *
    rw [List.replicate_succ]
    simp only [widestN, widthN_zero, this]
    omega
theorem noughtsX_wid (k x : Nat) : widestN (noughtsX k x) = widthN x := by
  unfold noughtsX
  rw [widestN_append, show widestN (List.replicate k 0) = 0 from noughts_wid k]
  simp only [widestN]
  omega
theorem noughts_size (k : Nat) : intsN (noughts k).length (widestN (noughts k)) = 0 := by
  rw [noughts_wid]
  unfold intsN begunN
  omega
theorem madeN_cells (n : Nat) : (madeCells #[.int .u64 0] n).toList = (noughts n).map fun (z : Nat) => Value.int .u64 (z : Int) := by
  have e : (madeCells #[.int .u64 0] n) = Array.replicate n (.int .u64 0) := by
    unfold madeCells
    apply Array.ext
    · simp
    · intro i h1 h2; simp [Nat.mod_one]
  rw [e]
  simp [noughts]
theorem make_nums (n : Nat) (h : n ≤ 100000) (w : World) :
    (Instr.makeSlice 24 (.int .i64 (n : Int)) (.int .i64 (n : Int))).run Try.prog w = .ok (.slice (some ⟨w.heap.size, 0, none⟩) n n) (w.alloc (.cells (madeCells #[.int .u64 0] n) 22)) :=
  run_make_row' 24 22 (.int .u64 0) 8 Try.underlying24 info_num rfl .i64 .i64 n (by omega) (by omega) w

set_option maxHeartbeats 8000000 in
set_option maxRecDepth 100000 in
theorem inoughts_any {E : World → Prop} {Is : Nat → World → Value → List Nat → Prop} (T : IntSaid E Is) (n : Int) (x : Nat) (w : World) (hE : E w) (hx : x ≤ 18446744073709551615) :
    Calls Try.prog 3 #[.int .i64 n, .int .u64 x] w fun e w' => e = .returned (.bool true) ∧ Below w.heap.size w w' := by
  obtain ⟨i0, hi, hz0, hz1, hz2⟩ := info_parts info_num
  have HE := Lib.hid hE
  clear hE
  obtain ⟨u, k, hu1, hu2, hk, hk1, hk2⟩ := wrap_mod n 501 (by decide) (by decide)
  replace hu2 : Int.tmod (u : Int) 501 = (k : Int) := hu2
  have hba := (Below.refl w.heap.size w).alloc (Nat.le_refl _) (.cells (madeCells #[.int .u64 0] k) 22)
  have hmk := make_nums k (by omega) w
  have hrow : NumOK (w.alloc (.cells (madeCells #[.int .u64 0] k) 22)) (.slice (some ⟨w.heap.size, 0, none⟩) k k) (noughts k) := numOK_alloc w _ _ (noughts k) k k (madeN_cells k) (noughts_len k).symm (Nat.le_refl _) (noughts_le k)
  have hl1 : (noughts k).length ≤ 4194304 := by rw [noughts_len]; omega
  have hl2 : (noughtsX k x).length ≤ 4194304 := by rw [noughtsX_len]; omega
  go_enter Try.func3, Try.ntmps3
  go_wp2_with fail
  refine (T.new _ (noughts k) _ (T.below _ _ HE.out hba) hl1 hrow).mono ?_
  rintro e w1 ⟨v, rfl, hI, hb'⟩
  obtain ⟨p, rfl⟩ := T.isPtr _ _ _ _ hI
  have hb : Below w.heap.size w w1 := step_below4 hba hb'
  have hrow1 := NumOK.below hrow hb'
  clear hba hb' hmk hrow
  have hO := World.ownsRow_lit (base := w1.heap.size) (e := 22) (size := 1) w1 #[] 0 (Nat.le_refl _) (by unfold maxLen; omega) rfl
  have HB1 := Lib.hid ((Below.refl w1.heap.size w1).alloc (Nat.le_refl _) (.cells #[] 22 (0, 0)))
  have hcell : ∀ j u, ((noughts k).map nval)[j]? = some u → (w1.alloc (.cells #[] 22 (0, 0))).cell? ((⟨w.heap.size, 0, none⟩ : Addr).add j) = some u := by
    intro j u hu
    by_cases hkz : noughts k = []
    · rw [hkz] at hu; cases hu
    · obtain ⟨b, off, e1, h2, h3⟩ := numOK_cells hrow1 hkz
      injection e1 with e1
      injection e1 with e2 e3 e4
      subst e2
      subst e3
      refine num_cells (fun i hi => ?_) j u hu
      rw [HB1.out.cell (p := ⟨w.heap.size, 0 + i, none⟩) h2]
      exact h3 i hi
  clear hrow1
  go_wp2_with (first | (at_builtin; refine wpList_append_own _ rfl _ _ 24 rfl w1.heap.size 22 i0 (.int .u64 0) 1 8 Try.underlying24 hi hz0 hz1 hz2 rfl (by decide) _ _ _ rfl hO ⟨w.heap.size, 0, none⟩ k k ((noughts k).map nval) rfl (by simp [noughts_len]) hcell (num_one _) (by unfold maxLen; omega) (by omega) (by simp) ?_; intro v1 w2 hown2 hgrow2 _) | (at_builtin; refine wpList_append_own _ rfl _ _ 24 rfl w1.heap.size 22 i0 (.int .u64 0) 1 8 Try.underlying24 hi hz0 hz1 hz2 rfl (by decide) _ _ _ rfl (hown2.alloc _) ⟨w2.heap.size, 0, none⟩ 1 1 [.int .u64 x] rfl rfl (cell_one_new _ _ _) (by intro u hu; simp at hu; subst hu; rfl) (by unfold maxLen; omega) (by omega) (by have := hgrow2.size; simp at this; simp; omega) ?_; intro v3 w3 hown3 hgrow3 _))
  have hbk : ∀ q, v1.ownBlock = some q → w1.heap.size ≤ q := by
    intro q hq
    rcases hown2.2 with ⟨rfl, _⟩ | ⟨g, cap, cur, rfl, hg, _⟩
    · cases hq
    · simp only [Value.ownBlock, Option.some.injEq] at hq
      omega
  have hb12 : Below w1.heap.size w1 w2 := HB1.out.grown hgrow2 (by simp) (fun q hq => by cases hq; exact Nat.le_refl _)
  have hb13 : Below w1.heap.size w1 w3 := (hb12.alloc hb12.size _).grown hgrow3 (by simp; exact Nat.le_succ_of_le hb12.size) hbk
  have hown : OwnN w3 w1.heap.size v3 (noughtsX k x) := by
    unfold OwnN
    rw [noughtsX_len]
    have e : ([] : List Value) ++ (noughts k).map nval ++ [.int .u64 (x : Int)] = (noughtsX k x).map nval := by simp [noughtsX, noughts, nval]
    have h3 := hown3
    rw [e, Nat.zero_add] at h3
    exact h3
  have hok := ownN_ok hown (noughtsX_le k x hx)
  replace hI := T.isBelow hI hb13
  replace hb := step_below4 hb hb13
  clear hown hown3 hown2 hgrow2 hgrow3 hbk hb12 hb13 hO hcell HB1
  go_wp2_with fail
  refine (T.new _ (noughtsX k x) _ (T.below _ _ HE.out hb) hl2 hok).mono ?_
  rintro e w4 ⟨v, rfl, hI2, hb'⟩
  obtain ⟨p2, rfl⟩ := T.isPtr _ _ _ _ hI2
  replace hI := T.isBelow hI hb'
  replace hb := step_below4 hb hb'
  clear hb' hok
  go_wp2
  go_loopw [9] (fun i wr => ∃ j : Nat, j ≤ k ∧ i = .int .i64 j ∧ Is (w.alloc (.cells (madeCells #[.int .u64 0] k) 22)).heap.size wr (.pointer (some p)) (noughts k) ∧ Is w3.heap.size wr (.pointer (some p2)) (noughtsX k x) ∧ Below w.heap.size w wr) (fun i _ => k - (intOf i).toNat)
  case atStart => exact ⟨0, Nat.zero_le _, rfl, hI, hI2, hb⟩
  case round =>
    obtain ⟨j, hj, rfl, hA, hB, hbel⟩ := hrel
    clear hI hI2 hb
    by_cases hlt : j < k
    · have g1 : decide (j < k) = true := decide_eq_true hlt
      go_wp2_with fail
      refine (T.getIs (j : Int) 0 0 (noughts_get k j hlt) (noughts_getE k j hlt) _ (T.below _ _ HE.out hbel) hl1 ⟨by omega, by omega⟩ hA).mono ?_
      rintro e w8 ⟨rfl, hb'⟩
      replace hA := T.isBelow hA hb'
      replace hB := T.isBelow hB hb'
      replace hbel := step_below4 hbel hb'
      clear hb'
      go_wp2_with fail
      refine (T.getIs (j : Int) 0 0 (noughtsX_get k x j hlt) (noughtsX_getE k x j (by omega)) _ (T.below _ _ HE.out hbel) hl2 ⟨by omega, by omega⟩ hB).mono ?_
      rintro e w9 ⟨rfl, hb'⟩
      replace hA := T.isBelow hA hb'
      replace hB := T.isBelow hB hb'
      replace hbel := step_below4 hbel hb'
      clear hb'
      go_wp2
      go_roundw
      case rel => exact ⟨j + 1, by omega, by go_num, hA, hB, hbel⟩
      case measure => simp [intOf]; omega
    · have g1 : decide (j < k) = false := decide_eq_false hlt
      have g2 : decide ((j : Int) < (k : Int)) = false := decide_eq_false (by omega)
      go_wp2_with fail
      refine (T.getIs (k : Int) x 0 (noughtsX_last k x) (noughtsX_getE k x k (by omega)) _ (T.below _ _ HE.out hbel) hl2 ⟨by omega, by omega⟩ hB).mono ?_
      rintro e w8 ⟨rfl, hb'⟩
      replace hA := T.isBelow hA hb'
      replace hB := T.isBelow hB hb'
      replace hbel := step_below4 hbel hb'
      clear hb'
      go_wp2_with fail
      refine (told4_any T _ (T.below _ _ HE.out hbel)).mono ?_
      rintro e w9 ⟨rfl, hb'⟩
      replace hA := T.isBelow hA hb'
      replace hB := T.isBelow hB hb'
      replace hbel := step_below4 hbel hb'
      clear hb'
      go_wp2_with fail
      refine (T.sizeIs 0 (noughts_size k) _ (T.below _ _ HE.out hbel) hl1 hA).mono ?_
      rintro e w10 ⟨rfl, hb'⟩
      replace hA := T.isBelow hA hb'
      replace hB := T.isBelow hB hb'
      replace hbel := step_below4 hbel hb'
      clear hb'
      go_wp2_with fail
      refine (T.widIs 0 (noughts_wid k) _ (T.below _ _ HE.out hbel) hl1 hA).mono ?_
      rintro e w11 ⟨rfl, hb'⟩
      replace hA := T.isBelow hA hb'
      replace hB := T.isBelow hB hb'
      replace hbel := step_below4 hbel hb'
      clear hb'
      obtain ⟨y, hy⟩ : ∃ y, widthN x = y := ⟨_, rfl⟩
      have HY := Lib.hid hy
      clear hy
      go_wp2_with fail
      refine (T.widIs y ((noughtsX_wid k x).trans HY.out) _ (T.below _ _ HE.out hbel) hl2 hB).mono ?_
      rintro e w12 ⟨rfl, hb'⟩
      replace hA := T.isBelow hA hb'
      replace hbel := step_below4 hbel hb'
      clear hb' hB
      go_wp2_with fail
      refine (T.widthIs x y HY.out _ (T.below _ _ HE.out hbel) hx).mono ?_
      rintro e w13 ⟨rfl, hb'⟩
      replace hA := T.isBelow hA hb'
      replace hbel := step_below4 hbel hb'
      clear hb'
      go_wp2_with fail
      refine (T.lenIs k (noughts_len k) _ (T.below _ _ HE.out hbel) hl1 hA).mono ?_
      rintro e w14 ⟨rfl, hb'⟩
      replace hbel := step_below4 hbel hb'
      clear hb' hA
      go_wp2
      go_ret
      exact ⟨rfl, hbel⟩
end Go.Proofs.Ytkpklickfkfjcaa
