/-
  LAYER 4: brackenlaw4.IntsAsks, out of IntSaid: true for any numbers, any place.
-/
import Derived.Test.YtkpklickfkfjcaaIntTold
namespace Go.Proofs.Ytkpklickfkfjcaa
open Go.RowKit

set_option maxHeartbeats 1000000 in
set_option maxRecDepth 100000 in
theorem iasks_long {E : World → Prop} {Is : Nat → World → Value → List Nat → Prop} (T : IntSaid E Is) (a : Option Addr) (n cap : Nat) (k : Int) (w : World) (hE : E w) (hl : 200 < n) :
    Calls Try.prog 4 #[.slice a n cap, .int .i64 k] w fun e w' => e = .returned (.bool true) ∧ Below w.heap.size w w' := by
  have C := Lib.hid (told4_any T w hE)
  clear hE
  have g : decide ((200 : Int) < (n : Int)) = true := decide_eq_true (by omega)
  have g2 : decide (200 < n) = true := decide_eq_true hl
  go_enter Try.func4, Try.ntmps4
  go_wp2_with fail
  refine C.out.mono ?_
  rintro e w1 ⟨rfl, hb⟩
  go_wp2
  go_ret
  exact ⟨rfl, hb⟩

set_option maxHeartbeats 4000000 in
set_option maxRecDepth 100000 in
theorem iasks_any {E : World → Prop} {Is : Nat → World → Value → List Nat → Prop} (T : IntSaid E Is) (a : Option Addr) (cap : Nat) (zs : List Nat) (k : Int) (w : World) (hE : E w) (hk : In64 k) (hn : NumOK w (.slice a zs.length cap) zs) (hl : zs.length ≤ 200) :
    Calls Try.prog 4 #[.slice a zs.length cap, .int .i64 k] w fun e w' => e = .returned (.bool true) ∧ Below w.heap.size w w' := by
  have HE := Lib.hid hE
  have HN := Lib.hid hn
  have HZ := Lib.hid hn.2.2
  have hm64 := widest_le zs hn.2.2
  have hlb : zs.length ≤ 4194304 := by omega
  have hl4 : zs.length ≤ 4294967296 := by omega
  have hl16 : zs.length ≤ 16777216 := by omega
  clear hE hn
  obtain ⟨m, hm⟩ : ∃ m, widestN zs = m := ⟨_, rfl⟩
  have HM := Lib.hid hm
  rw [hm] at hm64
  obtain ⟨sz, hsz⟩ : ∃ sz, intsN zs.length m = sz := ⟨_, rfl⟩
  have HSZ := Lib.hid hsz
  clear hm hsz
  have g : decide ((200 : Int) < (zs.length : Int)) = false := decide_eq_false (by omega)
  have g2 : decide (200 < zs.length) = false := decide_eq_false (by omega)
  go_enter Try.func4, Try.ntmps4
  go_wp2_with fail
  refine (T.new _ zs _ HE.out hlb HN.out).mono ?_
  rintro e w1 ⟨v, rfl, hIs, hb⟩
  obtain ⟨p, rfl⟩ := T.isPtr _ _ _ _ hIs
  go_wp2_with fail
  refine (T.len _ _ zs _ (T.below _ _ HE.out hb) hlb hIs).mono ?_
  rintro e w2 ⟨rfl, hb'⟩
  replace hIs := T.isBelow hIs hb'
  replace hb := step_below4 hb hb'
  clear hb'
  go_wp2_with fail
  refine (T.widIs m HM.out _ (T.below _ _ HE.out hb) hlb hIs).mono ?_
  rintro e w3 ⟨rfl, hb'⟩
  replace hIs := T.isBelow hIs hb'
  replace hb := step_below4 hb hb'
  clear hb'
  go_wp2_with fail
  refine (refWidest_any _ _ zs _ hl4 HZ.out (HN.out.below hb).1).mono ?_
  rw [HM.out]
  rintro e w4 ⟨rfl, rfl⟩
  go_wp2_with fail
  refine (T.sizeIs sz (by rw [HM.out]; exact HSZ.out) _ (T.below _ _ HE.out hb) hlb hIs).mono ?_
  rintro e w5 ⟨rfl, hb'⟩
  replace hIs := T.isBelow hIs hb'
  replace hb := step_below4 hb hb'
  clear hb'
  go_wp2_with fail
  refine (refWidest_any _ _ zs _ hl4 HZ.out (HN.out.below hb).1).mono ?_
  rw [HM.out]
  rintro e w6 ⟨rfl, rfl⟩
  go_wp2_with fail
  refine (refIntsSize_any zs.length m _ hl16 hm64).mono ?_
  rw [HSZ.out]
  rintro e w7 ⟨rfl, rfl⟩
  go_wp2
  go_loopw [6] (fun i wr => ∃ j : Nat, j ≤ zs.length ∧ i = .int .i64 j ∧ Is w.heap.size wr (.pointer (some p)) zs ∧ Below w.heap.size w wr) (fun i _ => zs.length - (intOf i).toNat)
  case atStart => exact ⟨0, Nat.zero_le _, rfl, hIs, hb⟩
  case round =>
    obtain ⟨j, hj, rfl, hI, hbel⟩ := hrel
    clear hIs hb
    by_cases hlt : j < zs.length
    · obtain ⟨z, hz⟩ : ∃ z, zs.getD j 0 = z := ⟨_, rfl⟩
      obtain ⟨b, off, ha, hblk, hcw⟩ := numOK_cell HN.out j hlt
      subst ha
      rw [hz] at hcw
      have hzb : z ≤ 18446744073709551615 := by
        refine HZ.out z ?_
        rw [← hz]
        simp [List.getD, List.getElem?_eq_getElem hlt]
      have HX := Lib.hid ((getZ_at zs j hlt).trans hz)
      have HW := Lib.hid hcw
      obtain ⟨y, hy⟩ : ∃ y, widthN z = y := ⟨_, rfl⟩
      have HY := Lib.hid hy
      clear hz hcw hy
      go_wp2_with fail
      refine (T.getIs (j : Int) z 0 HX.out (getE_at zs j hlt) _ (T.below _ _ HE.out hbel) hlb ⟨by omega, by omega⟩ hI).mono ?_
      rintro e w8 ⟨rfl, hb'⟩
      replace hI := T.isBelow hI hb'
      replace hbel := step_below4 hbel hb'
      clear hb'
      have hcell : w8.cell? ⟨b, off + j, none⟩ = some (.int .u64 z) := by rw [hbel.cell (p := ⟨b, off + j, none⟩) hblk]; exact HW.out
      go_wp2_with fail
      refine (T.widthIs z y HY.out _ (T.below _ _ HE.out hbel) hzb).mono ?_
      rintro e w9 ⟨rfl, hb'⟩
      replace hI := T.isBelow hI hb'
      replace hbel := step_below4 hbel hb'
      clear hb' hcell
      go_wp2_with fail
      refine (refWidth_any z _ hzb).mono ?_
      rw [HY.out]
      rintro e w10 ⟨rfl, rfl⟩
      go_wp2
      go_roundw
      case rel => exact ⟨j + 1, by omega, by go_num, hI, hbel⟩
      case measure => simp [intOf]; omega
    · by_cases hin : 0 ≤ k ∧ k < zs.length
      · obtain ⟨x, hx⟩ : ∃ x, getZ zs k = x := ⟨_, rfl⟩
        have HX := Lib.hid hx
        have i1 : decide ((0 : Int) ≤ k) = true := decide_eq_true hin.1
        have i2 : decide (k < (zs.length : Int)) = true := decide_eq_true hin.2
        clear hx
        go_wp2_with fail
        refine (T.getIs k x 0 HX.out (getE_in zs k hin) _ (T.below _ _ HE.out hbel) hlb hk hI).mono ?_
        rintro e w8 ⟨rfl, hb'⟩
        replace hbel := step_below4 hbel hb'
        clear hb' hI
        go_wp2_with fail
        refine (told4_any T _ (T.below _ _ HE.out hbel)).mono ?_
        rintro e w9 ⟨rfl, hb'⟩
        replace hbel := step_below4 hbel hb'
        clear hb'
        go_wp2
        go_ret
        exact ⟨rfl, hbel⟩
      · have HX := Lib.hid (getZ_out zs k hin)
        by_cases h0 : 0 ≤ k
        · have i1 : decide ((0 : Int) ≤ k) = true := decide_eq_true h0
          have i2 : decide (k < (zs.length : Int)) = false := decide_eq_false (by omega)
          go_wp2_with fail
          refine (T.getIs k 0 4 HX.out (getE_out zs k hin) _ (T.below _ _ HE.out hbel) hlb hk hI).mono ?_
          rintro e w8 ⟨rfl, hb'⟩
          replace hbel := step_below4 hbel hb'
          clear hb' hI
          go_wp2_with fail
          refine (told4_any T _ (T.below _ _ HE.out hbel)).mono ?_
          rintro e w9 ⟨rfl, hb'⟩
          replace hbel := step_below4 hbel hb'
          clear hb'
          go_wp2
          go_ret
          exact ⟨rfl, hbel⟩
        · have i1 : decide ((0 : Int) ≤ k) = false := decide_eq_false h0
          go_wp2_with fail
          refine (T.getIs k 0 4 HX.out (getE_out zs k hin) _ (T.below _ _ HE.out hbel) hlb hk hI).mono ?_
          rintro e w8 ⟨rfl, hb'⟩
          replace hbel := step_below4 hbel hb'
          clear hb' hI
          go_wp2_with fail
          refine (told4_any T _ (T.below _ _ HE.out hbel)).mono ?_
          rintro e w9 ⟨rfl, hb'⟩
          replace hbel := step_below4 hbel hb'
          clear hb'
          go_wp2
          go_ret
          exact ⟨rfl, hbel⟩
end Go.Proofs.Ytkpklickfkfjcaa
