/-
  THE LAW BitsOwn, out of what is asked of package bits (BitSaid): it returns true.
-/
import Derived.Test.YtiofekpnjckpiaaBitArg
import Derived.Test.YtiofekpnjckpiaaBitsSizes
namespace Go.Proofs.Ytiofekpnjckpiaa
open Go.RowKit

theorem wrap_mod2 (a : Int) (n : Nat) (h0 : 0 < n) (hn : n ≤ 1000000) : ∃ u x : Nat, IntKind.u64.wrap a = (u : Int) ∧ IntKind.u64.wrap (n : Int) = (n : Int) ∧ Int.tmod (u : Int) (n : Int) = (x : Int) ∧ x < n ∧ IntKind.u64.wrap (x : Int) = (x : Int) ∧ IntKind.i64.wrap (x : Int) = (x : Int) := by
  obtain ⟨u, x, h1, h2, h3, h4, h5⟩ := wrap_mod a n h0 hn
  refine ⟨u, x, h1, ?_, h2, h3, h4, h5⟩
  simp [IntKind.wrap, IntKind.bits, IntKind.signed]; omega
theorem ownS_set {w : World} {base g cap : Nat} {ys : List Bool} (h : OwnS w base (.slice (some ⟨g, 0, none⟩) ys.length cap) ys) (j : Nat) (b : Bool) (n : Nat) (hn : ys.length = n) :
    OwnS (w.setCell ⟨g, j, none⟩ (.bool b)) base (.slice (some ⟨g, 0, none⟩) n cap) (ys.set j b) := by
  subst hn
  have := World.ownsRow.stored h j (.bool b)
  unfold OwnS
  rw [List.length_set, List.map_set]
  exact this.1

set_option maxHeartbeats 8000000 in
set_option maxRecDepth 100000 in
theorem bown_any {E : World → Prop} {Is : Nat → World → Value → List Bool → Prop} (T : BitSaid E Is) (l : Value) (at' : Int) (w : World) (hE : E w) (hl : IntsArg w l) :
    Calls Try.prog 6 #[l, .int .i64 at'] w fun e w' => e = .returned (.bool true) ∧ Below w.heap.size w w' := by
  have HE := Lib.hid hE
  clear hE
  have HL := Lib.hid hl
  clear hl
  go_enter Try.func6, Try.ntmps6
  go_wp2_with fail
  refine (bitRow_any l 300 w HL.out (by decide)).mono ?_
  rintro e w1 ⟨v, xs, rfl, hx, hown, hb⟩
  clear HL
  rcases row_shape hown with ⟨rfl, rfl⟩ | ⟨g, cap, rfl, hcap, hge, hg, hc⟩
  · go_wp2_with fail
    refine (told3_any T _ (T.below _ _ HE.out hb)).mono ?_
    rintro e w2 ⟨rfl, hb'⟩
    go_wp2
    go_ret
    exact ⟨rfl, step_below3 hb hb'⟩
  · clear hc
    by_cases h0 : xs.length < 1
    · have g0 : decide ((xs.length : Int) < 1) = true := decide_eq_true (by omega)
      go_wp2_with fail
      refine (told3_any T _ (T.below _ _ HE.out hb)).mono ?_
      rintro e w2 ⟨rfl, hb'⟩
      go_wp2
      go_ret
      exact ⟨rfl, step_below3 hb hb'⟩
    · have g0 : decide ((xs.length : Int) < 1) = false := decide_eq_false (by omega)
      go_wp2_with fail
      refine (T.new _ xs _ (T.below _ _ HE.out hb) (by omega) (rowOK_of hown)).mono ?_
      rintro e w2 ⟨p, rfl, hI, hb'⟩
      obtain ⟨pa, rfl⟩ := T.isPtr _ _ _ _ hI
      have hown2 : OwnS w2 w.heap.size (.slice (some ⟨g, 0, none⟩) xs.length cap) xs := by
        refine ⟨hown.1, ?_⟩
        rcases hown.2 with ⟨h, _⟩ | ⟨g', cap', cur, h, h1, h2, h3⟩
        · simp at h
        · simp only [Value.slice.injEq, Option.some.injEq, Addr.mk.injEq] at h
          obtain ⟨⟨rfl, _⟩, _, rfl⟩ := h
          exact Or.inr ⟨g, cap, cur, rfl, h1, by rw [hb'.block g hg]; exact h2, h3⟩
      have hgs : w1.heap.size ≤ w2.heap.size := hb'.size
      replace hb := step_below3 hb hb'
      clear hb' hown
      obtain ⟨u, k, hu1, hn1, hu2, hk, hk1, hk2⟩ := wrap_mod2 at' xs.length (by omega) (by omega)
      obtain ⟨x, hxx⟩ : ∃ x, xs.getD k false = x := ⟨_, rfl⟩
      have HX : Hid (getB xs (k : Int) = x) := Lib.hid (by unfold getB; rw [if_pos ⟨by omega, by omega⟩]; simpa using hxx)
      have HF : Hid (getC xs (k : Int) = 0) := Lib.hid (by unfold getC; rw [if_pos ⟨by omega, by omega⟩])
      have hcell : w2.cell? ⟨g, k, none⟩ = some (.bool x) := by
        rw [World.ownsRow.cellAt hown2 k (by omega), List.getElem?_map, List.getElem?_eq_getElem hk, ← hxx]
        simp [List.getD, List.getElem?_eq_getElem hk]
      clear hxx
      go_wp2
      go_loopw [10] (fun i wr => ∃ (j : Nat) (ys : List Bool), j ≤ xs.length ∧ ys.length = xs.length ∧ i = .int .i64 j ∧ OwnS wr w.heap.size (.slice (some ⟨g, 0, none⟩) xs.length cap) ys ∧ Is w1.heap.size wr (.pointer (some pa)) xs ∧ Below w.heap.size w wr) (fun i _ => xs.length - (intOf i).toNat)
      case atStart => exact ⟨0, xs, by omega, rfl, rfl, hown2, hI, hb⟩
      case round =>
        clear hcell hown2 hI hb
        obtain ⟨j, ys, hj, hys, rfl, hown2, hI, hb⟩ := hrel
        by_cases h1 : j < xs.length
        · have g1 : decide ((j : Int) < (xs.length : Int)) = true := decide_eq_true (by omega)
          obtain ⟨y, hyy⟩ : ∃ y, ys.getD j false = y := ⟨_, rfl⟩
          have hj2 : j < ys.length := by omega
          have hown3 : OwnS wr w.heap.size (.slice (some ⟨g, 0, none⟩) ys.length cap) ys := by rw [hys]; exact hown2
          have hcell : wr.cell? ⟨g, j, none⟩ = some (.bool y) := by
            rw [World.ownsRow.cellAt hown3 j (by omega), List.getElem?_map, List.getElem?_eq_getElem hj2, ← hyy]
            simp [List.getD, List.getElem?_eq_getElem hj2]
          have hfro : wr.frozen? ⟨g, j, none⟩ = false := World.ownsRow.frozenAt hown3 j
          have HO := Lib.hid hown3
          clear hyy hown2 hown3
          go_wp2
          go_roundw
          case rel => exact ⟨j + 1, ys.set j (!y), by omega, by rw [List.length_set]; exact hys, by go_num, ownS_set HO.out j (!y) _ hys, T.keep _ _ _ _ _ hI (fun q hq _ => Below.heap_setCell _ _ _ q (by show q ≠ g; omega)), hb.setCell (p := ⟨g, j, none⟩) hge _⟩
          case measure => simp [intOf]; omega
        · have g1 : decide ((j : Int) < (xs.length : Int)) = false := decide_eq_false (by omega)
          have g2 : decide (j < xs.length) = false := decide_eq_false h1
          go_wp2_with fail
          refine (T.getIs (k : Int) x 0 HX.out HF.out _ (T.below _ _ HE.out hb) (by omega) (in64_of (by omega) (by omega)) hI).mono ?_
          rintro e wa ⟨rfl, hb'⟩
          replace hb := step_below3 hb hb'
          clear hb'
          go_wp2_with fail
          refine (told3_any T _ (T.below _ _ HE.out hb)).mono ?_
          rintro e wb ⟨rfl, hb'⟩
          replace hb := step_below3 hb hb'
          clear hb'
          go_wp2
          go_ret
          exact ⟨rfl, hb⟩
end Go.Proofs.Ytiofekpnjckpiaa
