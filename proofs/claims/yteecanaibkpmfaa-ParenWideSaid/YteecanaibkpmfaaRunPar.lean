/-
  THE LANDED PACKAGE paren MEETS WHAT THE LAWS OF LAYER 5 ASK OF IT (ParSaid).
-/
import Derived.Test.YteecanaibkpmfaaRunPMade
namespace Go.Proofs.Yteecanaibkpmfaa
open Go.RowKit

theorem cnt_five (n : Nat) (hn : n ≤ 4194304) : cntP n 5 ≤ 8 := by
  rw [show (5 : Nat) = 3 + 2 from rfl, cnt_two, show (3 : Nat) + 1 = 2 + 2 from rfl, cnt_two, show (2 : Nat) + 1 = 1 + 2 from rfl, cnt_two, show (1 : Nat) + 1 = 0 + 2 from rfl, cnt_two, show (0 : Nat) + 1 = 1 from rfl, cnt_one]
  omega
set_option maxHeartbeats 4000000 in
set_option maxRecDepth 100000 in
theorem rpnew_any (g off cap0 : Nat) (xs : List Bool) (w : World) (hx : xs.length ≤ 4194304) (hn : 1 ≤ xs.length) (hm : mayL xs = true) (hs : RowOK w (.slice (some ⟨g, off, none⟩) xs.length cap0) xs) (hg : g < w.heap.size)
    (hc : ∀ i, i < xs.length → w.cell? ⟨g, off + i, none⟩ = some (.bool (xs.getD i false))) :
    Calls Try.prog 12 #[.slice (some ⟨g, off, none⟩) xs.length cap0] w fun e w' => ∃ v, e = .returned (.tuple #[v, .int .i64 0]) ∧ IsP w.heap.size w'.heap.size w' v xs ∧ Below w.heap.size w w' := by
  obtain ⟨i0, hi, hz0, hz1, hz2⟩ := info_parts info_part
  have CM := Lib.hid (rmay_any w.heap.size _ xs w hx hs.1)
  rw [hm] at CM
  have HS := Lib.hid hs
  have HC := Lib.hid hc
  have HM := Lib.hid hm
  clear hs hc hm
  go_enter Try.func12, Try.ntmps12
  go_wp2_with fail
  refine CM.out.mono ?_
  rintro o w0 ⟨rfl, rfl⟩
  go_wp2_with fail
  refine (rnew_any _ xs w hx HS.out).mono ?_
  rintro o w1 ⟨bv, rfl, hk1, hb1⟩
  obtain ⟨ba, rfl⟩ := kept_ptr _ _ _ _ hk1
  have HB1 := Lib.hid hb1
  have HK1 := Lib.hid hk1
  clear hb1 hk1
  have HR0 := Lib.hid (rising_start w.heap.size (.pointer (some ba)) (fun _ => 0) xs w1 HB1.out.size HK1.out)
  have HBB := Lib.hid ((HB1.out.alloc HB1.out.size (.cells #[.iface 48 (.agg #[.pointer (some ba)])] 82)).alloc (by have := HB1.out.size; show w.heap.size ≤ (w1.heap.push _).size; rw [Array.size_push]; omega) (.cells #[.slice (some ⟨w1.heap.size, 0, none⟩) 1 1, .int .i64 0] 51))
  clear HK1
  go_wp2_with fail
  obtain ⟨W2, hW2⟩ : ∃ W2, (w1.alloc (.cells #[.iface 48 (.agg #[.pointer (some ba)])] 82)).alloc (.cells #[.slice (some ⟨w1.heap.size, 0, none⟩) 1 1, .int .i64 0] 51) = W2 := ⟨_, rfl⟩
  rw [hW2] at HR0 HBB ⊢
  clear hW2
  obtain ⟨K, hK⟩ : ∃ K, w1.heap.size = K := ⟨_, rfl⟩
  rw [hK] at HR0 ⊢
  clear hK HB1 CM
  refine (rblocks_any g off cap0 xs W2 hx hn (by have := HBB.out.size; omega) (fun i hi => by rw [HBB.out.cell (p := ⟨g, off + i, none⟩) hg]; exact HC.out i hi)).mono ?_
  rintro o w3 ⟨rfl, hr3, hb3⟩
  have HR3 := Lib.hid (HR0.out.below hb3)
  have HX3 := Lib.hid hr3
  have HB3 := Lib.hid (HBB.out.trans (hb3.mono HBB.out.size))
  have hW2p : K + 1 < W2.heap.size := HR0.out.pa.lt
  clear hr3 hb3
  go_wp2
  go_loopw [7] (fun tv wr => ∃ (l q cap : Nat) (bl : Nat → Nat), 1 ≤ l ∧ Rising w.heap.size K (K + 1) q l cap (.pointer (some ba)) bl xs wr ∧ (∀ i, 1 ≤ i → i + 1 < l → 8 < cntP xs.length i) ∧ Below w.heap.size w wr ∧
      ((∃ b, tv = .slice (some ⟨b, 0, none⟩) (cntP xs.length l) (cntP xs.length l) ∧ (2 ≤ l → 8 < cntP xs.length (l - 1)) ∧ K ≤ b ∧ b ≠ K + 1 ∧ b ≠ q ∧ wr.rowIs b 21 (cntP xs.length l) (fun j => .int .i32 (leastP xs l j))) ∨ (tv = .slice none 0 0 ∧ 2 ≤ l ∧ cntP xs.length (l - 1) ≤ 8))) (fun tv _ => sliceLen tv)
  case atStart => exact ⟨1, K, 1, fun _ => 0, Nat.le_refl _, HR3.out, fun i h1 h2 => by omega, HB3.out, Or.inl ⟨W2.heap.size, rfl, fun h => by omega, by omega, by omega, by omega, HX3.out⟩⟩
  case round =>
    obtain ⟨l, q, cap, bl, hl, hri, hmo, hbe, hst⟩ := hrel
    have HRI := Lib.hid hri
    have HMO := Lib.hid hmo
    have HBE := Lib.hid hbe
    clear hri hmo hbe
    rcases hst with ⟨b, rfl, h8, hKb, hbp, hbq, hrb⟩ | ⟨rfl, hl2, hle⟩
    · have HRB := Lib.hid hrb
      have H8 := Lib.hid h8
      clear hrb h8
      have hmore : ∀ i, 1 ≤ i → i < l → 8 < cntP xs.length i := fun i h1 h2 => by
        by_cases e : i + 1 < l
        · exact HMO.out i h1 e
        · obtain rfl : i = l - 1 := by omega
          exact H8.out (by omega)
      have hl6 : l ≤ 5 := by
        by_cases e : l ≤ 5
        · exact e
        · have := hmore 5 (by omega) (by omega)
          have := cnt_five xs.length hx
          omega
      have HMR := Lib.hid hmore
      clear hmore
      have hcb : cntP xs.length l ≤ 4194304 := by have := cntP_le xs.length l; omega
      have hc0 : 0 < cntP xs.length l := (lt_cnt xs.length l 0).2 (by rw [Nat.mul_zero]; omega)
      have hdec : cntP xs.length (l + 1) < cntP xs.length l ∨ cntP xs.length l ≤ 8 := by
        by_cases e : cntP xs.length l ≤ 8
        · exact Or.inr e
        · left
          rw [cnt_next, show grpP l = 8 from if_neg (by omega)]
          omega
      have hcp0 : wr.cell? ⟨K + 1, 0, none⟩ = some (.slice (some ⟨q, 0, none⟩) l cap) := HRI.out.pa.cell (i := 0) (by decide)
      have hKq : K ≤ q ∧ q < wr.heap.size := own_lt HRI.out.own
      have hqp := HRI.out.qp
      have hwK : w.heap.size ≤ K := HRI.out.BK
      have hpw : K + 1 < wr.heap.size := HRI.out.pa.lt
      go_wp2_with fail
      refine (rllen_any _ _ _ wr).mono ?_
      rintro o w4 ⟨rfl, rfl⟩
      have gpos : decide (0 < cntP xs.length l) = true := decide_eq_true hc0
      go_wp2_with (at_builtin; refine wpList_append_own _ rfl _ _ 49 rfl K 82 i0 .nilIface 1 16 Try.underlying49 hi hz0 hz1 hz2 rfl (by decide) _ _ _ rfl (HRI.out.own.alloc _) ⟨wr.heap.size, 0, none⟩ 1 1 [.iface 53 (.slice (some ⟨b, 0, none⟩) (cntP xs.length l) (cntP xs.length l))] rfl rfl (cell_one_new _ _ _) (by intro u hu; simp at hu; subst hu; rfl) (by unfold maxLen; omega) (by omega) (by simp; omega) ?_; intro v' w2 hown3 hgrow3 _; obtain ⟨q2, cap2, rfl, hq2⟩ := own_shape hown3 (by omega); have hp2 : PaV (K + 1) q l cap 0 w2 := HRI.out.pa.of_block ((hgrow3.block (K + 1) (by show K + 1 < (wr.heap.push _).size; rw [Array.size_push]; omega) (fun e => by injection e with e; exact hqp e.symm)).trans (Below.heap_alloc _ _ _ hpw)); have hcp2 := hp2.cell (i := 0) (by decide); have hfp2 := hp2.frozen 0; have HADD := Lib.hid (HRI.out.add hl b hKb hbp hbq HRB.out q2 cap2 _ _ w2 hgrow3 hown3); have HBE2 := Lib.hid (((HBE.out.alloc (by omega) _).grown hgrow3 (by show w.heap.size ≤ (wr.heap.push _).size; rw [Array.size_push]; omega) (fun k hk => by injection hk with hk; have hk2 : q = k := hk; omega)).setCell (p := ⟨K + 1, 0, none⟩) (show w.heap.size ≤ K + 1 by omega) (.slice (some ⟨q2, 0, none⟩) (l + 1) cap2)))
      obtain ⟨W3, hW3⟩ : ∃ W3, w2.setCell ⟨K + 1, 0, none⟩ (.slice (some ⟨q2, 0, none⟩) (l + 1) cap2) = W3 := ⟨_, rfl⟩
      rw [hW3] at HADD HBE2 ⊢
      clear hW3 hcp2 hfp2 hp2 hown3 hgrow3
      have HDEC := Lib.hid hdec
      have hq3 := own_lt HADD.out.1.own
      have hp3 := HADD.out.1.pa.lt
      have hb3 := HADD.out.2.lt
      by_cases h9 : cntP xs.length l ≤ 8
      · refine (raboveNo_any _ _ W3 h9).mono ?_
        rintro o w5 ⟨rfl, rfl⟩
        go_wp2
        go_roundw
        case rel => exact ⟨l + 1, q2, cap2, _, by omega, HADD.out.1, fun i h1 h2 => HMR.out i h1 (by omega), HBE2.out, Or.inr ⟨rfl, by omega, h9⟩⟩
        case measure => exact hc0
      · refine (rabove_any b l xs W3 hx hl (by omega) HADD.out.2).mono ?_
        rintro o w5 ⟨rfl, hr5, hb5⟩
        have HR5 := Lib.hid hr5
        have HB5 := Lib.hid (HBE2.out.trans (hb5.mono HBE2.out.size))
        have HA5 := Lib.hid (HADD.out.1.below hb5)
        clear hr5 hb5
        go_wp2
        go_roundw
        case rel => exact ⟨l + 1, q2, cap2, _, by omega, HA5.out, fun i h1 h2 => HMR.out i h1 (by omega), HB5.out, Or.inl ⟨W3.heap.size, rfl, fun _ => by rw [Nat.add_sub_cancel]; omega, by omega, by omega, by omega, HR5.out⟩⟩
        case measure =>
          show cntP xs.length (l + 1) < cntP xs.length l
          rcases HDEC.out with h | h
          · exact h
          · omega
    · go_wp2_with fail
      refine (rllen_any _ _ _ wr).mono ?_
      rintro o w4 ⟨rfl, rfl⟩
      go_wp2
      go_ret2
      exact ⟨_, rfl, HRI.out.done ⟨by omega, fun h => by omega, fun _ => hl2, HMO.out, fun _ => hle⟩ HM.out hx, HBE.out⟩
set_option maxHeartbeats 2000000 in
set_option maxRecDepth 100000 in
theorem rpnewNone_any (a : Option Addr) (cap0 : Nat) (w : World) (hs : RowOK w (.slice a 0 cap0) []) :
    Calls Try.prog 12 #[.slice a 0 cap0] w fun e w' => ∃ v, e = .returned (.tuple #[v, .int .i64 0]) ∧ IsP w.heap.size w'.heap.size w' v [] ∧ Below w.heap.size w w' := by
  have CM := Lib.hid (rmay_any w.heap.size _ [] w (by decide) hs.1)
  rw [show mayL [] = true from rfl] at CM
  have HS := Lib.hid hs
  clear hs
  go_enter Try.func12, Try.ntmps12
  go_wp2_with fail
  refine CM.out.mono ?_
  rintro o w0 ⟨rfl, rfl⟩
  go_wp2_with fail
  refine (rnew_any _ [] w (by decide) HS.out).mono ?_
  rintro o w1 ⟨bv, rfl, hk1, hb1⟩
  obtain ⟨ba, rfl⟩ := kept_ptr _ _ _ _ hk1
  have HR0 := Lib.hid (rising_start w.heap.size (.pointer (some ba)) (fun _ => 0) [] w1 hb1.size hk1)
  have HBB := Lib.hid ((hb1.alloc hb1.size (.cells #[.iface 48 (.agg #[.pointer (some ba)])] 82)).alloc (by have := hb1.size; show w.heap.size ≤ (w1.heap.push _).size; rw [Array.size_push]; omega) (.cells #[.slice (some ⟨w1.heap.size, 0, none⟩) 1 1, .int .i64 0] 51))
  clear hk1 hb1 CM
  go_wp2_with fail
  obtain ⟨W2, hW2⟩ : ∃ W2, (w1.alloc (.cells #[.iface 48 (.agg #[.pointer (some ba)])] 82)).alloc (.cells #[.slice (some ⟨w1.heap.size, 0, none⟩) 1 1, .int .i64 0] 51) = W2 := ⟨_, rfl⟩
  rw [hW2] at HR0 HBB ⊢
  clear hW2
  refine (rblocksNone_any a cap0 W2).mono ?_
  rintro o w3 ⟨rfl, hb3⟩
  have HR3 := Lib.hid (HR0.out.below hb3)
  have HB3 := Lib.hid (HBB.out.trans (hb3.mono HBB.out.size))
  clear hb3
  go_wp2
  go_loopw [7] (fun tv wr => tv = .slice (some ⟨W2.heap.size, 0, none⟩) 0 0 ∧ wr = w3) (fun _ _ => 0)
  case atStart => exact ⟨rfl, rfl⟩
  case round =>
    obtain ⟨rfl, rfl⟩ := hrel
    go_wp2_with fail
    refine (rllen_any _ _ _ wr).mono ?_
    rintro o w4 ⟨rfl, rfl⟩
    go_wp2
    go_ret2
    exact ⟨_, rfl, HR3.out.done ⟨by omega, fun _ => rfl, fun h => absurd h (by decide), fun i h1 h2 => by omega, fun h => by omega⟩ rfl (by decide), HB3.out⟩
theorem rpnewOk_any (s : Value) (xs : List Bool) (w : World) (hx : xs.length ≤ 4194304) (hs : RowOK w s xs) (hm : mayL xs = true) :
    Calls Try.prog 12 #[s] w fun e w' => ∃ v, e = .returned (.tuple #[v, .int .i64 0]) ∧ IsP w.heap.size w'.heap.size w' v xs ∧ Below w.heap.size w w' := by
  have hs' := hs
  rcases hs.1 with ⟨a, cap, rfl, rfl⟩ | ⟨g, off, cap, rfl, hg, hc⟩
  · exact rpnewNone_any a cap w hs'
  · by_cases hn : 1 ≤ xs.length
    · exact rpnew_any g off cap xs w hx hn hm hs' hg hc
    · obtain rfl : xs = [] := List.eq_nil_of_length_eq_zero (by omega)
      exact rpnewNone_any _ cap w hs'
set_option maxHeartbeats 1000000 in
set_option maxRecDepth 100000 in
theorem rpnewNo_any (s : Value) (xs : List Bool) (w : World) (hx : xs.length ≤ 4194304) (hs : RowOK w s xs) (hm : mayL xs = false) :
    Calls Try.prog 12 #[s] w fun e w' => e = .returned (.tuple #[.pointer none, .int .i64 1]) ∧ Below w.heap.size w w' := by
  have CM := Lib.hid (rmay_any w.heap.size s xs w hx hs.1)
  rw [hm] at CM
  obtain ⟨_, a, cap, rfl, _⟩ := hs
  go_enter Try.func12, Try.ntmps12
  go_wp2_with fail
  refine CM.out.mono ?_
  rintro o w0 ⟨rfl, rfl⟩
  go_wp2
  go_ret2
  exact ⟨rfl, Below.refl _ _⟩
theorem same_below {w : World} {r : Value} {f : FuncId} {args : Array Value} (h : Calls Try.prog f args w fun e w' => e = .returned r ∧ w = w') : Calls Try.prog f args w fun e w' => e = .returned r ∧ Below w.heap.size w w' :=
  h.mono (by rintro e w' ⟨rfl, rfl⟩; exact ⟨rfl, Below.refl _ _⟩)
theorem below_gave {B T : Nat} {v : Value} {xs : List Bool} {w : World} {r : Value} {f : FuncId} {args : Array Value} (hi : IsP B T w v xs) (h : Calls Try.prog f args w fun e w' => e = .returned r ∧ Below w.heap.size w w') :
    Calls Try.prog f args w (ParGave IsP B T v xs r w) :=
  h.mono (by rintro e w' ⟨rfl, hb⟩; exact ⟨rfl, isp_below hi hb, Apart.of_below hb⟩)
/-- THE LANDED PACKAGE paren. -/
theorem par_said : ParSaid (fun _ _ => True) IsP where
  stay := fun _ _ _ _ _ => trivial
  keep := isp_keep
  isPtr := isp_ptr
  span := isp_span
  may := fun _ s xs w _ _ hx hs => same_below (rmay_any _ s xs w hx hs.1)
  newOk := fun _ s xs w _ _ hx hs hm => rpnewOk_any s xs w hx hs hm
  newNo := fun _ s xs w _ _ hx hs hm => rpnewNo_any s xs w hx hs hm
  len := fun _ B T v xs w _ _ _ h => below_gave h (rplenP_any B T v xs w h)
  opn := fun _ B T v xs k w _ _ _ hk h => below_gave h (ropen_any B T v xs k w hk h)
  excess := fun _ B T v xs k w _ _ _ hk h => below_gave h (rexcess_any B T v xs k w hk h)
  close := fun _ B T v xs k w _ _ _ hk h => rclose_any B T v xs k w hk h
  begin' := fun _ B T v xs k w _ _ _ hk h => rbegin_any B T v xs k w hk h
  enclose := fun _ B T v xs k w _ _ _ hk h => renclose_any B T v xs k w hk h
  up := fun _ B T v xs k j w _ _ _ hk hj h => rup_any B T v xs k j w hk hj h
  place := fun _ B T v xs k w _ _ _ _ h => below_gave h (rplace_any B T v xs k w h)
  number := fun _ B T v xs k w _ _ _ hk h => below_gave h (rnumber_any B T v xs k w hk h)
  spans := fun _ B T v xs k w _ _ _ hk h => below_gave h (rspan_any B T v xs k w hk h)
  steps := fun _ B T v xs w _ _ _ h => (rsteps_any B T v xs w h).mono (by rintro e w' ⟨s, hs, rfl, rfl⟩; exact ⟨s, hs, rfl, h, Apart.of_below (Below.refl _ _)⟩)
  lenNil := fun _ w _ _ => rlenPNil_any w
  closeNil := fun _ w _ _ => rcloseNil_any w
end Go.Proofs.Yteecanaibkpmfaa
