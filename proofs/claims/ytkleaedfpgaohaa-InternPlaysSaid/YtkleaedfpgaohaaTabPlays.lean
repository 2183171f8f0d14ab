/-
  LAYER 9: brackenlaw9.InternPlays, out of TabSaid: true for any texts, each put or looked for.
-/
import Derived.Test.YtkleaedfpgaohaaTabTwo
import Derived.Test.YtkleaedfpgaohaaStrArg
import Derived.Test.YtkleaedfpgaohaaBoolArg
import Derived.Deep.RegionHeld3
namespace Go.Proofs.Ytkleaedfpgaohaa
open Go.RowKit

theorem strAt_textAt (L : List ByteArray) (j : Nat) : strAt L j = textAt L j := rfl
/-- where the reference's texts lie -/
theorem TabAt.text {B p q : Nat} {a : Option Addr} {c : Nat} {L : List ByteArray} {P : List Nat} {y : Int} {w : World} (h : TabAt B p q a c L P y w) (j : Nat) (hj : j < L.length) : ∃ g, a = some ⟨g, 0, none⟩ ∧ g < w.heap.size ∧ w.cell? ⟨g, j, none⟩ = some (.string (textAt L j)) := by
  rcases ownT_shape h.own with ⟨_, e⟩ | ⟨g, cap, e, _, _, hg, hc⟩
  · rw [e] at hj; simp at hj
  · injection e with e1 e2 e3
    exact ⟨g, e1, hg, hc j hj⟩
set_option maxHeartbeats 20000000 in
set_option maxRecDepth 100000 in
theorem internplays_any {E : Nat → World → Prop} {Is : (Nat → Prop) → World → Value → List ByteArray → List Nat → Int → Prop} (S : TabSaid E Is) (n : Nat) (v bv : Value) (w : World) (hE : E n w) (hn : n ≤ w.heap.size) (hv : StrArg w v) (hbv : BoolArg w bv) :
    Calls Try.prog 4 #[v, bv] w fun e w' => e = .returned (.bool true) ∧ Below w.heap.size w w' := by
  obtain ⟨a, cap, ss, rfl, hr, hl63, hz63⟩ := hv
  obtain ⟨ab, capb, bs, rfl, hrb⟩ := hbv
  have HE := Lib.hid hE
  have HR := Lib.hid hr
  have HZ := Lib.hid hz63
  have HRB : Hid (∀ i, i < bs.length → ∃ g off, ab = some ⟨g, off, none⟩ ∧ g < w.heap.size ∧ w.cell? ⟨g, off + i, none⟩ = some (.bool (bs.getD i false))) := Lib.hid (fun i hi => by
    rcases hrb.1 with ⟨a', cap', e, rfl⟩ | ⟨b, off, cap', e, hb, hc⟩
    · cases hi
    · injection e with e1 e2 e3
      exact ⟨b, off, e1, hb, hc i hi⟩)
  clear hE hr hz63 hrb
  by_cases h80 : 80 < ss.length
  · have g1 : decide (80 < ss.length) = true := decide_eq_true h80
    have g2 : decide ((80 : Int) < (ss.length : Int)) = true := decide_eq_true (by omega)
    go_enter Try.func4, Try.ntmps4
    go_wp2_with fail
    refine (told9_any S n w HE.out hn).mono ?_
    rintro e wz ⟨rfl, hb'⟩
    go_wp2
    go_ret
    exact ⟨rfl, hb'⟩
  have g1 : decide (80 < ss.length) = false := decide_eq_false h80
  have g2 : decide ((80 : Int) < (ss.length : Int)) = false := decide_eq_false (by omega)
  go_enter Try.func4, Try.ntmps4
  go_wp2_with fail
  refine (tnewAt S HE.out hn (Below.refl _ _)).mono ?_
  rintro e w1 ⟨pt, x, rfl, h⟩
  have H0 := Lib.hid h
  clear h g1 g2
  go_wp2_with fail
  refine (mnewAt S H0.out).mono ?_
  rintro e w2 ⟨p, q, am, cm, rfl, h⟩
  have H := Lib.hid h
  clear h H0
  go_wp2
  go_loopw [7] (fun iv wr => ∃ (i : Nat) (L : List ByteArray) (P : List Nat) (x y : Int) (q : Nat) (am : Option Addr) (cm : Nat), i ≤ ss.length ∧ iv = .int .i64 i ∧ L.length ≤ i ∧ P.length ≤ 8 + 4 * L.length ∧ Hid (Play E Is n w (.pointer (some pt)) L P x p q am cm L P y wr)) (fun iv _ => ss.length - (intOf iv).toNat)
  case atStart => exact ⟨0, [], _, _, _, _, _, _, Nat.zero_le _, rfl, Nat.le_refl _, by simp, H⟩
  case round =>
    clear H
    obtain ⟨i, L, P, x, y, q, am, cm, hil, rfl, hLi, hPL, H⟩ := hrel
    by_cases hlt : i < ss.length
    · obtain ⟨g, off, rfl, hg, hcell0⟩ := HR.out.cell i hlt
      obtain ⟨s, hss⟩ : ∃ s, strAt ss i = s := ⟨_, rfl⟩
      have hcw : w.cell? ⟨g, off + i, none⟩ = some (.string s) := by rw [← hss]; exact hcell0 i hlt
      have HCW := Lib.hid hcw
      have hcell : wr.cell? ⟨g, off + i, none⟩ = some (.string s) := by rw [H.out.since.cell (p := ⟨g, off + i, none⟩) hg]; exact hcw
      have hsz63 : s.size ≤ 9223372036854775807 := by rw [← hss]; exact HZ.out i hlt
      clear hss hcw hcell0
      by_cases h50 : 50 < s.size
      · have g1 : decide (50 < s.size) = true := decide_eq_true h50
        have g2 : decide ((50 : Int) < (s.size : Int)) = true := decide_eq_true (by omega)
        go_wp2_with fail
        refine (told9_any S n wr H.out.e H.out.n_le).mono ?_
        rintro e wz ⟨rfl, hb'⟩
        go_wp2
        go_ret
        exact ⟨rfl, H.out.since.trans (hb'.mono H.out.since.size)⟩
      · have g1 : decide (50 < s.size) = false := decide_eq_false h50
        have g2 : decide ((50 : Int) < (s.size : Int)) = false := decide_eq_false (by omega)
        have KC : Hid (∀ W, Below w.heap.size w W → W.cell? ⟨g, off + i, none⟩ = some (.string s)) := Lib.hid (fun W h => by rw [h.cell (p := ⟨g, off + i, none⟩) hg]; exact HCW.out)
        obtain ⟨hh, hhs⟩ : ∃ hh, hashN s = hh := ⟨_, rfl⟩
        have HH := Lib.hid hhs
        clear hhs
        by_cases hfi : i < bs.length
        · obtain ⟨gb, ob, rfl, hgb, hcb⟩ := HRB.out i hfi
          have hbc : wr.cell? ⟨gb, ob + i, none⟩ = some (.bool (bs.getD i false)) := by rw [H.out.since.cell (p := ⟨gb, ob + i, none⟩) hgb]; exact hcb
          have g3 : decide (i < bs.length) = true := decide_eq_true hfi
          have g4 : decide ((i : Int) < (bs.length : Int)) = true := decide_eq_true (by omega)
          clear hcb
          generalize bs.getD i false = fb at *
          cases fb
          · -- put
            have hG := H.out.nice.good
            have hN2 := (H.out.nice.put s (by omega)).room
            have hpl := put_len (s := s) hG
            have CT := Lib.hid (fun (W : World) (h : Play E Is n w (.pointer (some pt)) L P x p q am cm L P y W) => pputAt S s (by omega) (by omega) h)
            have CM := Lib.hid (fun (W : World) (h : Play E Is n w (.pointer (some pt)) (putL L P s) (putP L P s) ((lookT P L s).2 : Nat) p q am cm L P y W) => mputAt S s (by omega) (by omega) h)
            obtain ⟨nn, hnn⟩ : ∃ nn, (lookT P L s).2 = nn := ⟨_, rfl⟩
            obtain ⟨m, hm⟩ : ∃ m, putN L P s = m := ⟨_, rfl⟩
            obtain ⟨L2, hL2⟩ : ∃ L2, putL L P s = L2 := ⟨_, rfl⟩
            obtain ⟨P2, hP2⟩ : ∃ P2, putP L P s = P2 := ⟨_, rfl⟩
            rw [hL2] at hpl
            rw [hL2, hP2] at hN2
            rw [hm] at hpl
            rw [hnn, hm, hL2, hP2] at CT CM
            have hLi2 : L2.length ≤ i + 1 := by omega
            have hPL2 : P2.length ≤ 8 + 4 * L2.length := hN2
            clear hG hnn hm hL2 hP2 hpl hN2
            have HM := H.out.other S (Below.refl _ _).drew
            clear H
            go_wp2_with fail
            go_region_held3 (fun W => W.cell? ⟨g, off + i, none⟩ = some (.string s))
              (first | exact KC.out _ (‹Play E Is n w _ _ _ _ _ _ _ _ _ _ _ _›).since | assumption)
              (first
                | ((go_at_call 13; refine (CT.out _ ‹Play E Is n w (.pointer (some pt)) L P x p q am cm L P y _›).mono ?_; rintro o u ⟨rfl, hM2⟩))
                | ((go_at_call 14; refine (CM.out _ ‹Play E Is n w (.pointer (some pt)) L2 P2 nn p q am cm L P y _›).mono ?_; rintro o u ⟨rfl, q2, a2, c2, hM3⟩)))
            have H := Lib.hid hM3
            clear HM hM2 hM3 CT CM hcell
            go_wp2

            have hcell3 := KC.out _ H.out.since
            have k2 := H.out.ref.c2
            have k0 := H.out.ref.c0
            have HM := H.out.other S (Below.refl _ _).drew
            clear H
            go_wp2_with fail
            go_region_held3 (fun W => W.cell? ⟨p, 2, none⟩ = some (.int .i64 (nn : Int)) ∧ W.cell? ⟨p, 0, none⟩ = some (.slice a2 L2.length c2) ∧ W.cell? ⟨g, off + i, none⟩ = some (.string s))
              (first | exact ⟨(‹Play E Is n w (.pointer (some pt)) L2 P2 (nn : Int) p q2 a2 c2 L2 P2 (nn : Int) _›).ref.c2, (‹Play E Is n w (.pointer (some pt)) L2 P2 (nn : Int) p q2 a2 c2 L2 P2 (nn : Int) _›).ref.c0, KC.out _ (‹Play E Is n w (.pointer (some pt)) L2 P2 (nn : Int) p q2 a2 c2 L2 P2 (nn : Int) _›).since⟩ | assumption)
              (first
                | ((go_at_call 15; refine (plookedAt S (by omega) ‹Play E Is n w (.pointer (some pt)) L2 P2 (nn : Int) p q2 a2 c2 L2 P2 (nn : Int) _›).mono ?_; rintro o u ⟨rfl, hM2⟩))
                | ((go_at_call 16; refine (plenAt' S (by omega) ‹Play E Is n w (.pointer (some pt)) L2 P2 (nn : Int) p q2 a2 c2 L2 P2 (nn : Int) _›).mono ?_; rintro o u ⟨rfl, hM3⟩))
                | ((go_at_call 8; refine (phashAt S s (by omega) ‹Play E Is n w (.pointer (some pt)) L2 P2 (nn : Int) p q2 a2 c2 L2 P2 (nn : Int) _›).mono ?_; rw [HH.out]; rintro o u ⟨rfl, hM4⟩))
                | ((go_at_call 17; refine (mhashAt s (by omega) ‹Play E Is n w (.pointer (some pt)) L2 P2 (nn : Int) p q2 a2 c2 L2 P2 (nn : Int) _›).mono ?_; rw [HH.out]; rintro o u ⟨rfl, hM5⟩)))
            have HF := Lib.hid (‹Play E Is n w (.pointer (some pt)) L2 P2 (nn : Int) p q2 a2 c2 L2 P2 (nn : Int) u›)
            clear HM
            go_wp2
            go_roundw
            case rel => exact ⟨i + 1, L2, P2, nn, nn, q2, a2, c2, by omega, by go_num, by omega, by omega, HF⟩
            case measure => simp [intOf]; omega
          · -- looked for
            have CF := Lib.hid (pfindAt' S s (by omega) (by omega) H.out)
            have hG := H.out.nice.good
            obtain ⟨nn, hnn⟩ : ∃ nn, (lookT P L s).2 = nn := ⟨_, rfl⟩
            obtain ⟨z, hz⟩ : ∃ z, slotT P L s - 1 = z := ⟨_, rfl⟩
            obtain ⟨b, hb⟩ : ∃ b, decide (slotT P L s ≠ 0) = b := ⟨_, rfl⟩
            have jb : (b != b) = false := by cases b <;> rfl
            have jb2 : (b == b) = true := by cases b <;> rfl
            have HNN := Lib.hid hnn
            have HZZ := Lib.hid hz
            have HBB := Lib.hid hb
            rw [hnn, hz, hb] at CF
            clear hnn hz hb hG
            go_wp2_with fail
            refine CF.out.mono ?_
            rintro e w3 ⟨rfl, h⟩
            replace H := Lib.hid h
            clear h CF hcell
            have hcell2 := KC.out _ H.out.since
            have CM := Lib.hid (mfindAt S s (by omega) (by omega) H.out)
            rw [HNN.out, HZZ.out, HBB.out] at CM
            go_wp2_with fail
            refine CM.out.mono ?_
            rintro e w4 ⟨rfl, q2, a2, c2, h⟩
            replace H := Lib.hid h
            clear h CM hcell2 HNN HZZ HBB
            obtain ⟨L2, hL2⟩ : ∃ L2, L2 = L := ⟨_, rfl⟩
            obtain ⟨P2, hP2⟩ : ∃ P2, P2 = P := ⟨_, rfl⟩
            rw [← hL2, ← hP2] at H
            have hLi2 : L2.length ≤ i + 1 := by rw [hL2]; omega
            have hPL2 : P2.length ≤ 8 + 4 * L2.length := by rw [hL2, hP2]; exact hPL
            clear hL2 hP2
            go_wp2

            have hcell3 := KC.out _ H.out.since
            have k2 := H.out.ref.c2
            have k0 := H.out.ref.c0
            have HM := H.out.other S (Below.refl _ _).drew
            clear H
            go_wp2_with fail
            go_region_held3 (fun W => W.cell? ⟨p, 2, none⟩ = some (.int .i64 (nn : Int)) ∧ W.cell? ⟨p, 0, none⟩ = some (.slice a2 L2.length c2) ∧ W.cell? ⟨g, off + i, none⟩ = some (.string s))
              (first | exact ⟨(‹Play E Is n w (.pointer (some pt)) L2 P2 (nn : Int) p q2 a2 c2 L2 P2 (nn : Int) _›).ref.c2, (‹Play E Is n w (.pointer (some pt)) L2 P2 (nn : Int) p q2 a2 c2 L2 P2 (nn : Int) _›).ref.c0, KC.out _ (‹Play E Is n w (.pointer (some pt)) L2 P2 (nn : Int) p q2 a2 c2 L2 P2 (nn : Int) _›).since⟩ | assumption)
              (first
                | ((go_at_call 15; refine (plookedAt S (by omega) ‹Play E Is n w (.pointer (some pt)) L2 P2 (nn : Int) p q2 a2 c2 L2 P2 (nn : Int) _›).mono ?_; rintro o u ⟨rfl, hM2⟩))
                | ((go_at_call 16; refine (plenAt' S (by omega) ‹Play E Is n w (.pointer (some pt)) L2 P2 (nn : Int) p q2 a2 c2 L2 P2 (nn : Int) _›).mono ?_; rintro o u ⟨rfl, hM3⟩))
                | ((go_at_call 8; refine (phashAt S s (by omega) ‹Play E Is n w (.pointer (some pt)) L2 P2 (nn : Int) p q2 a2 c2 L2 P2 (nn : Int) _›).mono ?_; rw [HH.out]; rintro o u ⟨rfl, hM4⟩))
                | ((go_at_call 17; refine (mhashAt s (by omega) ‹Play E Is n w (.pointer (some pt)) L2 P2 (nn : Int) p q2 a2 c2 L2 P2 (nn : Int) _›).mono ?_; rw [HH.out]; rintro o u ⟨rfl, hM5⟩)))
            have HF := Lib.hid (‹Play E Is n w (.pointer (some pt)) L2 P2 (nn : Int) p q2 a2 c2 L2 P2 (nn : Int) u›)
            clear HM
            go_wp2
            go_roundw
            case rel => exact ⟨i + 1, L2, P2, nn, nn, q2, a2, c2, by omega, by go_num, by omega, by omega, HF⟩
            case measure => simp [intOf]; omega
        · have g3 : decide (i < bs.length) = false := decide_eq_false hfi
          have g4 : decide ((i : Int) < (bs.length : Int)) = false := decide_eq_false (by omega)
          have hG := H.out.nice.good
          have hN2 := (H.out.nice.put s (by omega)).room
          have hpl := put_len (s := s) hG
          have CT := Lib.hid (fun (W : World) (h : Play E Is n w (.pointer (some pt)) L P x p q am cm L P y W) => pputAt S s (by omega) (by omega) h)
          have CM := Lib.hid (fun (W : World) (h : Play E Is n w (.pointer (some pt)) (putL L P s) (putP L P s) ((lookT P L s).2 : Nat) p q am cm L P y W) => mputAt S s (by omega) (by omega) h)
          obtain ⟨nn, hnn⟩ : ∃ nn, (lookT P L s).2 = nn := ⟨_, rfl⟩
          obtain ⟨m, hm⟩ : ∃ m, putN L P s = m := ⟨_, rfl⟩
          obtain ⟨L2, hL2⟩ : ∃ L2, putL L P s = L2 := ⟨_, rfl⟩
          obtain ⟨P2, hP2⟩ : ∃ P2, putP L P s = P2 := ⟨_, rfl⟩
          rw [hL2] at hpl
          rw [hL2, hP2] at hN2
          rw [hm] at hpl
          rw [hnn, hm, hL2, hP2] at CT CM
          have hLi2 : L2.length ≤ i + 1 := by omega
          have hPL2 : P2.length ≤ 8 + 4 * L2.length := hN2
          clear hG hnn hm hL2 hP2 hpl hN2
          have HM := H.out.other S (Below.refl _ _).drew
          clear H
          go_wp2_with fail
          go_region_held3 (fun W => W.cell? ⟨g, off + i, none⟩ = some (.string s))
            (first | exact KC.out _ (‹Play E Is n w _ _ _ _ _ _ _ _ _ _ _ _›).since | assumption)
            (first
              | ((go_at_call 13; refine (CT.out _ ‹Play E Is n w (.pointer (some pt)) L P x p q am cm L P y _›).mono ?_; rintro o u ⟨rfl, hM2⟩))
              | ((go_at_call 14; refine (CM.out _ ‹Play E Is n w (.pointer (some pt)) L2 P2 nn p q am cm L P y _›).mono ?_; rintro o u ⟨rfl, q2, a2, c2, hM3⟩)))
          have H := Lib.hid hM3
          clear HM hM2 hM3 CT CM hcell
          go_wp2

          have hcell3 := KC.out _ H.out.since
          have k2 := H.out.ref.c2
          have k0 := H.out.ref.c0
          have HM := H.out.other S (Below.refl _ _).drew
          clear H
          go_wp2_with fail
          go_region_held3 (fun W => W.cell? ⟨p, 2, none⟩ = some (.int .i64 (nn : Int)) ∧ W.cell? ⟨p, 0, none⟩ = some (.slice a2 L2.length c2) ∧ W.cell? ⟨g, off + i, none⟩ = some (.string s))
            (first | exact ⟨(‹Play E Is n w (.pointer (some pt)) L2 P2 (nn : Int) p q2 a2 c2 L2 P2 (nn : Int) _›).ref.c2, (‹Play E Is n w (.pointer (some pt)) L2 P2 (nn : Int) p q2 a2 c2 L2 P2 (nn : Int) _›).ref.c0, KC.out _ (‹Play E Is n w (.pointer (some pt)) L2 P2 (nn : Int) p q2 a2 c2 L2 P2 (nn : Int) _›).since⟩ | assumption)
            (first
              | ((go_at_call 15; refine (plookedAt S (by omega) ‹Play E Is n w (.pointer (some pt)) L2 P2 (nn : Int) p q2 a2 c2 L2 P2 (nn : Int) _›).mono ?_; rintro o u ⟨rfl, hM2⟩))
              | ((go_at_call 16; refine (plenAt' S (by omega) ‹Play E Is n w (.pointer (some pt)) L2 P2 (nn : Int) p q2 a2 c2 L2 P2 (nn : Int) _›).mono ?_; rintro o u ⟨rfl, hM3⟩))
              | ((go_at_call 8; refine (phashAt S s (by omega) ‹Play E Is n w (.pointer (some pt)) L2 P2 (nn : Int) p q2 a2 c2 L2 P2 (nn : Int) _›).mono ?_; rw [HH.out]; rintro o u ⟨rfl, hM4⟩))
              | ((go_at_call 17; refine (mhashAt s (by omega) ‹Play E Is n w (.pointer (some pt)) L2 P2 (nn : Int) p q2 a2 c2 L2 P2 (nn : Int) _›).mono ?_; rw [HH.out]; rintro o u ⟨rfl, hM5⟩)))
          have HF := Lib.hid (‹Play E Is n w (.pointer (some pt)) L2 P2 (nn : Int) p q2 a2 c2 L2 P2 (nn : Int) u›)
          clear HM
          go_wp2
          go_roundw
          case rel => exact ⟨i + 1, L2, P2, nn, nn, q2, a2, c2, by omega, by go_num, by omega, by omega, HF⟩
          case measure => simp [intOf]; omega
    · have g0 : decide (i < ss.length) = false := decide_eq_false hlt
      have hl2 : L.length ≤ 80 := by omega
      go_wp2
      go_loopw [12] (fun jv wq => ∃ j : Nat, j ≤ L.length ∧ jv = .int .i64 j ∧ Hid (Play E Is n w (.pointer (some pt)) L P x p q am cm L P y wq)) (fun jv _ => L.length - (intOf jv).toNat)
      case atStart => exact ⟨0, Nat.zero_le _, rfl, H⟩
      case round =>
        clear H g0
        obtain ⟨j, hjl, rfl, H⟩ := hrel
        have k0 := H.out.ref.c0
        by_cases hlj : j < L.length
        · have CG := Lib.hid (pgetAt' S (j : Int) ⟨by omega, by omega⟩ (by omega) H.out)
          have HTX := Lib.hid (fun (W : World) (h : Play E Is n w (.pointer (some pt)) L P x p q am cm L P y W) => h.ref.text j hlj)
          rw [textG_at L j hlj, textE_at L j hlj] at CG
          generalize textAt L j = tj at *
          have i1 : (j : Int) < (L.length : Int) := by omega
          go_wp2_with fail
          refine CG.out.mono ?_
          rintro e w3 ⟨rfl, h⟩
          replace H := Lib.hid h
          have k1 := h.ref.c0
          obtain ⟨ga, rfl, _, hca⟩ := HTX.out _ h
          clear h CG k0
          have j1 : (tj.toList == tj.toList) = true := beq_self_eq_true _
          go_wp2
          go_roundw
          case rel => exact ⟨j + 1, hlj, by go_num, H⟩
          case measure => simp [intOf]; omega
        · have g0 : decide (j < L.length) = false := decide_eq_false hlj
          go_wp2_with fail
          refine (told9_any S n wr H.out.e H.out.n_le).mono ?_
          rintro e wz ⟨rfl, hb'⟩
          go_wp2
          go_ret
          exact ⟨rfl, H.out.since.trans (hb'.mono H.out.since.size)⟩
end Go.Proofs.Ytkleaedfpgaohaa
