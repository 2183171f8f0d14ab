/-
  THE LANDED PACKAGE token: the contract of token (the piece that stands at the beginning). Written by gen_token.py.
-/
import Derived.Test.YtjijjmkeehdooaaGreatDoorRunKStart
namespace Go.Proofs.YtjijjmkeehdooaaGreatDoor
open Go.RowKit
section
variable {n b : Nat} {w0 w w' : World} {l l' : List UInt8}
/-- a method's piece, stored into this one's box -/
theorem GiveK.boxed (h : RAt n b w0 w l) {B : Nat} (hB : B ≤ w.heap.size + 1) {d : Option (Tok × List UInt8)} {w1 : World} {kd : Nat} {nm tx : ByteArray} {a : Option Addr} {m c : Nat} {em ok : Bool}
    (hg : GiveK n b (w.alloc zeroT) (w.heap.size + 1) d (.returned (.tuple #[.agg #[.int .i64 (kd : Int), .string nm, .string tx, .slice a m c, .bool em], .bool ok])) w1) :
    GiveK n b w0 B d (.returned (.tuple #[.agg #[.int .i64 (kd : Int), .string nm, .string tx, .slice a m c, .bool em], .bool ok]))
      (((((w1.setCell ⟨w.heap.size, 0, none⟩ (.int .i64 (kd : Int))).setCell ⟨w.heap.size, 1, none⟩ (.string nm)).setCell ⟨w.heap.size, 2, none⟩ (.string tx)).setCell ⟨w.heap.size, 3, none⟩ (.slice a m c)).setCell ⟨w.heap.size, 4, none⟩ (.bool em)) := by
  obtain ⟨kd', nm', tx', a', m', c', em', ok', r, he, hR, hno, hyes⟩ := hg
  refine ⟨kd', nm', tx', a', m', c', em', ok', r, he, (h.back hR).store5 h.since.size _ _ _ _ _, hno, fun t r' e => ?_⟩
  obtain ⟨g1, g2, g3, g4, g5, g6, g7⟩ := hyes t r' e
  exact ⟨g1, g2, g3, g4, g5, g6, owns_mono (owns_store5 g7 (by omega) _ _ _ _ _) hB⟩
theorem GiveK.shape {B : Nat} {d : Option (Tok × List UInt8)} {e : Ending} {w1 : World} (hg : GiveK n b w0 B d e w1) :
    ∃ (kd : Nat) (nm tx : ByteArray) (a : Option Addr) (m c : Nat) (em ok : Bool), e = .returned (.tuple #[.agg #[.int .i64 (kd : Int), .string nm, .string tx, .slice a m c, .bool em], .bool ok]) ∧ GiveK n b w0 B d (.returned (.tuple #[.agg #[.int .i64 (kd : Int), .string nm, .string tx, .slice a m c, .bool em], .bool ok])) w1 := by
  obtain ⟨kd, nm, tx, a, m, c, em, ok, r, rfl, h⟩ := hg
  exact ⟨kd, nm, tx, a, m, c, em, ok, rfl, kd, nm, tx, a, m, c, em, ok, r, rfl, h⟩
theorem GiveK.rat {B : Nat} {d : Option (Tok × List UInt8)} {e : Ending} {w1 : World} (hg : GiveK n b w0 B d e w1) : ∃ r, RAt n b w0 w1 r := by
  obtain ⟨_, _, _, _, _, _, _, _, r, _, h, _⟩ := hg
  exact ⟨r, h⟩
set_option maxHeartbeats 8000000 in
set_option maxRecDepth 100000 in
theorem token_k (h : RAt n b w0 w l) (B : Nat) (hB : B ≤ w.heap.size + 1) : Calls Tryz.prog 76 #[.pointer (some ⟨b, 0, none⟩)] w (GiveK n b w0 B (nextP l)) := by
  have h0 := h.boxed
  have HX := Lib.hid h
  have HBB := Lib.hid hB
  have HB := Lib.hid (fun w' l' (h' : RAt n b (w.alloc zeroT) w' l') => h.box h')
  have HP : Hid (w.heap.size + 1 ≤ (w.alloc zeroT).heap.size) := Lib.hid (by rw [Deep.nblk_alloc]; exact Nat.le_refl _)
  have HN : Hid (nextP l = _) := Lib.hid (by unfold nextP; exact rfl)
  clear h hB
  cases h0x : swB [60, 33, 45, 45] l with
  | true =>
    replace HN : Hid (nextP l = commentP (l.drop 4)) := Lib.hid (by rw [HN.out]; rw [if_pos h0x])
    have C0 : Hid (Calls Tryz.prog 84 #[.pointer (some ⟨b, 0, none⟩), .string (bytes [60, 33, 45, 45])] (w.alloc zeroT) fun e w' => e = .returned (.bool true) ∧ RAt n b (w.alloc zeroT) w' (l.drop 4)) := Lib.hid (take_yes [60, 33, 45, 45] h0 h0x)
    go_enter Tryz.func76, Tryz.ntmps76
    go_wp2_with fail
    refine C0.out.mono ?_
    rintro e v0 ⟨rfl, g0⟩
    have CX := comment_k g0 (w.heap.size + 1)
    have HC := Lib.hid CX
    clear CX g0
    go_wp2_with fail
    refine HC.out.mono ?_
    intro e w2 hg
    obtain ⟨kd, nm, tx, sa, sm, sc, em, ok, rfl, hg⟩ := hg.shape
    obtain ⟨rr, hrr⟩ := hg.rat
    have hr := HB.out _ _ hrr
    have f0 := hr.frozen 0
    have f1 := hr.frozen 1
    have f2 := hr.frozen 2
    have f3 := hr.frozen 3
    have f4 := hr.frozen 4
    have c0 := hr.cell (i := 0) (by decide)
    have c1 := hr.cell (i := 1) (by decide)
    have c2 := hr.cell (i := 2) (by decide)
    have c3 := hr.cell (i := 3) (by decide)
    have c4 := hr.cell (i := 4) (by decide)
    have HR := Lib.hid hr
    have HG := Lib.hid hg
    clear hr hrr hg HC
    go_wp2
    have hs5 := store5 HR.out (.int .i64 (kd : Int)) (.string nm) (.string tx) (.slice sa sm sc) (.bool em)
    have d0 : World.cell? _ ⟨w.heap.size, 0, none⟩ = some (.int .i64 (kd : Int)) := hs5.cell (i := 0) (by decide)
    have d1 : World.cell? _ ⟨w.heap.size, 1, none⟩ = some (.string nm) := hs5.cell (i := 1) (by decide)
    have d2 : World.cell? _ ⟨w.heap.size, 2, none⟩ = some (.string tx) := hs5.cell (i := 2) (by decide)
    have d3 : World.cell? _ ⟨w.heap.size, 3, none⟩ = some (.slice sa sm sc) := hs5.cell (i := 3) (by decide)
    have d4 : World.cell? _ ⟨w.heap.size, 4, none⟩ = some (.bool em) := hs5.cell (i := 4) (by decide)
    refine bodyPost_ret (by simp [results, Tryz.results76, d0, d1, d2, d3, d4, go_sem]; try rfl) rfl ?_
    rw [HN.out]
    exact GiveK.boxed HX.out HBB.out HG.out
  | false =>
    have C0 := Lib.hid (take_no [60, 33, 45, 45] h0 h0x)
    cases h1 : swB [60, 33, 91, 67, 68, 65, 84, 65, 91] l with
    | true =>
      replace HN : Hid (nextP l = cdataP (l.drop 9)) := Lib.hid (by rw [HN.out]; rw [if_neg (show ¬ swB [60, 33, 45, 45] l = true by rw [h0x]; decide), if_pos h1])
      have C1 : Hid (∀ w1, RAt n b (w.alloc zeroT) w1 l → Calls Tryz.prog 84 #[.pointer (some ⟨b, 0, none⟩), .string (bytes [60, 33, 91, 67, 68, 65, 84, 65, 91])] w1 fun e w' => e = .returned (.bool true) ∧ RAt n b (w.alloc zeroT) w' (l.drop 9)) := Lib.hid (fun w1 g => take_yes [60, 33, 91, 67, 68, 65, 84, 65, 91] g h1)
      go_enter Tryz.func76, Tryz.ntmps76
      go_wp2_with fail
      refine C0.out.mono ?_
      rintro e v0 ⟨rfl, g0⟩
      go_wp2_with fail
      refine (C1.out _ g0).mono ?_
      rintro e v1 ⟨rfl, g1⟩
      have CX := cdata_k g1 (w.heap.size + 1)
      have HC := Lib.hid CX
      clear CX g0 g1
      go_wp2_with fail
      refine HC.out.mono ?_
      intro e w2 hg
      obtain ⟨kd, nm, tx, sa, sm, sc, em, ok, rfl, hg⟩ := hg.shape
      obtain ⟨rr, hrr⟩ := hg.rat
      have hr := HB.out _ _ hrr
      have f0 := hr.frozen 0
      have f1 := hr.frozen 1
      have f2 := hr.frozen 2
      have f3 := hr.frozen 3
      have f4 := hr.frozen 4
      have c0 := hr.cell (i := 0) (by decide)
      have c1 := hr.cell (i := 1) (by decide)
      have c2 := hr.cell (i := 2) (by decide)
      have c3 := hr.cell (i := 3) (by decide)
      have c4 := hr.cell (i := 4) (by decide)
      have HR := Lib.hid hr
      have HG := Lib.hid hg
      clear hr hrr hg HC
      go_wp2
      have hs5 := store5 HR.out (.int .i64 (kd : Int)) (.string nm) (.string tx) (.slice sa sm sc) (.bool em)
      have d0 : World.cell? _ ⟨w.heap.size, 0, none⟩ = some (.int .i64 (kd : Int)) := hs5.cell (i := 0) (by decide)
      have d1 : World.cell? _ ⟨w.heap.size, 1, none⟩ = some (.string nm) := hs5.cell (i := 1) (by decide)
      have d2 : World.cell? _ ⟨w.heap.size, 2, none⟩ = some (.string tx) := hs5.cell (i := 2) (by decide)
      have d3 : World.cell? _ ⟨w.heap.size, 3, none⟩ = some (.slice sa sm sc) := hs5.cell (i := 3) (by decide)
      have d4 : World.cell? _ ⟨w.heap.size, 4, none⟩ = some (.bool em) := hs5.cell (i := 4) (by decide)
      refine bodyPost_ret (by simp [results, Tryz.results76, d0, d1, d2, d3, d4, go_sem]; try rfl) rfl ?_
      rw [HN.out]
      exact GiveK.boxed HX.out HBB.out HG.out
    | false =>
      have C1 := Lib.hid (fun w1 (g : RAt n b (w.alloc zeroT) w1 l) => take_no [60, 33, 91, 67, 68, 65, 84, 65, 91] g h1)
      cases h2 : swB [60, 63] l with
      | true =>
        replace HN : Hid (nextP l = piP (l.drop 2)) := Lib.hid (by rw [HN.out]; rw [if_neg (show ¬ swB [60, 33, 45, 45] l = true by rw [h0x]; decide), if_neg (show ¬ swB [60, 33, 91, 67, 68, 65, 84, 65, 91] l = true by rw [h1]; decide), if_pos h2])
        have C2 : Hid (∀ w1, RAt n b (w.alloc zeroT) w1 l → Calls Tryz.prog 84 #[.pointer (some ⟨b, 0, none⟩), .string (bytes [60, 63])] w1 fun e w' => e = .returned (.bool true) ∧ RAt n b (w.alloc zeroT) w' (l.drop 2)) := Lib.hid (fun w1 g => take_yes [60, 63] g h2)
        go_enter Tryz.func76, Tryz.ntmps76
        go_wp2_with fail
        refine C0.out.mono ?_
        rintro e v0 ⟨rfl, g0⟩
        go_wp2_with fail
        refine (C1.out _ g0).mono ?_
        rintro e v1 ⟨rfl, g1⟩
        go_wp2_with fail
        refine (C2.out _ g1).mono ?_
        rintro e v2 ⟨rfl, g2⟩
        have CX := pi_k g2 (w.heap.size + 1)
        have HC := Lib.hid CX
        clear CX g0 g1 g2
        go_wp2_with fail
        refine HC.out.mono ?_
        intro e w2 hg
        obtain ⟨kd, nm, tx, sa, sm, sc, em, ok, rfl, hg⟩ := hg.shape
        obtain ⟨rr, hrr⟩ := hg.rat
        have hr := HB.out _ _ hrr
        have f0 := hr.frozen 0
        have f1 := hr.frozen 1
        have f2 := hr.frozen 2
        have f3 := hr.frozen 3
        have f4 := hr.frozen 4
        have c0 := hr.cell (i := 0) (by decide)
        have c1 := hr.cell (i := 1) (by decide)
        have c2 := hr.cell (i := 2) (by decide)
        have c3 := hr.cell (i := 3) (by decide)
        have c4 := hr.cell (i := 4) (by decide)
        have HR := Lib.hid hr
        have HG := Lib.hid hg
        clear hr hrr hg HC
        go_wp2
        have hs5 := store5 HR.out (.int .i64 (kd : Int)) (.string nm) (.string tx) (.slice sa sm sc) (.bool em)
        have d0 : World.cell? _ ⟨w.heap.size, 0, none⟩ = some (.int .i64 (kd : Int)) := hs5.cell (i := 0) (by decide)
        have d1 : World.cell? _ ⟨w.heap.size, 1, none⟩ = some (.string nm) := hs5.cell (i := 1) (by decide)
        have d2 : World.cell? _ ⟨w.heap.size, 2, none⟩ = some (.string tx) := hs5.cell (i := 2) (by decide)
        have d3 : World.cell? _ ⟨w.heap.size, 3, none⟩ = some (.slice sa sm sc) := hs5.cell (i := 3) (by decide)
        have d4 : World.cell? _ ⟨w.heap.size, 4, none⟩ = some (.bool em) := hs5.cell (i := 4) (by decide)
        refine bodyPost_ret (by simp [results, Tryz.results76, d0, d1, d2, d3, d4, go_sem]; try rfl) rfl ?_
        rw [HN.out]
        exact GiveK.boxed HX.out HBB.out HG.out
      | false =>
        have C2 := Lib.hid (fun w1 (g : RAt n b (w.alloc zeroT) w1 l) => take_no [60, 63] g h2)
        cases h3 : swB [60, 47] l with
        | true =>
          replace HN : Hid (nextP l = endP (l.drop 2)) := Lib.hid (by rw [HN.out]; rw [if_neg (show ¬ swB [60, 33, 45, 45] l = true by rw [h0x]; decide), if_neg (show ¬ swB [60, 33, 91, 67, 68, 65, 84, 65, 91] l = true by rw [h1]; decide), if_neg (show ¬ swB [60, 63] l = true by rw [h2]; decide), if_pos h3])
          have C3 : Hid (∀ w1, RAt n b (w.alloc zeroT) w1 l → Calls Tryz.prog 84 #[.pointer (some ⟨b, 0, none⟩), .string (bytes [60, 47])] w1 fun e w' => e = .returned (.bool true) ∧ RAt n b (w.alloc zeroT) w' (l.drop 2)) := Lib.hid (fun w1 g => take_yes [60, 47] g h3)
          go_enter Tryz.func76, Tryz.ntmps76
          go_wp2_with fail
          refine C0.out.mono ?_
          rintro e v0 ⟨rfl, g0⟩
          go_wp2_with fail
          refine (C1.out _ g0).mono ?_
          rintro e v1 ⟨rfl, g1⟩
          go_wp2_with fail
          refine (C2.out _ g1).mono ?_
          rintro e v2 ⟨rfl, g2⟩
          go_wp2_with fail
          refine (C3.out _ g2).mono ?_
          rintro e v3 ⟨rfl, g3⟩
          have CX := end_k g3 (w.heap.size + 1)
          have HC := Lib.hid CX
          clear CX g0 g1 g2 g3
          go_wp2_with fail
          refine HC.out.mono ?_
          intro e w2 hg
          obtain ⟨kd, nm, tx, sa, sm, sc, em, ok, rfl, hg⟩ := hg.shape
          obtain ⟨rr, hrr⟩ := hg.rat
          have hr := HB.out _ _ hrr
          have f0 := hr.frozen 0
          have f1 := hr.frozen 1
          have f2 := hr.frozen 2
          have f3 := hr.frozen 3
          have f4 := hr.frozen 4
          have c0 := hr.cell (i := 0) (by decide)
          have c1 := hr.cell (i := 1) (by decide)
          have c2 := hr.cell (i := 2) (by decide)
          have c3 := hr.cell (i := 3) (by decide)
          have c4 := hr.cell (i := 4) (by decide)
          have HR := Lib.hid hr
          have HG := Lib.hid hg
          clear hr hrr hg HC
          go_wp2
          have hs5 := store5 HR.out (.int .i64 (kd : Int)) (.string nm) (.string tx) (.slice sa sm sc) (.bool em)
          have d0 : World.cell? _ ⟨w.heap.size, 0, none⟩ = some (.int .i64 (kd : Int)) := hs5.cell (i := 0) (by decide)
          have d1 : World.cell? _ ⟨w.heap.size, 1, none⟩ = some (.string nm) := hs5.cell (i := 1) (by decide)
          have d2 : World.cell? _ ⟨w.heap.size, 2, none⟩ = some (.string tx) := hs5.cell (i := 2) (by decide)
          have d3 : World.cell? _ ⟨w.heap.size, 3, none⟩ = some (.slice sa sm sc) := hs5.cell (i := 3) (by decide)
          have d4 : World.cell? _ ⟨w.heap.size, 4, none⟩ = some (.bool em) := hs5.cell (i := 4) (by decide)
          refine bodyPost_ret (by simp [results, Tryz.results76, d0, d1, d2, d3, d4, go_sem]; try rfl) rfl ?_
          rw [HN.out]
          exact GiveK.boxed HX.out HBB.out HG.out
        | false =>
          have C3 := Lib.hid (fun w1 (g : RAt n b (w.alloc zeroT) w1 l) => take_no [60, 47] g h3)
          cases h4 : swB [60] l with
          | true =>
            replace HN : Hid (nextP l = startP (l.drop 1)) := Lib.hid (by rw [HN.out]; rw [if_neg (show ¬ swB [60, 33, 45, 45] l = true by rw [h0x]; decide), if_neg (show ¬ swB [60, 33, 91, 67, 68, 65, 84, 65, 91] l = true by rw [h1]; decide), if_neg (show ¬ swB [60, 63] l = true by rw [h2]; decide), if_neg (show ¬ swB [60, 47] l = true by rw [h3]; decide), if_pos h4])
            have C4 : Hid (∀ w1, RAt n b (w.alloc zeroT) w1 l → Calls Tryz.prog 84 #[.pointer (some ⟨b, 0, none⟩), .string (bytes [60])] w1 fun e w' => e = .returned (.bool true) ∧ RAt n b (w.alloc zeroT) w' (l.drop 1)) := Lib.hid (fun w1 g => take_yes [60] g h4)
            go_enter Tryz.func76, Tryz.ntmps76
            go_wp2_with fail
            refine C0.out.mono ?_
            rintro e v0 ⟨rfl, g0⟩
            go_wp2_with fail
            refine (C1.out _ g0).mono ?_
            rintro e v1 ⟨rfl, g1⟩
            go_wp2_with fail
            refine (C2.out _ g1).mono ?_
            rintro e v2 ⟨rfl, g2⟩
            go_wp2_with fail
            refine (C3.out _ g2).mono ?_
            rintro e v3 ⟨rfl, g3⟩
            go_wp2_with fail
            refine (C4.out _ g3).mono ?_
            rintro e v4 ⟨rfl, g4⟩
            have CX := start_k g4 (w.heap.size + 1) (Nat.le_trans HP.out g4.since.size)
            have HC := Lib.hid CX
            clear CX g0 g1 g2 g3 g4
            go_wp2_with fail
            refine HC.out.mono ?_
            intro e w2 hg
            obtain ⟨kd, nm, tx, sa, sm, sc, em, ok, rfl, hg⟩ := hg.shape
            obtain ⟨rr, hrr⟩ := hg.rat
            have hr := HB.out _ _ hrr
            have f0 := hr.frozen 0
            have f1 := hr.frozen 1
            have f2 := hr.frozen 2
            have f3 := hr.frozen 3
            have f4 := hr.frozen 4
            have c0 := hr.cell (i := 0) (by decide)
            have c1 := hr.cell (i := 1) (by decide)
            have c2 := hr.cell (i := 2) (by decide)
            have c3 := hr.cell (i := 3) (by decide)
            have c4 := hr.cell (i := 4) (by decide)
            have HR := Lib.hid hr
            have HG := Lib.hid hg
            clear hr hrr hg HC
            go_wp2
            have hs5 := store5 HR.out (.int .i64 (kd : Int)) (.string nm) (.string tx) (.slice sa sm sc) (.bool em)
            have d0 : World.cell? _ ⟨w.heap.size, 0, none⟩ = some (.int .i64 (kd : Int)) := hs5.cell (i := 0) (by decide)
            have d1 : World.cell? _ ⟨w.heap.size, 1, none⟩ = some (.string nm) := hs5.cell (i := 1) (by decide)
            have d2 : World.cell? _ ⟨w.heap.size, 2, none⟩ = some (.string tx) := hs5.cell (i := 2) (by decide)
            have d3 : World.cell? _ ⟨w.heap.size, 3, none⟩ = some (.slice sa sm sc) := hs5.cell (i := 3) (by decide)
            have d4 : World.cell? _ ⟨w.heap.size, 4, none⟩ = some (.bool em) := hs5.cell (i := 4) (by decide)
            refine bodyPost_ret (by simp [results, Tryz.results76, d0, d1, d2, d3, d4, go_sem]; try rfl) rfl ?_
            rw [HN.out]
            exact GiveK.boxed HX.out HBB.out HG.out
          | false =>
            have C4 := Lib.hid (fun w1 (g : RAt n b (w.alloc zeroT) w1 l) => take_no [60] g h4)
            cases h5 : swB [38, 35] l with
            | true =>
              replace HN : Hid (nextP l = charP (l.drop 2)) := Lib.hid (by rw [HN.out]; rw [if_neg (show ¬ swB [60, 33, 45, 45] l = true by rw [h0x]; decide), if_neg (show ¬ swB [60, 33, 91, 67, 68, 65, 84, 65, 91] l = true by rw [h1]; decide), if_neg (show ¬ swB [60, 63] l = true by rw [h2]; decide), if_neg (show ¬ swB [60, 47] l = true by rw [h3]; decide), if_neg (show ¬ swB [60] l = true by rw [h4]; decide), if_pos h5])
              have C5 : Hid (∀ w1, RAt n b (w.alloc zeroT) w1 l → Calls Tryz.prog 84 #[.pointer (some ⟨b, 0, none⟩), .string (bytes [38, 35])] w1 fun e w' => e = .returned (.bool true) ∧ RAt n b (w.alloc zeroT) w' (l.drop 2)) := Lib.hid (fun w1 g => take_yes [38, 35] g h5)
              go_enter Tryz.func76, Tryz.ntmps76
              go_wp2_with fail
              refine C0.out.mono ?_
              rintro e v0 ⟨rfl, g0⟩
              go_wp2_with fail
              refine (C1.out _ g0).mono ?_
              rintro e v1 ⟨rfl, g1⟩
              go_wp2_with fail
              refine (C2.out _ g1).mono ?_
              rintro e v2 ⟨rfl, g2⟩
              go_wp2_with fail
              refine (C3.out _ g2).mono ?_
              rintro e v3 ⟨rfl, g3⟩
              go_wp2_with fail
              refine (C4.out _ g3).mono ?_
              rintro e v4 ⟨rfl, g4⟩
              go_wp2_with fail
              refine (C5.out _ g4).mono ?_
              rintro e v5 ⟨rfl, g5⟩
              have CX := char_k g5 (w.heap.size + 1)
              have HC := Lib.hid CX
              clear CX g0 g1 g2 g3 g4 g5
              go_wp2_with fail
              refine HC.out.mono ?_
              intro e w2 hg
              obtain ⟨kd, nm, tx, sa, sm, sc, em, ok, rfl, hg⟩ := hg.shape
              obtain ⟨rr, hrr⟩ := hg.rat
              have hr := HB.out _ _ hrr
              have f0 := hr.frozen 0
              have f1 := hr.frozen 1
              have f2 := hr.frozen 2
              have f3 := hr.frozen 3
              have f4 := hr.frozen 4
              have c0 := hr.cell (i := 0) (by decide)
              have c1 := hr.cell (i := 1) (by decide)
              have c2 := hr.cell (i := 2) (by decide)
              have c3 := hr.cell (i := 3) (by decide)
              have c4 := hr.cell (i := 4) (by decide)
              have HR := Lib.hid hr
              have HG := Lib.hid hg
              clear hr hrr hg HC
              go_wp2
              have hs5 := store5 HR.out (.int .i64 (kd : Int)) (.string nm) (.string tx) (.slice sa sm sc) (.bool em)
              have d0 : World.cell? _ ⟨w.heap.size, 0, none⟩ = some (.int .i64 (kd : Int)) := hs5.cell (i := 0) (by decide)
              have d1 : World.cell? _ ⟨w.heap.size, 1, none⟩ = some (.string nm) := hs5.cell (i := 1) (by decide)
              have d2 : World.cell? _ ⟨w.heap.size, 2, none⟩ = some (.string tx) := hs5.cell (i := 2) (by decide)
              have d3 : World.cell? _ ⟨w.heap.size, 3, none⟩ = some (.slice sa sm sc) := hs5.cell (i := 3) (by decide)
              have d4 : World.cell? _ ⟨w.heap.size, 4, none⟩ = some (.bool em) := hs5.cell (i := 4) (by decide)
              refine bodyPost_ret (by simp [results, Tryz.results76, d0, d1, d2, d3, d4, go_sem]; try rfl) rfl ?_
              rw [HN.out]
              exact GiveK.boxed HX.out HBB.out HG.out
            | false =>
              have C5 := Lib.hid (fun w1 (g : RAt n b (w.alloc zeroT) w1 l) => take_no [38, 35] g h5)
              cases h6 : swB [38] l with
              | true =>
                replace HN : Hid (nextP l = refP (l.drop 1)) := Lib.hid (by rw [HN.out]; rw [if_neg (show ¬ swB [60, 33, 45, 45] l = true by rw [h0x]; decide), if_neg (show ¬ swB [60, 33, 91, 67, 68, 65, 84, 65, 91] l = true by rw [h1]; decide), if_neg (show ¬ swB [60, 63] l = true by rw [h2]; decide), if_neg (show ¬ swB [60, 47] l = true by rw [h3]; decide), if_neg (show ¬ swB [60] l = true by rw [h4]; decide), if_neg (show ¬ swB [38, 35] l = true by rw [h5]; decide), if_pos h6])
                have C6 : Hid (∀ w1, RAt n b (w.alloc zeroT) w1 l → Calls Tryz.prog 84 #[.pointer (some ⟨b, 0, none⟩), .string (bytes [38])] w1 fun e w' => e = .returned (.bool true) ∧ RAt n b (w.alloc zeroT) w' (l.drop 1)) := Lib.hid (fun w1 g => take_yes [38] g h6)
                go_enter Tryz.func76, Tryz.ntmps76
                go_wp2_with fail
                refine C0.out.mono ?_
                rintro e v0 ⟨rfl, g0⟩
                go_wp2_with fail
                refine (C1.out _ g0).mono ?_
                rintro e v1 ⟨rfl, g1⟩
                go_wp2_with fail
                refine (C2.out _ g1).mono ?_
                rintro e v2 ⟨rfl, g2⟩
                go_wp2_with fail
                refine (C3.out _ g2).mono ?_
                rintro e v3 ⟨rfl, g3⟩
                go_wp2_with fail
                refine (C4.out _ g3).mono ?_
                rintro e v4 ⟨rfl, g4⟩
                go_wp2_with fail
                refine (C5.out _ g4).mono ?_
                rintro e v5 ⟨rfl, g5⟩
                go_wp2_with fail
                refine (C6.out _ g5).mono ?_
                rintro e v6 ⟨rfl, g6⟩
                have CX := ref_k g6 (w.heap.size + 1)
                have HC := Lib.hid CX
                clear CX g0 g1 g2 g3 g4 g5 g6
                go_wp2_with fail
                refine HC.out.mono ?_
                intro e w2 hg
                obtain ⟨kd, nm, tx, sa, sm, sc, em, ok, rfl, hg⟩ := hg.shape
                obtain ⟨rr, hrr⟩ := hg.rat
                have hr := HB.out _ _ hrr
                have f0 := hr.frozen 0
                have f1 := hr.frozen 1
                have f2 := hr.frozen 2
                have f3 := hr.frozen 3
                have f4 := hr.frozen 4
                have c0 := hr.cell (i := 0) (by decide)
                have c1 := hr.cell (i := 1) (by decide)
                have c2 := hr.cell (i := 2) (by decide)
                have c3 := hr.cell (i := 3) (by decide)
                have c4 := hr.cell (i := 4) (by decide)
                have HR := Lib.hid hr
                have HG := Lib.hid hg
                clear hr hrr hg HC
                go_wp2
                have hs5 := store5 HR.out (.int .i64 (kd : Int)) (.string nm) (.string tx) (.slice sa sm sc) (.bool em)
                have d0 : World.cell? _ ⟨w.heap.size, 0, none⟩ = some (.int .i64 (kd : Int)) := hs5.cell (i := 0) (by decide)
                have d1 : World.cell? _ ⟨w.heap.size, 1, none⟩ = some (.string nm) := hs5.cell (i := 1) (by decide)
                have d2 : World.cell? _ ⟨w.heap.size, 2, none⟩ = some (.string tx) := hs5.cell (i := 2) (by decide)
                have d3 : World.cell? _ ⟨w.heap.size, 3, none⟩ = some (.slice sa sm sc) := hs5.cell (i := 3) (by decide)
                have d4 : World.cell? _ ⟨w.heap.size, 4, none⟩ = some (.bool em) := hs5.cell (i := 4) (by decide)
                refine bodyPost_ret (by simp [results, Tryz.results76, d0, d1, d2, d3, d4, go_sem]; try rfl) rfl ?_
                rw [HN.out]
                exact GiveK.boxed HX.out HBB.out HG.out
              | false =>
                have C6 := Lib.hid (fun w1 (g : RAt n b (w.alloc zeroT) w1 l) => take_no [38] g h6)
                replace HN : Hid (nextP l = plainP l) := Lib.hid (by rw [HN.out]; rw [if_neg (show ¬ swB [60, 33, 45, 45] l = true by rw [h0x]; decide), if_neg (show ¬ swB [60, 33, 91, 67, 68, 65, 84, 65, 91] l = true by rw [h1]; decide), if_neg (show ¬ swB [60, 63] l = true by rw [h2]; decide), if_neg (show ¬ swB [60, 47] l = true by rw [h3]; decide), if_neg (show ¬ swB [60] l = true by rw [h4]; decide), if_neg (show ¬ swB [38, 35] l = true by rw [h5]; decide), if_neg (show ¬ swB [38] l = true by rw [h6]; decide)])
                go_enter Tryz.func76, Tryz.ntmps76
                go_wp2_with fail
                refine C0.out.mono ?_
                rintro e v0 ⟨rfl, g0⟩
                go_wp2_with fail
                refine (C1.out _ g0).mono ?_
                rintro e v1 ⟨rfl, g1⟩
                go_wp2_with fail
                refine (C2.out _ g1).mono ?_
                rintro e v2 ⟨rfl, g2⟩
                go_wp2_with fail
                refine (C3.out _ g2).mono ?_
                rintro e v3 ⟨rfl, g3⟩
                go_wp2_with fail
                refine (C4.out _ g3).mono ?_
                rintro e v4 ⟨rfl, g4⟩
                go_wp2_with fail
                refine (C5.out _ g4).mono ?_
                rintro e v5 ⟨rfl, g5⟩
                go_wp2_with fail
                refine (C6.out _ g5).mono ?_
                rintro e v6 ⟨rfl, g6⟩
                have CX := text_k g6 (w.heap.size + 1)
                have HC := Lib.hid CX
                clear CX g0 g1 g2 g3 g4 g5 g6
                go_wp2_with fail
                refine HC.out.mono ?_
                intro e w2 hg
                obtain ⟨kd, nm, tx, sa, sm, sc, em, ok, rfl, hg⟩ := hg.shape
                obtain ⟨rr, hrr⟩ := hg.rat
                have hr := HB.out _ _ hrr
                have f0 := hr.frozen 0
                have f1 := hr.frozen 1
                have f2 := hr.frozen 2
                have f3 := hr.frozen 3
                have f4 := hr.frozen 4
                have c0 := hr.cell (i := 0) (by decide)
                have c1 := hr.cell (i := 1) (by decide)
                have c2 := hr.cell (i := 2) (by decide)
                have c3 := hr.cell (i := 3) (by decide)
                have c4 := hr.cell (i := 4) (by decide)
                have HR := Lib.hid hr
                have HG := Lib.hid hg
                clear hr hrr hg HC
                go_wp2
                have hs5 := store5 HR.out (.int .i64 (kd : Int)) (.string nm) (.string tx) (.slice sa sm sc) (.bool em)
                have d0 : World.cell? _ ⟨w.heap.size, 0, none⟩ = some (.int .i64 (kd : Int)) := hs5.cell (i := 0) (by decide)
                have d1 : World.cell? _ ⟨w.heap.size, 1, none⟩ = some (.string nm) := hs5.cell (i := 1) (by decide)
                have d2 : World.cell? _ ⟨w.heap.size, 2, none⟩ = some (.string tx) := hs5.cell (i := 2) (by decide)
                have d3 : World.cell? _ ⟨w.heap.size, 3, none⟩ = some (.slice sa sm sc) := hs5.cell (i := 3) (by decide)
                have d4 : World.cell? _ ⟨w.heap.size, 4, none⟩ = some (.bool em) := hs5.cell (i := 4) (by decide)
                refine bodyPost_ret (by simp [results, Tryz.results76, d0, d1, d2, d3, d4, go_sem]; try rfl) rfl ?_
                rw [HN.out]
                exact GiveK.boxed HX.out HBB.out HG.out
end
end Go.Proofs.YtjijjmkeehdooaaGreatDoor
