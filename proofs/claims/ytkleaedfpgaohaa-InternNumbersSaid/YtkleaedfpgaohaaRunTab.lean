/-
  THE LANDED PACKAGE intern MEETS WHAT THE LAWS OF LAYER 9 ASK OF IT (TabSaid).
-/
import Derived.Test.YtkleaedfpgaohaaRunTAdd
import Derived.Deep.RegionHeld3
namespace Go.Proofs.Ytkleaedfpgaohaa
open Go.RowKit

/-- where a table lies -/
def GF (p r t u q : Nat) (a : Option Addr) (k : Nat) : Prop := k = p ∨ k = r ∨ k = t ∨ k = u ∨ k = q ∨ ∃ g, a = some g ∧ k = g.block
/-- A TABLE, in the blocks of F. -/
def IsT (F : Nat → Prop) (w : World) (v : Value) (L : List ByteArray) (P : List Nat) (n : Int) : Prop :=
  ∃ (p r t u q : Nat) (a : Option Addr) (c : Nat), v = .pointer (some ⟨p, 0, none⟩) ∧ (∀ k, F k ↔ GF p r t u q a k) ∧ GAt p r t u q a c L P n w
section
variable {p r t u q : Nat} {a : Option Addr} {c : Nat} {L : List ByteArray} {P : List Nat} {n : Int} {w w' : World}
theorem GAt.tp (h : GAt p r t u q a c L P n w) : t ≠ p := rowIs_ne h.tx.box h.tab (by decide)
theorem GAt.tr (h : GAt p r t u q a c L P n w) : t ≠ r := rowIs_ne h.tx.box h.parts (by decide)
theorem GAt.tu (h : GAt p r t u q a c L P n w) : t ≠ u := rowIs_ne h.tx.box h.pl.box (by decide)
theorem GAt.tq (h : GAt p r t u q a c L P n w) : t ≠ q := rowIs_ne h.tx.box h.pl.row (by decide)
theorem GAt.qp (h : GAt p r t u q a c L P n w) : q ≠ p := rowIs_ne h.pl.row h.tab (by decide)
theorem GAt.qr (h : GAt p r t u q a c L P n w) : q ≠ r := rowIs_ne h.pl.row h.parts (by decide)
theorem GAt.ga (h : GAt p r t u q a c L P n w) : ∀ g, a = some g → g.block ≠ p ∧ g.block ≠ r ∧ g.block ≠ t ∧ g.block ≠ u ∧ g.block ≠ q ∧ g.block < w.heap.size := fun g hg =>
  ⟨own_ne h.tab h.tx.own (by decide) g hg, own_ne h.parts h.tx.own (by decide) g hg, own_ne h.tx.box h.tx.own (by decide) g hg, own_ne h.pl.box h.tx.own (by decide) g hg, own_ne h.pl.row h.tx.own (by decide) g hg, by
    subst hg
    exact (h.tx.own.lt g.block rfl).2⟩
/-- the texts have become others -/
theorem GAt.texts {a2 : Option Addr} {c2 : Nat} {L2 : List ByteArray} (h : GAt p r t u q a c L P n w) (hx : TxAt t a2 c2 L2 w') (ht : Turns (fun k => k = t ∨ ∃ g, a = some g ∧ k = g.block) w w') : GAt p r t u q a2 c2 L2 P n w' := by
  have hk : ∀ b, b < w.heap.size → b ≠ t → (∀ g, a = some g → g.block ≠ b) → w'.heap[b]? = w.heap[b]? := fun b hb h1 h2 => ht.block b hb (by
    rintro (h3 | ⟨g, h3, h4⟩)
    · exact h1 h3
    · exact h2 g h3 h4.symm)
  exact ⟨h.tab.of_block (hk p h.tab.lt h.tp.symm fun g hg => (h.ga g hg).1), h.parts.of_block (hk r h.parts.lt h.tr.symm fun g hg => (h.ga g hg).2.1), hx,
    h.pl.keep (hk u h.pl.box.lt h.tu.symm fun g hg => (h.ga g hg).2.2.2.1) (hk q h.pl.row.lt h.tq.symm fun g hg => (h.ga g hg).2.2.2.2.1)⟩
/-- the places have become others -/
theorem GAt.places {P2 : List Nat} (h : GAt p r t u q a c L P n w) (hp : PlAt u q P2 w') (ht : Turns (fun k => k = q) w w') : GAt p r t u q a c L P2 n w' :=
  ⟨h.tab.of_block (ht.block p h.tab.lt h.qp.symm), h.parts.of_block (ht.block r h.parts.lt h.qr.symm), h.tx.keep (ht.block t h.tx.box.lt h.tq) (fun g hg => ht.block g.block (h.ga g hg).2.2.2.2.2 (h.ga g hg).2.2.2.2.1), hp⟩
/-- new places are stored -/
theorem GAt.anew {u2 q2 : Nat} {P2 : List Nat} (h : GAt p r t u q a c L P n w) (hp : PlAt u2 q2 P2 w) : GAt p r t u2 q2 a c L P2 n (w.setCell ⟨r, 1, none⟩ (.iface 50 (.pointer (some ⟨u2, 0, none⟩)))) := by
  refine ⟨h.tab.setOther (a := ⟨r, 1, none⟩) h.pr _, (World.rowIs.set h.parts 1 _).congr fun i hi => ?_, h.tx.keep (Below.heap_setCell _ _ _ _ h.tr) (fun g hg => Below.heap_setCell _ _ _ _ (h.ga g hg).2.1),
    hp.keep (Below.heap_setCell _ _ _ _ (rowIs_ne hp.box h.parts (by decide))) (Below.heap_setCell _ _ _ _ (rowIs_ne hp.row h.parts (by decide)))⟩
  rcases (show i = 0 ∨ i = 1 by omega) with rfl | rfl <;> rfl
end
theorem isT_keep (F : Nat → Prop) (w w' : World) (v : Value) (L : List ByteArray) (P : List Nat) (n : Int) (h : IsT F w v L P n) (_ : w.heap.size ≤ w'.heap.size) (hk : ∀ k, F k → w'.heap[k]? = w.heap[k]?) : IsT F w' v L P n := by
  obtain ⟨p, r, t, u, q, a, c, rfl, hF, h⟩ := h
  exact ⟨p, r, t, u, q, a, c, rfl, hF, h.keep (hk _ ((hF p).2 (Or.inl rfl))) (hk _ ((hF r).2 (Or.inr (Or.inl rfl)))) (hk _ ((hF t).2 (Or.inr (Or.inr (Or.inl rfl))))) (hk _ ((hF u).2 (Or.inr (Or.inr (Or.inr (Or.inl rfl)))))) (hk _ ((hF q).2 (Or.inr (Or.inr (Or.inr (Or.inr (Or.inl rfl))))))) fun g hg => hk _ ((hF g.block).2 (Or.inr (Or.inr (Or.inr (Or.inr (Or.inr ⟨g, hg, rfl⟩))))))⟩
theorem isT_in (F : Nat → Prop) (w : World) (v : Value) (L : List ByteArray) (P : List Nat) (n : Int) (h : IsT F w v L P n) : ∀ k, F k → k < w.heap.size := by
  obtain ⟨p, r, t, u, q, a, c, rfl, hF, h⟩ := h
  intro k hk
  rcases (hF k).1 hk with rfl | rfl | rfl | rfl | rfl | ⟨g, hg, rfl⟩
  · exact h.tab.lt
  · exact h.parts.lt
  · exact h.tx.box.lt
  · exact h.pl.box.lt
  · exact h.pl.row.lt
  · exact (h.ga g hg).2.2.2.2.2
set_option maxHeartbeats 1000000 in
set_option maxRecDepth 100000 in
theorem rtLooked_any {p r t u q : Nat} {a : Option Addr} {c : Nat} {L : List ByteArray} {P : List Nat} {n : Int} {w : World} (h : GAt p r t u q a c L P n w) :
    Calls Try.prog 15 #[.pointer (some ⟨p, 0, none⟩)] w fun e w' => e = .returned (.int .i64 n) ∧ w = w' := by
  have c1 := h.c1
  clear h
  go_enter Try.func15, Try.ntmps15
  go_wp2
  go_ret
  exact ⟨rfl, rfl⟩
set_option maxHeartbeats 1000000 in
set_option maxRecDepth 100000 in
theorem rtLen_any {p r t u q : Nat} {a : Option Addr} {c : Nat} {L : List ByteArray} {P : List Nat} {n : Int} {w : World} (h : GAt p r t u q a c L P n w) :
    Calls Try.prog 16 #[.pointer (some ⟨p, 0, none⟩)] w fun e w' => e = .returned (.int .i64 L.length) ∧ w = w' := by
  have c0 := h.c0
  have C1 := Lib.hid (rtexts_any h)
  have C2 := Lib.hid (rtcount_any h.tx)
  clear h
  generalize L.length = m at *
  go_enter Try.func16, Try.ntmps16
  go_wp2_with fail
  refine C1.out.mono ?_
  rintro o w2 ⟨rfl, rfl⟩
  go_wp2_with fail
  refine C2.out.mono ?_
  rintro o w2 ⟨rfl, rfl⟩
  go_wp2
  go_ret
  exact ⟨rfl, rfl⟩
set_option maxHeartbeats 1000000 in
set_option maxRecDepth 100000 in
theorem rtLenNil_any (w : World) : Calls Try.prog 16 #[.pointer none] w fun e w' => e = .returned (.int .i64 0) ∧ w = w' := by
  go_enter Try.func16, Try.ntmps16
  go_wp2
  go_ret
  exact ⟨rfl, rfl⟩
set_option maxHeartbeats 1000000 in
set_option maxRecDepth 100000 in
theorem rtPutNil_any (s : ByteArray) (w : World) : Calls Try.prog 13 #[.pointer none, .string s] w fun e w' => e = .returned (.int .i64 (-1)) ∧ w = w' := by
  go_enter Try.func13, Try.ntmps13
  go_wp2
  go_ret
  exact ⟨rfl, rfl⟩
set_option maxHeartbeats 1000000 in
set_option maxRecDepth 100000 in
theorem rtGet_any {p r t u q : Nat} {a : Option Addr} {c : Nat} {L : List ByteArray} {P : List Nat} {n : Int} {w : World} (h : GAt p r t u q a c L P n w) (k : Int) (hk : Fits64 k) (hls : ∀ j, (textAt L j).size ≤ 1048576) :
    Calls Try.prog 18 #[.pointer (some ⟨p, 0, none⟩), .int .i64 k] w fun e w' => e = .returned (.tuple #[.string (textG L k), .int .i64 (textE L k)]) ∧ Below w.heap.size w w' := by
  have C0 := Lib.hid (rtLen_any h)
  by_cases h0 : k < 0
  · rw [textG_out L k (by omega), textE_out L k (by omega)]
    have g1 : decide (k < 0) = true := decide_eq_true h0
    clear h
    go_enter Try.func18, Try.ntmps18
    go_wp2
    go_ret2
    exact ⟨rfl, Below.refl _ _⟩
  · obtain ⟨j, rfl⟩ := Int.eq_ofNat_of_zero_le (show 0 ≤ k by omega)
    have g1 : decide ((j : Int) < 0) = false := decide_eq_false h0
    by_cases h1 : j < L.length
    · rw [textG_at L j h1, textE_at L j h1]
      have C1 := Lib.hid (rtexts_any h)
      have C2 := Lib.hid (rtat_any h.tx j h1)
      have C3 := Lib.hid (rclone_any (textAt L j) w (by have := hls j; omega))
      have g2 : decide ((L.length : Int) ≤ (j : Int)) = false := decide_eq_false (by omega)
      have g3 : decide (L.length ≤ j) = false := decide_eq_false (by omega)
      clear h
      generalize textAt L j = tx at *
      generalize L.length = m at *
      go_enter Try.func18, Try.ntmps18
      go_wp2_with fail
      refine C0.out.mono ?_
      rintro o w2 ⟨rfl, rfl⟩
      go_wp2_with fail
      refine C1.out.mono ?_
      rintro o w2 ⟨rfl, rfl⟩
      go_wp2_with fail
      refine C2.out.mono ?_
      rintro o w2 ⟨rfl, rfl⟩
      go_wp2_with fail
      refine C3.out.mono ?_
      rintro o w2 ⟨rfl, hb⟩
      go_wp2
      go_ret2
      exact ⟨rfl, hb⟩
    · rw [textG_out L j (by omega), textE_out L j (by omega)]
      have g2 : decide ((L.length : Int) ≤ (j : Int)) = true := decide_eq_true (by omega)
      have g3 : decide (L.length ≤ j) = true := decide_eq_true (by omega)
      clear h
      generalize L.length = m at *
      go_enter Try.func18, Try.ntmps18
      go_wp2_with fail
      refine C0.out.mono ?_
      rintro o w2 ⟨rfl, rfl⟩
      go_wp2
      go_ret2
      exact ⟨rfl, Below.refl _ _⟩
set_option maxHeartbeats 1000000 in
set_option maxRecDepth 100000 in
theorem rtFind_any {p r t u q : Nat} {a : Option Addr} {c : Nat} {L : List ByteArray} {P : List Nat} {n : Int} {w : World} (s : ByteArray) (h : GAt p r t u q a c L P n w) (hG : Good L P) (hm : P.length ≤ 16777216) (hs : s.size ≤ 1048576) :
    Calls Try.prog 11 #[.pointer (some ⟨p, 0, none⟩), .string s] w fun e w' => e = .returned (.tuple #[.int .i64 (slotT P L s - 1 : Nat), .bool (decide (slotT P L s ≠ 0))]) ∧ GAt p r t u q a c L P ((lookT P L s).2 : Nat) w' ∧ Turns (fun k => k = p) w w' := by
  have C1 := Lib.hid (rlook_any s h hG hm hs)
  obtain ⟨h1, _, _, h4⟩ := look_in hG s
  have hlL : L.length ≤ 8388608 := by have := hG.half; omega
  have C2 := Lib.hid (fun W (hp : PlAt u q P W) => rat_any u q P (lookT P L s).1 W hp h1 (by show slotT P L s ≤ _; omega))
  rw [show valAt P (lookT P L s).1 = slotT P L s from rfl] at C2
  generalize (lookT P L s).1 = at1 at *
  generalize (lookT P L s).2 = nn at *
  generalize slotT P L s = x at *
  generalize decide (x ≠ 0) = bx at *
  generalize x - 1 = y at *
  clear h
  go_enter Try.func11, Try.ntmps11
  go_wp2_with fail
  refine C1.out.mono ?_
  rintro o w1 ⟨rfl, hg1, ht1⟩
  have C3 := Lib.hid (rplaces_any hg1)
  have C4 := Lib.hid (C2.out w1 hg1.pl)
  have HG1 := Lib.hid hg1
  have HT1 := Lib.hid ht1
  clear hg1 ht1 C1 C2
  go_wp2_with fail
  refine C3.out.mono ?_
  rintro o w2 ⟨rfl, rfl⟩
  go_wp2_with fail
  refine C4.out.mono ?_
  rintro o w2 ⟨rfl, rfl⟩
  go_wp2
  go_ret2
  exact ⟨rfl, HG1.out, HT1.out⟩
set_option maxHeartbeats 1000000 in
set_option maxRecDepth 100000 in
theorem rtPutOld_any {p r t u q : Nat} {a : Option Addr} {c : Nat} {L : List ByteArray} {P : List Nat} {n : Int} {w : World} (s : ByteArray) (h : GAt p r t u q a c L P n w) (hG : Good L P) (hm : P.length ≤ 16777216) (hs : s.size ≤ 1048576) (hx : slotT P L s ≠ 0) :
    Calls Try.prog 13 #[.pointer (some ⟨p, 0, none⟩), .string s] w fun e w' => e = .returned (.int .i64 (slotT P L s - 1 : Nat)) ∧ GAt p r t u q a c L P ((lookT P L s).2 : Nat) w' ∧ Turns (fun k => k = p) w w' := by
  have C1 := Lib.hid (rlook_any s h hG hm hs)
  obtain ⟨h1, _, _, h4⟩ := look_in hG s
  have hlL : L.length ≤ 8388608 := by have := hG.half; omega
  have C2 := Lib.hid (fun W (hp : PlAt u q P W) => rat_any u q P (lookT P L s).1 W hp h1 (by show slotT P L s ≤ _; omega))
  rw [show valAt P (lookT P L s).1 = slotT P L s from rfl, decide_eq_true hx] at C2
  generalize (lookT P L s).1 = at1 at *
  generalize (lookT P L s).2 = nn at *
  generalize slotT P L s = x at *
  generalize x - 1 = y at *
  clear h
  go_enter Try.func13, Try.ntmps13
  go_wp2_with fail
  refine C1.out.mono ?_
  rintro o w1 ⟨rfl, hg1, ht1⟩
  have C3 := Lib.hid (rplaces_any hg1)
  have C4 := Lib.hid (C2.out w1 hg1.pl)
  have HG1 := Lib.hid hg1
  have HT1 := Lib.hid ht1
  clear hg1 ht1 C1 C2
  go_wp2_with fail
  refine C3.out.mono ?_
  rintro o w2 ⟨rfl, rfl⟩
  go_wp2_with fail
  refine C4.out.mono ?_
  rintro o w2 ⟨rfl, rfl⟩
  go_wp2
  go_ret
  exact ⟨rfl, HG1.out, HT1.out⟩
/-- what a call that adds may turn -/
def AddF (r t q : Nat) (a : Option Addr) (k : Nat) : Prop := k = r ∨ k = t ∨ k = q ∨ ∃ g, a = some g ∧ k = g.block
set_option maxHeartbeats 4000000 in
set_option maxRecDepth 100000 in
theorem rtadd1_any {p r t u q : Nat} {a : Option Addr} {c : Nat} {L : List ByteArray} {P : List Nat} {n : Int} {w : World} (s : ByteArray) (at1 : Nat) (h : GAt p r t u q a c L P n w) (h1 : at1 < P.length) (hl : L.length < 1048576) (hm : P.length ≤ 8388608) (hs : s.size ≤ 1048576) (hA : Apart9 (L ++ [s])) (hG : 2 * L.length ≤ P.length) (h8 : 8 ≤ P.length) (hls : ∀ j, (textAt (L ++ [s]) j).size ≤ 1048576) :
    Calls Try.prog 25 #[.pointer (some ⟨p, 0, none⟩), .string s, .int .i64 at1] w fun e w' => ∃ u2 q2 a2 c2, e = .returned (.int .i64 L.length) ∧ GAt p r t u2 q2 a2 c2 (L ++ [s]) (grown9 (L ++ [s]) P at1) n w' ∧ Turns (AddF r t q a) w w' ∧ (u2 = u ∨ w.heap.size ≤ u2) ∧ (q2 = q ∨ w.heap.size ≤ q2) ∧ (∀ g, a2 = some g → (∃ g', a = some g' ∧ g.block = g'.block) ∨ w.heap.size ≤ g.block) := by
  have C1 := Lib.hid (rtexts_any h)
  have C2 := Lib.hid (rplaces_any h)
  have C3 := Lib.hid (rtadd_any s h.tx (by omega) hs)
  have H := Lib.hid h
  clear h
  have hlen : (L ++ [s]).length = L.length + 1 := by rw [List.length_append]; rfl
  go_enter Try.func25, Try.ntmps25
  go_wp2_with fail
  refine C1.out.mono ?_
  rintro o w1 ⟨rfl, rfl⟩
  go_wp2_with fail
  refine C2.out.mono ?_
  rintro o w1 ⟨rfl, rfl⟩
  go_wp2_with fail
  refine C3.out.mono ?_
  rintro o w1 ⟨a2, c2, rfl, hx1, ht1, ha2⟩
  have hg1 := H.out.texts hx1 ht1
  have C4 := Lib.hid (rtake_any u q P at1 L.length w1 hg1.pl h1 (by omega))
  have HG1 := Lib.hid hg1
  have HT1 := Lib.hid (ht1.mono (F' := AddF r t q a) (by
    rintro k (h | h)
    · exact Or.inr (Or.inl h)
    · exact Or.inr (Or.inr (Or.inr h))))
  have HA2 := Lib.hid ha2
  clear hg1 hx1 ht1 ha2 C1 C2 C3
  go_wp2_with fail
  refine C4.out.mono ?_
  rintro o w2 ⟨rfl, hp2, ht2⟩
  have HG2 := Lib.hid (HG1.out.places hp2 ht2)
  have HT2 := Lib.hid (HT1.out.trans (ht2.mono (F' := AddF r t q a) (by rintro k rfl; exact Or.inr (Or.inr (Or.inl rfl)))))
  clear hp2 ht2 C4
  have C5 := Lib.hid (rtcount_any HG2.out.tx)
  have C6 := Lib.hid (rcount_any u q _ w2 HG2.out.pl)
  rw [hlen] at C5
  rw [List.length_set] at C6
  have w1' : IntKind.i64.wrap (2 * ((L.length : Int) + 1)) = 2 * ((L.length : Int) + 1) := IntWalk.i64_in _ (by omega)
  go_wp2_with fail
  refine C5.out.mono ?_
  rintro o w3 ⟨rfl, rfl⟩
  go_wp2_with fail
  refine C6.out.mono ?_
  rintro o w3 ⟨rfl, rfl⟩
  by_cases hgr : P.length < 2 * (L.length + 1)
  · have g1 : decide ((P.length : Int) < 2 * ((L.length : Int) + 1)) = true := decide_eq_true (by omega)
    obtain ⟨M, hM⟩ : ∃ M, 2 * P.length = M := ⟨_, rfl⟩
    have eM : 2 * (P.length : Int) = (M : Int) := by omega
    have hMb : M ≤ 16777216 := by omega
    have eW : IntKind.i64.wrap (2 * (P.length : Int)) = (M : Int) := by rw [eM]; exact IntWalk.i64_in _ (by omega)
    have HD2 := Lib.hid (HG2.out.drewN 1)
    have HTD := Lib.hid (HT2.out.drewN 1)
    have C7 := Lib.hid (rcount_any u q _ w2.drew HD2.out.pl)
    rw [List.length_set] at C7
    have C8 := Lib.hid (rplace_any M (w := w2.drew) HD2.out.tx hA (by rw [hlen]; omega) hMb hls)
    have k0 := HD2.out.c0
    have HRP := Lib.hid HD2.out.pr
    go_wp2_with fail
    have HM := Lib.hid hM
    clear eM hM w1' g1
    go_region_held3 (fun W => W.cell? ⟨p, 0, none⟩ = some (.slice (some ⟨r, 0, none⟩) 2 2))
      (first | assumption | (rw [World.cell?_setCell_far _ _ _ _ HRP.out.symm]; assumption))
      (first
        | (go_at_call 35; refine C7.out.mono ?_; rintro o w5 ⟨rfl, rfl⟩)
        | (go_at_call 36; refine C8.out.mono ?_; rintro o w5 ⟨u2, q2, rfl, hp5, hu5, hq5, hb5⟩; have hg5 := HD2.out.below hb5; have c5 := hg5.c0; have d5 := hg5.r1; have e5 := hg5.parts.frozen 1))
    have HG5 := Lib.hid (hg5.anew hp5)
    have HT5 := Lib.hid ((Turns.other (w := w2.drew) HTD.out hb5).setCell (p := ⟨r, 1, none⟩) (Or.inl (Or.inl rfl)) (.iface 50 (.pointer (some ⟨u2, 0, none⟩))))
    have hsz : w.heap.size ≤ w2.drew.heap.size := HT2.out.size
    have HU5 : Hid (w.heap.size ≤ u2 ∧ w.heap.size ≤ q2) := Lib.hid ⟨by omega, by omega⟩
    clear hg5 hp5 hb5 c5 d5 e5 k0 hu5 hq5 hsz
    generalize w5.setCell ⟨r, 1, none⟩ (.iface 50 (.pointer (some ⟨u2, 0, none⟩))) = w6 at *
    go_wp2
    go_ret
    refine ⟨u2, q2, a2, c2, rfl, ?_, HT5.out, Or.inr HU5.out.1, Or.inr HU5.out.2, HA2.out⟩
    unfold grown9
    rw [hlen, if_pos hgr, HM.out]
    have := HG5.out
    rw [hlen] at this
    exact this
  · have g1 : decide ((P.length : Int) < 2 * ((L.length : Int) + 1)) = false := decide_eq_false (by omega)
    go_wp2
    go_ret
    refine ⟨u, q, a2, c2, rfl, ?_, HT2.out, Or.inl rfl, Or.inl rfl, HA2.out⟩
    unfold grown9
    rw [hlen, if_neg hgr]
    exact HG2.out
set_option maxHeartbeats 4000000 in
set_option maxRecDepth 100000 in
theorem rtPutNew_any {p r t u q : Nat} {a : Option Addr} {c : Nat} {L : List ByteArray} {P : List Nat} {n : Int} {w : World} (s : ByteArray) (h : GAt p r t u q a c L P n w) (hN : Nice L P) (hl : L.length < 1048576) (hs : s.size ≤ 1048576) (hx : slotT P L s = 0) :
    Calls Try.prog 13 #[.pointer (some ⟨p, 0, none⟩), .string s] w fun e w' => ∃ u2 q2 a2 c2, e = .returned (.int .i64 L.length) ∧ GAt p r t u2 q2 a2 c2 (L ++ [s]) (grown9 (L ++ [s]) P (lookT P L s).1) ((lookT P L s).2 : Nat) w' ∧ Turns (fun k => k = p ∨ AddF r t q a k) w w' ∧ (u2 = u ∨ w.heap.size ≤ u2) ∧ (q2 = q ∨ w.heap.size ≤ q2) ∧ (∀ g, a2 = some g → (∃ g', a = some g' ∧ g.block = g'.block) ∨ w.heap.size ≤ g.block) := by
  have hG := hN.good
  have hm : P.length ≤ 8388608 := by have := hN.room; omega
  have C1 := Lib.hid (rlook_any s h hG (by omega) hs)
  obtain ⟨h1, _, _, h4⟩ := look_in hG s
  have hA := (hG.put s (slot_none hG hx)).apart
  have hls : ∀ j, (textAt (L ++ [s]) j).size ≤ 1048576 := fun j => by
    by_cases hj : j < L.length
    · rw [text_append L s j hj]; exact hN.text j
    · by_cases e : j = L.length
      · subst e; rw [text_last]; exact hs
      · have e : textAt (L ++ [s]) j = ⟨#[]⟩ := by simp [textAt, List.getD, List.getElem?_eq_none (by rw [List.length_append]; simp; omega : (L ++ [s]).length ≤ j)]
        rw [e]; exact Nat.zero_le _
  have C2 := Lib.hid (fun W (hp : PlAt u q P W) => rat_any u q P (lookT P L s).1 W hp h1 (by show slotT P L s ≤ _; omega))
  rw [show valAt P (lookT P L s).1 = 0 from hx, show decide ((0 : Nat) ≠ 0) = false from rfl] at C2
  have C5 := Lib.hid (fun nx W (hg : GAt p r t u q a c L P nx W) => rtadd1_any s (lookT P L s).1 hg h1 hl hm hs hA hG.half hG.eight hls)
  generalize (lookT P L s).1 = at1 at *
  generalize (lookT P L s).2 = nn at *
  clear h
  go_enter Try.func13, Try.ntmps13
  go_wp2_with fail
  refine C1.out.mono ?_
  rintro o w1 ⟨rfl, hg1, ht1⟩
  have C3 := Lib.hid (rplaces_any hg1)
  have C4 := Lib.hid (C2.out w1 hg1.pl)
  have C6 := Lib.hid (C5.out _ w1 hg1)
  have HT1 := Lib.hid ht1
  clear hg1 ht1 C1 C2 C5
  go_wp2_with fail
  refine C3.out.mono ?_
  rintro o w2 ⟨rfl, rfl⟩
  go_wp2_with fail
  refine C4.out.mono ?_
  rintro o w2 ⟨rfl, rfl⟩
  go_wp2_with fail
  refine C6.out.mono ?_
  rintro o w3 ⟨u2, q2, a2, c2, rfl, hg3, ht3, hu3, hq3, ha3⟩
  have HG3 := Lib.hid hg3
  have HT3 := Lib.hid ((HT1.out.mono (F' := fun k => k = p ∨ AddF r t q a k) (fun k h => Or.inl h)).trans (ht3.mono (fun k h => Or.inr h)))
  have HR : Hid ((u2 = u ∨ w.heap.size ≤ u2) ∧ (q2 = q ∨ w.heap.size ≤ q2) ∧ (∀ g, a2 = some g → (∃ g', a = some g' ∧ g.block = g'.block) ∨ w.heap.size ≤ g.block)) := Lib.hid (by
    have hz := HT1.out.size
    refine ⟨?_, ?_, fun g hg => ?_⟩
    · rcases hu3 with h | h
      · exact Or.inl h
      · exact Or.inr (by omega)
    · rcases hq3 with h | h
      · exact Or.inl h
      · exact Or.inr (by omega)
    · rcases ha3 g hg with h | h
      · exact Or.inl h
      · exact Or.inr (by omega))
  clear hg3 ht3 hu3 hq3 ha3
  go_wp2
  go_ret
  exact ⟨u2, q2, a2, c2, rfl, HG3.out, HT3.out, HR.out⟩
set_option maxHeartbeats 4000000 in
set_option maxRecDepth 100000 in
theorem rtBegin0_any (p : Nat) (w : World) (h : w.rowIs p 49 2 (fun i => if i = 0 then .slice none 0 0 else .int .i64 0)) :
    Calls Try.prog 20 #[.pointer (some ⟨p, 0, none⟩)] w fun e w' => ∃ r t u q, e = .returned (.tuple #[]) ∧ GAt p r t u q none 0 [] (List.replicate 8 0) 0 w' ∧ Turns (fun k => k = p) w w' ∧ w.heap.size ≤ r ∧ w.heap.size ≤ t ∧ w.heap.size ≤ u ∧ w.heap.size ≤ q := by
  have c0 : w.cell? ⟨p, 0, none⟩ = some (.slice none 0 0) := h.cell (i := 0) (by decide)
  have hx0 : (w.alloc (.cells #[.slice none 0 0] 60)).rowIs w.heap.size 60 1 (fun _ => .slice none 0 0) := World.rowIs_alloc w #[.slice none 0 0] 60 (fun _ => .slice none 0 0) (by
    intro i hi
    rcases (show i = 0 by have : i < 1 := hi; omega) with rfl; rfl)
  have hb0 := (Below.refl w.heap.size w).alloc (Nat.le_refl _) (.cells #[.slice none 0 0] 60)
  have hz0 : (w.alloc (.cells #[.slice none 0 0] 60)).heap.size = w.heap.size + 1 := by show (w.heap.push _).size = _; rw [Array.size_push]
  have C := Lib.hid (rnewPlaces_any 8 (w.alloc (.cells #[.slice none 0 0] 60)) (by omega))
  have H := Lib.hid h
  clear h
  generalize hW : w.alloc (.cells #[.slice none 0 0] 60) = W1 at *
  have HW := Lib.hid hW
  go_enter Try.func20, Try.ntmps20
  go_wp2_with fail
  refine C.out.mono ?_
  rintro o w2 ⟨rfl, hp2, hz2, hb2⟩
  rw [hz0] at hp2 hz2 ⊢
  have hb2' : Below w.heap.size w w2 := hb0.trans (hb2.mono (by omega))
  have hx2 : TxAt w.heap.size none 0 [] w2 := ⟨hx0.of_block (hb2.block _ hx0.lt), World.ownsRow_nil _ _ _ _⟩
  have hr2 := H.out.of_block (hb2'.block _ H.out.lt)
  generalize hO : (Obj.cells #[.iface 56 (.pointer (some ⟨w.heap.size, 0, none⟩)), .iface 50 (.pointer (some ⟨w.heap.size + 1 + 1, 0, none⟩))] 64) = O
  have hq3 : (w2.alloc O).rowIs w2.heap.size 64 2 (fun i => if i = 0 then .iface 56 (.pointer (some ⟨w.heap.size, 0, none⟩)) else .iface 50 (.pointer (some ⟨w.heap.size + 1 + 1, 0, none⟩))) := by
    rw [← hO]
    refine World.rowIs_alloc w2 _ _ _ ?_
    intro i hi
    rcases (show i = 0 ∨ i = 1 by have : i < 2 := hi; omega) with rfl | rfl <;> rfl
  have hb3 := (Below.refl w2.heap.size w2).alloc (Nat.le_refl _) O
  have hr3 := hr2.alloc O
  have HX := Lib.hid (hx2.below hb3)
  have HP := Lib.hid (hp2.below hb3)
  have HR := Lib.hid hr3
  have HQ := Lib.hid hq3
  have HB := Lib.hid ((Turns.of_below (F := fun k => k = p) hb2').other hb3)
  have c3 : (w2.alloc O).cell? ⟨p, 0, none⟩ = some (.slice none 0 0) := hr3.cell (i := 0) (by decide)
  have f3 := hr3.frozen 0
  have hzz : w.heap.size ≤ w2.heap.size := hb2'.size
  subst hO
  clear hx2 hp2 hr2 hb2 hb2' hb3 hr3 hq3 hx0 hb0 hz0 hW C c0
  rw [hz2] at HQ
  go_wp2
  go_end0
  generalize w2.alloc (.cells #[.iface 56 (.pointer (some ⟨w.heap.size, 0, none⟩)), .iface 50 (.pointer (some ⟨w.heap.size + 1 + 1, 0, none⟩))] 64) = W3 at *
  refine ⟨w.heap.size + 1 + 2, w.heap.size, w.heap.size + 1 + 1, w.heap.size + 1, rfl, ⟨(World.rowIs.set HR.out 0 _).congr fun i hi => ?_, HQ.out.setOther (a := ⟨p, 0, none⟩) (rowIs_ne HQ.out HR.out (by decide)) _,
    HX.out.keep (Below.heap_setCell _ _ _ _ (rowIs_ne HX.out.box HR.out (by decide))) (fun g hg => by cases hg), HP.out.keep (Below.heap_setCell _ _ _ _ (rowIs_ne HP.out.box HR.out (by decide))) (Below.heap_setCell _ _ _ _ (rowIs_ne HP.out.row HR.out (by decide)))⟩, HB.out.setCell (p := ⟨p, 0, none⟩) (Or.inl rfl) _, by omega, by omega, by omega, by omega⟩
  rcases (show i = 0 ∨ i = 1 by omega) with rfl | rfl <;> rfl
set_option maxHeartbeats 4000000 in
set_option maxRecDepth 100000 in
theorem rtNew_any (w : World) : Calls Try.prog 9 #[] w fun e w' => ∃ p r t u q, e = .returned (.pointer (some ⟨p, 0, none⟩)) ∧ GAt p r t u q none 0 [] (List.replicate 8 0) 0 w' ∧ Below w.heap.size w w' ∧ w.heap.size ≤ p ∧ w.heap.size ≤ r ∧ w.heap.size ≤ t ∧ w.heap.size ≤ u ∧ w.heap.size ≤ q := by
  have hr := World.rowIs_alloc w #[.slice none 0 0, .int .i64 0] 49 (fun i => if i = 0 then .slice none 0 0 else .int .i64 0) (by
    intro i hi
    rcases (show i = 0 ∨ i = 1 by have : i < 2 := hi; omega) with rfl | rfl <;> rfl)
  have hb := (Below.refl w.heap.size w).alloc (Nat.le_refl _) (.cells #[.slice none 0 0, .int .i64 0] 49)
  have C := Lib.hid (rtBegin0_any _ _ hr)
  go_enter Try.func9, Try.ntmps9
  go_wp2_with fail
  refine C.out.mono ?_
  rintro o w2 ⟨r, t, u, q, rfl, hg, ht, h1, h2, h3, h4⟩
  have HG := Lib.hid hg
  have HB := Lib.hid (hb.trans (ht.below hb.size (by rintro k rfl; exact Nat.le_refl _)))
  have hz := hb.size
  clear hg ht
  go_wp2
  go_ret
  exact ⟨_, r, t, u, q, rfl, HG.out, HB.out, Nat.le_refl _, by omega, by omega, by omega, by omega⟩
theorem gf_of {p r t u q : Nat} {a : Option Addr} {F : Nat → Prop} (hF : ∀ k, F k ↔ GF p r t u q a k) : F p ∧ F r ∧ F t ∧ F u ∧ F q ∧ ∀ g, a = some g → F g.block :=
  ⟨(hF p).2 (Or.inl rfl), (hF r).2 (Or.inr (Or.inl rfl)), (hF t).2 (Or.inr (Or.inr (Or.inl rfl))), (hF u).2 (Or.inr (Or.inr (Or.inr (Or.inl rfl)))), (hF q).2 (Or.inr (Or.inr (Or.inr (Or.inr (Or.inl rfl))))), fun g hg => (hF g.block).2 (Or.inr (Or.inr (Or.inr (Or.inr (Or.inr ⟨g, hg, rfl⟩)))))⟩
/-- an answer that changes nothing but how many were looked at -/
theorem gave_looked {F : Nat → Prop} {p r t u q : Nat} {a : Option Addr} {c : Nat} {L : List ByteArray} {P : List Nat} {m : Int} {ret : Value} {w w' : World} {e : Ending} (hF : ∀ k, F k ↔ GF p r t u q a k) (he : e = .returned ret) (hg : GAt p r t u q a c L P m w') (ht : Turns (fun k => k = p) w w') :
    Gave9 IsT F (.pointer (some ⟨p, 0, none⟩)) L P m ret w e w' :=
  ⟨he, F, ⟨p, r, t, u, q, a, c, rfl, hF, hg⟩, fun _ h => Or.inl h, ht.mono (by rintro k rfl; exact (gf_of hF).1)⟩
theorem gave_below {F : Nat → Prop} {p r t u q : Nat} {a : Option Addr} {c : Nat} {L : List ByteArray} {P : List Nat} {m : Int} {ret : Value} {w w' : World} {e : Ending} (hF : ∀ k, F k ↔ GF p r t u q a k) (he : e = .returned ret) (hg : GAt p r t u q a c L P m w) (hb : Below w.heap.size w w') :
    Gave9 IsT F (.pointer (some ⟨p, 0, none⟩)) L P m ret w e w' :=
  ⟨he, F, ⟨p, r, t, u, q, a, c, rfl, hF, hg.below hb⟩, fun _ h => Or.inl h, Turns.of_below hb⟩
/-- THE LANDED PACKAGE intern. -/
theorem tab_said : TabSaid (fun _ _ => True) IsT where
  stay := fun _ _ _ _ _ => trivial
  keep := isT_keep
  inn := isT_in
  isPtr := by
    rintro F w v L P x ⟨p, r, t, u, q, a, c, rfl, _⟩
    exact ⟨_, rfl⟩
  new := by
    intro n w _ _
    refine (rtNew_any w).mono ?_
    rintro e w' ⟨p, r, t, u, q, rfl, hg, hb, h1, h2, h3, h4, h5⟩
    refine ⟨_, GF p r t u q none, 0, rfl, ⟨p, r, t, u, q, none, 0, rfl, fun _ => Iff.rfl, hg⟩, ?_, hb⟩
    rintro k (rfl | rfl | rfl | rfl | rfl | ⟨g, hg', _⟩)
    · exact ⟨h1, hg.tab.lt⟩
    · exact ⟨h2, hg.parts.lt⟩
    · exact ⟨h3, hg.tx.box.lt⟩
    · exact ⟨h4, hg.pl.box.lt⟩
    · exact ⟨h5, hg.pl.row.lt⟩
    · cases hg'
  put := by
    rintro n F v L P x s w _ _ _ hN hl hs ⟨p, r, t, u, q, a, c, rfl, hF, hg⟩
    have hm : P.length ≤ 8388608 := by have := hN.room; omega
    unfold putL putP putN
    by_cases h0 : slotT P L s = 0
    · rw [if_pos h0, if_pos h0, if_pos h0]
      refine (rtPutNew_any s hg hN hl hs h0).mono ?_
      rintro e w' ⟨u2, q2, a2, c2, rfl, hg2, ht2, hu2, hq2, ha2⟩
      obtain ⟨f1, f2, f3, f4, f5, f6⟩ := gf_of hF
      refine ⟨rfl, GF p r t u2 q2 a2, ⟨p, r, t, u2, q2, a2, c2, rfl, fun _ => Iff.rfl, hg2⟩, ?_, ht2.mono ?_⟩
      · rintro k (rfl | rfl | rfl | rfl | rfl | ⟨g, hg', rfl⟩)
        · exact Or.inl f1
        · exact Or.inl f2
        · exact Or.inl f3
        · rcases hu2 with rfl | h
          · exact Or.inl f4
          · exact Or.inr ⟨h, hg2.pl.box.lt⟩
        · rcases hq2 with rfl | h
          · exact Or.inl f5
          · exact Or.inr ⟨h, hg2.pl.row.lt⟩
        · rcases ha2 g hg' with ⟨g', h1, h2⟩ | h
          · exact Or.inl (by rw [h2]; exact f6 g' h1)
          · exact Or.inr ⟨h, (hg2.ga g hg').2.2.2.2.2⟩
      · rintro k (rfl | rfl | rfl | rfl | ⟨g, hg', rfl⟩)
        · exact f1
        · exact f2
        · exact f3
        · exact f5
        · exact f6 g hg'
    · rw [if_neg h0, if_neg h0, if_neg h0]
      refine (rtPutOld_any s hg hN.good (by omega) hs h0).mono ?_
      rintro e w' ⟨he, hg2, ht2⟩
      exact gave_looked hF he hg2 ht2
  find := by
    rintro n F v L P x s w _ _ _ hN hl hs ⟨p, r, t, u, q, a, c, rfl, hF, hg⟩
    refine (rtFind_any s hg hN.good (by have := hN.room; omega) hs).mono ?_
    rintro e w' ⟨he, hg2, ht2⟩
    exact gave_looked hF he hg2 ht2
  get := by
    rintro n F v L P x k w _ _ _ hN hl hk ⟨p, r, t, u, q, a, c, rfl, hF, hg⟩
    refine (rtGet_any hg k hk hN.text).mono ?_
    rintro e w' ⟨he, hb⟩
    exact gave_below hF he hg hb
  len := by
    rintro n F v L P x w _ _ _ hN hl ⟨p, r, t, u, q, a, c, rfl, hF, hg⟩
    refine (rtLen_any hg).mono ?_
    rintro e w' ⟨he, rfl⟩
    exact gave_below hF he hg (Below.refl _ _)
  looked := by
    rintro n F v L P x w _ _ _ hN hl ⟨p, r, t, u, q, a, c, rfl, hF, hg⟩
    refine (rtLooked_any hg).mono ?_
    rintro e w' ⟨he, rfl⟩
    exact gave_below hF he hg (Below.refl _ _)
  hash := fun n s w _ _ hs => (rhash_any s w (by omega)).mono (by rintro e w' ⟨rfl, rfl⟩; exact ⟨rfl, Below.refl _ _⟩)
  putNil := fun n s w _ _ _ => (rtPutNil_any s w).mono (by rintro e w' ⟨rfl, rfl⟩; exact ⟨rfl, Below.refl _ _⟩)
  lenNil := fun n w _ _ => (rtLenNil_any w).mono (by rintro e w' ⟨rfl, rfl⟩; exact ⟨rfl, Below.refl _ _⟩)
end Go.Proofs.Ytkleaedfpgaohaa
