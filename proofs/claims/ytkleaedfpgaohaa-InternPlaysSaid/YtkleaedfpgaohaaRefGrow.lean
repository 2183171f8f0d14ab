/-
  THE CONTRACT OF brackenref1's Put.
-/
import Derived.Test.YtkleaedfpgaohaaRefFind
namespace Go.Proofs.Ytkleaedfpgaohaa
open Go.RowKit

set_option maxHeartbeats 1000000 in
set_option maxRecDepth 100000 in
theorem refPutOld_any (F : Nat → Prop) (v : Value) (L : List ByteArray) (P : List Nat) (n0 : Int) (s : ByteArray) (w : World) (hT : RefIs F w v L P n0) (hG : Good L P) (hm : P.length ≤ 1048576) (hs : s.size ≤ 1048576) (hx : slotT P L s ≠ 0) :
    Calls Try.prog 14 #[v, .string s] w (Gave9 RefIs F v L P ((lookT P L s).2 : Nat) (.int .i64 (slotT P L s - 1 : Nat)) w) := by
  obtain ⟨p, q, a, c, rfl, hF, h⟩ := hT
  have CL := Lib.hid (refLook_any 0 _ L P n0 L.length s w ⟨p, q, a, c, rfl, h⟩ hG.part hG.room hm hs (by have := hG.half; omega))
  obtain ⟨h1, h2, h3, h4⟩ := look_in hG s
  have hlL : L.length ≤ 1048576 := by have := hG.half; omega
  have H := Lib.hid h
  have hpF : F p := (hF p).2 (Or.inl rfl)
  have HSL : Hid (valAt P (lookT P L s).1 = slotT P L s) := Lib.hid rfl
  generalize (lookT P L s).1 = at1 at *
  generalize (lookT P L s).2 = nn at *
  generalize slotT P L s = x at *
  clear h
  go_enter Try.func14, Try.ntmps14
  go_wp2_with fail
  refine CL.out.mono ?_
  rintro e w' ⟨rfl, k, rfl⟩
  have HB1 := Lib.hid ((Turns.refl F w).drewN k)
  have H1 := Lib.hid (H.out.drewN k)
  generalize w.drewN k = w1 at *
  have c2 := H1.out.c2
  have f2 := H1.out.row.frozen 2
  have H2 := Lib.hid (H1.out.looked (nn : Int))
  have HB2 := Lib.hid (HB1.out.setCell (p := ⟨p, 2, none⟩) (Or.inl hpF) (.int .i64 (nn : Int)))
  have c1 := H2.out.c1
  have cq : (w1.setCell ⟨p, 2, none⟩ (.int .i64 (nn : Int))).cell? ⟨q, at1, none⟩ = some (.int .i64 x) := by rw [← HSL.out]; exact H2.out.places.cell h1
  have i1 : (at1 : Int) < (P.length : Int) := by omega
  have g1 : decide (0 < x) = true := decide_eq_true (by omega)
  obtain ⟨y, hy⟩ : ∃ y, x - 1 = y := ⟨_, rfl⟩
  have ey : (x : Int) - 1 = (y : Int) := by omega
  have HY := Lib.hid hy
  clear hy
  go_wp2
  go_ret
  exact ⟨by rw [HY.out]; rfl, F, ⟨p, q, a, c, rfl, hF, H2.out⟩, fun k h => Or.inl h, HB2.out⟩
theorem TabAt.grownRow {B p q : Nat} {a : Option Addr} {c : Nat} {L : List ByteArray} {P : List Nat} {n : Int} {w : World} (h : TabAt B p q a c L P n w) {C : Array Value} {t : TypeId} {w2 : World} (hg : (w.alloc (.cells C t)).grownBy w2 (Value.slice a L.length c).ownBlock) :
    w2.rowIs p 39 3 (fun i => if i = 0 then .slice a L.length c else if i = 1 then .slice (some ⟨q, 0, none⟩) P.length P.length else .int .i64 n) := by
  refine h.row.of_block ((hg.block p (by show p < (w.heap.push _).size; rw [Array.size_push]; have := h.row.lt; omega) (fun e => ?_)).trans (Below.heap_alloc w _ p h.row.lt))
  cases a with
  | none => cases e
  | some g => injection e with e; exact (h.ga g rfl).1 e.symm
theorem TabAt.put {B p q : Nat} {a : Option Addr} {c : Nat} {L : List ByteArray} {P : List Nat} {n : Int} {w : World} (h : TabAt B p q a c L P n w) (k x : Nat) (y : Int) (hy : y = (x : Int)) (hk : k < P.length) : TabAt B p q a c L (P.set k x) n (w.setCell ⟨q, k, none⟩ (.int .i64 y)) := by
  subst hy
  exact h.placed k x hk
theorem cell_one_at (w : World) (x : Value) (t : TypeId) (n : Nat) (hn : w.heap.size = n) : ∀ j u, [x][j]? = some u → (w.alloc (.cells #[x] t)).cell? ((⟨n, 0, none⟩ : Addr).add j) = some u := by
  subst hn
  exact cell_one_new w x t
theorem at_block {a a2 : Option Addr} {n n2 c c2 H b : Nat} {F : Nat → Prop} (hat : Value.ownBlock (.slice a2 n2 c2) = Value.ownBlock (.slice a n c) ∨ Value.ownBlock (.slice a2 n2 c2) = some H)
    (haF : ∀ k, Value.ownBlock (.slice a n c) = some k → F k) (hH : b ≤ H) : ∀ g, a2 = some g → F g.block ∨ b ≤ g.block := by
  rintro g rfl
  rcases hat with h | h
  · exact Or.inl (haF _ h.symm)
  · injection h with h
    exact Or.inr (by rw [h]; exact hH)
set_option maxHeartbeats 4000000 in
set_option maxRecDepth 100000 in
theorem refPutNew_any (F : Nat → Prop) (v : Value) (L : List ByteArray) (P : List Nat) (n0 : Int) (s : ByteArray) (w : World) (hT : RefIs F w v L P n0) (hG : Good L P) (hm : P.length ≤ 524288) (hs : s.size ≤ 1048576) (hls : ∀ t ∈ L, t.size ≤ 1048576) (hx : slotT P L s = 0) (hA : Apart9 (L ++ [s])) :
    Calls Try.prog 14 #[v, .string s] w (Gave9 RefIs F v (L ++ [s]) (grown9 (L ++ [s]) P (lookT P L s).1) ((lookT P L s).2 : Nat) (.int .i64 L.length) w) := by
  obtain ⟨i0, hi, hz0, hz1, hz2⟩ := info_parts info_str
  obtain ⟨p, q, a, c, rfl, hF, h⟩ := hT
  have CL := Lib.hid (refLook_any 0 _ L P n0 L.length s w ⟨p, q, a, c, rfl, h⟩ hG.part hG.room (by omega) hs (by have := hG.half; omega))
  obtain ⟨h1, h2, h3, h4⟩ := look_in hG s
  have hlL : L.length ≤ 262144 := by have := hG.half; omega
  have H := Lib.hid h
  have hpF : F p := (hF p).2 (Or.inl rfl)
  have hqF : F q := (hF q).2 (Or.inr (Or.inl rfl))
  have haF : ∀ k, Value.ownBlock (.slice a L.length c) = some k → F k := fun k hk => (hF k).2 (Or.inr (Or.inr (by
    cases a with
    | none => cases hk
    | some g => injection hk with hk; exact ⟨g, rfl, hk.symm⟩)))
  have HSL : Hid (valAt P (lookT P L s).1 = 0) := Lib.hid hx
  generalize (lookT P L s).1 = at1 at *
  generalize (lookT P L s).2 = nn at *
  clear h hx
  go_enter Try.func14, Try.ntmps14
  go_wp2_with fail
  refine CL.out.mono ?_
  rintro e w' ⟨rfl, k, rfl⟩
  have HB1 := Lib.hid ((Turns.refl F w).drewN k)
  have H1 := Lib.hid (H.out.drewN k)
  generalize w.drewN k = w1 at *
  have c2 := H1.out.c2
  have f2 := H1.out.row.frozen 2
  have H2 := Lib.hid (H1.out.looked (nn : Int))
  have HB2 := Lib.hid (HB1.out.setCell (p := ⟨p, 2, none⟩) (Or.inl hpF) (.int .i64 (nn : Int)))
  have c1 := H2.out.c1
  have c0 := H2.out.c0
  have f0 := H2.out.row.frozen 0
  have cq : (w1.setCell ⟨p, 2, none⟩ (.int .i64 (nn : Int))).cell? ⟨q, at1, none⟩ = some (.int .i64 0) := by have := H2.out.places.cell h1; rw [HSL.out] at this; exact this
  have i1 : (at1 : Int) < (P.length : Int) := by omega
  clear CL H1 HB1
  go_wp2_with (at_builtin; refine wpList_append_own_at _ rfl _ _ 27 rfl 0 9 i0 (.string ⟨#[]⟩) 1 16 Try.underlying27 hi hz0 hz1 hz2 rfl (by decide) _ _ _ rfl (H2.out.own.alloc _) ⟨w1.heap.size, 0, none⟩ 1 1 [.string s] rfl rfl (cell_one_at _ _ _ _ (Deep.nblk_setCell _ _ _)) (by intro u hu; simp at hu; subst hu; rfl) (by unfold maxLen; omega) (by omega) (Nat.zero_le _) ?_; intro v' w2 hown3 hgrow3 hnil hat3; clear hnil; obtain ⟨a2, cc2, rfl⟩ := ownT_slice1 (ownT_next s hown3); have hr2 := H2.out.grownRow hgrow3; have k0 := hr2.cell (i := 0) (by decide); have k1 := hr2.frozen 0; have H3 := Lib.hid (H2.out.added s _ _ a2 cc2 w2 hgrow3 hown3); have HB3 := Lib.hid (((HB2.out.alloc _).grown hgrow3 (fun k hk => Or.inl (haF k hk))).setCell (p := ⟨p, 0, none⟩) (Or.inl hpF) (.slice a2 (L.length + 1) cc2)); have HA2 := Lib.hid (at_block hat3 haF (HB2.out.alloc (.cells #[.string s] 9)).size); clear hr2 hgrow3 hown3 hat3)
  obtain ⟨W3, hW3⟩ : ∃ W3, w2.setCell ⟨p, 0, none⟩ (.slice a2 (L.length + 1) cc2) = W3 := ⟨_, rfl⟩
  rw [hW3] at H3 HB3 ⊢
  clear hW3 k0 k1 H2 HB2 c2 f2 c1 c0 f0 cq
  have hlen : (L ++ [s]).length = L.length + 1 := by rw [List.length_append]; rfl
  have d0 : W3.cell? ⟨p, 0, none⟩ = some (.slice a2 (L.length + 1) cc2) := by rw [← hlen]; exact H3.out.c0
  have d1 := H3.out.c1
  have dq := H3.out.places.cell h1
  have df := H3.out.places.frozen at1
  have i2 : (0 : Int) ≤ (at1 : Int) := by omega
  have HLEN := Lib.hid hlen
  clear hlen
  rw [HSL.out] at dq
  go_region
  have H4 := Lib.hid ((H3.out.put at1 (L.length + 1) ((L.length : Int) + 1) (by omega) h1).drewN 1)
  have HB4 := Lib.hid ((HB3.out.setCell (p := ⟨q, at1, none⟩) (Or.inl hqF) (.int .i64 ((L.length : Int) + 1))).drew)
  obtain ⟨W4, hW4⟩ : ∃ W4, (W3.setCell ⟨q, at1, none⟩ (.int .i64 ((L.length : Int) + 1))).drew = W4 := ⟨_, rfl⟩
  have hW4' : (W3.setCell ⟨q, at1, none⟩ (.int .i64 ((L.length : Int) + 1))).drewN 1 = W4 := hW4
  rw [hW4'] at H4
  rw [hW4] at HB4 ⊢
  clear hW4 hW4' d0 d1 dq df H3 HB3
  have e0 : W4.cell? ⟨p, 0, none⟩ = some (.slice a2 (L.length + 1) cc2) := by rw [← HLEN.out]; exact H4.out.c0
  have e1 : W4.cell? ⟨p, 1, none⟩ = some (.slice (some ⟨q, 0, none⟩) P.length P.length) := by have := H4.out.c1; rw [List.length_set] at this; exact this
  have w1' : IntKind.i64.wrap (2 * ((L.length : Int) + 1)) = 2 * ((L.length : Int) + 1) := IntWalk.i64_in _ (by omega)
  by_cases hgr : P.length < 2 * (L.length + 1)
  · have g1 : decide ((P.length : Int) < 2 * ((L.length : Int) + 1)) = true := decide_eq_true (by omega)
    obtain ⟨M, hM⟩ : ∃ M, 2 * P.length = M := ⟨_, rfl⟩
    have eM : 2 * (P.length : Int) = (M : Int) := by omega
    have hMb : M ≤ 1048576 := by omega
    have f1 := H4.out.row.frozen 1
    go_wp2
    go_quiet (fail)
    obtain ⟨W5, hW5⟩ : ∃ W5, W4.drewN nq = W5 := ⟨_, rfl⟩
    rw [hW5]
    have H5 := Lib.hid (H4.out.drewN nq)
    have HB5 := Lib.hid (HB4.out.drewN nq)
    rw [hW5] at H5 HB5
    have hW5B : w.heap.size ≤ W5.heap.size := HB5.out.size
    have k0 : W5.cell? ⟨p, 0, none⟩ = some (.slice a2 (L.length + 1) cc2) := by rw [← HLEN.out]; exact H5.out.c0
    have k1 : W5.cell? ⟨p, 1, none⟩ = some (.slice (some ⟨q, 0, none⟩) P.length P.length) := by have := H5.out.c1; rw [List.length_set] at this; exact this
    clear hW5 e0 e1 f1 H4 HB4
    have hmk := make_ints M (by omega) W5
    have ha1 := (H5.out.below ((Below.refl W5.heap.size W5).alloc (Nat.le_refl _) (.cells (madeCells #[.int .i64 0] M) 3)))
    have ka := ha1.c1
    rw [List.length_set] at ka
    have kf := ha1.row.frozen 1
    have H6 := Lib.hid (H5.out.anew (Nat.zero_le _) M)
    have HB6 := Lib.hid ((HB5.out.alloc (.cells (madeCells #[.int .i64 0] M) 3)).setCell (p := ⟨p, 1, none⟩) (Or.inl hpF) (.slice (some ⟨W5.heap.size, 0, none⟩) M M))
    clear ha1
    have HLL : Hid (∀ j, (textAt (L ++ [s]) j).size ≤ 1048576) := Lib.hid (fun j => by
      by_cases hj : j < (L ++ [s]).length
      · have e : textAt (L ++ [s]) j = (L ++ [s])[j] := by simp [textAt, List.getD, List.getElem?_eq_getElem hj]
        rw [e]
        have hm2 := List.getElem_mem hj
        rcases List.mem_append.1 hm2 with h | h
        · exact hls _ h
        · rw [List.mem_singleton.1 h]; exact hs
      · have e : textAt (L ++ [s]) j = ⟨#[]⟩ := by simp [textAt, List.getD, List.getElem?_eq_none (by omega : (L ++ [s]).length ≤ j)]
        rw [e]; exact Nat.zero_le _)
    have HPT : Hid (∀ j, j ≤ L.length + 1 → Part (fillTo (L ++ [s]) (List.replicate M 0) j) (L ++ [s]) j) := Lib.hid (fun j hj => fill_part hA (part_none _ _) (by rw [List.length_replicate, HLEN.out]; have := hG.half; omega) j (by rw [HLEN.out]; exact hj))
    have HFL : Hid (∀ j, (fillTo (L ++ [s]) (List.replicate M 0) j).length = M) := Lib.hid (fun j => by rw [fill_length, List.length_replicate])
    have hNM : L.length + 1 < M := by have := hG.half; have := hG.eight; omega
    go_wp2
    go_loopw [7] (fun iv wr => ∃ i : Nat, i ≤ L.length + 1 ∧ iv = .int .i64 i ∧ Turns F w wr ∧ TabAt 0 p W5.heap.size a2 cc2 (L ++ [s]) (fillTo (L ++ [s]) (List.replicate M 0) i) nn wr) (fun iv _ => L.length + 1 - (intOf iv).toNat)
    case atStart => exact ⟨0, Nat.zero_le _, rfl, HB6.out, H6.out⟩
    case round =>
      clear hmk ka kf k0 k1 H5 HB5 H6 HB6
      obtain ⟨i, hi9, rfl, hbe, htab⟩ := hrel
      have HBE := Lib.hid hbe
      have HTA := Lib.hid htab
      clear hbe htab
      have m0 : wr.cell? ⟨p, 0, none⟩ = some (.slice a2 (L.length + 1) cc2) := by rw [← HLEN.out]; exact HTA.out.c0
      by_cases hlt : i < L.length + 1
      · obtain ⟨g5, rfl, hcl⟩ : ∃ g5, a2 = some ⟨g5, 0, none⟩ ∧ ∀ j, j < (L ++ [s]).length → wr.cell? ⟨g5, j, none⟩ = some (.string (strAt (L ++ [s]) j)) := by
          rcases ownT_shape HTA.out.own with ⟨e, e2⟩ | ⟨g, cap, e, _, _, _, hh⟩
          · exact absurd e2 (by simp)
          · injection e with e1 _ _
            exact ⟨g, e1, hh⟩
        have hce := hcl i (by rw [HLEN.out]; exact hlt)
        obtain ⟨tx, htx⟩ : ∃ tx, textAt (L ++ [s]) i = tx := ⟨_, rfl⟩
        rw [show strAt (L ++ [s]) i = tx from htx] at hce
        have CL2 := Lib.hid (refLook_any 0 _ (L ++ [s]) (fillTo (L ++ [s]) (List.replicate M 0) i) nn i tx wr ⟨p, W5.heap.size, _, cc2, rfl, HTA.out⟩ (HPT.out i (by omega)) (by rw [HFL.out]; omega) (by rw [HFL.out]; omega) (by rw [← htx]; exact HLL.out i) (by rw [HLEN.out]; omega))
        have hkl : (lookT (fillTo (L ++ [s]) (List.replicate M 0) i) (L ++ [s]) tx).1 < M := by
          obtain ⟨d, _, e2, _, _⟩ := (HPT.out i (by omega)).look (by rw [HFL.out]; omega) tx
          rw [e2, HFL.out]
          exact Nat.mod_lt _ (by omega)
        have HNX : Hid (fillTo (L ++ [s]) (List.replicate M 0) (i + 1) = (fillTo (L ++ [s]) (List.replicate M 0) i).set (lookT (fillTo (L ++ [s]) (List.replicate M 0) i) (L ++ [s]) tx).1 (i + 1)) := Lib.hid (by rw [← htx]; rfl)
        generalize (lookT (fillTo (L ++ [s]) (List.replicate M 0) i) (L ++ [s]) tx).1 = kk at *
        generalize (lookT (fillTo (L ++ [s]) (List.replicate M 0) i) (L ++ [s]) tx).2 = nx at *
        have i5 : (i : Int) < (L.length : Int) + 1 := by omega
        clear htx hcl
        go_wp2_with fail
        refine CL2.out.mono ?_
        rintro e w7 ⟨rfl, x, rfl⟩
        have H7 := Lib.hid (HTA.out.drewN x)
        have HB7 := Lib.hid (HBE.out.drewN x)
        generalize wr.drewN x = w7 at *
        have n1 : w7.cell? ⟨p, 1, none⟩ = some (.slice (some ⟨W5.heap.size, 0, none⟩) M M) := by have := H7.out.c1; rw [HFL.out] at this; exact this
        have nq1 := H7.out.places.cell (show kk < (fillTo (L ++ [s]) (List.replicate M 0) i).length by rw [HFL.out]; exact hkl)
        have nf1 := H7.out.places.frozen kk
        have i6 : (kk : Int) < (M : Int) := by omega
        have H8 := Lib.hid (H7.out.put kk (i + 1) ((i : Int) + 1) (by omega) (by rw [HFL.out]; exact hkl))
        rw [← HNX.out] at H8
        have HB8 := Lib.hid (HB7.out.setCell (p := ⟨W5.heap.size, kk, none⟩) (Or.inr hW5B) (.int .i64 ((i : Int) + 1)))
        clear m0 hce
        go_wp2
        go_roundw
        case rel => exact ⟨i + 1, by omega, by go_num, HB8.out, H8.out⟩
        case measure => simp [intOf]; omega
      · have hie : i = L.length + 1 := by omega
        subst hie
        have g9 : decide ((L.length : Int) + 1 < (L.length : Int) + 1) = false := decide_eq_false (by omega)
        go_wp2
        go_ret
        refine ⟨by first | rfl | go_num, RefF p W5.heap.size a2, ⟨p, W5.heap.size, a2, cc2, rfl, fun _ => Iff.rfl, ?_⟩, ?_, HBE.out⟩
        rotate_left
        · rintro k (rfl | rfl | ⟨g, rfl, rfl⟩)
          · exact Or.inl hpF
          · exact Or.inr ⟨hW5B, HTA.out.places.lt⟩
          · rcases HA2.out g rfl with h | h
            · exact Or.inl h
            · exact Or.inr ⟨h, (HTA.out.own.lt g.block rfl).2⟩
        unfold grown9
        rw [HLEN.out, if_pos hgr, hM]
        exact HTA.out
  · have g1 : decide ((P.length : Int) < 2 * ((L.length : Int) + 1)) = false := decide_eq_false (by omega)
    go_wp2
    go_quiet (fail)
    have H5 := Lib.hid (H4.out.drewN nq)
    have HB5 := Lib.hid (HB4.out.drewN nq)
    obtain ⟨W5, hW5⟩ : ∃ W5, W4.drewN nq = W5 := ⟨_, rfl⟩
    rw [hW5] at H5 HB5 ⊢
    have k0 : W5.cell? ⟨p, 0, none⟩ = some (.slice a2 (L.length + 1) cc2) := by rw [← HLEN.out]; exact H5.out.c0
    clear e0 e1 H4 HB4 hW5
    go_wp2
    go_ret
    refine ⟨by first | rfl | go_num, RefF p q a2, ⟨p, q, a2, cc2, rfl, fun _ => Iff.rfl, ?_⟩, ?_, HB5.out⟩
    rotate_left
    · rintro k (rfl | rfl | ⟨g, rfl, rfl⟩)
      · exact Or.inl hpF
      · exact Or.inl hqF
      · rcases HA2.out g rfl with h | h
        · exact Or.inl h
        · exact Or.inr ⟨h, (H5.out.own.lt g.block rfl).2⟩
    unfold grown9
    rw [HLEN.out, if_neg hgr]
    exact H5.out
theorem refPut_any (F : Nat → Prop) (v : Value) (L : List ByteArray) (P : List Nat) (n0 : Int) (s : ByteArray) (w : World) (hT : RefIs F w v L P n0) (hN : Nice L P) (hm : P.length ≤ 524288) (hs : s.size ≤ 1048576) :
    Calls Try.prog 14 #[v, .string s] w (Gave9 RefIs F v (putL L P s) (putP L P s) ((lookT P L s).2 : Nat) (.int .i64 (putN L P s)) w) := by
  unfold putL putP putN
  by_cases h0 : slotT P L s = 0
  · rw [if_pos h0, if_pos h0, if_pos h0]
    exact refPutNew_any F v L P n0 s w hT hN.good hm hs hN.texts h0 (hN.good.put s (slot_none hN.good h0)).apart
  · rw [if_neg h0, if_neg h0, if_neg h0]
    exact refPutOld_any F v L P n0 s w hT hN.good (by omega) hs h0
theorem refIs_keep (F : Nat → Prop) (w w' : World) (v : Value) (L : List ByteArray) (P : List Nat) (n : Int) (h : RefIs F w v L P n) (hk : ∀ k, F k → w'.heap[k]? = w.heap[k]?) : RefIs F w' v L P n := by
  obtain ⟨p, q, a, c, rfl, hF, h⟩ := h
  exact ⟨p, q, a, c, rfl, hF, h.keep (hk _ ((hF p).2 (Or.inl rfl))) (hk _ ((hF q).2 (Or.inr (Or.inl rfl)))) fun g hg => hk _ ((hF g.block).2 (Or.inr (Or.inr ⟨g, hg, rfl⟩)))⟩
theorem refIs_in (F : Nat → Prop) (w : World) (v : Value) (L : List ByteArray) (P : List Nat) (n : Int) (h : RefIs F w v L P n) : ∀ k, F k → k < w.heap.size := by
  obtain ⟨p, q, a, c, rfl, hF, h⟩ := h
  intro k hk
  rcases (hF k).1 hk with rfl | rfl | ⟨g, rfl, rfl⟩
  · exact h.row.lt
  · exact h.places.lt
  · exact (h.own.lt g.block rfl).2
end Go.Proofs.Ytkleaedfpgaohaa
