/-
  THE LANDED PACKAGE scope: unbind, Pop.
-/
import Derived.Test.YthhnpnjnlbjdjaaRunSUri
import Derived.Deep.RegionHeld3
import Derived.Deep.LoopGhost
namespace Go.Proofs.Ythhnpnjnlbjdjaa
open Go.RowKit

theorem turned_below {w w1 w' : World} {mb : Nat} (hb : Below w.heap.size w w1) (ht : w1.mapTurned w' mb) : Turns (fun k => k = mb) w w' :=
  (Turns.of_below hb).grown ht.grown fun k hk => Or.inl (by injection hk with hk; exact hk.symm)
set_option maxHeartbeats 1000000 in
set_option maxRecDepth 100000 in
theorem runbind_none {w : World} {sb mb : Nat} {vl : Value} {x : Bb} {lev : Nat} {hd : Nm → Option Nat} (hbox : w.rowIs sb 54 2 (fun i => if i = 0 then vl else .map (some mb))) (hrow : w.rowIs x.1 68 3 (rowB x.2 lev none))
    (hmb : mb < w.heap.size) (hm : MapH w mb hd) (hl : x.2.1.length ≤ 8388608) :
    Calls Try.prog 29 #[.pointer (some ⟨sb, 0, none⟩), .pointer (some ⟨x.1, 0, none⟩)] w fun e w' => e = .returned (.tuple #[]) ∧ MapH w' mb (fun q => if q = x.2.1 then none else hd q) ∧ Turns (fun k => k = mb) w w' := by
  obtain ⟨b, p, u⟩ := x
  have c1 : w.cell? ⟨sb, 1, none⟩ = some (.map (some mb)) := hbox.cell (i := 1) (by decide)
  have d0 : w.cell? ⟨b, 0, none⟩ = some (.iface (bondT (p, u)) (bondA (p, u))) := hrow.cell (i := 0) (by decide)
  have d2 : w.cell? ⟨b, 2, none⟩ = some (.pointer none) := hrow.cell (i := 2) (by decide)
  obtain ⟨f1, f2, f3, f4, M⟩ := bond_mets (p, u)
  have m1 := M.mname
  have m2 := M.ename
  have CN := Lib.hid M.name
  have HM := Lib.hid hm
  have HMB := Lib.hid hmb
  have HSB := Lib.hid hbox.lt
  have hbw : Below w.heap.size w w.drew := (Below.refl _ _).drew
  have hsbl := hbox.lt
  have hbl : b < w.heap.size := hrow.lt
  have KEEP := Lib.hid (fun W (hb : Below w.heap.size w W) => show W.cell? ⟨sb, 1, none⟩ = some (.map (some mb)) ∧ W.cell? ⟨b, 0, none⟩ = some (.iface (bondT (p, u)) (bondA (p, u))) from ⟨(hb.cell (p := ⟨sb, 1, none⟩) hsbl).trans c1, (hb.cell (p := ⟨b, 0, none⟩) hbl).trans d0⟩)
  have HNE : Hid (sb ≠ mb ∧ b ≠ mb) := Lib.hid (by
    obtain ⟨D, ⟨es, clock, hm1, _⟩, _⟩ := hm
    obtain ⟨c, e, _⟩ := hbox
    obtain ⟨c', e', _⟩ := hrow
    have e'' : w.heap[b]? = some (.cells c' 68 (0, 0)) := e'
    exact ⟨fun h => (by rw [h, hm1] at e; cases e), fun h => (by rw [h, hm1] at e''; cases e'')⟩)
  have HL : Hid (List.length p ≤ 8388608) := Lib.hid hl
  clear M hm hmb hbox hrow hl hsbl hbl
  generalize bondT (p, u) = bt at *
  generalize bondA (p, u) = ba at *
  go_enter Try.func29, Try.ntmps29
  go_wp2_with fail
  go_region_held3 (fun W => W.cell? ⟨sb, 1, none⟩ = some (.map (some mb)) ∧ W.cell? ⟨b, 0, none⟩ = some (.iface bt ba))
    (first | exact ⟨c1, d0⟩ | assumption)
    ((refine (CN.out _).mono ?_; rintro e w2 ⟨rfl, hb2⟩; obtain ⟨w3, hrun3, hm3, ht3⟩ := (HM.out.keep ((hbw.trans hb2).block _ HMB.out)).del p HL.out 0; have hs2 := KEEP.out w2 (hbw.trans hb2); have hs3 : w3.cell? ⟨sb, 1, none⟩ = some (.map (some mb)) ∧ w3.cell? ⟨b, 0, none⟩ = some (.iface bt ba) := ⟨ht3.grown.cell hs2.1 (fun e => HNE.out.1 (by injection e)), ht3.grown.cell hs2.2 (fun e => HNE.out.2 (by injection e))⟩))
  have HB := Lib.hid (turned_below (hbw.trans hb2) ht3)
  have HM3 := Lib.hid hm3
  clear hm3 ht3 hs2 hs3 hrun3 hb2
  go_wp2
  refine bodyPost_ret (results_none rfl _ _ _) rfl ?_
  exact ⟨rfl, HM3.out, HB.out⟩
set_option maxHeartbeats 1000000 in
set_option maxRecDepth 100000 in
theorem runbind_some {w : World} {sb mb : Nat} {vl : Value} {x : Bb} {lev : Nat} {b0 nx : Nat} {T : List (List Bb)} (hbox : w.rowIs sb 54 2 (fun i => if i = 0 then vl else .map (some mb))) (hrow : w.rowIs x.1 68 3 (rowB x.2 lev (some nx)))
    (hmb : mb < w.heap.size) (hm : MapH w mb (hdB b0 T)) (hl : x.2.1.length ≤ 8388608) (hn : (allN (era T)).length ≤ 1099511627777) :
    Calls Try.prog 29 #[.pointer (some ⟨sb, 0, none⟩), .pointer (some ⟨x.1, 0, none⟩)] w fun e w' => e = .returned (.tuple #[]) ∧ MapH w' mb (fun q => if q = x.2.1 then some nx else hdB b0 T q) ∧ Turns (fun k => k = mb) w w' := by
  obtain ⟨b, p, u⟩ := x
  have c1 : w.cell? ⟨sb, 1, none⟩ = some (.map (some mb)) := hbox.cell (i := 1) (by decide)
  have d0 : w.cell? ⟨b, 0, none⟩ = some (.iface (bondT (p, u)) (bondA (p, u))) := hrow.cell (i := 0) (by decide)
  have d2 : w.cell? ⟨b, 2, none⟩ = some (.pointer (some ⟨nx, 0, none⟩)) := hrow.cell (i := 2) (by decide)
  obtain ⟨f1, f2, f3, f4, M⟩ := bond_mets (p, u)
  have m1 := M.mname
  have m2 := M.ename
  have CN := Lib.hid M.name
  have HM := Lib.hid hm
  have HN := Lib.hid hn
  have HMB := Lib.hid hmb
  have HSB := Lib.hid hbox.lt
  have hbw : Below w.heap.size w w.drew := (Below.refl _ _).drew
  have hsbl := hbox.lt
  have hbl : b < w.heap.size := hrow.lt
  have KEEP := Lib.hid (fun W (hb : Below w.heap.size w W) => show W.cell? ⟨sb, 1, none⟩ = some (.map (some mb)) ∧ W.cell? ⟨b, 0, none⟩ = some (.iface (bondT (p, u)) (bondA (p, u))) ∧ W.cell? ⟨b, 2, none⟩ = some (.pointer (some ⟨nx, 0, none⟩)) from ⟨(hb.cell (p := ⟨sb, 1, none⟩) hsbl).trans c1, (hb.cell (p := ⟨b, 0, none⟩) hbl).trans d0, (hb.cell (p := ⟨b, 2, none⟩) hbl).trans d2⟩)
  have HNE : Hid (sb ≠ mb ∧ b ≠ mb) := Lib.hid (by
    obtain ⟨D, ⟨es, clock, hm1, _⟩, _⟩ := hm
    obtain ⟨c, e, _⟩ := hbox
    obtain ⟨c', e', _⟩ := hrow
    have e'' : w.heap[b]? = some (.cells c' 68 (0, 0)) := e'
    exact ⟨fun h => (by rw [h, hm1] at e; cases e), fun h => (by rw [h, hm1] at e''; cases e'')⟩)
  have HL : Hid (List.length p ≤ 8388608) := Lib.hid hl
  clear M hm hmb hbox hrow hl hsbl hbl
  generalize bondT (p, u) = bt at *
  generalize bondA (p, u) = ba at *
  go_enter Try.func29, Try.ntmps29
  go_wp2_with fail
  go_region_held3 (fun W => W.cell? ⟨sb, 1, none⟩ = some (.map (some mb)) ∧ W.cell? ⟨b, 0, none⟩ = some (.iface bt ba) ∧ W.cell? ⟨b, 2, none⟩ = some (.pointer (some ⟨nx, 0, none⟩)))
    (first | exact ⟨c1, d0, d2⟩ | assumption)
    ((refine (CN.out _).mono ?_; rintro e w2 ⟨rfl, hb2⟩; obtain ⟨w3, hrun4, hm3, ht3⟩ := (HM.out.keep ((hbw.trans hb2).block _ HMB.out)).put HN.out p HL.out nx; have hrun3 : (Instr.mapUpdate 52 (.map (some mb)) (.string (bytes p)) (.pointer (some ⟨nx, 0, none⟩))).run Try.prog w2 = .ok () w3 := hrun4; clear hrun4; have hs2 := KEEP.out w2 (hbw.trans hb2); have hs3 : w3.cell? ⟨sb, 1, none⟩ = some (.map (some mb)) ∧ w3.cell? ⟨b, 0, none⟩ = some (.iface bt ba) ∧ w3.cell? ⟨b, 2, none⟩ = some (.pointer (some ⟨nx, 0, none⟩)) := ⟨ht3.grown.cell hs2.1 (fun e => HNE.out.1 (by injection e)), ht3.grown.cell hs2.2.1 (fun e => HNE.out.2 (by injection e)), ht3.grown.cell hs2.2.2 (fun e => HNE.out.2 (by injection e))⟩))
  have HB := Lib.hid (turned_below (hbw.trans hb2) ht3)
  have HM3 := Lib.hid hm3
  clear hm3 ht3 hs2 hs3 hrun3 hb2
  go_wp2
  go_end0
  exact ⟨rfl, HM3.out, HB.out⟩
/-- a bond goes: what it hid is the nearest again -/
theorem runbind_any {F : Nat → Prop} {w : World} {sb mb b0 lev : Nat} {vl : Value} {x : Bb} {nxt : Option Nat} {T : List (List Bb)} (hbox : w.rowIs sb 54 2 (fun i => if i = 0 then vl else .map (some mb))) (hx : BindAt F w x lev nxt)
    (hmb : mb < w.heap.size) (hm : MapH w mb (hdB b0 T)) (hl : x.2.1.length ≤ 8388608) (hn : (allN (era T)).length ≤ 1099511627777) :
    Calls Try.prog 29 #[.pointer (some ⟨sb, 0, none⟩), .pointer (some ⟨x.1, 0, none⟩)] w fun e w' => e = .returned (.tuple #[]) ∧ MapH w' mb (fun q => if q = x.2.1 then nxt else hdB b0 T q) ∧ Turns (fun k => k = mb) w w' := by
  cases nxt with
  | none => exact runbind_none hbox hx.row hmb hm hl
  | some nx => exact runbind_some hbox hx.row hmb hm hl hn
/-! ### a level goes -/
theorem findB_none {p : Nm} : ∀ {lv : List Bb}, (∀ x ∈ lv, x.2.1 ≠ p) → findB lv p = none
  | [], _ => rfl
  | y :: r, h => by
    unfold findB
    rw [if_neg (h y (by simp))]
    exact findB_none fun x hx => h x (by simp [hx])
theorem hdB_step (b0 : Nat) (x : Bb) (rest : List Bb) (r : List (List Bb)) (hx : ∀ y ∈ rest, y.2.1 ≠ x.2.1) (q : Nm) :
    (if q = x.2.1 then hdB b0 r x.2.1 else hdB b0 ((x :: rest) :: r) q) = hdB b0 (rest :: r) q := by
  by_cases e : q = x.2.1
  · subst e
    rw [if_pos rfl]
    unfold hdB
    show _ = Option.map _ (headB b0 (rest :: r) x.2.1)
    unfold headB
    rw [findB_none hx]
    cases r <;> rfl
  · rw [if_neg e]
    have e' : ¬ x.2.1 = q := fun h => e h.symm
    have e3 : findB (x :: rest) q = findB rest q := if_neg e'
    unfold hdB headB
    rw [e3]
theorem hdB_nil (b0 : Nat) (r : List (List Bb)) (q : Nm) : hdB b0 ([] :: r) q = hdB b0 r q := rfl
/-- what there is of a scope, its map made or not -/
structure Parts14 (F : Nat → Prop) (w : World) (sb : Nat) (T : List (List Bb)) (VN : List Value) (vl vm : Value) (b0 : Nat) : Prop where
  sc : ScAt F w sb T VN vl vm
  map : ∀ mb, vm = .map (some mb) → F mb ∧ MapH w mb (hdB b0 T)
  bs : (vm = .map none ∧ ∀ lv ∈ T, lv = []) ∨ ((∃ mb, vm = .map (some mb)) ∧ BsAt F w b0 T)
theorem Some14.parts {F : Nat → Prop} {w : World} {sb : Nat} {T : List (List Bb)} {VN : List Value} {vl : Value} (h : Some14 F w sb T VN vl) : ∃ vm b0, Parts14 F w sb T VN vl vm b0 := by
  rcases h with ⟨h, hT⟩ | ⟨mb, b0, h⟩
  · exact ⟨_, 0, h, (fun mb e => by cases e), Or.inl ⟨rfl, hT⟩⟩
  · exact ⟨_, b0, h.sc, (fun mb' e => by injection e with e; injection e with e; subst e; exact ⟨h.fmb, h.map⟩), Or.inr ⟨⟨mb, rfl⟩, h.bs⟩⟩
theorem Parts14.some {F : Nat → Prop} {w : World} {sb : Nat} {T : List (List Bb)} {VN : List Value} {vl vm : Value} {b0 : Nat} (h : Parts14 F w sb T VN vl vm b0) : Some14 F w sb T VN vl := by
  rcases h.bs with ⟨rfl, hT⟩ | ⟨⟨mb, rfl⟩, hb⟩
  · exact Or.inl ⟨h.sc, hT⟩
  · exact Or.inr ⟨mb, b0, h.sc, (h.map mb rfl).1, (h.map mb rfl).2, hb⟩
theorem own_cell {w : World} {base : Nat} {t : TypeId} {n : Nat} {v : Value} {xs : List Value} (h : w.ownsRow base t 1 v n xs) {i : Nat} (hi : i < n) : ∃ g cap x, v = .slice (some ⟨g, 0, none⟩) n cap ∧ n ≤ cap ∧ xs[i]? = some x ∧ w.cell? ⟨g, i, none⟩ = some x := by
  have hl : xs.length = n := by have := h.1; omega
  rcases h.2 with ⟨_, rfl⟩ | ⟨g, cap, cur, rfl, _, _, hc, _⟩
  · omega
  · have hx : xs[i]? = some (xs[i]'(by omega)) := List.getElem?_eq_getElem (by omega)
    have hcell := h.cells (g := g) rfl i _ hx
    have hadd : (⟨g, 0, none⟩ : Addr).add i = ⟨g, i, none⟩ := by unfold Addr.add; split <;> simp_all
    rw [hadd] at hcell
    exact ⟨g, cap, _, rfl, hc, hx, hcell⟩
/-- the list of levels loses its last -/
theorem own_less {w w' : World} {base : Nat} {t : TypeId} {n g cap : Nat} {xs ys : List Value} {x : Value} (h : w.ownsRow base t 1 (.slice (some ⟨g, 0, none⟩) (n + 1) cap) (n + 1) (ys ++ [x])) (hx : xs = ys) (z : Value)
    (hw : w' = w.setCell ⟨g, n, none⟩ z) : w'.ownsRow base t 1 (.slice (some ⟨g, 0, none⟩) n cap) n xs := by
  subst hx; subst hw
  have hl : xs.length = n := by have := h.1; simp at this; omega
  rcases h.2 with ⟨e, _⟩ | ⟨g', cap', cur, e, hb, hg, hc, hm, hs, ht⟩
  · cases e
  · injection e with e1 _ e3
    injection e1 with e1
    injection e1 with e1
    subst e1; subst e3
    refine ⟨by omega, Or.inr ⟨g, cap, cur.setIfInBounds n z, rfl, hb, ?_, by omega, hm, by simp; omega, ?_⟩⟩
    · simp [World.setCell, Array.getElem?_modify, hg]
    · rw [Nat.mul_one] at ht ⊢
      have e2 : (cur.setIfInBounds n z).toList.take n = cur.toList.take n := by
        rw [Array.toList_setIfInBounds, List.take_set_of_le (Nat.le_refl n)]
      rw [e2]
      have e4 : (cur.toList.take (n + 1)).take n = (xs ++ [x]).take n := by rw [ht]
      rw [List.take_take, Nat.min_eq_left (Nat.le_succ n)] at e4
      rw [e4, List.take_left' hl]
end Go.Proofs.Ythhnpnjnlbjdjaa
