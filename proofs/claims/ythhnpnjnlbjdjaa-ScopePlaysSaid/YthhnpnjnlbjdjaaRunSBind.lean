/-
  THE LANDED PACKAGE scope: bind: what lies in memory behind it.
-/
import Derived.Test.YthhnpnjnlbjdjaaRunSPopA
namespace Go.Proofs.Ythhnpnjnlbjdjaa
open Go.RowKit

theorem info_bp : (Try.prog.info? 65).map (fun i => (i.zero, i.size, i.bytes)) = some (some (.pointer none), 1, 8) := by kernel_rfl
theorem info_open {t : TypeId} {z : Value} {s b : Nat} (h : (Try.prog.info? t).map (fun i => (i.zero, i.size, i.bytes)) = some (some z, s, b)) : ∃ i, Try.prog.info? t = some i ∧ i.zero = some z ∧ i.size = s ∧ i.bytes = b := by
  cases hi : Try.prog.info? t with
  | none => rw [hi] at h; cases h
  | some i =>
    rw [hi] at h
    simp only [Option.map_some, Option.some.injEq, Prod.mk.injEq] at h
    exact ⟨i, rfl, h.1, h.2.1, h.2.2⟩
theorem cell_one_s (w : World) (x : Value) (t : TypeId) (n : Nat) (hn : w.heap.size = n) : ∀ j u, [x][j]? = some u → (w.alloc (.cells #[x] t)).cell? ((⟨n, 0, none⟩ : Addr).add j) = some u := by
  subst hn
  intro j u hu
  cases j with
  | zero =>
    simp at hu
    subst hu
    have e : (⟨w.heap.size, 0, none⟩ : Addr).add 0 = ⟨w.heap.size, 0, none⟩ := by unfold Addr.add; split <;> simp_all
    rw [e]
    exact cell_of_row _ _ 0 _ _ (0, 0) (heap_alloc_new w _)
  | succ j => simp at hu
theorem hdB_bind (b0 inb : Nat) (b : Bd) (lv : List Bb) (r : List (List Bb)) (hx : findB lv b.1 = none) (q : Nm) :
    (if q = b.1 then some inb else hdB b0 (lv :: r) q) = hdB b0 ((lv ++ [(inb, b)]) :: r) q := by
  have key : ∀ l : List Bb, findB (l ++ [(inb, b)]) q = match findB l q with | some x => some x | none => if b.1 = q then some (inb, b) else none := by
    intro l
    induction l with
    | nil => rfl
    | cons y l ih =>
      have e1 : ∀ l', findB (y :: l') q = if y.2.1 = q then some y else findB l' q := fun _ => rfl
      rw [List.cons_append, e1, e1]
      split
      · rfl
      · exact ih
  have e2 : ∀ l, headB b0 (l :: r) q = match findB l q with | some x => some (x.1, r.length + 1, x.2.2) | none => headB b0 r q := fun _ => rfl
  unfold hdB
  rw [e2, e2, key]
  by_cases e : q = b.1
  · subst e
    rw [if_pos rfl, hx]
    simp
  · rw [if_neg e]
    have e' : ¬ b.1 = q := fun h => e h.symm
    cases findB lv q with
    | none => simp [e']
    | some x => rfl
theorem findB_some_lv {b0 : Nat} {lv : List Bb} {r : List (List Bb)} {p : Nm} {x : Bb} (h : findB lv p = some x) : headB b0 (lv :: r) p = some (x.1, r.length + 1, x.2.2) := by
  show (match findB lv p with | some x => some (x.1, r.length + 1, x.2.2) | none => headB b0 r p) = _
  rw [h]
theorem findB_none_lv {b0 : Nat} {lv : List Bb} {r : List (List Bb)} {p : Nm} (h : findB lv p = none) : headB b0 (lv :: r) p = headB b0 r p := by
  show (match findB lv p with | some x => some (x.1, r.length + 1, x.2.2) | none => headB b0 r p) = _
  rw [h]
theorem headB_lev {b0 b k : Nat} {p u : Nm} : ∀ {T : List (List Bb)}, headB b0 T p = some (b, k, u) → k ≤ T.length
  | [], h => by
    unfold headB at h
    split at h
    · injection h with h
      injection h with _ h
      injection h with h _
      rw [← h]
      exact Nat.le_refl _
    · cases h
  | lv :: r, h => by
    cases hf : findB lv p with
    | some x =>
      rw [findB_some_lv hf] at h
      injection h with h
      injection h with _ h
      injection h with h _
      rw [← h]
      exact Nat.le_refl _
    | none =>
      rw [findB_none_lv hf] at h
      have := headB_lev h
      rw [List.length_cons]; omega
theorem findB_inLv_none {lv : List Bb} {p : Nm} : findB lv p = none ↔ inLv (lv.map (·.2)) p = none := by
  rw [← findB_inLv p lv]
  cases findB lv p <;> simp
/-- A BOND MORE IN THE NEAREST LEVEL. -/
theorem full_bind {F : Nat → Prop} {w w' : World} {sb mb b0 inb g2 c2 : Nat} {lv : List Bb} {r : List (List Bb)} {v vl : Value} {vr : List Value} {b : Bd} (h : Full F w sb (lv :: r) (v :: vr) vl mb b0) (hfb : findB lv b.1 = none)
    (hi : w.heap.size ≤ inb) (hi2 : inb < w'.heap.size) (hrow : w'.rowIs inb 68 3 (rowB b (r.length + 1) (hdB b0 (lv :: r) b.1)))
    (hown : w'.ownsRow 0 65 1 (.slice (some ⟨g2, 0, none⟩) (lv.length + 1) c2) (lv.length + 1) (lv.map (fun x => ptrV (some x.1)) ++ [ptrV (some inb)])) (hg2 : v.ownBlock = some g2 ∨ w.heap.size ≤ g2)
    (hlev : w'.ownsRow 0 74 1 vl (r.length + 1) ((Value.slice (some ⟨g2, 0, none⟩) (lv.length + 1) c2) :: vr).reverse)
    (hmap : MapH w' mb (fun q => if q = b.1 then some inb else hdB b0 (lv :: r) q))
    (hkeep : ∀ k, k < w.heap.size → k ≠ mb → vl.ownBlock ≠ some k → v.ownBlock ≠ some k → w'.heap[k]? = w.heap[k]?) (hs : w.heap.size ≤ w'.heap.size) :
    Full (fun k => F k ∨ k = inb ∨ k = g2) w' sb ((lv ++ [(inb, b)]) :: r) (.slice (some ⟨g2, 0, none⟩) (lv.length + 1) c2 :: vr) vl mb b0 := by
  have hg2l : g2 < w'.heap.size := (hown.lt g2 rfl).2
  have hne_mb : ∀ k c t m, w.heap[k]? = some (Obj.cells c t m) → k ≠ mb := by
    intro k c t m hk e
    obtain ⟨D, ⟨es, clock, hb, _⟩, _⟩ := h.map
    rw [← e, hk] at hb
    cases hb
  have hne_own : ∀ (u : Value) t n xs k c t' m, w.ownsRow 0 t 1 u n xs → w.heap[k]? = some (Obj.cells c t' m) → t' ≠ t → u.ownBlock ≠ some k := by
    intro u t n xs k c t' m ho hk ht e
    rcases ho.2 with ⟨rfl, _⟩ | ⟨g, c2, cur, rfl, _, hg, _⟩
    · cases e
    · injection e with e
      rw [← e] at hk
      have hk' : w.heap[g]? = some (Obj.cells c t' m) := hk
      rw [hg] at hk'
      injection hk' with e2
      injection e2 with _ e3 _
      exact ht e3.symm
  have hrowkeep : ∀ k t n f, w.rowIs k t n f → t ≠ 74 → t ≠ 65 → w'.heap[k]? = w.heap[k]? := by
    intro k t n f hr h1 h2
    obtain ⟨c, e, _⟩ := id hr
    exact hkeep k hr.lt (hne_mb _ _ _ _ e) (hne_own _ _ _ _ _ _ _ _ h.sc.lev e h1) (hne_own _ _ _ _ _ _ _ _ h.sc.inn.1 e h2)
  refine ⟨⟨?_, Or.inl h.sc.fsb, h.sc.box.of_block (hrowkeep _ _ _ _ h.sc.box (by decide) (by decide)), ?_, fun g hg => Or.inl (h.sc.flev g hg), ?_, ?_, ?_⟩, Or.inl h.fmb, hmap.congr fun q => hdB_bind b0 inb b lv r hfb q, ?_, ?_⟩
  · rintro k (hk | rfl | rfl)
    · exact Nat.lt_of_lt_of_le (h.sc.inF k hk) hs
    · exact hi2
    · exact hg2l
  · exact hlev
  · rw [List.length_append, List.map_append]; exact hown
  · intro g hg
    injection hg with hg
    subst hg
    refine ⟨Or.inr (Or.inr rfl), fun v' hv' e => ?_⟩
    rcases hg2 with e2 | e2
    · exact (h.sc.inn.2.1 _ e2).2 v' hv' e
    · have h1 := h.sc.inF _ (h.sc.inn.2.2.mem v' hv' _ e).1
      have h2 : w.heap.size ≤ g2 := e2
      have h3 : g2 < w.heap.size := h1
      omega
  · refine (h.sc.inn.2.2.keep (fun v' hv' g hg => ?_) fun _ h => h).sub fun k hk => Or.inl hk
    obtain ⟨hf, lv', hlv'⟩ := h.sc.inn.2.2.mem v' hv' g hg
    rcases hlv'.2 with ⟨rfl, _⟩ | ⟨g3, c3, cu3, rfl, _, hg3, _⟩
    · cases hg
    · injection hg with hg
      subst hg
      exact hkeep _ (h.sc.inF _ hf) (hne_mb _ _ _ _ hg3) (hne_own _ _ _ _ _ _ _ _ h.sc.lev hg3 (by decide)) (fun e => (h.sc.inn.2.1 _ e).2 _ hv' rfl)
  · intro x hx
    rcases List.mem_append.1 hx with hx | hx
    · exact (h.bs.1 x hx).keep (hrowkeep _ _ _ _ (h.bs.1 x hx).row (by decide) (by decide)) (Or.inl (h.bs.1 x hx).inF)
    · simp at hx
      subst hx
      refine ⟨Or.inr (Or.inl rfl), ?_⟩
      have e : hdB b0 (lv :: r) b.1 = hdB b0 r b.1 := by unfold hdB; rw [findB_none_lv hfb]
      rw [e] at hrow
      exact hrow
  · exact h.bs.2.keep (fun k hk hf => by
      obtain ⟨f, hf⟩ := hf
      exact hrowkeep _ _ _ _ hf (by decide) (by decide)) fun k hk => Or.inl hk
theorem own_own_ne {w : World} {base base' : Nat} {t t' : TypeId} {n m sz sz' : Nat} {v v' : Value} {xs xs' : List Value} (h : w.ownsRow base t sz v n xs) (ho : w.ownsRow base' t' sz' v' m xs') (ht : t ≠ t') : ∀ g, v.ownBlock = some g → v'.ownBlock ≠ some g := by
  intro g hg hg'
  rcases h.2 with ⟨rfl, _⟩ | ⟨g1, c1, cur1, rfl, _, hg1, _⟩
  · cases hg
  · rcases ho.2 with ⟨rfl, _⟩ | ⟨g2, c2, cur2, rfl, _, hg2, _⟩
    · cases hg'
    · injection hg with hg
      injection hg' with hg'
      subst hg
      have hg2' : w.heap[g2]? = some (Obj.cells cur2 t' (0, 0)) := hg2
      have hg1' : w.heap[g1]? = some (Obj.cells cur1 t (0, 0)) := hg1
      have e : g2 = g1 := hg'
      subst e
      rw [hg1'] at hg2'
      injection hg2' with e2
      injection e2 with _ e3 _
      exact ht e3
/-! ### what lies in memory between the two writes -/
theorem own_last {w : World} {base : Nat} {t : TypeId} {n g cap : Nat} {ys : List Value} {x : Value} (h : w.ownsRow base t 1 (.slice (some ⟨g, 0, none⟩) (n + 1) cap) (n + 1) (ys ++ [x])) (z : Value) :
    (w.setCell ⟨g, n, none⟩ z).ownsRow base t 1 (.slice (some ⟨g, 0, none⟩) (n + 1) cap) (n + 1) (ys ++ [z]) := by
  have hl : ys.length = n := by have := h.1; simp at this; omega
  rcases h.2 with ⟨e, _⟩ | ⟨g', cap', cur, e, hb, hg, hc, hm, hs, ht⟩
  · cases e
  · injection e with e1 _ e3
    injection e1 with e1
    injection e1 with e1
    subst e1; subst e3
    refine ⟨by simp; omega, Or.inr ⟨g, cap, cur.setIfInBounds n z, rfl, hb, ?_, hc, hm, by simp; omega, ?_⟩⟩
    · simp [World.setCell, Array.getElem?_modify, hg]
    · rw [Nat.mul_one] at ht ⊢
      rw [Array.toList_setIfInBounds, List.take_set, ht, ← hl, List.set_append_right _ _ (Nat.le_refl _)]
      simp
structure Mid (w : World) (sb mb b0 inb g g2 c2 cap : Nat) (lv : List Bb) (r : List (List Bb)) (v : Value) (vr : List Value) (b : Bd) (oh : Option Nat) (W : World) : Prop where
  box : W.rowIs sb 54 2 (fun i => if i = 0 then .slice (some ⟨g, 0, none⟩) (r.length + 1) cap else .map (some mb))
  map : MapH W mb (hdB b0 (lv :: r))
  row : W.rowIs inb 68 3 (rowB b (r.length + 1) oh)
  own : W.ownsRow 0 65 1 (.slice (some ⟨g2, 0, none⟩) (lv.length + 1) c2) (lv.length + 1) (lv.map (fun x => ptrV (some x.1)) ++ [ptrV (some inb)])
  lev : W.ownsRow 0 74 1 (.slice (some ⟨g, 0, none⟩) (r.length + 1) cap) (r.length + 1) ((Value.slice (some ⟨g2, 0, none⟩) (lv.length + 1) c2) :: vr).reverse
  hg2 : v.ownBlock = some g2 ∨ w.heap.size ≤ g2
  hin : w.heap.size ≤ inb ∧ inb < W.heap.size
  turns : Turns (fun k => k = g ∨ v.ownBlock = some k) w W
theorem mid_of {F : Nat → Prop} {w W5 w6 : World} {sb mb b0 inb g g2 c2 cap cv : Nat} {a : Option Addr} {lv : List Bb} {r : List (List Bb)} {vr : List Value} {b : Bd} {oh : Option Nat} (h : Full F w sb (lv :: r) (.slice a lv.length cv :: vr) (.slice (some ⟨g, 0, none⟩) (r.length + 1) cap) mb b0)
    (h5 : Below w.heap.size w W5) (s5 : inb < W5.heap.size) (hi : w.heap.size ≤ inb) (hrow : W5.rowIs inb 68 3 (rowB b (r.length + 1) oh))
    (hown : w6.ownsRow 0 65 1 (.slice (some ⟨g2, 0, none⟩) (lv.length + 1) c2) (lv.length + 1) (lv.map (fun x => ptrV (some x.1)) ++ [.pointer (some ⟨inb, 0, none⟩)])) (hgr : W5.grownBy w6 (Value.slice a lv.length cv).ownBlock) (hat : (Value.slice a lv.length cv).ownBlock = some g2 ∨ g2 = w.heap.size + 2) :
    Mid w sb mb b0 inb g g2 c2 cap lv r (.slice a lv.length cv) vr b oh (w6.setCell ⟨g, r.length, none⟩ (.slice (some ⟨g2, 0, none⟩) (lv.length + 1) c2)) := by
  have hs := h5.size
  have hgl := (h.sc.lev.lt g rfl).2
  have hne : ∀ k, (Value.slice a lv.length cv).ownBlock = some k → k ≠ sb ∧ k ≠ g ∧ k < w.heap.size ∧ k ≠ mb := fun k e =>
    ⟨row_own_ne h.sc.box h.sc.inn.1 (by decide) k e, fun e2 => own_own_ne h.sc.inn.1 h.sc.lev (by decide) k e (by rw [e2]; rfl), h.sc.inF k (h.sc.inn.2.1 k e).1, fun e2 => by
      obtain ⟨D, ⟨es, clock, hb, _⟩, _⟩ := h.map
      rcases h.sc.inn.1.2 with ⟨e3, _⟩ | ⟨g', c', cur, e3, _, hg', _⟩
      · rw [e3] at e; cases e
      · rw [e3] at e
        injection e with e
        rw [← e2, ← e, hg'] at hb
        cases hb⟩
  have hmbl : mb < w.heap.size := h.sc.inF mb h.fmb
  have hgmb : g ≠ mb := fun e => by
    obtain ⟨D, ⟨es, clock, hb, _⟩, _⟩ := h.map
    obtain ⟨cur, hcur⟩ := own_blk h.sc.lev
    rw [← e, hcur] at hb
    cases hb
  have hgsb : g ≠ sb := row_own_ne h.sc.box h.sc.lev (by decide) g rfl
  have hk6 : ∀ k, k < w.heap.size → (Value.slice a lv.length cv).ownBlock ≠ some k → w6.heap[k]? = w.heap[k]? := fun k hk hn => (hgr.block k (Nat.lt_of_lt_of_le hk hs) (fun e => hn e.symm)).trans (h5.block k hk)
  have hoth : ∀ k, k ≠ g → (w6.setCell ⟨g, r.length, none⟩ (.slice (some ⟨g2, 0, none⟩) (lv.length + 1) c2)).heap[k]? = w6.heap[k]? := fun k hk => Below.heap_setCell _ _ _ _ hk
  have hg2g : g2 ≠ g := by
    rcases hat with e | e
    · exact (hne g2 e).2.1
    · omega
  have hsz : (w6.setCell ⟨g, r.length, none⟩ (.slice (some ⟨g2, 0, none⟩) (lv.length + 1) c2)).heap.size = w6.heap.size := Deep.nblk_setCell _ _ _
  have hs6 := hgr.size
  refine ⟨?_, ?_, ?_, ?_, ?_, hat.imp id (fun e => by omega), ⟨hi, by rw [hsz]; omega⟩, ?_⟩
  · exact h.sc.box.of_block ((hoth sb (Ne.symm hgsb)).trans (hk6 sb h.sc.box.lt fun e => (hne sb e).1 rfl))
  · exact h.map.keep ((hoth mb (Ne.symm hgmb)).trans (hk6 mb hmbl fun e => (hne mb e).2.2.2 rfl))
  · refine hrow.of_block ((hoth inb (by omega)).trans (hgr.block inb s5 fun e => ?_))
    have := (hne inb e.symm).2.2.1
    omega
  · exact ownsRow_block hown fun k hk => hoth k (by injection hk with hk; rw [← hk]; exact hg2g)
  · rw [List.reverse_cons]
    have hl := h.sc.lev
    rw [List.reverse_cons] at hl
    exact own_last (ownsRow_block hl fun k hk => by
      injection hk with hk
      subst hk
      exact hk6 g hgl fun e => (hne g e).2.1 rfl) _
  · have h1 : Turns (fun k => k = g ∨ (Value.slice a lv.length cv).ownBlock = some k) w W5 := Turns.of_below h5
    exact (h1.grown hgr fun k hk => Or.inl (Or.inr hk)).setCell (p := ⟨g, r.length, none⟩) (Or.inl (Or.inl rfl)) _
theorem mid_end {F F1 : Nat → Prop} {w0 w1 w W w' : World} {sb mb b0 inb g g2 c2 cap : Nat} {lv : List Bb} {r : List (List Bb)} {v : Value} {vr : List Value} {b : Bd} (h : Full F1 w sb (lv :: r) (v :: vr) (.slice (some ⟨g, 0, none⟩) (r.length + 1) cap) mb b0) (hw : Went F F1 w0 w1) (hbw : Below w1.heap.size w1 w)
    (m : Mid w sb mb b0 inb g g2 c2 cap lv r v vr b (hdB b0 (lv :: r) b.1) W) (hfb : findB lv b.1 = none) (hm : MapH w' mb (fun q => if q = b.1 then some inb else hdB b0 (lv :: r) q)) (ht : Turns (fun k => k = mb) W w') :
    GaveS IsSc F (.pointer (some ⟨sb, 0, none⟩)) ((lv.map (·.2) ++ [b]) :: era r) (.bool true) w0 (.returned (.bool true)) w' := by
  have hsw := m.turns.size
  have hs' := ht.size
  have hnm : ∀ k c t x, W.heap[k]? = some (Obj.cells c t x) → k ≠ mb := by
    intro k c t x hk e
    obtain ⟨D, ⟨es, clock, hb, _⟩, _⟩ := m.map
    rw [← e, hk] at hb
    cases hb
  have hkr : ∀ {k t n f}, W.rowIs k t n f → w'.rowIs k t n f := by
    intro k t n f hr
    obtain ⟨c, e, _⟩ := id hr
    exact hr.of_block (ht.block k hr.lt (hnm _ _ _ _ e))
  have hko : ∀ {t n v'} {xs : List Value}, W.ownsRow 0 t 1 v' n xs → w'.ownsRow 0 t 1 v' n xs := by
    intro t n v' xs ho
    refine ownsRow_block ho fun k hk => ?_
    rcases ho.2 with ⟨rfl, _⟩ | ⟨g3, c3, cu3, rfl, _, hg3, _⟩
    · cases hk
    · injection hk with hk
      subst hk
      exact ht.block _ (Array.getElem?_eq_some_iff.1 hg3).1 (hnm _ _ _ _ hg3)
  have hfull := full_bind h hfb m.hin.1 (by have := m.hin.2; omega) (hkr m.row) (hko m.own) m.hg2 (hko m.lev) hm (fun k hk h1 h2 h3 => (ht.block k (by omega) h1).trans (m.turns.block k hk (fun e => by
    rcases e with e | e
    · exact h2 (by rw [e]; rfl)
    · exact h3 e))) (by omega)
  have hbw1 := hw.below hbw
  have hg2l : g2 < w'.heap.size := ((hko m.own).lt g2 rfl).2
  refine ⟨rfl, _, ⟨sb, _, _, _, rfl, by simp [era], Or.inr ⟨mb, b0, hfull⟩⟩, ?_, ?_⟩
  · rintro k (hk | rfl | rfl)
    · exact (hbw1.sub k hk).imp id fun e => ⟨e.1, by omega⟩
    · have := m.hin; have := hbw1.turns.size; exact Or.inr ⟨by omega, by omega⟩
    · rcases m.hg2 with e | e
      · exact (hbw1.sub _ (h.sc.inn.2.1 _ e).1).imp id fun e => ⟨e.1, by omega⟩
      · have := hbw1.turns.size; exact Or.inr ⟨by omega, hg2l⟩
  · have hin : ∀ k, F1 k → F k ∨ w0.heap.size ≤ k := fun k hk => (hbw1.sub k hk).imp id fun e => e.1
    refine (hbw1.turns.next m.turns fun k hk => ?_).next ht fun k hk => ?_
    · rcases hk with rfl | hk
      · exact hin _ (h.sc.flev _ rfl)
      · exact hin _ (h.sc.inn.2.1 _ hk).1
    · rw [hk]; exact hin _ h.fmb
end Go.Proofs.Ythhnpnjnlbjdjaa
