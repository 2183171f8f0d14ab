/-
  THE LANDED PACKAGE refs: a Refs in memory (RG), and the contracts of what only reads it: get, inner, Get, Spent, Depth.
-/
import Derived.Test.YtdgcpeipoiljiaaRunRBase
namespace Go.Proofs.Ytdgcpeipoiljiaa
open Go.RowKit

/-- an entity whose text is known -/
def innF (x t : List UInt8) (o : Bool) : Nat → Value := fun i => if i = 0 then .string (bytes x) else if i = 1 then .string (bytes t) else .bool o
/-- what leads to an entity is what the name stands for -/
def EntIs (w : World) (r : RefD) (x : List UInt8) (d : Option (Option Nat)) : Prop := match d with
  | none => r.look x = none
  | some none => r.look x = some none
  | some (some q) => ∃ t, r.look x = some (some t) ∧ w.rowIs q 55 3 (innF x t (decide (x ∈ r.opened)))
/-- the pointer to a name's entity -/
def ptrG (g : List UInt8 → Option (Option Nat)) (x : List UInt8) : Value := match g x with
  | some (some q) => .pointer (some ⟨q, 0, none⟩)
  | _ => .pointer none
/-- A REFS IN MEMORY. -/
structure RG (b m : Nat) (sa : Option Addr) (sc : Nat) (g : List UInt8 → Option (Option Nat)) (r : RefD) (N : Nat) (w : World) : Prop where
  ok : OkR r
  box : w.rowIs b 49 3 (fun i => if i = 0 then .map (some m) else if i = 1 then .slice sa r.opened.length sc else .int .i64 (r.n : Int))
  map : EntM w m g N
  own : w.ownsRow 0 51 1 (.slice sa r.opened.length sc) r.opened.length (r.opened.map (ptrG g))
  inn : ∀ x, EntIs w r x (g x)
/-- its blocks -/
def FR (b m : Nat) (sa : Option Addr) (g : List UInt8 → Option (Option Nat)) (k : Nat) : Prop := k = b ∨ k = m ∨ (∃ a, sa = some a ∧ k = a.block) ∨ ∃ x, g x = some (some k)
def IsR (F : Nat → Prop) (w : World) (v : Value) (r : RefD) : Prop := ∃ b m sa sc g N, v = .pointer (some ⟨b, 0, none⟩) ∧ RG b m sa sc g r N w ∧ ∀ k, F k ↔ FR b m sa g k
theorem rowR_ne {w : World} {b b' : Nat} {t t' : TypeId} {n n' : Nat} {f f' : Nat → Value} (h : w.rowIs b t n f) (h' : w.rowIs b' t' n' f') (ht : t ≠ t') : b ≠ b' := by
  rintro rfl
  obtain ⟨c, e, _⟩ := h
  obtain ⟨c', e', _⟩ := h'
  rw [e] at e'
  injection e' with e'
  injection e' with _ e2 _
  exact ht e2
theorem ownR_same {w w' : World} {B : Nat} {e : TypeId} {z : Nat} {v : Value} {n : Nat} {xs : List Value} (h : w.ownsRow B e z v n xs) (hb : ∀ k, v.ownBlock = some k → w'.heap[k]? = w.heap[k]?) : w'.ownsRow B e z v n xs := by
  refine ⟨h.1, ?_⟩
  rcases h.2 with h2 | ⟨g, cap, cur, rfl, hg, hh, h3⟩
  · exact Or.inl h2
  · exact Or.inr ⟨g, cap, cur, rfl, hg, (hb g rfl).trans hh, h3⟩
section
variable {b m sc N : Nat} {sa : Option Addr} {g : List UInt8 → Option (Option Nat)} {r : RefD} {w w' : World}
theorem EntIs.keep {x : List UInt8} {d : Option (Option Nat)} (h : EntIs w r x d) (hb : ∀ q, d = some (some q) → w'.heap[q]? = w.heap[q]?) : EntIs w' r x d := by
  match d, h, hb with
  | none, h, _ => exact h
  | some none, h, _ => exact h
  | some (some q), ⟨t, h1, h2⟩, hb => exact ⟨t, h1, h2.of_block (hb q rfl)⟩
theorem RG.keep (h : RG b m sa sc g r N w) (hb : ∀ k, FR b m sa g k → w'.heap[k]? = w.heap[k]?) : RG b m sa sc g r N w' :=
  ⟨h.ok, h.box.of_block (hb b (Or.inl rfl)), h.map.of_block (hb m (Or.inr (Or.inl rfl))), ownR_same h.own (fun k hk => hb k (Or.inr (Or.inr (Or.inl (by
    cases sa with
    | none => cases hk
    | some a => exact ⟨a, rfl, by injection hk with hk; exact hk.symm⟩))))), fun x => (h.inn x).keep fun q hq => hb q (Or.inr (Or.inr (Or.inr ⟨x, hq⟩)))⟩
theorem RG.lt (h : RG b m sa sc g r N w) : ∀ k, FR b m sa g k → k < w.heap.size := by
  rintro k (rfl | rfl | ⟨a, rfl, rfl⟩ | ⟨x, hx⟩)
  · exact h.box.lt
  · exact h.map.lt
  · rcases h.own.2 with ⟨e, _⟩ | ⟨g', cap, cur, e, _, hh, _⟩
    · cases e
    · injection e with e1 _ _
      injection e1 with e1
      subst e1
      exact (Array.getElem?_eq_some_iff.1 hh).1
  · have hi := h.inn x
    rw [hx] at hi
    obtain ⟨t, _, hr⟩ := hi
    exact hr.lt
theorem RG.other (h : RG b m sa sc g r N w) (hb : Below w.heap.size w w') : RG b m sa sc g r N w' := h.keep fun k hk => hb.block k (h.lt k hk)
theorem RG.drewN (h : RG b m sa sc g r N w) (k : Nat) : RG b m sa sc g r N (w.drewN k) := h.keep fun _ _ => rfl
theorem RG.c0 (h : RG b m sa sc g r N w) : w.cell? ⟨b, 0, none⟩ = some (.map (some m)) := h.box.cell (i := 0) (by decide)
theorem RG.c1 (h : RG b m sa sc g r N w) : w.cell? ⟨b, 1, none⟩ = some (.slice sa r.opened.length sc) := h.box.cell (i := 1) (by decide)
theorem RG.c2 (h : RG b m sa sc g r N w) : w.cell? ⟨b, 2, none⟩ = some (.int .i64 (r.n : Int)) := h.box.cell (i := 2) (by decide)
theorem RG.bq (h : RG b m sa sc g r N w) {x : List UInt8} {q : Nat} (hx : g x = some (some q)) : q ≠ b := by
  have hi := h.inn x
  rw [hx] at hi
  obtain ⟨t, _, hr⟩ := hi
  exact rowR_ne hr h.box (by decide)
theorem RG.mb (h : RG b m sa sc g r N w) : m ≠ b := by
  rintro rfl
  obtain ⟨es, cl, he⟩ := h.map.map
  obtain ⟨c, hc, _⟩ := h.box
  rw [hc] at he
  cases he
theorem RG.mq (h : RG b m sa sc g r N w) {x : List UInt8} {q : Nat} (hx : g x = some (some q)) : q ≠ m := by
  rintro rfl
  have hi := h.inn x
  rw [hx] at hi
  obtain ⟨t, _, hr⟩ := hi
  obtain ⟨es, cl, he⟩ := h.map.map
  obtain ⟨c, hc, _⟩ := hr
  rw [hc] at he
  cases he
theorem ownR_ne {B n z c : Nat} {e t : TypeId} {k : Nat} {a : Option Addr} {f : Nat → Value} {xs : List Value} {l : Nat} (h : w.rowIs k t n f) (ho : w.ownsRow B e z (.slice a l c) l xs) (ht : t ≠ e) : ∀ p, a = some p → p.block ≠ k := by
  rintro p rfl
  rcases ho.2 with ⟨e, _⟩ | ⟨g', cap, cur, e, _, hg, _⟩
  · cases e
  · injection e with e1 _ _
    injection e1 with e1
    subst e1
    rintro rfl
    obtain ⟨cc, hcc, _⟩ := h
    rw [hg] at hcc
    injection hcc with e2
    injection e2 with _ e3 _
    exact ht e3.symm
theorem RG.ab (h : RG b m sa sc g r N w) : ∀ p, sa = some p → p.block ≠ b := ownR_ne h.box h.own (by decide)
theorem RG.aq (h : RG b m sa sc g r N w) {x : List UInt8} {q : Nat} (hx : g x = some (some q)) : ∀ p, sa = some p → p.block ≠ q := by
  have hi := h.inn x
  rw [hx] at hi
  obtain ⟨t, _, hr⟩ := hi
  exact ownR_ne hr h.own (by decide)
theorem RG.am (h : RG b m sa sc g r N w) : ∀ p, sa = some p → p.block ≠ m := by
  rintro p rfl
  rcases h.own.2 with ⟨e, _⟩ | ⟨g', cap, cur, e, _, hg, _⟩
  · cases e
  · injection e with e1 _ _
    injection e1 with e1
    subst e1
    rintro rfl
    obtain ⟨es, cl, he⟩ := h.map.map
    rw [hg] at he
    cases he
/-- a block is of one name alone -/
theorem RG.one (h : RG b m sa sc g r N w) {x y : List UInt8} {q : Nat} (hx : g x = some (some q)) (hy : g y = some (some q)) : x = y := by
  have h1 := h.inn x
  have h2 := h.inn y
  rw [hx] at h1
  rw [hy] at h2
  obtain ⟨t, _, hr⟩ := h1
  obtain ⟨u, _, hs⟩ := h2
  have c1 := hr.cell (i := 0) (by decide)
  have c2 := hs.cell (i := 0) (by decide)
  rw [c1] at c2
  injection c2 with c2
  have c3 : Value.string (bytes x) = .string (bytes y) := c2
  injection c3 with c3
  exact bytesL_inj c3
/-! ### reading -/
set_option maxHeartbeats 1000000 in
set_option maxRecDepth 100000 in
theorem getI_r {q : Nat} {x t : List UInt8} {o : Bool} (h : w.rowIs q 55 3 (innF x t o)) (ht : t.length ≤ 1048576) : Calls Try.prog 17 #[.pointer (some ⟨q, 0, none⟩)] w fun e w' => e = .returned (.tuple #[.string (bytes t), .int .i64 0]) ∧ Below w.heap.size w w' := by
  have c1 : w.cell? ⟨q, 1, none⟩ = some (.string (bytes t)) := h.cell (i := 1) (by decide)
  have C := Lib.hid (rclone12 (bytes t) w (by rw [bytesL_len]; omega))
  go_enter Try.func17, Try.ntmps17
  go_wp2_with fail
  refine C.out.mono ?_
  rintro e w2 ⟨rfl, hb⟩
  go_wp2
  go_ret2
  exact ⟨rfl, hb⟩
set_option maxHeartbeats 1000000 in
set_option maxRecDepth 100000 in
theorem getO_r (w : World) : Calls Try.prog 36 #[.agg #[]] w fun e w' => e = .returned (.tuple #[.string ⟨#[]⟩, .int .i64 5]) ∧ Below w.heap.size w w' := by
  have hb := (Below.refl w.heap.size w).alloc (Nat.le_refl _)
  go_enter Try.func36, Try.ntmps36
  go_wp2
  go_ret2
  exact ⟨rfl, by first | exact Below.refl _ _ | exact hb _⟩
theorem as_inner (v : Value) (w : World) : (Instr.typeAssert (.iface 51 v) 60 51 true).run Try.prog w = .ok (.tuple #[v, .bool true]) w := by kernel_rfl
theorem as_outer (v : Value) (w : World) : (Instr.typeAssert (.iface 64 v) 60 51 true).run Try.prog w = .ok (.tuple #[.pointer none, .bool false]) w := by kernel_rfl
theorem meth_inner (n : Nat) (v : Value) (w : World) : (method (n + 1) 51 v "bracken/refs.get").run Try.prog w = .ok (17, v) w := by kernel_rfl
theorem meth_outer (n : Nat) (v : Value) (w : World) : (method (n + 1) 64 v "bracken/refs.get").run Try.prog w = .ok (36, v) w := by kernel_rfl
/-- what inner gives -/
def innV (d : Option (Option Nat)) : Value := match d with
  | none => .tuple #[.pointer none, .int .i64 6]
  | some none => .tuple #[.pointer none, .int .i64 5]
  | some (some q) => .tuple #[.pointer (some ⟨q, 0, none⟩), .int .i64 0]
set_option maxHeartbeats 1000000 in
set_option maxRecDepth 100000 in
theorem inner_r (h : RG b m sa sc g r N w) (x : List UInt8) (hx : x.length ≤ 1000000) : Calls Try.prog 16 #[.pointer (some ⟨b, 0, none⟩), .string (bytes x)] w fun e w' => e = .returned (innV (g x)) ∧ w' = w := by
  have c0 := h.c0
  have hl := h.map.look x hx
  clear h
  generalize g x = d at hl ⊢
  cases d with
  | none =>
    replace hl : (Instr.lookup 46 (.map (some m)) (.string (bytes x)) true).run Try.prog w = .ok (.tuple #[.nilIface, .bool false]) w := hl
    go_enter Try.func16, Try.ntmps16
    go_wp2
    go_ret2
    exact ⟨rfl, rfl⟩
  | some d =>
    cases d with
    | none =>
      replace hl : (Instr.lookup 46 (.map (some m)) (.string (bytes x)) true).run Try.prog w = .ok (.tuple #[.iface 64 (.agg #[]), .bool true]) w := hl
      have ha := as_outer (.agg #[])
      go_enter Try.func16, Try.ntmps16
      go_wp2
      go_ret2
      exact ⟨rfl, rfl⟩
    | some q =>
      replace hl : (Instr.lookup 46 (.map (some m)) (.string (bytes x)) true).run Try.prog w = .ok (.tuple #[.iface 51 (.pointer (some ⟨q, 0, none⟩)), .bool true]) w := hl
      have ha := as_inner (.pointer (some ⟨q, 0, none⟩))
      go_enter Try.func16, Try.ntmps16
      go_wp2
      go_ret2
      exact ⟨rfl, rfl⟩
set_option maxHeartbeats 1000000 in
set_option maxRecDepth 100000 in
theorem spent_r (h : RG b m sa sc g r N w) : Calls Try.prog 8 #[.pointer (some ⟨b, 0, none⟩)] w fun e w' => e = .returned (.int .i64 (r.n : Int)) ∧ w' = w := by
  have c2 := h.c2
  clear h
  go_enter Try.func8, Try.ntmps8
  go_wp2
  go_ret
  exact ⟨rfl, rfl⟩
set_option maxHeartbeats 1000000 in
set_option maxRecDepth 100000 in
theorem spentNil_r (w : World) : Calls Try.prog 8 #[.pointer none] w fun e w' => e = .returned (.int .i64 0) ∧ w' = w := by
  go_enter Try.func8, Try.ntmps8
  go_wp2
  go_ret
  exact ⟨rfl, rfl⟩
set_option maxHeartbeats 1000000 in
set_option maxRecDepth 100000 in
theorem depth_r (h : RG b m sa sc g r N w) : Calls Try.prog 9 #[.pointer (some ⟨b, 0, none⟩)] w fun e w' => e = .returned (.int .i64 (r.opened.length : Int)) ∧ w' = w := by
  have c1 := h.c1
  clear h
  generalize r.opened.length = n at *
  go_enter Try.func9, Try.ntmps9
  go_wp2
  go_ret
  exact ⟨rfl, rfl⟩
set_option maxHeartbeats 2000000 in
set_option maxRecDepth 100000 in
theorem get_r (h : RG b m sa sc g r N w) (x : List UInt8) (hx : x.length ≤ 1000000) : Calls Try.prog 13 #[.pointer (some ⟨b, 0, none⟩), .string (bytes x)] w fun e w' => e = .returned (.tuple #[.string (bytes (getR r x).1), .bool (getR r x).2.1, .int .i64 (getR r x).2.2]) ∧ Below w.heap.size w w' := by
  have c0 := h.c0
  have hl := h.map.look x hx
  have hi := h.inn x
  have hs := h.ok.small x
  have CG := given12 x w
  clear h
  unfold fiveV at CG
  cases h5 : fiveL x with
  | some c =>
    rw [h5] at CG
    have HG : Hid (getR r x = ([c], true, 0)) := Lib.hid (by unfold getR; rw [h5])
    have HC := Lib.hid CG
    clear CG hi hl hs h5
    rw [HG.out]
    go_enter Try.func13, Try.ntmps13
    go_wp2_with fail
    refine HC.out.mono ?_
    rintro e w2 ⟨rfl, rfl⟩
    go_wp2
    go_ret3
    exact ⟨rfl, Below.refl _ _⟩
  | none =>
    rw [h5] at CG
    have HC := Lib.hid CG
    clear CG
    cases hg : g x with
    | none =>
      rw [hg] at hi hl
      have HG : Hid (getR r x = ([], false, 6)) := Lib.hid (by
        have hi' : r.look x = none := hi
        unfold getR; rw [h5, hi'])
      replace hl : (Instr.lookup 46 (.map (some m)) (.string (bytes x)) true).run Try.prog w = .ok (.tuple #[.nilIface, .bool false]) w := hl
      clear hi hs h5 hg
      rw [HG.out]
      go_enter Try.func13, Try.ntmps13
      go_wp2_with fail
      refine HC.out.mono ?_
      rintro e w2 ⟨rfl, rfl⟩
      go_wp2
      go_ret3
      exact ⟨rfl, Below.refl _ _⟩
    | some d =>
      cases d with
      | none =>
        rw [hg] at hi hl
        have HG : Hid (getR r x = ([], false, 5)) := Lib.hid (by
          have hi' : r.look x = some none := hi
          unfold getR; rw [h5, hi'])
        replace hl : (Instr.lookup 46 (.map (some m)) (.string (bytes x)) true).run Try.prog w = .ok (.tuple #[.iface 64 (.agg #[]), .bool true]) w := hl
        have hm := fun n => meth_outer n (.agg #[])
        have CO := Lib.hid (getO_r w)
        clear hi hs h5 hg
        rw [HG.out]
        go_enter Try.func13, Try.ntmps13
        go_wp2_with fail
        refine HC.out.mono ?_
        rintro e w2 ⟨rfl, rfl⟩
        go_wp2_with fail
        refine CO.out.mono ?_
        rintro e w3 ⟨rfl, hb⟩
        go_wp2
        go_ret3
        exact ⟨rfl, hb⟩
      | some q =>
        rw [hg] at hi hl
        obtain ⟨t, ht, hr⟩ := hi
        have HG : Hid (getR r x = (t, false, 0)) := Lib.hid (by unfold getR; rw [h5, ht])
        replace hl : (Instr.lookup 46 (.map (some m)) (.string (bytes x)) true).run Try.prog w = .ok (.tuple #[.iface 51 (.pointer (some ⟨q, 0, none⟩)), .bool true]) w := hl
        have hm := fun n => meth_inner n (.pointer (some ⟨q, 0, none⟩))
        have CO := Lib.hid (getI_r hr (hs t ht))
        clear hr hs h5 hg ht
        rw [HG.out]
        go_enter Try.func13, Try.ntmps13
        go_wp2_with fail
        refine HC.out.mono ?_
        rintro e w2 ⟨rfl, rfl⟩
        go_wp2_with fail
        refine CO.out.mono ?_
        rintro e w3 ⟨rfl, hb⟩
        go_wp2
        go_ret3
        exact ⟨rfl, hb⟩
end
end Go.Proofs.Ytdgcpeipoiljiaa
