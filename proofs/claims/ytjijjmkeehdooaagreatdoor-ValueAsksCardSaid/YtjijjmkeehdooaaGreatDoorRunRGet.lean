/-
  THE LANDED PACKAGE refs: what lies in memory, and the contracts of its small functions.
  THE LANDED PACKAGE refs: a Refs in memory (RG), and the contracts of what only reads it: get, inner, Get, Spent, Depth.
-/
import Derived.Test.YtjijjmkeehdooaaGreatDoorRefsSaid
import Derived.Test.YtjijjmkeehdooaaGreatDoorShelf
import Derived.Maps.OwnSet
import Derived.KernelRfl
import Derived.IntWalk
import Derived.Deep.QuietTactic
import Derived.BigQuiet
namespace Go.Proofs.YtjijjmkeehdooaaGreatDoor
open Go.RowKit

/-! ### maps from names to entities -/
theorem und_entM : Tryz.prog.underlying 50 = some (.map 9 78) := by kernel_rfl
theorem zero_ent (w : World) : (zeroValue 78).run Tryz.prog w = .ok .nilIface w := by kernel_rfl
theorem key_lawR : Maps.Keyed Tryz.prog 9 := Maps.string_keyed Tryz.underlying9
theorem key_ofR (x : List UInt8) (hx : x.length ≤ 1000000) : keyOf Tryz.prog 9 (.string (bytes x)) = some (.string x) := WideMaps.keyOf_string_mk Tryz.underlying9 (by rw [bytesL_len]; unfold maxLen; omega)
/-- how an entity reads as an element: by its block -/
def entElem : Value → Option (DataW Unit × List MemPlace)
  | .nilIface => some (.lit (.int .i64 (-2)), [])
  | .iface T (.pointer (some ⟨q, 0, none⟩)) => if T = 82 then some (.lit (.int .i64 (q : Int)), []) else none
  | .iface T (.agg cs) => if T = 81 ∧ cs.size = 0 then some (.lit (.int .i64 (-1)), []) else none
  | _ => none
def entD (d : Option (Option Nat)) (z : DataW Unit) : DataW Unit := match d with
  | none => z
  | some none => .lit (.int .i64 (-1))
  | some (some q) => .lit (.int .i64 (q : Int))
def entV (d : Option (Option Nat)) : Value := match d with
  | none => .nilIface
  | some none => .iface 81 (.agg #[])
  | some (some q) => .iface 82 (.pointer (some ⟨q, 0, none⟩))
theorem entElem_out : entElem (.iface 81 (.agg #[])) = some (.lit (.int .i64 (-1)), []) := by simp [entElem]
theorem entElem_in (q : Nat) : entElem (.iface 82 (.pointer (some ⟨q, 0, none⟩))) = some (.lit (.int .i64 (q : Int)), []) := by simp [entElem]
theorem entElem_inv {v : Value} {d : Option (Option Nat)} {ps : List MemPlace} (h : entElem v = some (entD d (.lit (.int .i64 (-2))), ps)) : v = entV d := by
  unfold entElem at h
  split at h
  · cases d with
    | none => rfl
    | some o =>
      cases o with
      | none => simp [entD] at h
      | some q => simp only [entD, Option.some.injEq, Prod.mk.injEq, DataW.lit.injEq, Lit.int.injEq, true_and] at h; omega
  · rename_i T q
    by_cases hT : T = 82
    · rw [if_pos hT] at h
      subst hT
      cases d with
      | none => simp only [entD, Option.some.injEq, Prod.mk.injEq, DataW.lit.injEq, Lit.int.injEq, true_and] at h; omega
      | some o =>
        cases o with
        | none => simp only [entD, Option.some.injEq, Prod.mk.injEq, DataW.lit.injEq, Lit.int.injEq, true_and] at h; omega
        | some q' =>
          simp only [entD, Option.some.injEq, Prod.mk.injEq, DataW.lit.injEq, Lit.int.injEq, true_and] at h
          rw [show q = q' by omega]
          rfl
    · rw [if_neg hT] at h; cases h
  · rename_i T cs
    by_cases hT : T = 81 ∧ cs.size = 0
    · rw [if_pos hT] at h
      obtain ⟨rfl, hc⟩ := hT
      have hcs : cs = #[] := Array.eq_empty_of_size_eq_zero hc
      subst hcs
      cases d with
      | none => simp [entD] at h
      | some o =>
        cases o with
        | none => rfl
        | some q => simp only [entD, Option.some.injEq, Prod.mk.injEq, DataW.lit.injEq, Lit.int.injEq, true_and] at h; omega
    · rw [if_neg hT] at h; cases h
  · cases h
/-- BLOCK m LEADS FROM NAMES TO ENTITIES: as g tells. -/
def EntM (w : World) (m : Nat) (g : List UInt8 → Option (Option Nat)) (N : Nat) : Prop := ∃ D : DataW Unit, w.ownsMap Tryz.prog 9 entElem m N D ∧ ∀ x, Maps.has D (.string x) = (g x).isSome ∧ ∀ z, D.atKey (.string x) z = entD (g x) z
section
variable {w w' : World} {m N : Nat} {g : List UInt8 → Option (Option Nat)}
theorem EntM.lt (h : EntM w m g N) : m < w.heap.size := by obtain ⟨D, h1, _⟩ := h; exact h1.lt
theorem EntM.mono {M : Nat} (h : EntM w m g N) (hM : N ≤ M) : EntM w m g M := by obtain ⟨D, h1, h2⟩ := h; exact ⟨D, h1.mono hM, h2⟩
theorem EntM.of_block (h : EntM w m g N) (hb : w'.heap[m]? = w.heap[m]?) : EntM w' m g N := by
  obtain ⟨D, ⟨es, clock, h1, r⟩, h2⟩ := h
  exact ⟨D, ⟨es, clock, hb.trans h1, r⟩, h2⟩
theorem EntM.made (w : World) : EntM (w.alloc (.map #[] 0)) w.heap.size (fun _ => none) 0 := ⟨_, World.ownsMap_made w _ _ _, fun _ => ⟨rfl, fun _ => rfl⟩⟩
theorem EntM.map (h : EntM w m g N) : ∃ es cl, w.heap[m]? = some (.map es cl) := by
  obtain ⟨D, ⟨es, clock, h1, r⟩, h2⟩ := h
  exact ⟨es, clock, h1⟩
/-- a name is looked up -/
theorem EntM.look (h : EntM w m g N) (x : List UInt8) (hx : x.length ≤ 1000000) : (Instr.lookup 50 (.map (some m)) (.string (bytes x)) true).run Tryz.prog w = .ok (.tuple #[entV (g x), .bool (g x).isSome]) w := by
  obtain ⟨D, h1, h2⟩ := h
  obtain ⟨v, ps, hr, hv⟩ := h1.look_ok key_lawR und_entM (zero_ent w) (R := entElem) (zd := .lit (.int .i64 (-2))) (zp := []) rfl (key_ofR x hx)
  rw [(h2 x).2] at hv
  rw [hr, entElem_inv hv, (h2 x).1]
theorem stringR_ne {x y : List UInt8} (h : x ≠ y) : (Lit.string x) ≠ .string y := fun e => h (by injection e)
/-- a name is put -/
theorem EntM.put (h : EntM w m g N) (hN : N ≤ 1000000) (y : List UInt8) (hy : y.length ≤ 1000000) (v : Value) (o : Option Nat) (hv : entElem v = some (entD (some o) (.lit (.int .i64 (-2))), [])) :
    ∃ w', (Instr.mapUpdate 50 (.map (some m)) (.string (bytes y)) v).run Tryz.prog w = .ok () w' ∧ EntM w' m (fun x => if x = y then some o else g x) (N + 1) ∧ w.grownBy w' (some m) := by
  obtain ⟨D, h1, h2⟩ := h
  obtain ⟨w', hr, hown, hg⟩ := h1.update key_lawR und_entM (by unfold maxLen; omega) (key_ofR y hy) hv
  refine ⟨w', hr, ⟨_, hown, fun x => ?_⟩, hg⟩
  have hm := h1.isMap
  by_cases e : x = y
  · subst e
    show Maps.has (D.put (.string x) _) (.string x) = (if x = x then some o else g x).isSome ∧ ∀ z, DataW.atKey (D.put (.string x) _) (.string x) z = entD (if x = x then some o else g x) z
    rw [if_pos rfl]
    refine ⟨by rw [Maps.has_put_same hm (show WideAt.IsKeyLit (.string x) from trivial)]; rfl, fun z => ?_⟩
    rw [Maps.atKey_put_same hm (show WideAt.IsKeyLit (.string x) from trivial)]
    cases o <;> rfl
  · show Maps.has (D.put (.string y) _) (.string x) = (if x = y then some o else g x).isSome ∧ ∀ z, DataW.atKey (D.put (.string y) _) (.string x) z = entD (if x = y then some o else g x) z
    rw [if_neg e]
    refine ⟨by rw [Maps.has_put_other (stringR_ne e), (h2 x).1], fun z => ?_⟩
    rw [Maps.atKey_put_other (stringR_ne e), (h2 x).2]
end
/-! ### small functions -/
set_option maxHeartbeats 1000000 in
set_option maxRecDepth 100000 in
theorem rclone12 (s : ByteArray) (w : World) (hs : s.size ≤ 8388608) : Calls Tryz.prog 35 #[.string s] w fun e w' => e = .returned (.string s) ∧ Below w.heap.size w w' := by
  have C := Lib.hid (Tryz.stringslite_Clone s w (by omega))
  go_enter Tryz.func35, Tryz.ntmps35
  go_wp2_with fail
  refine C.out.mono ?_
  rintro o w2 ⟨rfl, hb⟩
  go_wp2
  go_ret
  exact ⟨rfl, hb⟩
def fiveV (x : List UInt8) : Value := .tuple #[.string (match fiveL x with | some c => bytes [c] | none => ⟨#[]⟩), .bool (fiveL x).isSome]
theorem strEqL (x y : List UInt8) : ((bytes x).toList == y) = decide (x = y) := by
  rw [bytesL_toList]
  by_cases h : x = y
  · rw [decide_eq_true h, h]; simp
  · rw [decide_eq_false h]; exact beq_eq_false_iff_ne.2 h
set_option maxHeartbeats 2000000 in
set_option maxRecDepth 100000 in
theorem given12 (x : List UInt8) (w : World) : Calls Tryz.prog 34 #[.string (bytes x)] w fun e w' => e = .returned (fiveV x) ∧ w' = w := by
  have q0 := strEqL x [108, 116]
  have q1 := strEqL x [103, 116]
  have q2 := strEqL x [97, 109, 112]
  have q3 := strEqL x [97, 112, 111, 115]
  have q4 := strEqL x [113, 117, 111, 116]
  have HV : Hid (∀ c, fiveL x = c → fiveV x = .tuple #[.string (match c with | some c => bytes [c] | none => ⟨#[]⟩), .bool c.isSome]) := Lib.hid (fun c h => by unfold fiveV; rw [h])
  generalize hB : bytes x = B at *
  clear hB
  by_cases h0 : x = [108, 116]
  · rw [decide_eq_true h0] at q0
    have HX := Lib.hid (HV.out (some 60) (by unfold fiveL; rw [if_pos h0]))
    clear HV  q1 q2 q3 q4  h0
    generalize fiveV x = V at *
    go_enter Tryz.func34, Tryz.ntmps34
    go_wp2
    go_ret2
    exact ⟨by rw [HX.out]; rfl, rfl⟩
  rw [decide_eq_false h0] at q0
  by_cases h1 : x = [103, 116]
  · rw [decide_eq_true h1] at q1
    have HX := Lib.hid (HV.out (some 62) (by unfold fiveL; rw [if_neg h0, if_pos h1]))
    clear HV  q2 q3 q4  h0 h1
    generalize fiveV x = V at *
    go_enter Tryz.func34, Tryz.ntmps34
    go_wp2
    go_ret2
    exact ⟨by rw [HX.out]; rfl, rfl⟩
  rw [decide_eq_false h1] at q1
  by_cases h2 : x = [97, 109, 112]
  · rw [decide_eq_true h2] at q2
    have HX := Lib.hid (HV.out (some 38) (by unfold fiveL; rw [if_neg h0, if_neg h1, if_pos h2]))
    clear HV  q3 q4  h0 h1 h2
    generalize fiveV x = V at *
    go_enter Tryz.func34, Tryz.ntmps34
    go_wp2
    go_ret2
    exact ⟨by rw [HX.out]; rfl, rfl⟩
  rw [decide_eq_false h2] at q2
  by_cases h3 : x = [97, 112, 111, 115]
  · rw [decide_eq_true h3] at q3
    have HX := Lib.hid (HV.out (some 39) (by unfold fiveL; rw [if_neg h0, if_neg h1, if_neg h2, if_pos h3]))
    clear HV  q4  h0 h1 h2 h3
    generalize fiveV x = V at *
    go_enter Tryz.func34, Tryz.ntmps34
    go_wp2
    go_ret2
    exact ⟨by rw [HX.out]; rfl, rfl⟩
  rw [decide_eq_false h3] at q3
  by_cases h4 : x = [113, 117, 111, 116]
  · rw [decide_eq_true h4] at q4
    have HX := Lib.hid (HV.out (some 34) (by unfold fiveL; rw [if_neg h0, if_neg h1, if_neg h2, if_neg h3, if_pos h4]))
    clear HV   h0 h1 h2 h3 h4
    generalize fiveV x = V at *
    go_enter Tryz.func34, Tryz.ntmps34
    go_wp2
    go_ret2
    exact ⟨by rw [HX.out]; rfl, rfl⟩
  rw [decide_eq_false h4] at q4
  have HX := Lib.hid (HV.out none (by unfold fiveL; rw [if_neg h0, if_neg h1, if_neg h2, if_neg h3, if_neg h4]))
  clear HV h0 h1 h2 h3 h4
  generalize fiveV x = V at *
  go_enter Tryz.func34, Tryz.ntmps34
  go_wp2
  go_ret2
  exact ⟨by rw [HX.out]; rfl, rfl⟩
end Go.Proofs.YtjijjmkeehdooaaGreatDoor

namespace Go.Proofs.YtjijjmkeehdooaaGreatDoor
open Go.RowKit

/-- an entity whose text is known -/
def innF (x t : List UInt8) (o : Bool) : Nat → Value := fun i => if i = 0 then .string (bytes x) else if i = 1 then .string (bytes t) else .bool o
/-- what leads to an entity is what the name stands for -/
def EntIs (w : World) (r : RefD) (x : List UInt8) (d : Option (Option Nat)) : Prop := match d with
  | none => r.look x = none
  | some none => r.look x = some none
  | some (some q) => ∃ t, r.look x = some (some t) ∧ w.rowIs q 84 3 (innF x t (decide (x ∈ r.opened)))
/-- the pointer to a name's entity -/
def ptrG (g : List UInt8 → Option (Option Nat)) (x : List UInt8) : Value := match g x with
  | some (some q) => .pointer (some ⟨q, 0, none⟩)
  | _ => .pointer none
/-- A REFS IN MEMORY. -/
structure RG (b m : Nat) (sa : Option Addr) (sc : Nat) (g : List UInt8 → Option (Option Nat)) (r : RefD) (N : Nat) (w : World) : Prop where
  ok : OkR r
  box : w.rowIs b 53 3 (fun i => if i = 0 then .map (some m) else if i = 1 then .slice sa r.opened.length sc else .int .i64 (r.n : Int))
  map : EntM w m g N
  own : w.ownsRow 0 82 1 (.slice sa r.opened.length sc) r.opened.length (r.opened.map (ptrG g))
  inn : ∀ x, EntIs w r x (g x)
/-- its blocks -/
def FR (b m : Nat) (sa : Option Addr) (g : List UInt8 → Option (Option Nat)) (k : Nat) : Prop := k = b ∨ k = m ∨ (∃ a, sa = some a ∧ k = a.block) ∨ ∃ x, g x = some (some k)
def IsR (F : Nat → Prop) (w : World) (v : Value) (r : RefD) : Prop := ∃ b m sa sc g N, v = .pointer (some ⟨b, 0, none⟩) ∧ RG b m sa sc g r N w ∧ ∀ k, F k ↔ FR b m sa g k
theorem rowR_ne {w : World} {b b' : Nat} {t t' : TypeId} {n n' : Nat} {f f' : Nat → Value} (h : w.rowIs b t n f) (h' : w.rowIs b' t' n' f') (ht : t ≠ t') : b ≠ b' := by
  rintro rfl
  obtain ⟨c, e, _⟩ := h
  obtain ⟨c', e', _⟩ := h'
  rw [e] at e'
  injection e' with e'
  injection e' with _ e2 _
  exact ht e2
theorem ownR_same {w w' : World} {B : Nat} {e : TypeId} {z : Nat} {v : Value} {n : Nat} {xs : List Value} (h : w.ownsRow B e z v n xs) (hb : ∀ k, v.ownBlock = some k → w'.heap[k]? = w.heap[k]?) : w'.ownsRow B e z v n xs := by
  refine ⟨h.1, ?_⟩
  rcases h.2 with h2 | ⟨g, cap, cur, rfl, hg, hh, h3⟩
  · exact Or.inl h2
  · exact Or.inr ⟨g, cap, cur, rfl, hg, (hb g rfl).trans hh, h3⟩
section
variable {b m sc N : Nat} {sa : Option Addr} {g : List UInt8 → Option (Option Nat)} {r : RefD} {w w' : World}
theorem EntIs.keep {x : List UInt8} {d : Option (Option Nat)} (h : EntIs w r x d) (hb : ∀ q, d = some (some q) → w'.heap[q]? = w.heap[q]?) : EntIs w' r x d := by
  match d, h, hb with
  | none, h, _ => exact h
  | some none, h, _ => exact h
  | some (some q), ⟨t, h1, h2⟩, hb => exact ⟨t, h1, h2.of_block (hb q rfl)⟩
theorem RG.keep (h : RG b m sa sc g r N w) (hb : ∀ k, FR b m sa g k → w'.heap[k]? = w.heap[k]?) : RG b m sa sc g r N w' :=
  ⟨h.ok, h.box.of_block (hb b (Or.inl rfl)), h.map.of_block (hb m (Or.inr (Or.inl rfl))), ownR_same h.own (fun k hk => hb k (Or.inr (Or.inr (Or.inl (by
    cases sa with
    | none => cases hk
    | some a => exact ⟨a, rfl, by injection hk with hk; exact hk.symm⟩))))), fun x => (h.inn x).keep fun q hq => hb q (Or.inr (Or.inr (Or.inr ⟨x, hq⟩)))⟩
theorem RG.lt (h : RG b m sa sc g r N w) : ∀ k, FR b m sa g k → k < w.heap.size := by
  rintro k (rfl | rfl | ⟨a, rfl, rfl⟩ | ⟨x, hx⟩)
  · exact h.box.lt
  · exact h.map.lt
  · rcases h.own.2 with ⟨e, _⟩ | ⟨g', cap, cur, e, _, hh, _⟩
    · cases e
    · injection e with e1 _ _
      injection e1 with e1
      subst e1
      exact (Array.getElem?_eq_some_iff.1 hh).1
  · have hi := h.inn x
    rw [hx] at hi
    obtain ⟨t, _, hr⟩ := hi
    exact hr.lt
theorem RG.other (h : RG b m sa sc g r N w) (hb : Below w.heap.size w w') : RG b m sa sc g r N w' := h.keep fun k hk => hb.block k (h.lt k hk)
theorem RG.drewN (h : RG b m sa sc g r N w) (k : Nat) : RG b m sa sc g r N (w.drewN k) := h.keep fun _ _ => rfl
theorem RG.c0 (h : RG b m sa sc g r N w) : w.cell? ⟨b, 0, none⟩ = some (.map (some m)) := h.box.cell (i := 0) (by decide)
theorem RG.c1 (h : RG b m sa sc g r N w) : w.cell? ⟨b, 1, none⟩ = some (.slice sa r.opened.length sc) := h.box.cell (i := 1) (by decide)
theorem RG.c2 (h : RG b m sa sc g r N w) : w.cell? ⟨b, 2, none⟩ = some (.int .i64 (r.n : Int)) := h.box.cell (i := 2) (by decide)
theorem RG.bq (h : RG b m sa sc g r N w) {x : List UInt8} {q : Nat} (hx : g x = some (some q)) : q ≠ b := by
  have hi := h.inn x
  rw [hx] at hi
  obtain ⟨t, _, hr⟩ := hi
  exact rowR_ne hr h.box (by decide)
theorem RG.mb (h : RG b m sa sc g r N w) : m ≠ b := by
  rintro rfl
  obtain ⟨es, cl, he⟩ := h.map.map
  obtain ⟨c, hc, _⟩ := h.box
  rw [hc] at he
  cases he
theorem RG.mq (h : RG b m sa sc g r N w) {x : List UInt8} {q : Nat} (hx : g x = some (some q)) : q ≠ m := by
  rintro rfl
  have hi := h.inn x
  rw [hx] at hi
  obtain ⟨t, _, hr⟩ := hi
  obtain ⟨es, cl, he⟩ := h.map.map
  obtain ⟨c, hc, _⟩ := hr
  rw [hc] at he
  cases he
theorem ownR_ne {B n z c : Nat} {e t : TypeId} {k : Nat} {a : Option Addr} {f : Nat → Value} {xs : List Value} {l : Nat} (h : w.rowIs k t n f) (ho : w.ownsRow B e z (.slice a l c) l xs) (ht : t ≠ e) : ∀ p, a = some p → p.block ≠ k := by
  rintro p rfl
  rcases ho.2 with ⟨e, _⟩ | ⟨g', cap, cur, e, _, hg, _⟩
  · cases e
  · injection e with e1 _ _
    injection e1 with e1
    subst e1
    rintro rfl
    obtain ⟨cc, hcc, _⟩ := h
    rw [hg] at hcc
    injection hcc with e2
    injection e2 with _ e3 _
    exact ht e3.symm
theorem RG.ab (h : RG b m sa sc g r N w) : ∀ p, sa = some p → p.block ≠ b := ownR_ne h.box h.own (by decide)
theorem RG.aq (h : RG b m sa sc g r N w) {x : List UInt8} {q : Nat} (hx : g x = some (some q)) : ∀ p, sa = some p → p.block ≠ q := by
  have hi := h.inn x
  rw [hx] at hi
  obtain ⟨t, _, hr⟩ := hi
  exact ownR_ne hr h.own (by decide)
theorem RG.am (h : RG b m sa sc g r N w) : ∀ p, sa = some p → p.block ≠ m := by
  rintro p rfl
  rcases h.own.2 with ⟨e, _⟩ | ⟨g', cap, cur, e, _, hg, _⟩
  · cases e
  · injection e with e1 _ _
    injection e1 with e1
    subst e1
    rintro rfl
    obtain ⟨es, cl, he⟩ := h.map.map
    rw [hg] at he
    cases he
/-- a block is of one name alone -/
theorem RG.one (h : RG b m sa sc g r N w) {x y : List UInt8} {q : Nat} (hx : g x = some (some q)) (hy : g y = some (some q)) : x = y := by
  have h1 := h.inn x
  have h2 := h.inn y
  rw [hx] at h1
  rw [hy] at h2
  obtain ⟨t, _, hr⟩ := h1
  obtain ⟨u, _, hs⟩ := h2
  have c1 := hr.cell (i := 0) (by decide)
  have c2 := hs.cell (i := 0) (by decide)
  rw [c1] at c2
  injection c2 with c2
  have c3 : Value.string (bytes x) = .string (bytes y) := c2
  injection c3 with c3
  exact bytesL_inj c3
/-! ### reading -/
set_option maxHeartbeats 1000000 in
set_option maxRecDepth 100000 in
theorem getI_r {q : Nat} {x t : List UInt8} {o : Bool} (h : w.rowIs q 84 3 (innF x t o)) (ht : t.length ≤ 1048576) : Calls Tryz.prog 95 #[.pointer (some ⟨q, 0, none⟩)] w fun e w' => e = .returned (.tuple #[.string (bytes t), .int .i64 0]) ∧ Below w.heap.size w w' := by
  have c1 : w.cell? ⟨q, 1, none⟩ = some (.string (bytes t)) := h.cell (i := 1) (by decide)
  have C := Lib.hid (rclone12 (bytes t) w (by rw [bytesL_len]; omega))
  go_enter Tryz.func95, Tryz.ntmps95
  go_wp2_with fail
  refine C.out.mono ?_
  rintro e w2 ⟨rfl, hb⟩
  go_wp2
  go_ret2
  exact ⟨rfl, hb⟩
set_option maxHeartbeats 1000000 in
set_option maxRecDepth 100000 in
theorem getO_r (w : World) : Calls Tryz.prog 149 #[.agg #[]] w fun e w' => e = .returned (.tuple #[.string ⟨#[]⟩, .int .i64 5]) ∧ Below w.heap.size w w' := by
  have hb := (Below.refl w.heap.size w).alloc (Nat.le_refl _)
  go_enter Tryz.func149, Tryz.ntmps149
  go_wp2
  go_ret2
  exact ⟨rfl, by first | exact Below.refl _ _ | exact hb _⟩
theorem as_innR (v : Value) (w : World) : (Instr.typeAssert (.iface 82 v) 78 82 true).run Tryz.prog w = .ok (.tuple #[v, .bool true]) w := by kernel_rfl
theorem as_outR (v : Value) (w : World) : (Instr.typeAssert (.iface 81 v) 78 82 true).run Tryz.prog w = .ok (.tuple #[.pointer none, .bool false]) w := by kernel_rfl
theorem meth_innR (n : Nat) (v : Value) (w : World) : (method (n + 1) 82 v "bracken/refs.get").run Tryz.prog w = .ok (95, v) w := by kernel_rfl
theorem meth_outR (n : Nat) (v : Value) (w : World) : (method (n + 1) 81 v "bracken/refs.get").run Tryz.prog w = .ok (149, v) w := by kernel_rfl
/-- what inner gives -/
def innV (d : Option (Option Nat)) : Value := match d with
  | none => .tuple #[.pointer none, .int .i64 6]
  | some none => .tuple #[.pointer none, .int .i64 5]
  | some (some q) => .tuple #[.pointer (some ⟨q, 0, none⟩), .int .i64 0]
set_option maxHeartbeats 1000000 in
set_option maxRecDepth 100000 in
theorem inner_r (h : RG b m sa sc g r N w) (x : List UInt8) (hx : x.length ≤ 1000000) : Calls Tryz.prog 93 #[.pointer (some ⟨b, 0, none⟩), .string (bytes x)] w fun e w' => e = .returned (innV (g x)) ∧ w' = w := by
  have c0 := h.c0
  have hl := h.map.look x hx
  clear h
  generalize g x = d at hl ⊢
  cases d with
  | none =>
    replace hl : (Instr.lookup 50 (.map (some m)) (.string (bytes x)) true).run Tryz.prog w = .ok (.tuple #[.nilIface, .bool false]) w := hl
    go_enter Tryz.func93, Tryz.ntmps93
    go_wp2
    go_ret2
    exact ⟨rfl, rfl⟩
  | some d =>
    cases d with
    | none =>
      replace hl : (Instr.lookup 50 (.map (some m)) (.string (bytes x)) true).run Tryz.prog w = .ok (.tuple #[.iface 81 (.agg #[]), .bool true]) w := hl
      have ha := as_outR (.agg #[])
      go_enter Tryz.func93, Tryz.ntmps93
      go_wp2
      go_ret2
      exact ⟨rfl, rfl⟩
    | some q =>
      replace hl : (Instr.lookup 50 (.map (some m)) (.string (bytes x)) true).run Tryz.prog w = .ok (.tuple #[.iface 82 (.pointer (some ⟨q, 0, none⟩)), .bool true]) w := hl
      have ha := as_innR (.pointer (some ⟨q, 0, none⟩))
      go_enter Tryz.func93, Tryz.ntmps93
      go_wp2
      go_ret2
      exact ⟨rfl, rfl⟩
set_option maxHeartbeats 1000000 in
set_option maxRecDepth 100000 in
theorem spent_r (h : RG b m sa sc g r N w) : Calls Tryz.prog 14 #[.pointer (some ⟨b, 0, none⟩)] w fun e w' => e = .returned (.int .i64 (r.n : Int)) ∧ w' = w := by
  have c2 := h.c2
  clear h
  go_enter Tryz.func14, Tryz.ntmps14
  go_wp2
  go_ret
  exact ⟨rfl, rfl⟩
set_option maxHeartbeats 1000000 in
set_option maxRecDepth 100000 in
theorem spentNil_r (w : World) : Calls Tryz.prog 14 #[.pointer none] w fun e w' => e = .returned (.int .i64 0) ∧ w' = w := by
  go_enter Tryz.func14, Tryz.ntmps14
  go_wp2
  go_ret
  exact ⟨rfl, rfl⟩
set_option maxHeartbeats 1000000 in
set_option maxRecDepth 100000 in
theorem depth_r (h : RG b m sa sc g r N w) : Calls Tryz.prog 15 #[.pointer (some ⟨b, 0, none⟩)] w fun e w' => e = .returned (.int .i64 (r.opened.length : Int)) ∧ w' = w := by
  have c1 := h.c1
  clear h
  generalize r.opened.length = n at *
  go_enter Tryz.func15, Tryz.ntmps15
  go_wp2
  go_ret
  exact ⟨rfl, rfl⟩
set_option maxHeartbeats 2000000 in
set_option maxRecDepth 100000 in
theorem get_r (h : RG b m sa sc g r N w) (x : List UInt8) (hx : x.length ≤ 1000000) : Calls Tryz.prog 68 #[.pointer (some ⟨b, 0, none⟩), .string (bytes x)] w fun e w' => e = .returned (.tuple #[.string (bytes (getR r x).1), .bool (getR r x).2.1, .int .i64 (getR r x).2.2]) ∧ Below w.heap.size w w' := by
  have c0 := h.c0
  have hl := h.map.look x hx
  have hi := h.inn x
  have hs := h.ok.small x
  have CG := given12 x w
  clear h
  unfold fiveV at CG
  cases h5 : fiveL x with
  | some c =>
    rw [h5] at CG
    have HG : Hid (getR r x = ([c], true, 0)) := Lib.hid (by unfold getR; rw [h5])
    have HC := Lib.hid CG
    clear CG hi hl hs h5
    rw [HG.out]
    go_enter Tryz.func68, Tryz.ntmps68
    go_wp2_with fail
    refine HC.out.mono ?_
    rintro e w2 ⟨rfl, rfl⟩
    go_wp2
    go_ret3
    exact ⟨rfl, Below.refl _ _⟩
  | none =>
    rw [h5] at CG
    have HC := Lib.hid CG
    clear CG
    cases hg : g x with
    | none =>
      rw [hg] at hi hl
      have HG : Hid (getR r x = ([], false, 6)) := Lib.hid (by
        have hi' : r.look x = none := hi
        unfold getR; rw [h5, hi'])
      replace hl : (Instr.lookup 50 (.map (some m)) (.string (bytes x)) true).run Tryz.prog w = .ok (.tuple #[.nilIface, .bool false]) w := hl
      clear hi hs h5 hg
      rw [HG.out]
      go_enter Tryz.func68, Tryz.ntmps68
      go_wp2_with fail
      refine HC.out.mono ?_
      rintro e w2 ⟨rfl, rfl⟩
      go_wp2
      go_ret3
      exact ⟨rfl, Below.refl _ _⟩
    | some d =>
      cases d with
      | none =>
        rw [hg] at hi hl
        have HG : Hid (getR r x = ([], false, 5)) := Lib.hid (by
          have hi' : r.look x = some none := hi
          unfold getR; rw [h5, hi'])
        replace hl : (Instr.lookup 50 (.map (some m)) (.string (bytes x)) true).run Tryz.prog w = .ok (.tuple #[.iface 81 (.agg #[]), .bool true]) w := hl
        have hm := fun n => meth_outR n (.agg #[])
        have CO := Lib.hid (getO_r w)
        clear hi hs h5 hg
        rw [HG.out]
        go_enter Tryz.func68, Tryz.ntmps68
        go_wp2_with fail
        refine HC.out.mono ?_
        rintro e w2 ⟨rfl, rfl⟩
        go_wp2_with fail
        refine CO.out.mono ?_
        rintro e w3 ⟨rfl, hb⟩
        go_wp2
        go_ret3
        exact ⟨rfl, hb⟩
      | some q =>
        rw [hg] at hi hl
        obtain ⟨t, ht, hr⟩ := hi
        have HG : Hid (getR r x = (t, false, 0)) := Lib.hid (by unfold getR; rw [h5, ht])
        replace hl : (Instr.lookup 50 (.map (some m)) (.string (bytes x)) true).run Tryz.prog w = .ok (.tuple #[.iface 82 (.pointer (some ⟨q, 0, none⟩)), .bool true]) w := hl
        have hm := fun n => meth_innR n (.pointer (some ⟨q, 0, none⟩))
        have CO := Lib.hid (getI_r hr (hs t ht))
        clear hr hs h5 hg ht
        rw [HG.out]
        go_enter Tryz.func68, Tryz.ntmps68
        go_wp2_with fail
        refine HC.out.mono ?_
        rintro e w2 ⟨rfl, rfl⟩
        go_wp2_with fail
        refine CO.out.mono ?_
        rintro e w3 ⟨rfl, hb⟩
        go_wp2
        go_ret3
        exact ⟨rfl, hb⟩
end
end Go.Proofs.YtjijjmkeehdooaaGreatDoor
