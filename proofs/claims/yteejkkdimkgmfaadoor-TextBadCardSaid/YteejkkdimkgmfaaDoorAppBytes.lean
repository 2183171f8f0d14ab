/-
  BYTES APPENDED TO A ROW OF THE CALL's OWN, AT A STEP OF A REGION THAT DRAWS ITS ORDER AND AT A GUARDED OPERATION; and what of other rows stays.
-/
import Derived.Test.YteejkkdimkgmfaaDoorTextPart
import Derived.Deep.AppendLies
namespace Go.Proofs.YteejkkdimkgmfaaDoor
open Go.RowKit

theorem alloc_size (w : World) (o : Obj) : (w.alloc o).heap.size = w.heap.size + 1 := by
  show (w.heap.push o).size = _
  rw [Array.size_push]
theorem OwnB.keep {w w' : World} {base : Nat} {v : Value} {l : List UInt8} (h : OwnB w base v l) (hh : ∀ g, v.ownBlock = some g → g < w.heap.size → w'.heap[g]? = w.heap[g]?) : OwnB w' base v l := by
  refine ⟨h.1, ?_⟩
  rcases h.2 with h2 | ⟨g, cap, cur, rfl, h3, h4, h5⟩
  · exact Or.inl h2
  · have hlt : g < w.heap.size := (Array.getElem?_eq_some_iff.1 h4).1
    exact Or.inr ⟨g, cap, cur, rfl, h3, by rw [hh g rfl hlt]; exact h4, h5⟩
theorem OwnB.below {w w' : World} {base : Nat} {v : Value} {l : List UInt8} (h : OwnB w base v l) (hb : Below w.heap.size w w') : OwnB w' base v l :=
  h.keep fun g _ hlt => hb.block g hlt
theorem OwnB.grown {w w' : World} {base : Nat} {v : Value} {l : List UInt8} (h : OwnB w base v l) {r : Option Nat} (hg : w.grownBy w' r) (hne : ∀ g, v.ownBlock = some g → some g ≠ r) : OwnB w' base v l :=
  h.keep fun g e hlt => hg.block g hlt (hne g e)
theorem OwnB.mono {w : World} {base base' : Nat} {v : Value} {l : List UInt8} (h : OwnB w base v l) (hb : base' ≤ base) : OwnB w base' v l := by
  refine ⟨h.1, ?_⟩
  rcases h.2 with h2 | ⟨g, cap, cur, rfl, h3, h4⟩
  · exact Or.inl h2
  · exact Or.inr ⟨g, cap, cur, rfl, by omega, h4⟩
theorem OwnB.lt {w : World} {base : Nat} {v : Value} {l : List UInt8} (h : OwnB w base v l) : ∀ g, v.ownBlock = some g → base ≤ g ∧ g < w.heap.size := by
  intro g hg
  rcases h.2 with ⟨rfl, _⟩ | ⟨g', cap, cur, rfl, h3, h4, _⟩
  · cases hg
  · have hlt : g' < w.heap.size := (Array.getElem?_eq_some_iff.1 h4).1
    simp only [Value.ownBlock, Option.some.injEq] at hg
    omega
theorem ownB_form {w : World} {base : Nat} {v : Value} {l : List UInt8} (h : OwnB w base v l) : ∃ a cap, v = .slice a l.length cap ∧ SrcOK w a l cap := by
  have hb := ownB_at h
  rcases h.2 with ⟨rfl, h0⟩ | ⟨g, cap, cur, rfl, _⟩
  · have : l = [] := List.eq_nil_of_length_eq_zero (by simpa using h0)
    subst this
    exact ⟨none, 0, rfl, Or.inl ⟨rfl, rfl, rfl⟩⟩
  · exact ⟨_, cap, rfl, srcOK_of hb (fun e => by cases e) (Below.refl _ _)⟩
theorem ownB_srcOK {w : World} {base n cap : Nat} {a : Option Addr} {l : List UInt8} (h : OwnB w base (.slice a n cap) l) : SrcOK w a l cap := by
  obtain ⟨a', cap', e, hs⟩ := ownB_form h
  injection e with e1 _ e3
  subst e1
  subst e3
  exact hs
theorem run_append_bytes {w : World} (ty : TypeId) (base : Nat) (v : Value) (l bs : List UInt8) (a : Option Addr) (n cap : Nat) (hown : OwnB w base v l) (hsrc : SrcOK w a bs cap) (hn : bs.length = n) (hl : l.length + n ≤ 1000) (hbase : base ≤ w.heap.size) :
    ∃ v' w', (Builtin.append_ #[22, 22] ty #[v, .slice a n cap]).run Tryd.prog w = .ok v' w' ∧ OwnB w' base v' (l ++ bs) ∧ w.grownBy w' v.ownBlock := by
  obtain ⟨i0, hi, hz0, hz1, hz2⟩ := info_parts info_u8
  rcases hsrc with ⟨rfl, rfl, rfl⟩ | ⟨ad, rfl, hc⟩
  · obtain rfl : n = 0 := by simpa using hn.symm
    exact ⟨v, w, run_append_owned_none w base 22 ty 5 i0 1 Tryd.underlying22 hi v _ _ hown, by rw [List.append_nil]; exact hown, World.grownBy.refl w _⟩
  · obtain ⟨v', w', hr, h2, h3, _⟩ := run_append_own (P := Tryd.prog) w base 22 ty 5 i0 (.int .u8 0) 1 1 Tryd.underlying22 hi hz0 hz1 hz2 rfl (by decide) v _ _ hown ad n cap (bs.map bval) (by rw [List.length_map]; omega) hc (bytes_one bs) (by unfold maxLen; omega) (by omega) hbase
    exact ⟨v', w', hr, by unfold OwnB; rw [List.length_append, List.map_append, hn]; exact h2, h3⟩
theorem wp_append_bytes {w : World} {o : Oper} {act : Act} {K : Act → World → Prop} {Q : Exit → Act → World → Prop} (s x : Operand)
    (ho : o.op = .call { callee := .builtin .append, args := #[s, x], argTypes := #[22, 22] })
    (base : Nat) (v : Value) (l bs : List UInt8) (a : Option Addr) (n cap : Nat) (hs : act.eval s = v) (hown : OwnB w base v l) (hsrc : SrcOK w a bs cap) (hn : bs.length = n) (hx : act.eval x = .slice a n cap)
    (hl : l.length + n ≤ 1000) (hbase : base ≤ w.heap.size)
    (h : ∀ v' w', OwnB w' base v' (l ++ bs) → w.grownBy w' v.ownBlock → K (act.put o.dst v') w') : o.wp Tryd.prog act w K Q := by
  obtain ⟨v', w', hr, h2, h3⟩ := run_append_bytes o.type base v l bs a n cap hown hsrc hn hl hbase
  unfold Oper.wp execOp
  simp only [ho, resolve, invoke, builtin, Sem.run_bind, Sem.run_pure, Result.andThen_ok, List.map_toArray, List.map_cons, List.map_nil, hs, hx, hr]
  exact h v' w' h2 h3
theorem step_append_bytes {w : World} {ops : Array Oper} {o : Oper} {act : Act} {K : Act → World → Prop} {Q : Exit → Act → World → Prop} {E' : Prop} (hgd : o.guard = none) (s x : Operand)
    (ho : o.op = .call { callee := .builtin .append, args := #[s, x], argTypes := #[22, 22] })
    (base : Nat) (v : Value) (l bs : List UInt8) (a : Option Addr) (n cap : Nat) (hs : act.eval s = v) (hown : OwnB w base v l) (hsrc : SrcOK w a bs cap) (hn : bs.length = n) (hx : act.eval x = .slice a n cap)
    (hl : l.length + n ≤ 1000) (hbase : base ≤ w.heap.size)
    (h : ∀ v' w', OwnB w' base v' (l ++ bs) → w.grownBy w' v.ownBlock → K (act.put o.dst v') w') : if Region.wanted o (yielded ops act.tmps) = true then Oper.wp Tryd.prog o act w K Q else E' := by
  have hw : Region.wanted o (yielded ops act.tmps) = true := by simp [Region.wanted, hgd]
  rw [if_pos hw]
  exact wp_append_bytes s x ho base v l bs a n cap hs hown hsrc hn hx hl hbase h
theorem wpList_append_bytes_g {w : World} {ops : Array Oper} {rest : List Oper} {o : Oper} {act : Act} {Q : Exit → Act → World → Prop} (hw : Region.wanted o (yielded ops act.tmps) = true) (s x : Operand)
    (ho : o.op = .call { callee := .builtin .append, args := #[s, x], argTypes := #[22, 22] })
    (base : Nat) (v : Value) (l bs : List UInt8) (a : Option Addr) (n cap : Nat) (hs : act.eval s = v) (hown : OwnB w base v l) (hsrc : SrcOK w a bs cap) (hn : bs.length = n) (hx : act.eval x = .slice a n cap)
    (hl : l.length + n ≤ 1000) (hbase : base ≤ w.heap.size)
    (h : ∀ v' w', OwnB w' base v' (l ++ bs) → w.grownBy w' v.ownBlock → wpList Tryd.prog ops Q rest (act.put o.dst v') w') : wpList Tryd.prog ops Q (o :: rest) act w := by
  refine wpList_step fun K hK => ?_
  rw [if_pos hw]
  exact wp_append_bytes s x ho base v l bs a n cap hs hown hsrc hn hx hl hbase (fun v' w' h1 h2 => hK _ _ (h v' w' h1 h2))
theorem srcOK_one (w : World) (c : UInt8) : SrcOK (w.alloc (.cells #[bval c] 5 (0, 0))) (some ⟨w.heap.size, 0, none⟩) [c] 1 := by
  refine Or.inr ⟨_, rfl, fun j u hu => ?_⟩
  rcases j with _ | j
  · simp at hu; subst hu; exact cell_new1 _ _ _
  · simp at hu
end Go.Proofs.YteejkkdimkgmfaaDoor
