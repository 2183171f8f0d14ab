/-
  ROWS OF NAMES THAT ARE ONE'S OWN.
-/
import Derived.Test.YthhnpnjnlbjdjaaRfIns
import Derived.Test.YthhnpnjnlbjdjaaRfPushW
import Derived.Deep.RegionLaw
namespace Go.Proofs.Ythhnpnjnlbjdjaa
open Go.RowKit

def strV (L : List Nm) : List Value := L.map fun p => .string (bytes p)
theorem strV_len (L : List Nm) : (strV L).length = L.length := List.length_map _
theorem strV_at (L : List Nm) (i : Nat) (x : Nm) (h : L[i]? = some x) : (strV L)[i]? = some (.string (bytes x)) := by
  unfold strV
  rw [List.getElem?_map, h]
  rfl
theorem strV_one (L : List Nm) : ∀ u ∈ strV L, u.oneCell' = true := by
  intro u hu
  obtain ⟨p, _, rfl⟩ := List.mem_map.1 hu
  rfl
/-- the value v is a slice of the names L, its own row, in a block from b on -/
abbrev NamesV (w : World) (b : Nat) (v : Value) (L : List Nm) : Prop := w.ownsRow b 9 1 v L.length (strV L)
theorem own_form14 {w : World} {b : Nat} {t : TypeId} {v : Value} {n : Nat} {xs : List Value} (h : w.ownsRow b t 1 v n xs) (hn : 0 < n) :
    ∃ g cap, v = .slice (some ⟨g, 0, none⟩) n cap ∧ b ≤ g ∧ g < w.heap.size ∧ n ≤ cap ∧ cap ≤ maxLen ∧ ∀ j u, xs[j]? = some u → w.cell? ⟨g, j, none⟩ = some u := by
  obtain ⟨g, cap, hv, hb, hg⟩ := h.form hn
  rcases h.2 with ⟨_, h0⟩ | ⟨g', cap', cur, hv', _, _, hc, hm, _⟩
  · omega
  · rw [hv] at hv'
    injection hv' with h1 h2 h3
    injection h1 with h1
    injection h1 with h1 _ _
    subst h1; subst h3
    refine ⟨g, cap, hv, hb, hg, hc, hm, fun j u hj => ?_⟩
    subst hv
    have hlt : j < xs.length := (List.getElem?_eq_some_iff.1 hj).1
    rw [h.1] at hlt
    rw [h.cellAt j hlt]
    exact hj
theorem names_block {w w' : World} {b : Nat} {v : Value} {L : List Nm} (h : NamesV w b v L) (hk : ∀ g, v.ownBlock = some g → w'.heap[g]? = w.heap[g]?) : NamesV w' b v L := by
  refine ⟨h.1, ?_⟩
  rcases h.2 with h1 | ⟨g, cap, cur, rfl, hb, hg, r⟩
  · exact Or.inl h1
  · exact Or.inr ⟨g, cap, cur, rfl, hb, (hk g rfl).trans hg, r⟩
theorem names_below {w w' : World} {b : Nat} {v : Value} {L : List Nm} (h : NamesV w b v L) (hb : Below w.heap.size w w') : NamesV w' b v L :=
  names_block h fun g hg => hb.block g (h.lt g hg).2
theorem info_str14 : (Try.prog.info? 9).map (fun i => (i.zero, i.size, i.bytes)) = some (some (.string ⟨#[]⟩), 1, 16) := by kernel_rfl
/-- append of names to names, at a step of a region that draws its order -/
theorem step_names {ops : Array Oper} {o : Oper} {a : Act} {w : World} {K : Act → World → Prop} {Q : Exit → Act → World → Prop} {E : Prop} (hgd : o.guard = none) (s x : Operand)
    (ho : o.op = .call { callee := .builtin .append, args := #[s, x], argTypes := #[37, 37] })
    (base : Nat) (v : Value) (n : Nat) (xs : List Value) (hs : a.eval s = v) (hown : w.ownsRow base 9 1 v n xs)
    (ad : Addr) (m c : Nat) (news : List Value) (hx : a.eval x = .slice (some ad) m c) (hl : news.length = m) (hnews : ∀ j u, news[j]? = some u → w.cell? (ad.add j) = some u) (h1 : ∀ u ∈ news, u.oneCell' = true)
    (hnm : n + m ≤ 1000) (w0 : World) (hB : Below base w0 w) (hb : base ≤ w.heap.size)
    (h : ∀ v' w', w'.ownsRow base 9 1 v' (n + m) (xs ++ news) → Below base w0 w' → w.grownBy w' v.ownBlock → K (a.put o.dst v') w') :
    if Region.wanted o (yielded ops a.tmps) = true then Oper.wp Try.prog o a w K Q else E := by
  have hw : Region.wanted o (yielded ops a.tmps) = true := by simp [Region.wanted, hgd]
  rw [if_pos hw]
  obtain ⟨i, hi, hz, hsz, hby⟩ := info_open14 info_str14
  exact wp_append_own w s x 37 ho base 9 i (.string ⟨#[]⟩) 1 16 Try.underlying37 hi hz hsz hby rfl (by decide) v n xs hs hown ad m c news hx (by rw [Nat.mul_one]; exact hl) hnews h1 (by unfold maxLen; omega) (by omega) hb
    fun v' w' h2 h3 _ => h v' w' h2 (hB.grown h3 hb fun q hq => (hown.lt q hq).1) h3
theorem insN_pos1 (p : Nm) (L : List Nm) (n : Nat) (h : PosL p L L.length n) (hn : p ∉ L) : strV (insN p L) = ((strV L).take n ++ [.string (bytes p)]) ++ (strV L).drop n ∧ (insN p L).length = n + 1 + (L.length - n) := by
  have hle := h.le
  rw [insN_pos p L n h hn]
  constructor
  · unfold strV
    simp [List.map_take, List.map_drop]
  · simp
    omega
end Go.Proofs.Ythhnpnjnlbjdjaa
