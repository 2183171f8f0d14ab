/-
  THE LANDED PACKAGE wave: how a Wave is made.
-/
import Derived.Test.YtnjlckgmoodkiaaRunWSplit
import Derived.Test.YtnjlckgmoodkiaaRunWGet
import Derived.Deep.AppendLies
import Derived.Deep.RegionLaw
namespace Go.Proofs.Ytnjlckgmoodkiaa
open Go.RowKit

theorem info_partW : (Try.prog.info? 53).map (fun i => (i.zero, i.size, i.bytes)) = some (some .nilIface, 1, 16) := by kernel_rfl
theorem owns_same {w w' : World} {base size n : Nat} {e : TypeId} {v : Value} {xs : List Value} (h : w.ownsRow base e size v n xs) (hb : ∀ k, base ≤ k → k < w.heap.size → w'.heap[k]? = w.heap[k]?) : w'.ownsRow base e size v n xs := by
  refine ⟨h.1, ?_⟩
  rcases h.2 with h0 | ⟨g, c, cur, h', hbs, hg, rest⟩
  · exact .inl h0
  · exact .inr ⟨g, c, cur, h', hbs, (hb g hbs (Array.getElem?_eq_some_iff.1 hg).1).trans hg, rest⟩
/-- A Wave OF j LEVELS, in block p, its parts in a block of their own; all of it in blocks from p on. -/
structure RisingW (p j L cap : Nat) (qa : Option Addr) (lb lt : Nat → Nat) (ba : Nat → Addr) (xs : List Int) (sigma : Int) (w : World) : Prop where
  pa : WaV p xs.length j cap 0 qa sigma w
  own : w.ownsRow (p + 1) 53 1 (.slice qa j cap) j ((List.range j).map (levV ba))
  lvs : ∀ i, i < j → p < lb i ∧ lt i ≤ w.heap.size
  qlv : ∀ i, i < j → ∀ g, qa = some ⟨g, 0, none⟩ → g < lb i ∨ lt i ≤ g
  kept : ∀ i, i < j → KeptIn (lb i) (lt i) w (.pointer (some (ba i))) (bitsL xs L i)
section
variable {p j L cap : Nat} {qa : Option Addr} {lb lt : Nat → Nat} {ba : Nat → Addr} {xs : List Int} {sigma : Int} {w w' : World}
theorem RisingW.below (h : RisingW p j L cap qa lb lt ba xs sigma w) (hb : Below w.heap.size w w') : RisingW p j L cap qa lb lt ba xs sigma w' :=
  ⟨h.pa.of_block (hb.block p h.pa.lt), owns_same h.own fun k _ h2 => hb.block k h2, fun i hi => ⟨(h.lvs i hi).1, Nat.le_trans (h.lvs i hi).2 hb.size⟩, h.qlv,
    fun i hi => (h.kept i hi).keep fun k _ h2 => hb.block k (by have := (h.lvs i hi).2; omega)⟩
theorem RisingW.form (h : RisingW p j L cap qa lb lt ba xs sigma w) : (qa = none ∧ j = 0 ∧ cap = 0) ∨ ∃ q, qa = some ⟨q, 0, none⟩ ∧ p < q ∧ q < w.heap.size := by
  rcases h.own.2 with ⟨h', h0⟩ | ⟨g, c, cur, h', hbs, hg, _⟩
  · injection h' with h1 _ h3
    exact Or.inl ⟨h1, h0, h3⟩
  · injection h' with h1
    exact Or.inr ⟨g, h1, by omega, (Array.getElem?_eq_some_iff.1 hg).1⟩
theorem rising_startW (n : Nat) (w : World) (hn : n = xs.length) : RisingW w.heap.size 0 L 0 none lb lt ba xs sigma (w.alloc (.cells #[.int .i64 n, .int .i64 sigma, .slice none 0 0, .int .i64 0] 44)) := by
  subst hn
  refine ⟨?_, World.ownsRow_nil _ _ _ _, fun i hi => absurd hi (Nat.not_lt_zero _), fun i hi => absurd hi (Nat.not_lt_zero _), fun i hi => absurd hi (Nat.not_lt_zero _)⟩
  refine World.rowIs_alloc w #[.int .i64 xs.length, .int .i64 sigma, .slice none 0 0, .int .i64 0] 44 _ fun i hi => ?_
  rcases (show i = 0 ∨ i = 1 ∨ i = 2 ∨ i = 3 by have : i < 4 := hi; omega) with rfl | rfl | rfl | rfl <;> rfl
/-- one level more is put on -/
theorem RisingW.add (h : RisingW p j L cap qa lb lt ba xs sigma w) {b2 t2 : Nat} {a2 : Addr} (hb2 : p < b2) (ht2 : t2 ≤ w.heap.size) (hq2 : ∀ q, qa = some ⟨q, 0, none⟩ → q < b2) (hk : KeptIn b2 t2 w (.pointer (some a2)) (bitsL xs L j))
    (q2 cap2 : Nat) (c : Array Value) (t : TypeId) (w2 : World) (hg : (w.alloc (.cells c t)).grownBy w2 (Value.slice qa j cap).ownBlock) (hlies : (Value.slice qa j cap).ownBlock = some q2 ∨ q2 = w.heap.size + 1)
    (ho : w2.ownsRow (p + 1) 53 1 (.slice (some ⟨q2, 0, none⟩) (j + 1) cap2) (j + 1) ((List.range j).map (levV ba) ++ [.iface 49 (.agg #[.pointer (some a2)])])) :
    RisingW p (j + 1) L cap2 (some ⟨q2, 0, none⟩) (fun i => if i = j then b2 else lb i) (fun i => if i = j then t2 else lt i) (fun i => if i = j then a2 else ba i) xs sigma (w2.setCell ⟨p, 2, none⟩ (.slice (some ⟨q2, 0, none⟩) (j + 1) cap2)) := by
  have hp := h.pa.lt
  have hz : (w.alloc (.cells c t)).heap.size = w.heap.size + 1 := by show (w.heap.push _).size = _; rw [Array.size_push]
  have hz2 := hg.size
  have hown : ∀ k, (Value.slice qa j cap).ownBlock = some k → p < k ∧ k < w.heap.size := by
    intro k hk
    rcases h.form with ⟨rfl, _, _⟩ | ⟨q, rfl, h1, h2⟩
    · cases hk
    · injection hk with hk
      have : q = k := hk
      omega
  have hset : ∀ k, k ≠ p → (w2.setCell ⟨p, 2, none⟩ (.slice (some ⟨q2, 0, none⟩) (j + 1) cap2)).heap[k]? = w2.heap[k]? := fun k hk => Below.heap_setCell _ _ _ _ hk
  have hblk : ∀ k, k < w.heap.size → (Value.slice qa j cap).ownBlock ≠ some k → w2.heap[k]? = w.heap[k]? := fun k hk hne =>
    (hg.block k (by omega) (fun e => hne e.symm)).trans (Below.heap_alloc w _ k hk)
  have hp2 : WaV p xs.length j cap 0 qa sigma w2 := h.pa.of_block (hblk p hp fun e => by have := hown p e; omega)
  have hkeep : ∀ {b1 t1 : Nat} {v : Value} {bs : List Bool}, p < b1 → t1 ≤ w.heap.size → (∀ q, qa = some ⟨q, 0, none⟩ → q < b1 ∨ t1 ≤ q) → KeptIn b1 t1 w v bs → KeptIn b1 t1 (w2.setCell ⟨p, 2, none⟩ (.slice (some ⟨q2, 0, none⟩) (j + 1) cap2)) v bs := fun h1 h2 h3 h4 =>
    h4.keep fun k g1 g2 => by
      rw [hset k (by omega)]
      refine hblk k (by omega) fun e => ?_
      rcases h.form with ⟨rfl, _, _⟩ | ⟨q, rfl, _, _⟩
      · cases e
      · injection e with e
        have : q = k := e
        have := h3 q rfl
        omega
  have hql : ∀ b1 t1, t1 ≤ w.heap.size → (∀ q, qa = some ⟨q, 0, none⟩ → q < b1 ∨ t1 ≤ q) → q2 < b1 ∨ t1 ≤ q2 := fun b1 t1 h2 h3 => by
    rcases hlies with e | e
    · rcases h.form with ⟨rfl, _, _⟩ | ⟨q, rfl, _, _⟩
      · cases e
      · injection e with e
        have e2 : q = q2 := e
        have := h3 q rfl
        omega
    · omega
  refine ⟨?_, ?_, fun i hi => ?_, fun i hi g hgq => ?_, fun i hi => ?_⟩
  · refine (World.rowIs.set hp2 2 _).congr fun i hi => ?_
    rcases (show i = 0 ∨ i = 1 ∨ i = 2 ∨ i = 3 by omega) with rfl | rfl | rfl | rfl <;> rfl
  · have e : (List.range (j + 1)).map (levV (fun i => if i = j then a2 else ba i)) = (List.range j).map (levV ba) ++ [.iface 49 (.agg #[.pointer (some a2)])] := by
      rw [List.range_succ, List.map_append]
      congr 1
      · refine List.map_congr_left fun i hi => ?_
        have : i < j := List.mem_range.1 hi
        simp only [levV, show ¬ i = j by omega, if_false]
      · simp only [List.map_cons, List.map_nil, levV, if_true]
    rw [e]
    exact owns_same ho fun k h1 _ => hset k (by omega)
  · rw [Deep.nblk_setCell]
    by_cases e : i = j
    · rw [if_pos e, if_pos e]; exact ⟨hb2, by omega⟩
    · rw [if_neg e, if_neg e]
      have := h.lvs i (by omega)
      exact ⟨this.1, by omega⟩
  · injection hgq with hgq
    injection hgq with hgq
    subst hgq
    by_cases e : i = j
    · rw [if_pos e, if_pos e]
      exact hql b2 t2 ht2 fun q hq => Or.inl (hq2 q hq)
    · rw [if_neg e, if_neg e]
      exact hql _ _ (h.lvs i (by omega)).2 (h.qlv i (by omega))
  · by_cases e : i = j
    · rw [if_pos e, if_pos e, if_pos e, e]
      exact hkeep hb2 ht2 (fun q hq => Or.inl (hq2 q hq)) hk
    · rw [if_neg e, if_neg e, if_neg e]
      exact hkeep (h.lvs i (by omega)).1 (h.lvs i (by omega)).2 (h.qlv i (by omega)) (h.kept i (by omega))
/-- ALL LEVELS ARE ON. -/
theorem RisingW.done (h : RisingW p L L cap qa lb lt ba xs sigma w) (hL : L = levelsN sigma) (hm : maySyms xs sigma = true) (hx : xs.length ≤ 1048576) : IsW p w.heap.size w (.pointer (some ⟨p, 0, none⟩)) xs sigma := by
  have hf := h.form
  obtain ⟨q, hq⟩ : ∃ q, 1 ≤ L → qa = some ⟨q, 0, none⟩ ∧ p ≤ q ∧ q < w.heap.size ∧ q ≠ p := by
    rcases hf with ⟨_, h0, _⟩ | ⟨q, h1, h2, h3⟩
    · exact ⟨0, fun h => by omega⟩
    · exact ⟨q, fun _ => ⟨h1, by omega, h3, by omega⟩⟩
  have hcap : L ≤ cap := by
    rcases h.own.2 with ⟨h', h0⟩ | ⟨g, c, cur, h', _, _, hc, _⟩
    · omega
    · injection h' with _ _ h3
      omega
  refine isw_of (st := 0) (cap := cap) (q := q) (L := L) (qa := qa) (lb := lb) (lt := lt) (ba := ba) ⟨hm, hx, hL, hcap, Nat.le_refl _, h.pa.lt, hq, Nat.le_refl _, fun i hi => ⟨by have := (h.lvs i hi).1; omega, (h.lvs i hi).2, (h.lvs i hi).1⟩, h.kept, fun i hi => ?_⟩ h.pa (Nat.zero_le _)
  have ho := h.own
  rw [(hq (by omega)).1] at ho
  rw [World.ownsRow.cellAt ho i (by omega), List.getElem?_map, List.getElem?_range hi]
  rfl
end
end Go.Proofs.Ytnjlckgmoodkiaa
