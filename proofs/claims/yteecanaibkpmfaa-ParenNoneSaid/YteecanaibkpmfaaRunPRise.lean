/-
  THE LANDED PACKAGE paren: a Paren whose levels are being put on.
-/
import Derived.Test.YteecanaibkpmfaaRunPAbove
namespace Go.Proofs.Yteecanaibkpmfaa
open Go.RowKit

theorem info_part : (Try.prog.info? 82).map (fun i => (i.zero, i.size, i.bytes)) = some (some .nilIface, 1, 16) := by kernel_rfl
theorem own_same {w w' : World} {base size n : Nat} {e : TypeId} {q cap : Nat} {xs : List Value} (h : w.ownsRow base e size (.slice (some ⟨q, 0, none⟩) n cap) n xs) (hb : w'.heap[q]? = w.heap[q]?) : w'.ownsRow base e size (.slice (some ⟨q, 0, none⟩) n cap) n xs := by
  refine ⟨h.1, ?_⟩
  rcases h.2 with ⟨h', _⟩ | ⟨g, c, cur, h', hbs, hg, rest⟩
  · cases h'
  · have e1 : q = g := by injection h' with h1; injection h1 with h1; injection h1
    subst e1
    exact .inr ⟨q, c, cur, h', hbs, hb.trans hg, rest⟩
theorem own_shape {w : World} {base size n : Nat} {e : TypeId} {v : Value} {xs : List Value} (h : w.ownsRow base e size v n xs) (hn : 0 < n) : ∃ q cap, v = .slice (some ⟨q, 0, none⟩) n cap ∧ base ≤ q := by
  rcases h.2 with ⟨_, h0⟩ | ⟨g, c, cur, h', hbs, _⟩
  · omega
  · exact ⟨g, c, h', hbs⟩
theorem own_lt {w : World} {base size n : Nat} {e : TypeId} {q cap : Nat} {xs : List Value} (h : w.ownsRow base e size (.slice (some ⟨q, 0, none⟩) n cap) n xs) : base ≤ q ∧ q < w.heap.size := h.lt q rfl
theorem own_other {w : World} {base size n m b : Nat} {e t : TypeId} {q cap : Nat} {xs : List Value} {f : Nat → Value} (h : w.ownsRow base e size (.slice (some ⟨q, 0, none⟩) n cap) n xs) (hr : w.rowIs b t m f) (ht : t ≠ e) : b ≠ q := by
  rintro rfl
  rcases h.2 with ⟨h', _⟩ | ⟨g, c, cur, h', _, hg, _⟩
  · cases h'
  · have e1 : b = g := by injection h' with h1; injection h1 with h1; injection h1
    subst e1
    obtain ⟨cc, hcc, _⟩ := hr
    rw [hg] at hcc
    injection hcc with hcc
    injection hcc with _ h2 _
    exact ht h2.symm
/-- A Paren OF l PARTS, p, its parts in q; all of it in blocks from K on, the bits in blocks from B to below K. -/
structure Rising (B K p q l cap : Nat) (bv : Value) (bl : Nat → Nat) (xs : List Bool) (w : World) : Prop where
  BK : B ≤ K
  Kp : K ≤ p
  own : w.ownsRow K 82 1 (.slice (some ⟨q, 0, none⟩) l cap) l ((List.range l).map (partV bv bl xs.length))
  pa : PaV p q l cap 0 w
  qp : q ≠ p
  lv : ∀ i, 1 ≤ i → i < l → K ≤ bl i ∧ bl i ≠ p ∧ bl i ≠ q ∧ w.rowIs (bl i) 21 (cntP xs.length i) (fun j => .int .i32 (leastP xs i j))
  kept : KeptIn B K w bv xs
section
variable {B K p q l cap : Nat} {bv : Value} {bl : Nat → Nat} {xs : List Bool} {w w' : World}
theorem Rising.below (h : Rising B K p q l cap bv bl xs w) (hb : Below w.heap.size w w') : Rising B K p q l cap bv bl xs w' :=
  ⟨h.BK, h.Kp, own_same h.own (hb.block q (own_lt h.own).2), h.pa.of_block (hb.block p h.pa.lt), h.qp, fun i h1 h2 => ⟨(h.lv i h1 h2).1, (h.lv i h1 h2).2.1, (h.lv i h1 h2).2.2.1, (h.lv i h1 h2).2.2.2.of_block (hb.block _ (h.lv i h1 h2).2.2.2.lt)⟩,
    h.kept.keep fun k _ h2 => hb.block k (by have := h.pa.lt; have := h.Kp; omega)⟩
/-- one level more is put on: appended to the parts, and stored into the Paren -/
theorem Rising.add (h : Rising B K p q l cap bv bl xs w) (hl : 1 ≤ l) (b : Nat) (hKb : K ≤ b) (hbp : b ≠ p) (hbq : b ≠ q) (hbr : w.rowIs b 21 (cntP xs.length l) (fun j => .int .i32 (leastP xs l j)))
    (q2 cap2 : Nat) (c : Array Value) (t : TypeId) (w2 : World) (hg : (w.alloc (.cells c t)).grownBy w2 (some q))
    (ho : w2.ownsRow K 82 1 (.slice (some ⟨q2, 0, none⟩) (l + 1) cap2) (l + 1) ((List.range l).map (partV bv bl xs.length) ++ [.iface 53 (.slice (some ⟨b, 0, none⟩) (cntP xs.length l) (cntP xs.length l))])) :
    Rising B K p q2 (l + 1) cap2 bv (fun i => if i = l then b else bl i) xs (w2.setCell ⟨p, 0, none⟩ (.slice (some ⟨q2, 0, none⟩) (l + 1) cap2)) ∧
      (w2.setCell ⟨p, 0, none⟩ (.slice (some ⟨q2, 0, none⟩) (l + 1) cap2)).rowIs b 21 (cntP xs.length l) (fun j => .int .i32 (leastP xs l j)) := by
  have hsz : w.heap.size ≤ (w.alloc (.cells c t)).heap.size := by show _ ≤ (w.heap.push _).size; rw [Array.size_push]; omega
  have hblk : ∀ k, k < w.heap.size → k ≠ q → w2.heap[k]? = w.heap[k]? := fun k hk hne =>
    (hg.block k (by omega) (fun e => by injection e with e; exact hne e)).trans (Below.heap_alloc w _ k hk)
  have hp2 : PaV p q l cap 0 w2 := h.pa.of_block (hblk p h.pa.lt (fun e => h.qp e.symm))
  have hq2p : q2 ≠ p := fun e => own_other ho hp2 (by decide) e.symm
  have hset : ∀ k, k ≠ p → (w2.setCell ⟨p, 0, none⟩ (.slice (some ⟨q2, 0, none⟩) (l + 1) cap2)).heap[k]? = w2.heap[k]? := fun k hk => Below.heap_setCell _ _ _ _ hk
  have hb2 : w2.rowIs b 21 (cntP xs.length l) (fun j => .int .i32 (leastP xs l j)) := hbr.of_block (hblk b hbr.lt hbq)
  have hbe : (w2.setCell ⟨p, 0, none⟩ (.slice (some ⟨q2, 0, none⟩) (l + 1) cap2)).rowIs b 21 (cntP xs.length l) (fun j => .int .i32 (leastP xs l j)) := hb2.of_block (hset b hbp)
  refine ⟨⟨h.BK, h.Kp, ?_, ?_, hq2p, fun i h1 h2 => ?_, ?_⟩, hbe⟩
  · have e : (List.range (l + 1)).map (partV bv (fun i => if i = l then b else bl i) xs.length) = (List.range l).map (partV bv bl xs.length) ++ [.iface 53 (.slice (some ⟨b, 0, none⟩) (cntP xs.length l) (cntP xs.length l))] := by
      rw [List.range_succ, List.map_append]
      congr 1
      · refine List.map_congr_left fun i hi => ?_
        have : i < l := List.mem_range.1 hi
        simp only [partV, show ¬ i = l by omega, if_false]
      · show [partV bv _ xs.length l] = _
        simp only [partV, show ¬ l = 0 by omega, if_true, if_false]
    rw [e]
    exact own_same ho (hset q2 hq2p)
  · refine (World.rowIs.set hp2 0 _).congr fun i hi => ?_
    rcases (show i = 0 ∨ i = 1 by omega) with rfl | rfl <;> rfl
  · by_cases e : i = l
    · subst e
      simp only [if_true]
      exact ⟨hKb, hbp, own_other ho hb2 (by decide), hbe⟩
    · rw [if_neg e]
      obtain ⟨g1, g2, g3, g4⟩ := h.lv i h1 (by omega)
      have h5 := g4.of_block (hblk _ g4.lt g3)
      exact ⟨g1, g2, own_other ho h5 (by decide), h5.of_block (hset _ g2)⟩
  · refine h.kept.keep fun k hk1 hk2 => ?_
    have := h.Kp
    have := (own_lt h.own).1
    have := h.pa.lt
    rw [hset k (by omega)]
    exact hblk k (by omega) (by omega)
/-- ALL LEVELS ARE ON. -/
theorem Rising.done (h : Rising B K p q l cap bv bl xs w) (ht : TopP xs.length l) (hm : mayL xs = true) (hx : xs.length ≤ 4194304) : IsP B w.heap.size w (.pointer (some ⟨p, 0, none⟩)) xs := by
  have hq := own_lt h.own
  have hBK := h.BK
  have hKp := h.Kp
  refine isp_of (st := 0) (cap := cap) (q := q) (P := l) (bv := bv) (bl := bl) ⟨ht, hm, hx, by omega, h.pa.lt, by omega, hq.2, h.qp, fun i h1 h2 => ?_, Nat.le_refl _, ?_, fun i hi => ?_, fun i h1 h2 => (h.lv i h1 h2).2.2.2⟩ h.pa (Nat.zero_le _)
  · obtain ⟨g1, g2, _, g4⟩ := h.lv i h1 h2
    exact ⟨by omega, g4.lt, g2⟩
  · obtain ⟨w0, k0, k1, k2⟩ := h.kept
    exact ⟨w0, by omega, k1, k2⟩
  · rw [World.ownsRow.cellAt h.own i (by omega), List.getElem?_map, List.getElem?_range hi]
    rfl
end
/-- a Paren of the row alone -/
theorem rising_start (B : Nat) (bv : Value) (bl : Nat → Nat) (xs : List Bool) (w1 : World) (hB : B ≤ w1.heap.size) (hk : Kept B w1 bv xs) :
    Rising B w1.heap.size (w1.heap.size + 1) w1.heap.size 1 1 bv bl xs ((w1.alloc (.cells #[.iface 48 (.agg #[bv])] 82)).alloc (.cells #[.slice (some ⟨w1.heap.size, 0, none⟩) 1 1, .int .i64 0] 51)) := by
  have h1 : (w1.alloc (.cells #[.iface 48 (.agg #[bv])] 82)).heap.size = w1.heap.size + 1 := by show (w1.heap.push _).size = _; rw [Array.size_push]
  refine ⟨hB, by omega, ?_, ?_, by omega, fun i g1 g2 => by omega, ⟨w1, Nat.le_refl _, hk, fun k _ g2 => ?_⟩⟩
  · exact World.ownsRow.alloc (World.ownsRow_lit w1 #[.iface 48 (.agg #[bv])] 1 (Nat.le_refl _) (by decide) rfl) _
  · have h2 := World.rowIs_alloc (w1.alloc (.cells #[.iface 48 (.agg #[bv])] 82)) #[.slice (some ⟨w1.heap.size, 0, none⟩) 1 1, .int .i64 0] 51 (fun i => if i = 0 then .slice (some ⟨w1.heap.size, 0, none⟩) 1 1 else .int .i64 (0 : Nat)) (by
      intro i hi
      rcases (show i = 0 ∨ i = 1 by have : i < 2 := hi; omega) with rfl | rfl <;> rfl)
    rw [h1] at h2
    exact h2
  · rw [Below.heap_alloc _ _ k (by omega), Below.heap_alloc _ _ k g2]
def sliceLen : Value → Nat
  | .slice _ n _ => n
  | _ => 0
end Go.Proofs.Yteecanaibkpmfaa
