/-
  A TABLE AND A ROW OF NUMBERS OF THE LAW's OWN BESIDE IT.
-/
import Derived.Test.YtkleaedfpgaohaaTabTold
import Derived.Test.YtkleaedfpgaohaaOwnSyms
namespace Go.Proofs.Ytkleaedfpgaohaa
open Go.RowKit

def intsOf (zs : List Nat) : List Int := zs.map fun (z : Nat) => (z : Int)
theorem intsOf_length (zs : List Nat) : (intsOf zs).length = zs.length := List.length_map _
theorem intsOf_at (zs : List Nat) (k : Nat) : (intsOf zs).getD k 0 = ((zs.getD k 0 : Nat) : Int) := by
  unfold intsOf
  by_cases h : k < zs.length
  · simp [List.getD, h]
  · simp [List.getD, List.getElem?_eq_none (by omega : zs.length ≤ k)]
theorem intsOf_next (zs : List Nat) (m : Nat) : intsOf (zs ++ [m]) = intsOf zs ++ [(m : Int)] := by simp [intsOf]
/-- the table v and the row r, of the numbers zs -/
structure TRow (E : Nat → World → Prop) (Is : (Nat → Prop) → World → Value → List ByteArray → List Nat → Int → Prop) (n : Nat) (w0 : World) (v : Value) (L : List ByteArray) (P : List Nat) (x : Int) (r : Value) (zs : List Nat) (w : World) : Prop where
  e : E n w
  low : n ≤ w0.heap.size
  nice : Nice L P
  is : ∃ F, Is F w v L P x ∧ (∀ k, F k → w0.heap.size ≤ k) ∧ ∀ k, r.ownBlock = some k → ¬ F k
  own : OwnI w w0.heap.size r (intsOf zs)
  since : Below w0.heap.size w0 w
theorem ownI_same {w w' : World} {B : Nat} {r : Value} {xs : List Int} (h : OwnI w B r xs) (hk : ∀ k, r.ownBlock = some k → w'.heap[k]? = w.heap[k]?) : OwnI w' B r xs := by
  refine ⟨h.1, ?_⟩
  rcases h.2 with h0 | ⟨g, cap, cur, rfl, hb, hg, rest⟩
  · exact Or.inl h0
  · exact Or.inr ⟨g, cap, cur, rfl, hb, (hk g rfl).trans hg, rest⟩
section
variable {E : Nat → World → Prop} {Is : (Nat → Prop) → World → Value → List ByteArray → List Nat → Int → Prop} {n : Nat} {w0 w : World} {v : Value} {L : List ByteArray} {P : List Nat} {x : Int} {r : Value} {zs : List Nat}
theorem TRow.n_le (h : TRow E Is n w0 v L P x r zs w) : n ≤ w.heap.size := Nat.le_trans h.low h.since.size
theorem TRow.at' (h : TRow E Is n w0 v L P x r zs w) : TAt E Is n w0 v L P x w := by
  obtain ⟨F, h1, h2, _⟩ := h.is
  exact ⟨h.e, h.low, h.nice, ⟨F, h1, h2⟩, h.since⟩
theorem trow_start (h : TAt E Is n w0 v L P x w) : TRow E Is n w0 v L P x (.slice none 0 0) [] w := by
  obtain ⟨F, h1, h2⟩ := h.is
  exact ⟨h.e, h.low, h.nice, ⟨F, h1, h2, fun k hk => by cases hk⟩, World.ownsRow_nil _ _ _ _, h.since⟩
theorem TRow.other (S : TabSaid E Is) (h : TRow E Is n w0 v L P x r zs w) {w' : World} (hb : Below w.heap.size w w') : TRow E Is n w0 v L P x r zs w' := by
  obtain ⟨F, hi, hF, hN⟩ := h.is
  exact ⟨S.stay n w w' h.e (hb.mono h.n_le), h.low, h.nice, ⟨F, S.keep F w w' v L P x hi hb.size fun k hk => hb.block k (S.inn F w v L P x hi k hk), hF, hN⟩, ownI_same h.own (fun k hk => hb.block k (h.own.lt k hk).2), h.since.trans (hb.mono h.since.size)⟩
theorem TRow.gave (h : TRow E Is n w0 v L P x r zs w) (S : TabSaid E Is) {F : Nat → Prop} (hF : ∀ k, F k → w0.heap.size ≤ k) (hN : ∀ k, r.ownBlock = some k → ¬ F k) {L' : List ByteArray} {P' : List Nat} {y : Int} {rv : Value} {e : Ending} {w' : World} (hN' : Nice L' P') (hg : Gave9 Is F v L' P' y rv w e w') :
    e = .returned rv ∧ TRow E Is n w0 v L' P' y r zs w' := by
  obtain ⟨rfl, F', hi, hs, ht⟩ := hg
  have hb : Below w0.heap.size w w' := ht.below h.since.size hF
  refine ⟨rfl, S.stay n w w' h.e (hb.mono h.low), h.low, hN', ⟨F', hi, fun k hk => ?_, fun k hk hF' => ?_⟩, ownI_same h.own (fun k hk => ht.block k (h.own.lt k hk).2 (hN k hk)), h.since.trans hb⟩
  · rcases hs k hk with h1 | h1
    · exact hF k h1
    · have := h.since.size; omega
  · rcases hs k hF' with h1 | h1
    · exact hN k hk h1
    · have := (h.own.lt k hk).2; omega
theorem rputAt (S : TabSaid E Is) (s : ByteArray) (hl : L.length < 1048576) (hs : s.size ≤ 1048576) (h : TRow E Is n w0 v L P x r zs w) :
    Calls Try.prog 13 #[v, .string s] w fun e w' => e = .returned (.int .i64 (putN L P s)) ∧ TRow E Is n w0 v (putL L P s) (putP L P s) ((lookT P L s).2 : Nat) r zs w' := by
  obtain ⟨F, hi, hF, hN⟩ := h.is
  exact (S.put n F v L P x s w h.e h.n_le (fun k hk => Nat.le_trans h.low (hF k hk)) h.nice hl hs hi).mono fun e w' hg => h.gave S hF hN (h.nice.put s hs) hg
theorem rfindAt (S : TabSaid E Is) (s : ByteArray) (j : Nat) (hl : L.length ≤ 1048576) (hs : s.size ≤ 1048576) (hj : j < L.length) (hjs : textAt L j = s) (h : TRow E Is n w0 v L P x r zs w) :
    Calls Try.prog 11 #[v, .string s] w fun e w' => e = .returned (.tuple #[.int .i64 j, .bool true]) ∧ ∃ y, TRow E Is n w0 v L P y r zs w' := by
  obtain ⟨F, hi, hF, hN⟩ := h.is
  refine (S.find n F v L P x s w h.e h.n_le (fun k hk => Nat.le_trans h.low (hF k hk)) h.nice hl hs hi).mono fun e w' hg => ?_
  obtain ⟨rfl, h2⟩ := h.gave S hF hN h.nice hg
  rw [(slot_old h.nice.good j hj hjs).1]
  exact ⟨rfl, _, h2⟩
/-- one number more -/
theorem TRow.more (S : TabSaid E Is) (h : TRow E Is n w0 v L P x r zs w) (m : Nat) (o : Obj) (r' : Value) (w2 : World) (ho : OwnI w2 w0.heap.size r' (intsOf (zs ++ [m]))) (hg : (w.alloc o).grownBy w2 r.ownBlock)
    (hat : r'.ownBlock = r.ownBlock ∨ r'.ownBlock = some (w.alloc o).heap.size) : TRow E Is n w0 v L P x r' (zs ++ [m]) w2 := by
  obtain ⟨F, hi, hF, hN⟩ := h.is
  have hb1 : Below w.heap.size w (w.alloc o) := (Below.refl _ _).alloc (Nat.le_refl _) o
  have hi1 := S.keep F w _ v L P x hi hb1.size fun k hk => hb1.block k (S.inn F w v L P x hi k hk)
  have hb2 : Below w0.heap.size w w2 := ((Below.refl _ _).alloc h.since.size o).grown hg (Nat.le_trans h.since.size hb1.size) (fun k hk => (h.own.lt k hk).1)
  refine ⟨S.stay n w w2 h.e (hb2.mono h.low), h.low, h.nice, ⟨F, S.keep F _ w2 v L P x hi1 hg.size (fun k hk => hg.block k (S.inn F _ v L P x hi1 k hk) (fun e => hN k e.symm hk)), hF, fun k hk hk2 => ?_⟩, ho, h.since.trans hb2⟩
  rcases hat with e | e
  · exact hN k (e ▸ hk) hk2
  · rw [e] at hk
    injection hk with hk
    have := S.inn F w v L P x hi k hk2
    have := hb1.size
    omega
end
end Go.Proofs.Ytkleaedfpgaohaa
