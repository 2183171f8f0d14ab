/-
  LAYER 4, PART BY PART: what the laws of layer 4 ask of package ints (IntSaid: to be proved of the program that lands).
-/
import Derived.Test.YtkpklickfkfjcaaRefInts
import Derived.Test.YtkpklickfkfjcaaBitNum
namespace Go.Proofs.Ytkpklickfkfjcaa
open Go.RowKit

/-- a slice of uint64s, with its capacity -/
def NumOK (w : World) (v : Value) (zs : List Nat) : Prop := NumsAt .u64 w.heap.size w v zs ∧ (∃ a cap, v = .slice a zs.length cap ∧ zs.length ≤ cap) ∧ ∀ z ∈ zs, z ≤ 18446744073709551615
/-- the number of place k, if there is one -/
def getZ (zs : List Nat) (k : Int) : Nat := if 0 ≤ k ∧ k < zs.length then zs.getD k.toNat 0 else 0
def getE (zs : List Nat) (k : Int) : Int := if 0 ≤ k ∧ k < zs.length then 0 else 4

/-- WHAT IS ASKED OF PACKAGE ints, in worlds that meet E. Is B w v zs: v is an Ints of the numbers zs that lies in blocks from B on. -/
structure IntSaid (E : World → Prop) (Is : Nat → World → Value → List Nat → Prop) : Prop where
  below : ∀ w w', E w → Below w.heap.size w w' → E w'
  keep : ∀ B w w' v zs, Is B w v zs → (∀ k, B ≤ k → k < w.heap.size → w'.heap[k]? = w.heap[k]?) → Is B w' v zs
  isPtr : ∀ B w v zs, Is B w v zs → ∃ a, v = .pointer (some a)
  new : ∀ s zs w, E w → zs.length ≤ 4194304 → NumOK w s zs → Calls Try.prog 7 #[s] w fun e w' => ∃ v, e = .returned v ∧ Is w.heap.size w' v zs ∧ Below w.heap.size w w'
  len : ∀ B v zs w, E w → zs.length ≤ 4194304 → Is B w v zs → Calls Try.prog 13 #[v] w fun e w' => e = .returned (.int .i64 zs.length) ∧ Below w.heap.size w w'
  get : ∀ B v zs k w, E w → zs.length ≤ 4194304 → In64 k → Is B w v zs → Calls Try.prog 8 #[v, .int .i64 k] w fun e w' => e = .returned (.tuple #[.int .u64 (getZ zs k), .int .i64 (getE zs k)]) ∧ Below w.heap.size w w'
  wid : ∀ B v zs w, E w → zs.length ≤ 4194304 → Is B w v zs → Calls Try.prog 11 #[v] w fun e w' => e = .returned (.int .i64 (widestN zs)) ∧ Below w.heap.size w w'
  size : ∀ B v zs w, E w → zs.length ≤ 4194304 → Is B w v zs → Calls Try.prog 10 #[v] w fun e w' => e = .returned (.int .i64 (intsN zs.length (widestN zs))) ∧ Below w.heap.size w w'
  lenNil : ∀ w, E w → Calls Try.prog 13 #[.pointer none] w fun e w' => e = .returned (.int .i64 0) ∧ Below w.heap.size w w'
  width : ∀ n w, E w → n ≤ 18446744073709551615 → Calls Try.prog 12 #[.int .u64 (n : Nat)] w fun e w' => e = .returned (.int .i64 (widthN n)) ∧ Below w.heap.size w w'

theorem step_below4 {w a b : World} (h : Below w.heap.size w a) (h' : Below a.heap.size a b) : Below w.heap.size w b := h.trans (h'.mono h.size)
section
variable {E : World → Prop} {Is : Nat → World → Value → List Nat → Prop}
theorem IntSaid.isBelow (T : IntSaid E Is) {B : Nat} {w w' : World} {v : Value} {zs : List Nat} (h : Is B w v zs) (hb : Below w.heap.size w w') : Is B w' v zs :=
  T.keep B w w' v zs h fun k _ hk => hb.block k hk
theorem IntSaid.getIs (T : IntSaid E Is) {B : Nat} {v : Value} {zs : List Nat} (k : Int) (x : Nat) (c : Int) (hx : getZ zs k = x) (hc : getE zs k = c) (w : World) (hE : E w) (hl : zs.length ≤ 4194304) (hk : In64 k) (h : Is B w v zs) :
    Calls Try.prog 8 #[v, .int .i64 k] w fun e w' => e = .returned (.tuple #[.int .u64 x, .int .i64 c]) ∧ Below w.heap.size w w' := by
  subst hx; subst hc; exact T.get B v zs k w hE hl hk h
theorem IntSaid.widIs (T : IntSaid E Is) {B : Nat} {v : Value} {zs : List Nat} (n : Nat) (hn : widestN zs = n) (w : World) (hE : E w) (hl : zs.length ≤ 4194304) (h : Is B w v zs) :
    Calls Try.prog 11 #[v] w fun e w' => e = .returned (.int .i64 n) ∧ Below w.heap.size w w' := by
  subst hn; exact T.wid B v zs w hE hl h
theorem IntSaid.lenIs (T : IntSaid E Is) {B : Nat} {v : Value} {zs : List Nat} (n : Nat) (hn : zs.length = n) (w : World) (hE : E w) (hl : zs.length ≤ 4194304) (h : Is B w v zs) :
    Calls Try.prog 13 #[v] w fun e w' => e = .returned (.int .i64 n) ∧ Below w.heap.size w w' := by
  subst hn; exact T.len B v zs w hE hl h
theorem IntSaid.sizeIs (T : IntSaid E Is) {B : Nat} {v : Value} {zs : List Nat} (n : Nat) (hn : intsN zs.length (widestN zs) = n) (w : World) (hE : E w) (hl : zs.length ≤ 4194304) (h : Is B w v zs) :
    Calls Try.prog 10 #[v] w fun e w' => e = .returned (.int .i64 n) ∧ Below w.heap.size w w' := by
  subst hn; exact T.size B v zs w hE hl h
theorem IntSaid.widthIs (T : IntSaid E Is) (n m : Nat) (hm : widthN n = m) (w : World) (hE : E w) (hn : n ≤ 18446744073709551615) :
    Calls Try.prog 12 #[.int .u64 (n : Nat)] w fun e w' => e = .returned (.int .i64 m) ∧ Below w.heap.size w w' := by
  subst hm; exact T.width n w hE hn
end
theorem numOK_none (w : World) : NumOK w (.slice none 0 0) [] := ⟨Or.inl ⟨none, 0, rfl, rfl⟩, ⟨none, 0, rfl, Nat.le_refl _⟩, fun z hz => by cases hz⟩
theorem numOK_alloc (w : World) (C : Array Value) (fr : Nat × Nat) (zs : List Nat) (n cap : Nat) (hC : C.toList = zs.map fun (z : Nat) => Value.int .u64 (z : Int)) (hn : n = zs.length) (hcap : n ≤ cap) (hz : ∀ z ∈ zs, z ≤ 18446744073709551615) :
    NumOK (w.alloc (.cells C 22 fr)) (.slice (some ⟨w.heap.size, 0, none⟩) n cap) zs := by
  refine ⟨Or.inr ⟨w.heap.size, 0, cap, by rw [hn], ?_, fun i hi => ?_⟩, ⟨_, cap, by rw [hn], by omega⟩, hz⟩
  · show w.heap.size < (w.heap.push _).size
    rw [Array.size_push]; omega
  · have e : (w.alloc (.cells C 22 fr)).heap[w.heap.size]? = some (.cells C 22 fr) := by
      show (w.heap.push (Obj.cells C 22 fr))[w.heap.size]? = _
      rw [Array.getElem?_push_size]
    rw [Nat.zero_add]
    have e2 : C[i]? = some (.int .u64 (zs.getD i 0)) := by
      rw [← Array.getElem?_toList, hC, List.getElem?_map, List.getElem?_eq_getElem hi]
      simp [List.getD, List.getElem?_eq_getElem hi]
    unfold World.cell?
    simp only [e]
    exact e2
theorem NumOK.below {w w' : World} {v : Value} {zs : List Nat} (h : NumOK w v zs) (hb : Below w.heap.size w w') : NumOK w' v zs := by
  refine ⟨?_, h.2.1, h.2.2⟩
  rcases h.1.below hb with h1 | ⟨b, off, cap, h1, h2, h3⟩
  · exact Or.inl h1
  · exact Or.inr ⟨b, off, cap, h1, Nat.lt_of_lt_of_le h2 hb.size, h3⟩
theorem getZ_at (zs : List Nat) (i : Nat) (h : i < zs.length) : getZ zs (i : Int) = zs.getD i 0 := by
  unfold getZ
  rw [if_pos (by omega), Int.toNat_natCast]
theorem getE_at (zs : List Nat) (i : Nat) (h : i < zs.length) : getE zs (i : Int) = 0 := by
  unfold getE
  rw [if_pos (by omega)]
theorem getZ_out (zs : List Nat) (k : Int) (h : ¬ (0 ≤ k ∧ k < zs.length)) : getZ zs k = 0 := by unfold getZ; rw [if_neg h]
theorem getE_out (zs : List Nat) (k : Int) (h : ¬ (0 ≤ k ∧ k < zs.length)) : getE zs k = 4 := by unfold getE; rw [if_neg h]
theorem getE_in (zs : List Nat) (k : Int) (h : 0 ≤ k ∧ k < zs.length) : getE zs k = 0 := by unfold getE; rw [if_pos h]
theorem numOK_shape {w : World} {v : Value} {zs : List Nat} (h : NumOK w v zs) : ∃ a cap, v = .slice a zs.length cap ∧ zs.length ≤ cap := h.2.1
theorem numOK_cell {w : World} {a : Option Addr} {n cap : Nat} {zs : List Nat} (h : NumOK w (.slice a n cap) zs) (i : Nat) (hi : i < zs.length) : ∃ b off, a = some ⟨b, off, none⟩ ∧ b < w.heap.size ∧ w.cell? ⟨b, off + i, none⟩ = some (.int .u64 (zs.getD i 0)) := by
  rcases h.1 with ⟨a', cap', e, rfl⟩ | ⟨b, off, cap', e, hb, hc⟩
  · cases hi
  · injection e with e1 e2 e3
    exact ⟨b, off, e1, hb, hc i hi⟩
end Go.Proofs.Ytkpklickfkfjcaa
