/-
  LAYER 3, PART BY PART: what the laws of layer 3 ask of package bits (BitSaid: to be proved of the program that lands), and told of layer 3 out of it.
-/
import Derived.Test.YtiofekpnjckpiaaBitRow
import Derived.Test.YtiofekpnjckpiaaRefBits
namespace Go.Proofs.Ytiofekpnjckpiaa
open Go.RowKit

/-- a row of bits, with its capacity -/
def RowOK (w : World) (v : Value) (xs : List Bool) : Prop := BoolsAt w.heap.size w v xs ∧ ∃ a cap, v = .slice a xs.length cap ∧ xs.length ≤ cap
theorem rowOK_of {w : World} {base : Nat} {v : Value} {xs : List Bool} (h : OwnS w base v xs) : RowOK w v xs := by
  refine ⟨ownS_at h, ?_⟩
  rcases h.2 with ⟨rfl, hl⟩ | ⟨g, cap, cur, rfl, _, _, hc, _⟩
  · exact ⟨none, 0, by rw [hl], by omega⟩
  · exact ⟨_, cap, rfl, hc⟩
def In64 (k : Int) : Prop := -9223372036854775808 ≤ k ∧ k ≤ 9223372036854775807
/-- the bit of place k, if there is one -/
def getB (xs : List Bool) (k : Int) : Bool := if 0 ≤ k ∧ k < xs.length then xs.getD k.toNat false else false
def getC (xs : List Bool) (k : Int) : Int := if 0 ≤ k ∧ k < xs.length then 0 else 4

/-- WHAT IS ASKED OF PACKAGE bits, in worlds that meet E. Is B w v xs: v is a Bits of the bits xs that lies in blocks from B on. -/
structure BitSaid (E : World → Prop) (Is : Nat → World → Value → List Bool → Prop) : Prop where
  below : ∀ w w', E w → Below w.heap.size w w' → E w'
  keep : ∀ B w w' v xs, Is B w v xs → (∀ k, B ≤ k → k < w.heap.size → w'.heap[k]? = w.heap[k]?) → Is B w' v xs
  isPtr : ∀ B w v xs, Is B w v xs → ∃ a, v = .pointer (some a)
  new : ∀ s xs w, E w → xs.length ≤ 4194304 → RowOK w s xs → Calls Try.prog 8 #[s] w fun e w' => ∃ v, e = .returned (.tuple #[v, .int .i64 0]) ∧ Is w.heap.size w' v xs ∧ Below w.heap.size w w'
  len : ∀ B v xs w, E w → xs.length ≤ 4194304 → Is B w v xs → Calls Try.prog 11 #[v] w fun e w' => e = .returned (.int .i64 xs.length) ∧ Below w.heap.size w w'
  get : ∀ B v xs k w, E w → xs.length ≤ 4194304 → In64 k → Is B w v xs → Calls Try.prog 9 #[v, .int .i64 k] w fun e w' => e = .returned (.tuple #[.bool (getB xs k), .int .i64 (getC xs k)]) ∧ Below w.heap.size w w'
  rank : ∀ B v xs k bit w, E w → xs.length ≤ 4194304 → In64 k → Is B w v xs → Calls Try.prog 12 #[v, .int .i64 k, .bool bit] w fun e w' => e = .returned (.int .i64 (rankL xs k bit)) ∧ Below w.heap.size w w'
  select : ∀ B v xs j bit w, E w → xs.length ≤ 4194304 → In64 j → Is B w v xs → Calls Try.prog 14 #[v, .int .i64 j, .bool bit] w fun e w' => e = .returned (.int .i64 (selL xs j bit)) ∧ Below w.heap.size w w'
  size : ∀ B v xs w, E w → xs.length ≤ 4194304 → Is B w v xs → Calls Try.prog 16 #[v] w fun e w' => e = .returned (.int .i64 (bitsN xs.length)) ∧ Below w.heap.size w w'
  lenNil : ∀ w, E w → Calls Try.prog 11 #[.pointer none] w fun e w' => e = .returned (.int .i64 0) ∧ Below w.heap.size w w'
  selNil : ∀ w, E w → Calls Try.prog 14 #[.pointer none, .int .i64 0, .bool true] w fun e w' => e = .returned (.int .i64 (-1)) ∧ Below w.heap.size w w'

theorem step_below3 {w a b : World} (h : Below w.heap.size w a) (h' : Below a.heap.size a b) : Below w.heap.size w b := h.trans (h'.mono h.size)
section
variable {E : World → Prop} {Is : Nat → World → Value → List Bool → Prop}
theorem BitSaid.isBelow (T : BitSaid E Is) {B : Nat} {w w' : World} {v : Value} {xs : List Bool} (h : Is B w v xs) (hb : Below w.heap.size w w') : Is B w' v xs :=
  T.keep B w w' v xs h fun k _ hk => hb.block k hk
theorem BitSaid.getIs (T : BitSaid E Is) {B : Nat} {v : Value} {xs : List Bool} (k : Int) (x : Bool) (c : Int) (hx : getB xs k = x) (hc : getC xs k = c) (w : World) (hE : E w) (hl : xs.length ≤ 4194304) (hk : In64 k) (h : Is B w v xs) :
    Calls Try.prog 9 #[v, .int .i64 k] w fun e w' => e = .returned (.tuple #[.bool x, .int .i64 c]) ∧ Below w.heap.size w w' := by
  subst hx; subst hc; exact T.get B v xs k w hE hl hk h
theorem BitSaid.rankIs (T : BitSaid E Is) {B : Nat} {v : Value} {xs : List Bool} (k : Int) (bit : Bool) (n : Nat) (hn : rankL xs k bit = n) (w : World) (hE : E w) (hl : xs.length ≤ 4194304) (hk : In64 k) (h : Is B w v xs) :
    Calls Try.prog 12 #[v, .int .i64 k, .bool bit] w fun e w' => e = .returned (.int .i64 n) ∧ Below w.heap.size w w' := by
  subst hn; exact T.rank B v xs k bit w hE hl hk h
theorem BitSaid.selIs (T : BitSaid E Is) {B : Nat} {v : Value} {xs : List Bool} (j : Int) (bit : Bool) (n : Int) (hn : selL xs j bit = n) (w : World) (hE : E w) (hl : xs.length ≤ 4194304) (hk : In64 j) (h : Is B w v xs) :
    Calls Try.prog 14 #[v, .int .i64 j, .bool bit] w fun e w' => e = .returned (.int .i64 n) ∧ Below w.heap.size w w' := by
  subst hn; exact T.select B v xs j bit w hE hl hk h
theorem BitSaid.sizeIs (T : BitSaid E Is) {B : Nat} {v : Value} {xs : List Bool} (n : Nat) (hn : bitsN xs.length = n) (w : World) (hE : E w) (hl : xs.length ≤ 4194304) (h : Is B w v xs) :
    Calls Try.prog 16 #[v] w fun e w' => e = .returned (.int .i64 n) ∧ Below w.heap.size w w' := by
  subst hn; exact T.size B v xs w hE hl h
end
theorem in64_of {k : Int} (h1 : -9223372036854775808 ≤ k) (h2 : k ≤ 9223372036854775807) : In64 k := ⟨h1, h2⟩
theorem boolsAt_alloc (w : World) (C : Array Value) (fr : Nat × Nat) (xs : List Bool) (n cap : Nat) (hC : C.toList = xs.map Value.bool) (hn : n = xs.length) (hcap : n ≤ cap) :
    RowOK (w.alloc (.cells C 4 fr)) (.slice (some ⟨w.heap.size, 0, none⟩) n cap) xs := by
  refine ⟨Or.inr ⟨w.heap.size, 0, cap, by rw [hn], ?_, fun i hi => ?_⟩, _, cap, by rw [hn], by omega⟩
  · show w.heap.size < (w.heap.push _).size
    rw [Array.size_push]; omega
  · have e : (w.alloc (.cells C 4 fr)).heap[w.heap.size]? = some (.cells C 4 fr) := by
      show (w.heap.push (Obj.cells C 4 fr))[w.heap.size]? = _
      rw [Array.getElem?_push_size]
    rw [Nat.zero_add]
    have e2 : C[i]? = some (.bool (xs.getD i false)) := by
      rw [← Array.getElem?_toList, hC, List.getElem?_map, List.getElem?_eq_getElem hi]
      simp [List.getD, List.getElem?_eq_getElem hi]
    unfold World.cell?
    simp only [e]
    exact e2
end Go.Proofs.Ytiofekpnjckpiaa
