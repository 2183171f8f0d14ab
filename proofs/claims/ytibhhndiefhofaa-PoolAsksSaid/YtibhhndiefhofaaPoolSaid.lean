/-
  LAYER 8, PART BY PART: what the laws of layer 8 ask of package pool (PoolSaid: to be proved of the program that lands).
-/
import Derived.Test.YtibhhndiefhofaaStrsAt
import Derived.Test.YtibhhndiefhofaaPoolLaws
import Derived.Test.YtibhhndiefhofaaBitNum
import Derived.Below
namespace Go.Proofs.Ytibhhndiefhofaa
open Go.RowKit

/-- WHAT IS ASKED OF PACKAGE pool, in worlds that meet E. Is B w v ss: v is a Pool of the texts ss that lies in blocks from B on. -/
structure PoolSaid (E : World → Prop) (Is : Nat → World → Value → List ByteArray → Prop) : Prop where
  below : ∀ w w', E w → Below w.heap.size w w' → E w'
  keep : ∀ B w w' v ss, Is B w v ss → (∀ k, B ≤ k → k < w.heap.size → w'.heap[k]? = w.heap[k]?) → Is B w' v ss
  isPtr : ∀ B w v ss, Is B w v ss → ∃ a, v = .pointer (some a)
  new : ∀ s ss w, E w → ss.length ≤ 100000 → bytesN ss ≤ 8388608 → StrOK w s ss → Calls Try.prog 8 #[s] w fun e w' => ∃ v, e = .returned (.tuple #[v, .int .i64 0]) ∧ Is w.heap.size w' v ss ∧ Below w.heap.size w w'
  len : ∀ B v ss w, E w → ss.length ≤ 100000 → bytesN ss ≤ 8388608 → Is B w v ss → Calls Try.prog 11 #[v] w fun e w' => e = .returned (.int .i64 ss.length) ∧ Below w.heap.size w w'
  get : ∀ B v ss k w, E w → ss.length ≤ 100000 → bytesN ss ≤ 8388608 → In64 k → Is B w v ss → Calls Try.prog 13 #[v, .int .i64 k] w fun e w' => e = .returned (.tuple #[.string (getS ss k), .int .i64 (getSE ss k)]) ∧ Below w.heap.size w w'
  bytes : ∀ B v ss w, E w → ss.length ≤ 100000 → bytesN ss ≤ 8388608 → Is B w v ss → Calls Try.prog 10 #[v] w fun e w' => e = .returned (.int .i64 (bytesN ss)) ∧ Below w.heap.size w w'
  size : ∀ B v ss w, E w → ss.length ≤ 100000 → bytesN ss ≤ 8388608 → Is B w v ss → Calls Try.prog 9 #[v] w fun e w' => e = .returned (.int .i64 (poolN ss)) ∧ Below w.heap.size w w'
  lenNil : ∀ w, E w → Calls Try.prog 11 #[.pointer none] w fun e w' => e = .returned (.int .i64 0) ∧ Below w.heap.size w w'
  bytesNil : ∀ w, E w → Calls Try.prog 10 #[.pointer none] w fun e w' => e = .returned (.int .i64 0) ∧ Below w.heap.size w w'

theorem step_below8 {w a b : World} (h : Below w.heap.size w a) (h' : Below a.heap.size a b) : Below w.heap.size w b := h.trans (h'.mono h.size)
/-- WHERE A LAW STANDS: the thing v of ss, in the world w, which is as w0 but for what has been made since. -/
structure PAt (E : World → Prop) (Is : Nat → World → Value → List ByteArray → Prop) (B : Nat) (w0 : World) (v : Value) (ss : List ByteArray) (w : World) : Prop where
  e : E w
  len : ss.length ≤ 100000
  few : bytesN ss ≤ 8388608
  is : Is B w v ss
  since : Below w0.heap.size w0 w
section
variable {E : World → Prop} {Is : Nat → World → Value → List ByteArray → Prop} {B : Nat} {w0 w : World} {v : Value} {ss : List ByteArray}
theorem PAt.other {w' : World} (S : PoolSaid E Is) (h : PAt E Is B w0 v ss w) (hb : Below w.heap.size w w') : PAt E Is B w0 v ss w' :=
  ⟨S.below _ _ h.e hb, h.len, h.few, S.keep B w w' v ss h.is (fun k _ hk => hb.block k hk), step_below8 h.since hb⟩
theorem plenAt (S : PoolSaid E Is) (r : Nat) (hr : ss.length = r) (h : PAt E Is B w0 v ss w) : Calls Try.prog 11 #[v] w fun e w' => e = .returned (.int .i64 r) ∧ Below w.heap.size w w' := by
  subst hr; exact S.len B v ss w h.e h.len h.few h.is
theorem pgetAt (S : PoolSaid E Is) (k : Int) (x : ByteArray) (c : Int) (hx : getS ss k = x) (hc : getSE ss k = c) (hk : In64 k) (h : PAt E Is B w0 v ss w) : Calls Try.prog 13 #[v, .int .i64 k] w fun e w' => e = .returned (.tuple #[.string x, .int .i64 c]) ∧ Below w.heap.size w w' := by
  subst hx; subst hc; exact S.get B v ss k w h.e h.len h.few hk h.is
theorem pbytesAt (S : PoolSaid E Is) (r : Nat) (hr : bytesN ss = r) (h : PAt E Is B w0 v ss w) : Calls Try.prog 10 #[v] w fun e w' => e = .returned (.int .i64 r) ∧ Below w.heap.size w w' := by
  subst hr; exact S.bytes B v ss w h.e h.len h.few h.is
theorem psizeAt (S : PoolSaid E Is) (r : Nat) (hr : poolN ss = r) (h : PAt E Is B w0 v ss w) : Calls Try.prog 9 #[v] w fun e w' => e = .returned (.int .i64 r) ∧ Below w.heap.size w w' := by
  subst hr; exact S.size B v ss w h.e h.len h.few h.is
/-- THE THING IS MADE. -/
theorem pnewAt (S : PoolSaid E Is) (s : Value) (hE : E w) (hl : ss.length ≤ 100000) (hf : bytesN ss ≤ 8388608) (hs : StrOK w s ss) (h0 : Below w0.heap.size w0 w) :
    Calls Try.prog 8 #[s] w fun e w' => ∃ a, e = .returned (.tuple #[.pointer (some a), .int .i64 0]) ∧ PAt E Is w.heap.size w0 (.pointer (some a)) ss w' ∧ Below w.heap.size w w' := by
  refine (S.new s ss w hE hl hf hs).mono ?_
  rintro e w' ⟨v, rfl, hi, hb⟩
  obtain ⟨a, rfl⟩ := S.isPtr _ _ _ _ hi
  exact ⟨a, rfl, ⟨S.below _ _ hE hb, hl, hf, hi, step_below8 h0 hb⟩, hb⟩
end
end Go.Proofs.Ytibhhndiefhofaa
