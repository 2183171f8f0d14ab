/-
  LAYER 5, PART BY PART: what the laws of layer 5 ask of package paren (ParSaid: to be proved of the program that lands).
-/
import Derived.Test.YteecanaibkpmfaaParRow
import Derived.Test.YteecanaibkpmfaaBoolRow
import Derived.Test.YteecanaibkpmfaaRefPar3
import Derived.Test.YteecanaibkpmfaaRefWidth
import Derived.Test.YteecanaibkpmfaaRefSel
import Derived.Test.YteecanaibkpmfaaApart
namespace Go.Proofs.Yteecanaibkpmfaa
open Go.RowKit

/-- how many steps there may be -/
def stepsN (n : Nat) : Nat := 40 * (widthN n + 2)
/-- the answer r, the thing as it was (its steps aside), all else as it was -/
def ParGave (Is : Nat → Nat → World → Value → List Bool → Prop) (B T : Nat) (v : Value) (xs : List Bool) (r : Value) (w : World) (e : Ending) (w' : World) : Prop := e = .returned r ∧ Is B T w' v xs ∧ Apart B T w w'

/-- WHAT IS ASKED OF PACKAGE paren. E n w: the world bears, in blocks below n, what the code reads. Is B T w v xs: v is a Paren of the balanced row xs that lies in blocks from B to below T, and whose steps are few. -/
structure ParSaid (E : Nat → World → Prop) (Is : Nat → Nat → World → Value → List Bool → Prop) : Prop where
  stay : ∀ n w w', E n w → Below n w w' → E n w'
  keep : ∀ B T w w' v xs, Is B T w v xs → w.heap.size ≤ w'.heap.size → (∀ k, B ≤ k → k < T → w'.heap[k]? = w.heap[k]?) → Is B T w' v xs
  isPtr : ∀ B T w v xs, Is B T w v xs → ∃ a, v = .pointer (some a)
  span : ∀ B T w v xs, Is B T w v xs → B ≤ T ∧ T ≤ w.heap.size
  may : ∀ n s xs w, E n w → n ≤ w.heap.size → xs.length ≤ 4194304 → RowOK w s xs → Calls Try.prog 34 #[s] w fun e w' => e = .returned (.bool (mayL xs)) ∧ Below w.heap.size w w'
  newOk : ∀ n s xs w, E n w → n ≤ w.heap.size → xs.length ≤ 4194304 → RowOK w s xs → mayL xs = true → Calls Try.prog 12 #[s] w fun e w' => ∃ v, e = .returned (.tuple #[v, .int .i64 0]) ∧ Is w.heap.size w'.heap.size w' v xs ∧ Below w.heap.size w w'
  newNo : ∀ n s xs w, E n w → n ≤ w.heap.size → xs.length ≤ 4194304 → RowOK w s xs → mayL xs = false → Calls Try.prog 12 #[s] w fun e w' => e = .returned (.tuple #[.pointer none, .int .i64 1]) ∧ Below w.heap.size w w'
  len : ∀ n B T v xs w, E n w → n ≤ B → xs.length ≤ 4194304 → Is B T w v xs → Calls Try.prog 23 #[v] w (ParGave Is B T v xs (.int .i64 xs.length) w)
  opn : ∀ n B T v xs k w, E n w → n ≤ B → xs.length ≤ 4194304 → In64 k → Is B T w v xs → Calls Try.prog 22 #[v, .int .i64 k] w (ParGave Is B T v xs (.bool (openB xs k)) w)
  excess : ∀ n B T v xs k w, E n w → n ≤ B → xs.length ≤ 4194304 → In64 k → Is B T w v xs → Calls Try.prog 17 #[v, .int .i64 k] w (ParGave Is B T v xs (.int .i64 (excL xs k)) w)
  close : ∀ n B T v xs k w, E n w → n ≤ B → xs.length ≤ 4194304 → In64 k → Is B T w v xs → Calls Try.prog 13 #[v, .int .i64 k] w (ParGave Is B T v xs (.int .i64 (closeL xs k)) w)
  begin' : ∀ n B T v xs k w, E n w → n ≤ B → xs.length ≤ 4194304 → In64 k → Is B T w v xs → Calls Try.prog 14 #[v, .int .i64 k] w (ParGave Is B T v xs (.int .i64 (beginL xs k)) w)
  enclose : ∀ n B T v xs k w, E n w → n ≤ B → xs.length ≤ 4194304 → In64 k → Is B T w v xs → Calls Try.prog 21 #[v, .int .i64 k] w (ParGave Is B T v xs (.int .i64 (encloseL xs k)) w)
  up : ∀ n B T v xs k j w, E n w → n ≤ B → xs.length ≤ 4194304 → In64 k → In64 j → Is B T w v xs → Calls Try.prog 18 #[v, .int .i64 k, .int .i64 j] w (ParGave Is B T v xs (.int .i64 (upL xs k j)) w)
  place : ∀ n B T v xs k w, E n w → n ≤ B → xs.length ≤ 4194304 → In64 k → Is B T w v xs → Calls Try.prog 19 #[v, .int .i64 k] w (ParGave Is B T v xs (.int .i64 (selL xs k true)) w)
  number : ∀ n B T v xs k w, E n w → n ≤ B → xs.length ≤ 4194304 → In64 k → Is B T w v xs → Calls Try.prog 16 #[v, .int .i64 k] w (ParGave Is B T v xs (.int .i64 (numberL xs k)) w)
  spans : ∀ n B T v xs k w, E n w → n ≤ B → xs.length ≤ 4194304 → In64 k → Is B T w v xs → Calls Try.prog 15 #[v, .int .i64 k] w (ParGave Is B T v xs (.int .i64 (spanL xs k)) w)
  steps : ∀ n B T v xs w, E n w → n ≤ B → xs.length ≤ 4194304 → Is B T w v xs → Calls Try.prog 51 #[v] w fun e w' => ∃ s : Nat, s ≤ stepsN xs.length ∧ ParGave Is B T v xs (.int .i64 s) w e w'
  lenNil : ∀ n w, E n w → n ≤ w.heap.size → Calls Try.prog 23 #[.pointer none] w fun e w' => e = .returned (.int .i64 0) ∧ Below w.heap.size w w'
  closeNil : ∀ n w, E n w → n ≤ w.heap.size → Calls Try.prog 13 #[.pointer none, .int .i64 0] w fun e w' => e = .returned (.int .i64 (-1)) ∧ Below w.heap.size w w'

/-- WHERE A LAW STANDS: the thing v of xs, made in the world w1 (blocks from B on, below T), in the world w; of what lay below B nothing has turned since w1; the code's tables stand. -/
structure At (E : Nat → World → Prop) (Is : Nat → Nat → World → Value → List Bool → Prop) (n B T : Nat) (w1 : World) (v : Value) (xs : List Bool) (w : World) : Prop where
  base : B = w1.heap.size
  nb : n ≤ B
  tabs : E n w1
  len : xs.length ≤ 4194304
  is : Is B T w v xs
  since : Below B w1 w
section
variable {E : Nat → World → Prop} {Is : Nat → Nat → World → Value → List Bool → Prop} {n B T : Nat} {w1 w : World} {v : Value} {xs : List Bool}
theorem At.e (S : ParSaid E Is) (h : At E Is n B T w1 v xs w) : E n w := S.stay n w1 w h.tabs (h.since.mono h.nb)
theorem At.size (h : At E Is n B T w1 v xs w) : B ≤ w.heap.size := by have := h.since.size; have := h.base; omega
theorem At.next {w' : World} (h : At E Is n B T w1 v xs w) (hi : Is B T w' v xs) (ha : Apart B T w w') : At E Is n B T w1 v xs w' :=
  ⟨h.base, h.nb, h.tabs, h.len, hi, h.since.trans (ha.below h.size)⟩
/-- something else was done that turned nothing -/
theorem At.other {w' : World} (S : ParSaid E Is) (h : At E Is n B T w1 v xs w) (hb : Below w.heap.size w w') : At E Is n B T w1 v xs w' :=
  ⟨h.base, h.nb, h.tabs, h.len, S.keep B T w w' v xs h.is hb.size (fun k _ hT => hb.block k (by have := (S.span _ _ _ _ _ h.is).2; omega)), h.since.trans (hb.mono h.size)⟩
theorem At.low {m : Nat} {w0 : World} (h : At E Is n B T w1 v xs w) (h0 : Below m w0 w1) (hm : m ≤ w0.heap.size) : Below m w0 w := h0.trans (h.since.mono (by have := h0.size; have := h.base; omega))
theorem ParGave.at' {r : Value} {e : Ending} {w' : World} (h : At E Is n B T w1 v xs w) (hp : ParGave Is B T v xs r w e w') : e = .returned r ∧ At E Is n B T w1 v xs w' := ⟨hp.1, h.next hp.2.1 hp.2.2⟩
theorem lenAt (S : ParSaid E Is) (r : Nat) (hr : xs.length = r) (h : At E Is n B T w1 v xs w) : Calls Try.prog 23 #[v] w fun e w' => e = .returned (.int .i64 r) ∧ At E Is n B T w1 v xs w' := by
  subst hr; exact (S.len n B T v xs w (h.e S) h.nb h.len h.is).mono fun _ _ hp => hp.at' h
theorem openAt (S : ParSaid E Is) (k : Int) (r : Bool) (hr : openB xs k = r) (hk : In64 k) (h : At E Is n B T w1 v xs w) : Calls Try.prog 22 #[v, .int .i64 k] w fun e w' => e = .returned (.bool r) ∧ At E Is n B T w1 v xs w' := by
  subst hr; exact (S.opn n B T v xs k w (h.e S) h.nb h.len hk h.is).mono fun _ _ hp => hp.at' h
theorem excessAt (S : ParSaid E Is) (k r : Int) (hr : excL xs k = r) (hk : In64 k) (h : At E Is n B T w1 v xs w) : Calls Try.prog 17 #[v, .int .i64 k] w fun e w' => e = .returned (.int .i64 r) ∧ At E Is n B T w1 v xs w' := by
  subst hr; exact (S.excess n B T v xs k w (h.e S) h.nb h.len hk h.is).mono fun _ _ hp => hp.at' h
theorem closeAt (S : ParSaid E Is) (k r : Int) (hr : closeL xs k = r) (hk : In64 k) (h : At E Is n B T w1 v xs w) : Calls Try.prog 13 #[v, .int .i64 k] w fun e w' => e = .returned (.int .i64 r) ∧ At E Is n B T w1 v xs w' := by
  subst hr; exact (S.close n B T v xs k w (h.e S) h.nb h.len hk h.is).mono fun _ _ hp => hp.at' h
theorem beginAt (S : ParSaid E Is) (k r : Int) (hr : beginL xs k = r) (hk : In64 k) (h : At E Is n B T w1 v xs w) : Calls Try.prog 14 #[v, .int .i64 k] w fun e w' => e = .returned (.int .i64 r) ∧ At E Is n B T w1 v xs w' := by
  subst hr; exact (S.begin' n B T v xs k w (h.e S) h.nb h.len hk h.is).mono fun _ _ hp => hp.at' h
theorem encloseAt (S : ParSaid E Is) (k r : Int) (hr : encloseL xs k = r) (hk : In64 k) (h : At E Is n B T w1 v xs w) : Calls Try.prog 21 #[v, .int .i64 k] w fun e w' => e = .returned (.int .i64 r) ∧ At E Is n B T w1 v xs w' := by
  subst hr; exact (S.enclose n B T v xs k w (h.e S) h.nb h.len hk h.is).mono fun _ _ hp => hp.at' h
theorem upAt (S : ParSaid E Is) (k j r : Int) (hr : upL xs k j = r) (hk : In64 k) (hj : In64 j) (h : At E Is n B T w1 v xs w) : Calls Try.prog 18 #[v, .int .i64 k, .int .i64 j] w fun e w' => e = .returned (.int .i64 r) ∧ At E Is n B T w1 v xs w' := by
  subst hr; exact (S.up n B T v xs k j w (h.e S) h.nb h.len hk hj h.is).mono fun _ _ hp => hp.at' h
theorem placeAt (S : ParSaid E Is) (k r : Int) (hr : selL xs k true = r) (hk : In64 k) (h : At E Is n B T w1 v xs w) : Calls Try.prog 19 #[v, .int .i64 k] w fun e w' => e = .returned (.int .i64 r) ∧ At E Is n B T w1 v xs w' := by
  subst hr; exact (S.place n B T v xs k w (h.e S) h.nb h.len hk h.is).mono fun _ _ hp => hp.at' h
theorem numberAt (S : ParSaid E Is) (k r : Int) (hr : numberL xs k = r) (hk : In64 k) (h : At E Is n B T w1 v xs w) : Calls Try.prog 16 #[v, .int .i64 k] w fun e w' => e = .returned (.int .i64 r) ∧ At E Is n B T w1 v xs w' := by
  subst hr; exact (S.number n B T v xs k w (h.e S) h.nb h.len hk h.is).mono fun _ _ hp => hp.at' h
theorem spanAt (S : ParSaid E Is) (k r : Int) (hr : spanL xs k = r) (hk : In64 k) (h : At E Is n B T w1 v xs w) : Calls Try.prog 15 #[v, .int .i64 k] w fun e w' => e = .returned (.int .i64 r) ∧ At E Is n B T w1 v xs w' := by
  subst hr; exact (S.spans n B T v xs k w (h.e S) h.nb h.len hk h.is).mono fun _ _ hp => hp.at' h
theorem stepsAt (S : ParSaid E Is) (h : At E Is n B T w1 v xs w) : Calls Try.prog 51 #[v] w fun e w' => ∃ s : Nat, s ≤ stepsN xs.length ∧ e = .returned (.int .i64 s) ∧ At E Is n B T w1 v xs w' :=
  (S.steps n B T v xs w (h.e S) h.nb h.len h.is).mono fun _ _ ⟨s, hs, hp⟩ => ⟨s, hs, hp.at' h⟩
/-- THE THING IS MADE. -/
theorem newAt (S : ParSaid E Is) (s : Value) (hE : E n w) (hn : n ≤ w.heap.size) (hl : xs.length ≤ 4194304) (hs : RowOK w s xs) (hm : mayL xs = true) :
    Calls Try.prog 12 #[s] w fun e w' => ∃ a T, e = .returned (.tuple #[.pointer (some a), .int .i64 0]) ∧ At E Is n w.heap.size T w (.pointer (some a)) xs w' := by
  refine (S.newOk n s xs w hE hn hl hs hm).mono ?_
  rintro e w' ⟨v, rfl, hi, hb⟩
  obtain ⟨a, rfl⟩ := S.isPtr _ _ _ _ _ hi
  exact ⟨a, _, rfl, ⟨rfl, hn, hE, hl, hi, hb⟩⟩
end
end Go.Proofs.Yteecanaibkpmfaa
