/-
  LAYER 7, PART BY PART: what the laws of layer 7 ask of package offs (OffSaid: to be proved of the program that lands).
-/
import Derived.Test.YtcgglpjapkjphaaRefOff
import Derived.Test.YtcgglpjapkjphaaRefMayO
import Derived.Test.YtcgglpjapkjphaaSymArg
import Derived.Below
namespace Go.Proofs.Ytcgglpjapkjphaa
open Go.RowKit

/-- WHAT IS ASKED OF PACKAGE offs, in worlds that meet E. Is B w v xs: v is an Offs of the places xs that lies in blocks from B on. -/
structure OffSaid (E : World → Prop) (Is : Nat → World → Value → List Int → Prop) : Prop where
  below : ∀ w w', E w → Below w.heap.size w w' → E w'
  keep : ∀ B w w' v xs, Is B w v xs → (∀ k, B ≤ k → k < w.heap.size → w'.heap[k]? = w.heap[k]?) → Is B w' v xs
  isPtr : ∀ B w v xs, Is B w v xs → ∃ a, v = .pointer (some a)
  newOk : ∀ s xs w, E w → xs.length ≤ 1048576 → SymOK w s xs → mayOffs xs = true → Calls Try.prog 7 #[s] w fun e w' => ∃ v, e = .returned (.tuple #[v, .int .i64 0]) ∧ Is w.heap.size w' v xs ∧ Below w.heap.size w w'
  newNo : ∀ s xs w, E w → xs.length ≤ 1048576 → (∀ z ∈ xs, In64 z) → SymOK w s xs → mayOffs xs = false → Calls Try.prog 7 #[s] w fun e w' => e = .returned (.tuple #[.pointer none, .int .i64 1]) ∧ Below w.heap.size w w'
  len : ∀ B v xs w, E w → xs.length ≤ 1048576 → mayOffs xs = true → Is B w v xs → Calls Try.prog 9 #[v] w fun e w' => e = .returned (.int .i64 xs.length) ∧ Below w.heap.size w w'
  get : ∀ B v xs k w, E w → xs.length ≤ 1048576 → mayOffs xs = true → In64 k → Is B w v xs → Calls Try.prog 14 #[v, .int .i64 k] w fun e w' => e = .returned (.tuple #[.int .i64 (getW xs k), .int .i64 (getWE xs k)]) ∧ Below w.heap.size w w'
  low : ∀ B v xs w, E w → xs.length ≤ 1048576 → mayOffs xs = true → Is B w v xs → Calls Try.prog 10 #[v] w fun e w' => e = .returned (.int .i64 (lowN xs)) ∧ Below w.heap.size w w'
  size : ∀ B v xs w, E w → xs.length ≤ 1048576 → mayOffs xs = true → Is B w v xs → Calls Try.prog 12 #[v] w fun e w' => e = .returned (.int .i64 (offsN xs)) ∧ Below w.heap.size w w'
  lenNil : ∀ w, E w → Calls Try.prog 9 #[.pointer none] w fun e w' => e = .returned (.int .i64 0) ∧ Below w.heap.size w w'

theorem step_below7 {w a b : World} (h : Below w.heap.size w a) (h' : Below a.heap.size a b) : Below w.heap.size w b := h.trans (h'.mono h.size)
/-- WHERE A LAW STANDS: the thing v of xs, in the world w, which is as w0 but for what has been made since. -/
structure OAt (E : World → Prop) (Is : Nat → World → Value → List Int → Prop) (B : Nat) (w0 : World) (v : Value) (xs : List Int) (w : World) : Prop where
  e : E w
  len : xs.length ≤ 1048576
  may : mayOffs xs = true
  is : Is B w v xs
  since : Below w0.heap.size w0 w
section
variable {E : World → Prop} {Is : Nat → World → Value → List Int → Prop} {B : Nat} {w0 w : World} {v : Value} {xs : List Int}
theorem OAt.other {w' : World} (S : OffSaid E Is) (h : OAt E Is B w0 v xs w) (hb : Below w.heap.size w w') : OAt E Is B w0 v xs w' :=
  ⟨S.below _ _ h.e hb, h.len, h.may, S.keep B w w' v xs h.is (fun k _ hk => hb.block k hk), step_below7 h.since hb⟩
theorem olenAt (S : OffSaid E Is) (r : Nat) (hr : xs.length = r) (h : OAt E Is B w0 v xs w) : Calls Try.prog 9 #[v] w fun e w' => e = .returned (.int .i64 r) ∧ OAt E Is B w0 v xs w' := by
  subst hr; exact (S.len B v xs w h.e h.len h.may h.is).mono fun _ _ hp => ⟨hp.1, h.other S hp.2⟩
theorem ogetAt (S : OffSaid E Is) (k x c : Int) (hx : getW xs k = x) (hc : getWE xs k = c) (hk : In64 k) (h : OAt E Is B w0 v xs w) : Calls Try.prog 14 #[v, .int .i64 k] w fun e w' => e = .returned (.tuple #[.int .i64 x, .int .i64 c]) ∧ OAt E Is B w0 v xs w' := by
  subst hx; subst hc; exact (S.get B v xs k w h.e h.len h.may hk h.is).mono fun _ _ hp => ⟨hp.1, h.other S hp.2⟩
theorem olowAt (S : OffSaid E Is) (r : Nat) (hr : lowN xs = r) (h : OAt E Is B w0 v xs w) : Calls Try.prog 10 #[v] w fun e w' => e = .returned (.int .i64 r) ∧ OAt E Is B w0 v xs w' := by
  subst hr; exact (S.low B v xs w h.e h.len h.may h.is).mono fun _ _ hp => ⟨hp.1, h.other S hp.2⟩
theorem osizeAt (S : OffSaid E Is) (r : Nat) (hr : offsN xs = r) (h : OAt E Is B w0 v xs w) : Calls Try.prog 12 #[v] w fun e w' => e = .returned (.int .i64 r) ∧ OAt E Is B w0 v xs w' := by
  subst hr; exact (S.size B v xs w h.e h.len h.may h.is).mono fun _ _ hp => ⟨hp.1, h.other S hp.2⟩
/-- THE THING IS MADE. -/
theorem onewAt (S : OffSaid E Is) (s : Value) (hE : E w) (hl : xs.length ≤ 1048576) (hs : SymOK w s xs) (hm : mayOffs xs = true) (h0 : Below w0.heap.size w0 w) :
    Calls Try.prog 7 #[s] w fun e w' => ∃ a, e = .returned (.tuple #[.pointer (some a), .int .i64 0]) ∧ OAt E Is w.heap.size w0 (.pointer (some a)) xs w' ∧ Below w.heap.size w w' := by
  refine (S.newOk s xs w hE hl hs hm).mono ?_
  rintro e w' ⟨v, rfl, hi, hb⟩
  obtain ⟨a, rfl⟩ := S.isPtr _ _ _ _ hi
  exact ⟨a, rfl, ⟨S.below _ _ hE hb, hl, hm, hi, step_below7 h0 hb⟩, hb⟩
end
end Go.Proofs.Ytcgglpjapkjphaa
