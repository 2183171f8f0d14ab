/-
  LAYER 6: where a law stands, and the contracts there, out of WavSaid.
-/
import Derived.Test.YtnjlckgmoodkiaaWavSaid
namespace Go.Proofs.Ytnjlckgmoodkiaa
open Go.RowKit

/-- WHERE A LAW STANDS: the thing v of xs, made in the world w1 (blocks from B on, below T), in the world w; of what lay below B nothing has turned since w1; the code's tables stand. -/
structure At (E : Nat → World → Prop) (Is : Nat → Nat → World → Value → List Int → Int → Prop) (n B T : Nat) (w1 : World) (v : Value) (xs : List Int) (sigma : Int) (w : World) : Prop where
  base : B = w1.heap.size
  nb : n ≤ B
  tabs : E n w1
  len : xs.length ≤ 1048576
  may : maySyms xs sigma = true
  is : Is B T w v xs sigma
  since : Below B w1 w
section
variable {E : Nat → World → Prop} {Is : Nat → Nat → World → Value → List Int → Int → Prop} {n B T : Nat} {w1 w : World} {v : Value} {xs : List Int} {sigma : Int}
theorem At.e (S : WavSaid E Is) (h : At E Is n B T w1 v xs sigma w) : E n w := S.stay n w1 w h.tabs (h.since.mono h.nb)
theorem At.size (h : At E Is n B T w1 v xs sigma w) : B ≤ w.heap.size := by have := h.since.size; have := h.base; omega
theorem At.next {w' : World} (h : At E Is n B T w1 v xs sigma w) (hi : Is B T w' v xs sigma) (ha : Apart B T w w') : At E Is n B T w1 v xs sigma w' :=
  ⟨h.base, h.nb, h.tabs, h.len, h.may, hi, h.since.trans (ha.below h.size)⟩
/-- something else was done that turned nothing -/
theorem At.other {w' : World} (S : WavSaid E Is) (h : At E Is n B T w1 v xs sigma w) (hb : Below w.heap.size w w') : At E Is n B T w1 v xs sigma w' :=
  ⟨h.base, h.nb, h.tabs, h.len, h.may, S.keep B T w w' v xs sigma h.is hb.size (fun k _ hT => hb.block k (by have := (S.span _ _ _ _ _ _ h.is).2; omega)), h.since.trans (hb.mono h.size)⟩
theorem At.low {m : Nat} {w0 : World} (h : At E Is n B T w1 v xs sigma w) (h0 : Below m w0 w1) (hm : m ≤ w0.heap.size) : Below m w0 w := h0.trans (h.since.mono (by have := h0.size; have := h.base; omega))
theorem WavGave.at' {r : Value} {e : Ending} {w' : World} (h : At E Is n B T w1 v xs sigma w) (hp : WavGave Is B T v xs sigma r w e w') : e = .returned r ∧ At E Is n B T w1 v xs sigma w' := ⟨hp.1, h.next hp.2.1 hp.2.2⟩
theorem lenAt (S : WavSaid E Is) (r : Nat) (hr : xs.length = r) (h : At E Is n B T w1 v xs sigma w) : Calls Try.prog 10 #[v] w fun e w' => e = .returned (.int .i64 r) ∧ At E Is n B T w1 v xs sigma w' := by
  subst hr; exact (S.len n B T v xs sigma  w (h.e S) h.nb h.len h.may  h.is).mono fun _ _ hp => hp.at' h
theorem rankAt (S : WavSaid E Is) (k s : Int) (r : Nat) (hr : (countL xs 0 k s) = r) (hk : In64 k) (hs : In64 s) (h : At E Is n B T w1 v xs sigma w) : Calls Try.prog 16 #[v, .int .i64 k, .int .i64 s] w fun e w' => e = .returned (.int .i64 r) ∧ At E Is n B T w1 v xs sigma w' := by
  subst hr; exact (S.rank n B T v xs sigma k s w (h.e S) h.nb h.len h.may hk hs h.is).mono fun _ _ hp => hp.at' h
theorem selectAt (S : WavSaid E Is) (j s : Int) (r : Int) (hr : (nthL xs 0 xs.length s j) = r) (hj : In64 j) (hs : In64 s) (h : At E Is n B T w1 v xs sigma w) : Calls Try.prog 17 #[v, .int .i64 j, .int .i64 s] w fun e w' => e = .returned (.int .i64 r) ∧ At E Is n B T w1 v xs sigma w' := by
  subst hr; exact (S.select n B T v xs sigma j s w (h.e S) h.nb h.len h.may hj hs h.is).mono fun _ _ hp => hp.at' h
theorem countAt (S : WavSaid E Is) (lo hi s : Int) (r : Nat) (hr : (countL xs lo hi s) = r) (hlo : In64 lo) (hhi : In64 hi) (hs : In64 s) (h : At E Is n B T w1 v xs sigma w) : Calls Try.prog 19 #[v, .int .i64 lo, .int .i64 hi, .int .i64 s] w fun e w' => e = .returned (.int .i64 r) ∧ At E Is n B T w1 v xs sigma w' := by
  subst hr; exact (S.count n B T v xs sigma lo hi s w (h.e S) h.nb h.len h.may hlo hhi hs h.is).mono fun _ _ hp => hp.at' h
theorem nthAt (S : WavSaid E Is) (lo hi s j : Int) (r : Int) (hr : (nthL xs lo hi s j) = r) (hlo : In64 lo) (hhi : In64 hi) (hs : In64 s) (hj : In64 j) (h : At E Is n B T w1 v xs sigma w) : Calls Try.prog 20 #[v, .int .i64 lo, .int .i64 hi, .int .i64 s, .int .i64 j] w fun e w' => e = .returned (.int .i64 r) ∧ At E Is n B T w1 v xs sigma w' := by
  subst hr; exact (S.nth n B T v xs sigma lo hi s j w (h.e S) h.nb h.len h.may hlo hhi hs hj h.is).mono fun _ _ hp => hp.at' h
theorem getAt (S : WavSaid E Is) (k x c : Int) (hx : getW xs k = x) (hc : getWE xs k = c) (hk : In64 k) (h : At E Is n B T w1 v xs sigma w) : Calls Try.prog 13 #[v, .int .i64 k] w fun e w' => e = .returned (.tuple #[.int .i64 x, .int .i64 c]) ∧ At E Is n B T w1 v xs sigma w' := by
  subst hx; subst hc; exact (S.get n B T v xs sigma k w (h.e S) h.nb h.len h.may hk h.is).mono fun _ _ hp => hp.at' h
theorem sizeAt (S : WavSaid E Is) (r : Nat) (hr : (waveN xs.length sigma) = r) (h : At E Is n B T w1 v xs sigma w) : Calls Try.prog 11 #[v] w fun e w' => e = .returned (.int .i64 r) ∧ At E Is n B T w1 v xs sigma w' := by
  subst hr; exact (S.size n B T v xs sigma  w (h.e S) h.nb h.len h.may  h.is).mono fun _ _ hp => hp.at' h
theorem stepsAt (S : WavSaid E Is) (h : At E Is n B T w1 v xs sigma w) : Calls Try.prog 30 #[v] w fun e w' => ∃ t : Nat, t ≤ stepsW sigma ∧ e = .returned (.int .i64 t) ∧ At E Is n B T w1 v xs sigma w' :=
  (S.steps n B T v xs sigma w (h.e S) h.nb h.len h.may h.is).mono fun _ _ ⟨t, ht, hp⟩ => ⟨t, ht, hp.at' h⟩
/-- THE THING IS MADE. -/
theorem newAt (S : WavSaid E Is) (s : Value) (hE : E n w) (hn : n ≤ w.heap.size) (hl : xs.length ≤ 1048576) (hs : SymOK w s xs) (hm : maySyms xs sigma = true) :
    Calls Try.prog 9 #[s, .int .i64 sigma] w fun e w' => ∃ a T, e = .returned (.tuple #[.pointer (some a), .int .i64 0]) ∧ At E Is n w.heap.size T w (.pointer (some a)) xs sigma w' := by
  refine (S.newOk n s xs sigma w hE hn hl hs hm).mono ?_
  rintro e w' ⟨v, rfl, hi, hb⟩
  obtain ⟨a, rfl⟩ := S.isPtr _ _ _ _ _ _ hi
  exact ⟨a, _, rfl, ⟨rfl, hn, hE, hl, hm, hi, hb⟩⟩
end
end Go.Proofs.Ytnjlckgmoodkiaa
