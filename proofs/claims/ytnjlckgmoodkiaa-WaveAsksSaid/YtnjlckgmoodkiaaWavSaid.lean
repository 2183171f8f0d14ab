/-
  LAYER 6, PART BY PART: what the laws of layer 6 ask of package wave (WavSaid: to be proved of the program that lands).
-/
import Derived.Test.YtnjlckgmoodkiaaWavRow
import Derived.Test.YtnjlckgmoodkiaaRefWav
import Derived.Test.YtnjlckgmoodkiaaApart
namespace Go.Proofs.Ytnjlckgmoodkiaa
open Go.RowKit

/-- the answer r, the thing as it was (its steps aside), all else as it was -/
def WavGave (Is : Nat → Nat → World → Value → List Int → Int → Prop) (B T : Nat) (v : Value) (xs : List Int) (sigma : Int) (r : Value) (w : World) (e : Ending) (w' : World) : Prop := e = .returned r ∧ Is B T w' v xs sigma ∧ Apart B T w w'

/-- WHAT IS ASKED OF PACKAGE wave. E n w: the world bears, in blocks below n, what the code reads. Is B T w v xs sigma: v is a Wave of the symbols xs below sigma that lies in blocks from B to below T, and whose steps are few. -/
structure WavSaid (E : Nat → World → Prop) (Is : Nat → Nat → World → Value → List Int → Int → Prop) : Prop where
  stay : ∀ n w w', E n w → Below n w w' → E n w'
  keep : ∀ B T w w' v xs sigma, Is B T w v xs sigma → w.heap.size ≤ w'.heap.size → (∀ k, B ≤ k → k < T → w'.heap[k]? = w.heap[k]?) → Is B T w' v xs sigma
  isPtr : ∀ B T w v xs sigma, Is B T w v xs sigma → ∃ a, v = .pointer (some a)
  span : ∀ B T w v xs sigma, Is B T w v xs sigma → B ≤ T ∧ T ≤ w.heap.size
  newOk : ∀ n s xs sigma w, E n w → n ≤ w.heap.size → xs.length ≤ 1048576 → SymOK w s xs → maySyms xs sigma = true → Calls Try.prog 9 #[s, .int .i64 sigma] w fun e w' => ∃ v, e = .returned (.tuple #[v, .int .i64 0]) ∧ Is w.heap.size w'.heap.size w' v xs sigma ∧ Below w.heap.size w w'
  newNo : ∀ n s xs sigma w, E n w → n ≤ w.heap.size → xs.length ≤ 1048576 → In64 sigma → (∀ z ∈ xs, In64 z) → SymOK w s xs → maySyms xs sigma = false → Calls Try.prog 9 #[s, .int .i64 sigma] w fun e w' => e = .returned (.tuple #[.pointer none, .int .i64 1]) ∧ Below w.heap.size w w'
  len : ∀ n B T v xs sigma  w, E n w → n ≤ B → xs.length ≤ 1048576 → maySyms xs sigma = true → Is B T w v xs sigma → Calls Try.prog 10 #[v] w (WavGave Is B T v xs sigma (.int .i64 xs.length) w)
  rank : ∀ n B T v xs sigma k s w, E n w → n ≤ B → xs.length ≤ 1048576 → maySyms xs sigma = true → In64 k → In64 s → Is B T w v xs sigma → Calls Try.prog 16 #[v, .int .i64 k, .int .i64 s] w (WavGave Is B T v xs sigma (.int .i64 (countL xs 0 k s)) w)
  select : ∀ n B T v xs sigma j s w, E n w → n ≤ B → xs.length ≤ 1048576 → maySyms xs sigma = true → In64 j → In64 s → Is B T w v xs sigma → Calls Try.prog 17 #[v, .int .i64 j, .int .i64 s] w (WavGave Is B T v xs sigma (.int .i64 (nthL xs 0 xs.length s j)) w)
  count : ∀ n B T v xs sigma lo hi s w, E n w → n ≤ B → xs.length ≤ 1048576 → maySyms xs sigma = true → In64 lo → In64 hi → In64 s → Is B T w v xs sigma → Calls Try.prog 19 #[v, .int .i64 lo, .int .i64 hi, .int .i64 s] w (WavGave Is B T v xs sigma (.int .i64 (countL xs lo hi s)) w)
  nth : ∀ n B T v xs sigma lo hi s j w, E n w → n ≤ B → xs.length ≤ 1048576 → maySyms xs sigma = true → In64 lo → In64 hi → In64 s → In64 j → Is B T w v xs sigma → Calls Try.prog 20 #[v, .int .i64 lo, .int .i64 hi, .int .i64 s, .int .i64 j] w (WavGave Is B T v xs sigma (.int .i64 (nthL xs lo hi s j)) w)
  get : ∀ n B T v xs sigma k w, E n w → n ≤ B → xs.length ≤ 1048576 → maySyms xs sigma = true → In64 k → Is B T w v xs sigma → Calls Try.prog 13 #[v, .int .i64 k] w (WavGave Is B T v xs sigma (.tuple #[.int .i64 (getW xs k), .int .i64 (getWE xs k)]) w)
  size : ∀ n B T v xs sigma  w, E n w → n ≤ B → xs.length ≤ 1048576 → maySyms xs sigma = true → Is B T w v xs sigma → Calls Try.prog 11 #[v] w (WavGave Is B T v xs sigma (.int .i64 (waveN xs.length sigma)) w)
  steps : ∀ n B T v xs sigma w, E n w → n ≤ B → xs.length ≤ 1048576 → maySyms xs sigma = true → Is B T w v xs sigma → Calls Try.prog 30 #[v] w fun e w' => ∃ t : Nat, t ≤ stepsW sigma ∧ WavGave Is B T v xs sigma (.int .i64 t) w e w'
  lenNil : ∀ n w, E n w → n ≤ w.heap.size → Calls Try.prog 10 #[.pointer none] w fun e w' => e = .returned (.int .i64 0) ∧ Below w.heap.size w w'
  nthNil : ∀ n w, E n w → n ≤ w.heap.size → Calls Try.prog 20 #[.pointer none, .int .i64 0, .int .i64 1, .int .i64 2, .int .i64 0] w fun e w' => e = .returned (.int .i64 (-1)) ∧ Below w.heap.size w w'
end Go.Proofs.Ytnjlckgmoodkiaa
