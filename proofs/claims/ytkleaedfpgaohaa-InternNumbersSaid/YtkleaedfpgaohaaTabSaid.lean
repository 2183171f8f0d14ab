/-
  LAYER 9, PART BY PART: what the laws of layer 9 ask of package intern (TabSaid: to be proved of the program that lands).
-/
import Derived.Test.YtkleaedfpgaohaaTurns
import Derived.Test.YtkleaedfpgaohaaTabPlay
namespace Go.Proofs.Ytkleaedfpgaohaa
open Go.RowKit

def Fits64 (k : Int) : Prop := -9223372036854775808 ≤ k ∧ k ≤ 9223372036854775807
/-- WHAT IS ASKED OF PACKAGE intern. E n w: the world bears, in blocks below n, what the code reads. Is F w v L P x: v is a Table of the texts L with the places P that last looked at x of them; it lies in the blocks of F. -/
structure TabSaid (E : Nat → World → Prop) (Is : (Nat → Prop) → World → Value → List ByteArray → List Nat → Int → Prop) : Prop where
  stay : ∀ n w w', E n w → Below n w w' → E n w'
  keep : ∀ F w w' v L P x, Is F w v L P x → w.heap.size ≤ w'.heap.size → (∀ k, F k → w'.heap[k]? = w.heap[k]?) → Is F w' v L P x
  inn : ∀ F w v L P x, Is F w v L P x → ∀ k, F k → k < w.heap.size
  isPtr : ∀ F w v L P x, Is F w v L P x → ∃ a, v = .pointer (some a)
  new : ∀ n w, E n w → n ≤ w.heap.size → Calls Try.prog 9 #[] w fun e w' => ∃ v F x, e = .returned v ∧ Is F w' v [] (List.replicate 8 0) x ∧ (∀ k, F k → w.heap.size ≤ k ∧ k < w'.heap.size) ∧ Below w.heap.size w w'
  put : ∀ n F v L P x s w, E n w → n ≤ w.heap.size → (∀ k, F k → n ≤ k) → Nice L P → L.length < 1048576 → s.size ≤ 1048576 → Is F w v L P x → Calls Try.prog 13 #[v, .string s] w (Gave9 Is F v (putL L P s) (putP L P s) ((lookT P L s).2 : Nat) (.int .i64 (putN L P s)) w)
  find : ∀ n F v L P x s w, E n w → n ≤ w.heap.size → (∀ k, F k → n ≤ k) → Nice L P → L.length ≤ 1048576 → s.size ≤ 1048576 → Is F w v L P x → Calls Try.prog 11 #[v, .string s] w (Gave9 Is F v L P ((lookT P L s).2 : Nat) (.tuple #[.int .i64 (slotT P L s - 1 : Nat), .bool (decide (slotT P L s ≠ 0))]) w)
  get : ∀ n F v L P x k w, E n w → n ≤ w.heap.size → (∀ k, F k → n ≤ k) → Nice L P → L.length ≤ 1048576 → Fits64 k → Is F w v L P x → Calls Try.prog 18 #[v, .int .i64 k] w (Gave9 Is F v L P x (.tuple #[.string (textG L k), .int .i64 (textE L k)]) w)
  len : ∀ n F v L P x w, E n w → n ≤ w.heap.size → (∀ k, F k → n ≤ k) → Nice L P → L.length ≤ 1048576 → Is F w v L P x → Calls Try.prog 16 #[v] w (Gave9 Is F v L P x (.int .i64 L.length) w)
  looked : ∀ n F v L P x w, E n w → n ≤ w.heap.size → (∀ k, F k → n ≤ k) → Nice L P → L.length ≤ 1048576 → Is F w v L P x → Calls Try.prog 15 #[v] w (Gave9 Is F v L P x (.int .i64 x) w)
  hash : ∀ n s w, E n w → n ≤ w.heap.size → s.size ≤ 1048576 → Calls Try.prog 8 #[.string s] w fun e w' => e = .returned (.int .u64 (hashN s)) ∧ Below w.heap.size w w'
  putNil : ∀ n s w, E n w → n ≤ w.heap.size → s.size ≤ 1048576 → Calls Try.prog 13 #[.pointer none, .string s] w fun e w' => e = .returned (.int .i64 (-1)) ∧ Below w.heap.size w w'
  lenNil : ∀ n w, E n w → n ≤ w.heap.size → Calls Try.prog 16 #[.pointer none] w fun e w' => e = .returned (.int .i64 0) ∧ Below w.heap.size w w'

/-- WHERE A LAW STANDS: the table v, in the world w, which is as w0 but for what has been made since. -/
structure TAt (E : Nat → World → Prop) (Is : (Nat → Prop) → World → Value → List ByteArray → List Nat → Int → Prop) (n : Nat) (w0 : World) (v : Value) (L : List ByteArray) (P : List Nat) (x : Int) (w : World) : Prop where
  e : E n w
  low : n ≤ w0.heap.size
  nice : Nice L P
  is : ∃ F, Is F w v L P x ∧ ∀ k, F k → w0.heap.size ≤ k
  since : Below w0.heap.size w0 w
section
variable {E : Nat → World → Prop} {Is : (Nat → Prop) → World → Value → List ByteArray → List Nat → Int → Prop} {n : Nat} {w0 w : World} {v : Value} {L : List ByteArray} {P : List Nat} {x : Int}
theorem TAt.n_le (h : TAt E Is n w0 v L P x w) : n ≤ w.heap.size := Nat.le_trans h.low h.since.size
theorem TAt.other (S : TabSaid E Is) (h : TAt E Is n w0 v L P x w) {w' : World} (hb : Below w.heap.size w w') : TAt E Is n w0 v L P x w' := by
  obtain ⟨F, hi, hF⟩ := h.is
  exact ⟨S.stay n w w' h.e (hb.mono h.n_le), h.low, h.nice, ⟨F, S.keep F w w' v L P x hi hb.size fun k hk => hb.block k (S.inn F w v L P x hi k hk), hF⟩, h.since.trans (hb.mono h.since.size)⟩
theorem TAt.gave (S : TabSaid E Is) (h : TAt E Is n w0 v L P x w) {F : Nat → Prop} (hF : ∀ k, F k → w0.heap.size ≤ k) {L' : List ByteArray} {P' : List Nat} {y : Int} {r : Value} {e : Ending} {w' : World} (hN : Nice L' P') (hg : Gave9 Is F v L' P' y r w e w') :
    e = .returned r ∧ TAt E Is n w0 v L' P' y w' := by
  obtain ⟨rfl, F', hi, hs, ht⟩ := hg
  have hb : Below w0.heap.size w w' := ht.below h.since.size hF
  refine ⟨rfl, S.stay n w w' h.e (hb.mono h.low), h.low, hN, ⟨F', hi, fun k hk => ?_⟩, h.since.trans hb⟩
  rcases hs k hk with h1 | h1
  · exact hF k h1
  · have := h.since.size; omega
theorem tputAt (S : TabSaid E Is) (s : ByteArray) (hl : L.length < 1048576) (hs : s.size ≤ 1048576) (h : TAt E Is n w0 v L P x w) :
    Calls Try.prog 13 #[v, .string s] w fun e w' => e = .returned (.int .i64 (putN L P s)) ∧ TAt E Is n w0 v (putL L P s) (putP L P s) ((lookT P L s).2 : Nat) w' := by
  obtain ⟨F, hi, hF⟩ := h.is
  exact (S.put n F v L P x s w h.e h.n_le (fun k hk => Nat.le_trans h.low (hF k hk)) h.nice hl hs hi).mono fun e w' hg => h.gave S hF (h.nice.put s hs) hg
theorem tfindAt (S : TabSaid E Is) (s : ByteArray) (hl : L.length ≤ 1048576) (hs : s.size ≤ 1048576) (h : TAt E Is n w0 v L P x w) :
    Calls Try.prog 11 #[v, .string s] w fun e w' => e = .returned (.tuple #[.int .i64 (slotT P L s - 1 : Nat), .bool (decide (slotT P L s ≠ 0))]) ∧ TAt E Is n w0 v L P ((lookT P L s).2 : Nat) w' := by
  obtain ⟨F, hi, hF⟩ := h.is
  exact (S.find n F v L P x s w h.e h.n_le (fun k hk => Nat.le_trans h.low (hF k hk)) h.nice hl hs hi).mono fun e w' hg => h.gave S hF h.nice hg
theorem tgetAt (S : TabSaid E Is) (k : Int) (hk : Fits64 k) (hl : L.length ≤ 1048576) (h : TAt E Is n w0 v L P x w) :
    Calls Try.prog 18 #[v, .int .i64 k] w fun e w' => e = .returned (.tuple #[.string (textG L k), .int .i64 (textE L k)]) ∧ TAt E Is n w0 v L P x w' := by
  obtain ⟨F, hi, hF⟩ := h.is
  exact (S.get n F v L P x k w h.e h.n_le (fun k hk => Nat.le_trans h.low (hF k hk)) h.nice hl hk hi).mono fun e w' hg => h.gave S hF h.nice hg
theorem tlenAt (S : TabSaid E Is) (hl : L.length ≤ 1048576) (h : TAt E Is n w0 v L P x w) :
    Calls Try.prog 16 #[v] w fun e w' => e = .returned (.int .i64 L.length) ∧ TAt E Is n w0 v L P x w' := by
  obtain ⟨F, hi, hF⟩ := h.is
  exact (S.len n F v L P x w h.e h.n_le (fun k hk => Nat.le_trans h.low (hF k hk)) h.nice hl hi).mono fun e w' hg => h.gave S hF h.nice hg
theorem tlookedAt (S : TabSaid E Is) (hl : L.length ≤ 1048576) (h : TAt E Is n w0 v L P x w) :
    Calls Try.prog 15 #[v] w fun e w' => e = .returned (.int .i64 x) ∧ TAt E Is n w0 v L P x w' := by
  obtain ⟨F, hi, hF⟩ := h.is
  exact (S.looked n F v L P x w h.e h.n_le (fun k hk => Nat.le_trans h.low (hF k hk)) h.nice hl hi).mono fun e w' hg => h.gave S hF h.nice hg
theorem tnewAt (S : TabSaid E Is) (hE : E n w) (hn : n ≤ w0.heap.size) (h0 : Below w0.heap.size w0 w) :
    Calls Try.prog 9 #[] w fun e w' => ∃ a x, e = .returned (.pointer (some a)) ∧ TAt E Is n w0 (.pointer (some a)) [] (List.replicate 8 0) x w' := by
  have hn2 : n ≤ w.heap.size := Nat.le_trans hn h0.size
  refine (S.new n w hE hn2).mono ?_
  rintro e w' ⟨v, F, x, rfl, hi, hF, hb⟩
  obtain ⟨a, rfl⟩ := S.isPtr F w' v _ _ _ hi
  exact ⟨a, x, rfl, S.stay n w w' hE (hb.mono hn2), hn, nice_new, ⟨F, hi, fun k hk => by have := hF k hk; have := h0.size; omega⟩, h0.trans (hb.mono h0.size)⟩
end
end Go.Proofs.Ytkleaedfpgaohaa
