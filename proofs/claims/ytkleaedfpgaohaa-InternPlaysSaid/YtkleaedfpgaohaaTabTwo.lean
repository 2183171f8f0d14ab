/-
  A TABLE OF THE LANDED PACKAGE AND ONE OF THE REFERENCE, SIDE BY SIDE.
-/
import Derived.Test.YtkleaedfpgaohaaTabTold
import Derived.Test.YtkleaedfpgaohaaRefGrow
namespace Go.Proofs.Ytkleaedfpgaohaa
open Go.RowKit

/-- the table v holds L, P; the reference's, in block p, L', P' -/
structure Play (E : Nat → World → Prop) (Is : (Nat → Prop) → World → Value → List ByteArray → List Nat → Int → Prop) (n : Nat) (w0 : World) (v : Value) (L : List ByteArray) (P : List Nat) (x : Int)
    (p q : Nat) (a : Option Addr) (c : Nat) (L' : List ByteArray) (P' : List Nat) (y : Int) (w : World) : Prop where
  e : E n w
  low : n ≤ w0.heap.size
  nice : Nice L P
  nice' : Nice L' P'
  is : ∃ F, Is F w v L P x ∧ (∀ k, F k → w0.heap.size ≤ k) ∧ ∀ k, F k → ¬ RefF p q a k
  ref : TabAt 0 p q a c L' P' y w
  old : ∀ k, RefF p q a k → w0.heap.size ≤ k
  since : Below w0.heap.size w0 w
section
variable {E : Nat → World → Prop} {Is : (Nat → Prop) → World → Value → List ByteArray → List Nat → Int → Prop} {n : Nat} {w0 w : World} {v : Value} {L L' : List ByteArray} {P P' : List Nat} {x y : Int} {p q : Nat} {a : Option Addr} {c : Nat}
theorem TabAt.lt {B : Nat} (h : TabAt B p q a c L P x w) : ∀ k, RefF p q a k → k < w.heap.size := by
  intro k hk
  rcases hk with rfl | rfl | ⟨g, rfl, rfl⟩
  · exact h.row.lt
  · exact h.places.lt
  · exact (h.own.lt g.block rfl).2
theorem TabAt.stay {B : Nat} {w' : World} (h : TabAt B p q a c L P x w) (hk : ∀ k, RefF p q a k → w'.heap[k]? = w.heap[k]?) : TabAt B p q a c L P x w' :=
  h.keep (hk _ (Or.inl rfl)) (hk _ (Or.inr (Or.inl rfl))) fun g hg => hk _ (Or.inr (Or.inr ⟨g, hg, rfl⟩))
theorem Play.n_le (h : Play E Is n w0 v L P x p q a c L' P' y w) : n ≤ w.heap.size := Nat.le_trans h.low h.since.size
theorem Play.other (S : TabSaid E Is) (h : Play E Is n w0 v L P x p q a c L' P' y w) {w' : World} (hb : Below w.heap.size w w') : Play E Is n w0 v L P x p q a c L' P' y w' := by
  obtain ⟨F, hi, hF, hN⟩ := h.is
  exact ⟨S.stay n w w' h.e (hb.mono h.n_le), h.low, h.nice, h.nice', ⟨F, S.keep F w w' v L P x hi hb.size fun k hk => hb.block k (S.inn F w v L P x hi k hk), hF, hN⟩, h.ref.stay (fun k hk => hb.block k (h.ref.lt k hk)), h.old, h.since.trans (hb.mono h.since.size)⟩
/-- a call of the landed table -/
theorem Play.gave (S : TabSaid E Is) (h : Play E Is n w0 v L P x p q a c L' P' y w) {F : Nat → Prop} (hi : Is F w v L P x) (hF : ∀ k, F k → w0.heap.size ≤ k) (hN : ∀ k, F k → ¬ RefF p q a k) {L2 : List ByteArray} {P2 : List Nat} {x2 : Int} {r : Value} {e : Ending} {w' : World} (hN2 : Nice L2 P2) (hg : Gave9 Is F v L2 P2 x2 r w e w') :
    e = .returned r ∧ Play E Is n w0 v L2 P2 x2 p q a c L' P' y w' := by
  obtain ⟨rfl, F', hi2, hs, ht⟩ := hg
  have hb : Below w0.heap.size w w' := ht.below h.since.size hF
  have _ := hi
  refine ⟨rfl, S.stay n w w' h.e (hb.mono h.low), h.low, hN2, h.nice', ⟨F', hi2, fun k hk => ?_, fun k hk hr => ?_⟩, h.ref.stay (fun k hk => ht.block k (h.ref.lt k hk) fun hf => hN k hf hk), h.old, h.since.trans hb⟩
  · rcases hs k hk with h1 | h1
    · exact hF k h1
    · have := h.since.size; omega
  · rcases hs k hk with h1 | h1
    · exact hN k h1 hr
    · have := h.ref.lt k hr; omega
/-- a call of the reference's -/
theorem Play.mgave (S : TabSaid E Is) (h : Play E Is n w0 v L P x p q a c L' P' y w) {L2 : List ByteArray} {P2 : List Nat} {y2 : Int} {r : Value} {e : Ending} {w' : World} (hN2 : Nice L2 P2) (hg : Gave9 RefIs (RefF p q a) (.pointer (some ⟨p, 0, none⟩)) L2 P2 y2 r w e w') :
    e = .returned r ∧ ∃ q2 a2 c2, Play E Is n w0 v L P x p q2 a2 c2 L2 P2 y2 w' := by
  obtain ⟨rfl, F', ⟨p2, q2, a2, c2, hp, hF2, hT⟩, hs, ht⟩ := hg
  obtain rfl : p = p2 := by injection hp with hp; injection hp with hp; injection hp
  obtain ⟨F, hi, hF, hN⟩ := h.is
  have hb : Below w0.heap.size w w' := ht.below h.since.size h.old
  refine ⟨rfl, q2, a2, c2, S.stay n w w' h.e (hb.mono h.low), h.low, h.nice, hN2, ⟨F, S.keep F w w' v L P x hi ht.size fun k hk => ht.block k (S.inn F w v L P x hi k hk) (hN k hk), hF, fun k hk hr => ?_⟩, hT, fun k hk => ?_, h.since.trans hb⟩
  · rcases hs k ((hF2 k).2 hr) with h1 | h1
    · exact hN k hk h1
    · have := S.inn F w v L P x hi k hk; omega
  · rcases hs k ((hF2 k).2 hk) with h1 | h1
    · exact h.old k h1
    · have := h.since.size; omega
theorem Play.refIs (h : Play E Is n w0 v L P x p q a c L' P' y w) : RefIs (RefF p q a) w (.pointer (some ⟨p, 0, none⟩)) L' P' y := ⟨p, q, a, c, rfl, fun _ => Iff.rfl, h.ref⟩
theorem pputAt (S : TabSaid E Is) (s : ByteArray) (hl : L.length < 1048576) (hs : s.size ≤ 1048576) (h : Play E Is n w0 v L P x p q a c L' P' y w) :
    Calls Try.prog 13 #[v, .string s] w fun e w' => e = .returned (.int .i64 (putN L P s)) ∧ Play E Is n w0 v (putL L P s) (putP L P s) ((lookT P L s).2 : Nat) p q a c L' P' y w' := by
  obtain ⟨F, hi, hF, hN⟩ := h.is
  exact (S.put n F v L P x s w h.e h.n_le (fun k hk => Nat.le_trans h.low (hF k hk)) h.nice hl hs hi).mono fun e w' hg => h.gave S hi hF hN (h.nice.put s hs) hg
theorem mputAt (S : TabSaid E Is) (s : ByteArray) (hl : P'.length ≤ 524288) (hs : s.size ≤ 1048576) (h : Play E Is n w0 v L P x p q a c L' P' y w) :
    Calls Try.prog 14 #[.pointer (some ⟨p, 0, none⟩), .string s] w fun e w' => e = .returned (.int .i64 (putN L' P' s)) ∧ ∃ q2 a2 c2, Play E Is n w0 v L P x p q2 a2 c2 (putL L' P' s) (putP L' P' s) ((lookT P' L' s).2 : Nat) w' :=
  (refPut_any _ _ L' P' y s w h.refIs h.nice' hl hs).mono fun _ _ hg => h.mgave S (h.nice'.put s hs) hg
theorem pfindAt' (S : TabSaid E Is) (s : ByteArray) (hl : L.length ≤ 1048576) (hs : s.size ≤ 1048576) (h : Play E Is n w0 v L P x p q a c L' P' y w) :
    Calls Try.prog 11 #[v, .string s] w fun e w' => e = .returned (.tuple #[.int .i64 (slotT P L s - 1 : Nat), .bool (decide (slotT P L s ≠ 0))]) ∧ Play E Is n w0 v L P ((lookT P L s).2 : Nat) p q a c L' P' y w' := by
  obtain ⟨F, hi, hF, hN⟩ := h.is
  exact (S.find n F v L P x s w h.e h.n_le (fun k hk => Nat.le_trans h.low (hF k hk)) h.nice hl hs hi).mono fun e w' hg => h.gave S hi hF hN h.nice hg
theorem mfindAt (S : TabSaid E Is) (s : ByteArray) (hl : P'.length ≤ 524288) (hs : s.size ≤ 1048576) (h : Play E Is n w0 v L P x p q a c L' P' y w) :
    Calls Try.prog 12 #[.pointer (some ⟨p, 0, none⟩), .string s] w fun e w' => e = .returned (.tuple #[.int .i64 (slotT P' L' s - 1 : Nat), .bool (decide (slotT P' L' s ≠ 0))]) ∧ ∃ q2 a2 c2, Play E Is n w0 v L P x p q2 a2 c2 L' P' ((lookT P' L' s).2 : Nat) w' :=
  (refFind_any _ _ L' P' y s w h.refIs h.nice'.good (by omega) hs).mono fun _ _ hg => h.mgave S h.nice' hg
theorem pgetAt' (S : TabSaid E Is) (k : Int) (hk : Fits64 k) (hl : L.length ≤ 1048576) (h : Play E Is n w0 v L P x p q a c L' P' y w) :
    Calls Try.prog 18 #[v, .int .i64 k] w fun e w' => e = .returned (.tuple #[.string (textG L k), .int .i64 (textE L k)]) ∧ Play E Is n w0 v L P x p q a c L' P' y w' := by
  obtain ⟨F, hi, hF, hN⟩ := h.is
  exact (S.get n F v L P x k w h.e h.n_le (fun k hk => Nat.le_trans h.low (hF k hk)) h.nice hl hk hi).mono fun e w' hg => h.gave S hi hF hN h.nice hg
theorem plenAt' (S : TabSaid E Is) (hl : L.length ≤ 1048576) (h : Play E Is n w0 v L P x p q a c L' P' y w) :
    Calls Try.prog 16 #[v] w fun e w' => e = .returned (.int .i64 L.length) ∧ Play E Is n w0 v L P x p q a c L' P' y w' := by
  obtain ⟨F, hi, hF, hN⟩ := h.is
  exact (S.len n F v L P x w h.e h.n_le (fun k hk => Nat.le_trans h.low (hF k hk)) h.nice hl hi).mono fun e w' hg => h.gave S hi hF hN h.nice hg
theorem plookedAt (S : TabSaid E Is) (hl : L.length ≤ 1048576) (h : Play E Is n w0 v L P x p q a c L' P' y w) :
    Calls Try.prog 15 #[v] w fun e w' => e = .returned (.int .i64 x) ∧ Play E Is n w0 v L P x p q a c L' P' y w' := by
  obtain ⟨F, hi, hF, hN⟩ := h.is
  exact (S.looked n F v L P x w h.e h.n_le (fun k hk => Nat.le_trans h.low (hF k hk)) h.nice hl hi).mono fun e w' hg => h.gave S hi hF hN h.nice hg
theorem phashAt (S : TabSaid E Is) (s : ByteArray) (hs : s.size ≤ 1048576) (h : Play E Is n w0 v L P x p q a c L' P' y w) :
    Calls Try.prog 8 #[.string s] w fun e w' => e = .returned (.int .u64 (hashN s)) ∧ Play E Is n w0 v L P x p q a c L' P' y w' :=
  (S.hash n s w h.e h.n_le hs).mono fun _ _ hg => ⟨hg.1, h.other S hg.2⟩
theorem mhashAt (s : ByteArray) (hs : s.size ≤ 1048576) (h : Play E Is n w0 v L P x p q a c L' P' y w) :
    Calls Try.prog 17 #[.string s] w fun e w' => e = .returned (.int .u64 (hashN s)) ∧ Play E Is n w0 v L P x p q a c L' P' y w' :=
  (refHash_any s w (by omega)).mono fun _ _ hg => ⟨hg.1, hg.2 ▸ h⟩
theorem mnewAt (S : TabSaid E Is) (h : TAt E Is n w0 v L P x w) :
    Calls Try.prog 10 #[] w fun e w' => ∃ p q a c, e = .returned (.pointer (some ⟨p, 0, none⟩)) ∧ Play E Is n w0 v L P x p q a c [] (List.replicate 8 0) 0 w' := by
  refine (refNew_any w).mono ?_
  rintro e w' ⟨rv, F, rfl, ⟨p, q, a, c, rfl, hF, hT⟩, hG, hb⟩
  obtain ⟨F0, hi, hF0⟩ := h.is
  have hsz := h.since.size
  refine ⟨p, q, a, c, rfl, S.stay n w w' h.e (hb.mono h.n_le), h.low, h.nice, nice_new, ⟨F0, S.keep F0 w w' v L P x hi hb.size fun k hk => hb.block k (S.inn F0 w v L P x hi k hk), hF0, fun k hk hr => ?_⟩, hT, fun k hk => ?_, h.since.trans (hb.mono hsz)⟩
  · have := S.inn F0 w v L P x hi k hk
    have := (hG k ((hF k).2 hr)).1
    omega
  · have := (hG k ((hF k).2 hk)).1
    omega
end
end Go.Proofs.Ytkleaedfpgaohaa
