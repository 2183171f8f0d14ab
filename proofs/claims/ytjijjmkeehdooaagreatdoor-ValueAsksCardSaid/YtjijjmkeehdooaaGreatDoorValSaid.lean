/-
  LAYER 13, PART BY PART: what the laws of layer 13 ask of package value (ValSaid: to be proved of the program that lands).
-/
import Derived.Test.YtjijjmkeehdooaaGreatDoorValDefs
import Derived.Test.YtjijjmkeehdooaaGreatDoorRefsSaid
namespace Go.Proofs.YtjijjmkeehdooaaGreatDoor
open Go.RowKit

/-- texts that are short, and stay so -/
def ShortV (D : Nat) (r : RefD) (raw : List UInt8) (most : Int) : Prop := D ≤ 1000000 ∧ RoomD r D ∧ raw.length ≤ 100000 ∧ (∀ x t, r.look x = some (some t) → t.length ≤ 100000) ∧ (rawV D r raw most false).2.2.n ≤ 1000000
/-- WHAT IS ASKED OF PACKAGE value. E n w: the world bears, in blocks below n, what the code reads. Is: what a Refs is (RefsSaid). -/
structure ValSaid (E : Nat → World → Prop) (Is : (Nat → Prop) → World → Value → RefD → Prop) : Prop where
  stay : ∀ n w w', E n w → Below n w w' → E n w'
  read : ∀ n F v r raw kind most D w, E n w → n ≤ w.heap.size → (∀ k, F k → n ≤ k) → ShortV D r raw most → FitsR kind → FitsR most → Is F w v r →
    Calls Tryz.prog 10 #[v, .string (bytes raw), .int .i64 kind, .int .i64 most] w (GaveR Is F v (readV D r raw kind most).2.2 (.tuple #[.string (bytes (readV D r raw kind most).1), .int .i64 (readV D r raw kind most).2.1]) w)
  norm : ∀ n s w, E n w → n ≤ w.heap.size → s.length ≤ 1100000 → Calls Tryz.prog 16 #[.string (bytes s)] w fun e w' => e = .returned (.string (bytes (normL s))) ∧ Below w.heap.size w w'
  text : ∀ n s w, E n w → n ≤ w.heap.size → s.length ≤ 100000 → Calls Tryz.prog 18 #[.string (bytes s)] w fun e w' => e = .returned (.string (bytes (escL false s))) ∧ Below w.heap.size w w'
  attr : ∀ n s w, E n w → n ≤ w.heap.size → s.length ≤ 100000 → Calls Tryz.prog 20 #[.string (bytes s)] w fun e w' => e = .returned (.string (bytes (escL true s))) ∧ Below w.heap.size w w'

/-- WHERE A LAW STANDS, with no Refs. -/
structure VAt (E : Nat → World → Prop) (n : Nat) (w0 w : World) : Prop where
  e : E n w
  low : n ≤ w0.heap.size
  since : Below w0.heap.size w0 w
section
variable {E : Nat → World → Prop} {Is : (Nat → Prop) → World → Value → RefD → Prop} {n : Nat} {w0 wr w : World} {v : Value} {r : RefD}
theorem VAt.n_le (h : VAt E n w0 w) : n ≤ w.heap.size := Nat.le_trans h.low h.since.size
theorem VAt.other (S : ValSaid E Is) (h : VAt E n w0 w) {w' : World} (hb : Below w.heap.size w w') : VAt E n w0 w' :=
  ⟨S.stay n w w' h.e (hb.mono h.n_le), h.low, h.since.trans (hb.mono h.since.size)⟩
/-- and with one, made in a world wr behind w0 -/
theorem VAt.turned (S : ValSaid E Is) (h : VAt E n w0 w) {w' : World} {B : Nat} (hB : w0.heap.size ≤ B) (hb : Below B w w') : VAt E n w0 w' :=
  ⟨S.stay n w w' h.e (hb.mono (Nat.le_trans h.low hB)), h.low, h.since.trans (hb.mono hB)⟩
theorem vnormAt (S : ValSaid E Is) (s t : List UInt8) (y : ByteArray) (hy : bytes t = y) (hr : normL s = t) (hs : s.length ≤ 1100000) (h : VAt E n w0 w) :
    Calls Tryz.prog 16 #[.string (bytes s)] w fun e w' => e = .returned (.string y) ∧ VAt E n w0 w' ∧ Below w.heap.size w w' := by
  subst hy
  have C := S.norm n s w h.e h.n_le hs
  rw [hr] at C
  exact C.mono fun e w' hg => ⟨hg.1, h.other S hg.2, hg.2⟩
theorem vtextAt (S : ValSaid E Is) (s t : List UInt8) (y : ByteArray) (hy : bytes t = y) (hr : escL false s = t) (hs : s.length ≤ 100000) (h : VAt E n w0 w) :
    Calls Tryz.prog 18 #[.string (bytes s)] w fun e w' => e = .returned (.string y) ∧ VAt E n w0 w' ∧ Below w.heap.size w w' := by
  subst hy
  have C := S.text n s w h.e h.n_le hs
  rw [hr] at C
  exact C.mono fun e w' hg => ⟨hg.1, h.other S hg.2, hg.2⟩
theorem vattrAt (S : ValSaid E Is) (s t : List UInt8) (y : ByteArray) (hy : bytes t = y) (hr : escL true s = t) (hs : s.length ≤ 100000) (h : VAt E n w0 w) :
    Calls Tryz.prog 20 #[.string (bytes s)] w fun e w' => e = .returned (.string y) ∧ VAt E n w0 w' ∧ Below w.heap.size w w' := by
  subst hy
  have C := S.attr n s w h.e h.n_le hs
  rw [hr] at C
  exact C.mono fun e w' hg => ⟨hg.1, h.other S hg.2, hg.2⟩
/-- a value is read: of what was made behind wr nothing turns but the Refs; all that lies ahead of wr stays -/
theorem vreadAt (S : ValSaid E Is) (D : Nat) (raw : List UInt8) (kind most : Int) (s : List UInt8) (y : ByteArray) (hy : bytes s = y) (c : Int) (r' : RefD) (hr : readV D r raw kind most = (s, c, r')) (hs : ShortV D r raw most) (hk : FitsR kind) (hm : FitsR most)
    (h : VAt E n w0 w) (hR : RfAt Is wr v r w) (h0 : w0.heap.size ≤ wr.heap.size) :
    Calls Tryz.prog 10 #[v, .string (bytes raw), .int .i64 kind, .int .i64 most] w fun e w' => e = .returned (.tuple #[.string y, .int .i64 c]) ∧ VAt E n w0 w' ∧ RfAt Is wr v r' w' ∧ Below wr.heap.size w w' := by
  subst hy
  obtain ⟨F, hi, hF⟩ := hR.is
  have C := S.read n F v r raw kind most D w h.e h.n_le (fun k hk => Nat.le_trans h.low (Nat.le_trans h0 (hF k hk))) hs hk hm hi
  rw [hr] at C
  refine C.mono fun e w' hg => ?_
  have hb : Below wr.heap.size w w' := by
    obtain ⟨_, F', _, _, ht⟩ := hg
    exact ht.below hR.since.size hF
  have hg2 := hR.gave hF hg
  exact ⟨hg2.1, h.turned S h0 hb, hg2.2, hb⟩
end
end Go.Proofs.YtjijjmkeehdooaaGreatDoor
