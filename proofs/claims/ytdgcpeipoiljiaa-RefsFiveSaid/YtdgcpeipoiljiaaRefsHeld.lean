/-
  LAYER 12: a Refs among things that were made behind it (RHeld): from a world on, nothing turns but in its blocks and in new ones.
-/
import Derived.Test.YtdgcpeipoiljiaaRefsSaid
namespace Go.Proofs.Ytdgcpeipoiljiaa
open Go.RowKit

structure RHeld (Is : (Nat → Prop) → World → Value → RefD → Prop) (wb : World) (F0 : Nat → Prop) (v : Value) (r : RefD) (w : World) : Prop where
  is : ∃ F, Is F w v r ∧ ∀ k, F k → F0 k ∨ wb.heap.size ≤ k
  turn : Turns F0 wb w
section
variable {Is : (Nat → Prop) → World → Value → RefD → Prop} {wb w0 w : World} {F0 : Nat → Prop} {v : Value} {r : RefD}
theorem RHeld.other (S : RefsSaid Is) (h : RHeld Is wb F0 v r w) {w' : World} (hb : Below w.heap.size w w') : RHeld Is wb F0 v r w' := by
  obtain ⟨F, hi, hF⟩ := h.is
  exact ⟨⟨F, S.keep F w w' v r hi hb.size fun k hk => hb.block k (S.inn F w v r hi k hk), hF⟩, h.turn.other hb⟩
theorem RHeld.gave (h : RHeld Is wb F0 v r w) {F : Nat → Prop} (hF : ∀ k, F k → F0 k ∨ wb.heap.size ≤ k) {r' : RefD} {a : Value} {e : Ending} {w' : World} (hg : GaveR Is F v r' a w e w') :
    e = .returned a ∧ RHeld Is wb F0 v r' w' := by
  obtain ⟨rfl, F', hi, hs, ht⟩ := hg
  refine ⟨rfl, ⟨F', hi, fun k hk => ?_⟩, h.turn.next ht hF⟩
  rcases hs k hk with h1 | h1
  · exact hF k h1
  · have := h.turn.size; exact Or.inr (by omega)
/-- behind what has been made, from there on -/
theorem RAt.held (S : RefsSaid Is) {w1 : World} (h : RAt Is w0 v r w1) (hb : Below w1.heap.size w1 wb) : ∃ F0, (∀ k, F0 k → w0.heap.size ≤ k ∧ k < w1.heap.size) ∧ RHeld Is wb F0 v r wb := by
  obtain ⟨F, hi, hF⟩ := h.is
  exact ⟨F, fun k hk => ⟨hF k hk, S.inn F w1 v r hi k hk⟩, ⟨F, S.keep F w1 wb v r hi hb.size fun k hk => hb.block k (S.inn F w1 v r hi k hk), fun k hk => Or.inl hk⟩, Turns.refl _ _⟩
theorem RHeld.since (h : RHeld Is wb F0 v r w) {B : Nat} (hB : B ≤ wb.heap.size) (hF : ∀ k, F0 k → B ≤ k) : Below B wb w := h.turn.below hB hF
theorem rgetH (S : RefsSaid Is) (x : List UInt8) (s : List UInt8) (y : ByteArray) (hy : bytes s = y) (b : Bool) (c : Int) (hr : getR r x = (s, b, c)) (hx : x.length ≤ 1000000) (h : RHeld Is wb F0 v r w) :
    Calls Try.prog 13 #[v, .string (bytes x)] w fun e w' => e = .returned (.tuple #[.string y, .bool b, .int .i64 c]) ∧ RHeld Is wb F0 v r w' := by
  subst hy
  obtain ⟨F, hi, hF⟩ := h.is
  have C := S.get F v r x w hx hi
  rw [hr] at C
  exact C.mono fun e w' hg => ⟨hg.1, h.other S hg.2⟩
theorem ropenH (S : RefsSaid Is) (x : List UInt8) (most : Int) (s : List UInt8) (y : ByteArray) (hy : bytes s = y) (c : Int) (r' : RefD) (hr : openT r x most = (s, c)) (hr' : openS r x most = r') (hx : x.length ≤ 1000000) (hm : FitsR most) (h : RHeld Is wb F0 v r w) :
    Calls Try.prog 7 #[v, .string (bytes x), .int .i64 most] w fun e w' => e = .returned (.tuple #[.string y, .int .i64 c]) ∧ RHeld Is wb F0 v r' w' := by
  subst hy
  obtain ⟨F, hi, hF⟩ := h.is
  have C := S.opn F v r x most w hx hm hi
  rw [hr, hr'] at C
  exact C.mono fun e w' hg => h.gave hF hg
theorem rspentH (S : RefsSaid Is) (h : RHeld Is wb F0 v r w) :
    Calls Try.prog 8 #[v] w fun e w' => e = .returned (.int .i64 r.n) ∧ RHeld Is wb F0 v r w' := by
  obtain ⟨F, hi, hF⟩ := h.is
  exact (S.spent F v r w hi).mono fun e w' hg => ⟨hg.1, h.other S hg.2⟩
theorem rdepthH (S : RefsSaid Is) (h : RHeld Is wb F0 v r w) :
    Calls Try.prog 9 #[v] w fun e w' => e = .returned (.int .i64 r.opened.length) ∧ RHeld Is wb F0 v r w' := by
  obtain ⟨F, hi, hF⟩ := h.is
  exact (S.depth F v r w hi).mono fun e w' hg => ⟨hg.1, h.other S hg.2⟩
end
end Go.Proofs.Ytdgcpeipoiljiaa
