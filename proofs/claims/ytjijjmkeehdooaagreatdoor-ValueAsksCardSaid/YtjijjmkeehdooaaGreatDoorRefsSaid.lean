/-
  LAYER 12, PART BY PART: what the laws of layer 12 ask of package refs (RefsSaid: to be proved of the program that lands).
-/
import Derived.Test.YtjijjmkeehdooaaGreatDoorRefsDefs
import Derived.Test.YtjijjmkeehdooaaGreatDoorEntsAt
import Derived.Test.YtjijjmkeehdooaaGreatDoorTurns
namespace Go.Proofs.YtjijjmkeehdooaaGreatDoor
open Go.RowKit

/-- the answer a; the thing is r then, in its blocks and in new ones; all else is as it was -/
def GaveR (Is : (Nat → Prop) → World → Value → RefD → Prop) (F : Nat → Prop) (v : Value) (r : RefD) (a : Value) (w : World) (e : Ending) (w' : World) : Prop :=
  e = .returned a ∧ ∃ F', Is F' w' v r ∧ (∀ k, F' k → F k ∨ (w.heap.size ≤ k ∧ k < w'.heap.size)) ∧ Turns F w w'
/-- numbers that fit -/
def FitsR (k : Int) : Prop := -9223372036854775808 ≤ k ∧ k ≤ 9223372036854775807
/-- few entities, of few bytes each -/
def FewR (l : List EntD) : Prop := l.length ≤ 1000000 ∧ ∀ e ∈ l, e.name.length ≤ 1000000 ∧ e.value.length ≤ 1000000
/-- WHAT IS ASKED OF PACKAGE refs. Is F w v r: v is a Refs that stands as r says; it lies in the blocks of F. -/
structure RefsSaid (Is : (Nat → Prop) → World → Value → RefD → Prop) : Prop where
  keep : ∀ F w w' v r, Is F w v r → w.heap.size ≤ w'.heap.size → (∀ k, F k → w'.heap[k]? = w.heap[k]?) → Is F w' v r
  inn : ∀ F w v r, Is F w v r → ∀ k, F k → k < w.heap.size
  isPtr : ∀ F w v r, Is F w v r → ∃ a, v = .pointer (some a)
  ok : ∀ F w v r, Is F w v r → OkR r
  new : ∀ l nm s t w, FewR l → EntsAt w.heap.size w s l → Calls Tryz.prog 9 #[.agg #[.string nm, s, t]] w fun e w' => ∃ v F, e = .returned v ∧ Is F w' v (ref0 l) ∧ (∀ k, F k → w.heap.size ≤ k ∧ k < w'.heap.size) ∧ Below w.heap.size w w'
  get : ∀ F v r x w, x.length ≤ 1000000 → Is F w v r → Calls Tryz.prog 68 #[v, .string (bytes x)] w fun e w' => e = .returned (.tuple #[.string (bytes (getR r x).1), .bool (getR r x).2.1, .int .i64 (getR r x).2.2]) ∧ Below w.heap.size w w'
  opn : ∀ F v r x most w, x.length ≤ 1000000 → FitsR most → Is F w v r → Calls Tryz.prog 78 #[v, .string (bytes x), .int .i64 most] w (GaveR Is F v (openS r x most) (.tuple #[.string (bytes (openT r x most).1), .int .i64 (openT r x most).2]) w)
  cls : ∀ F v r x w, x.length ≤ 1000000 → Is F w v r → Calls Tryz.prog 70 #[v, .string (bytes x)] w (GaveR Is F v (closeS r x) (.bool (closeB r x)) w)
  spend : ∀ F v r k most w, FitsR k → FitsR most → Is F w v r → Calls Tryz.prog 94 #[v, .int .i64 k, .int .i64 most] w (GaveR Is F v (spendS r k most) (.int .i64 (spendC r k most)) w)
  spent : ∀ F v r w, Is F w v r → Calls Tryz.prog 14 #[v] w fun e w' => e = .returned (.int .i64 r.n) ∧ Below w.heap.size w w'
  depth : ∀ F v r w, Is F w v r → Calls Tryz.prog 15 #[v] w fun e w' => e = .returned (.int .i64 r.opened.length) ∧ Below w.heap.size w w'
  openNil : ∀ x most w, x.length ≤ 1000000 → FitsR most → Calls Tryz.prog 78 #[.pointer none, .string (bytes x), .int .i64 most] w fun e w' => e = .returned (.tuple #[.string ⟨#[]⟩, .int .i64 6]) ∧ Below w.heap.size w w'
  spentNil : ∀ w, Calls Tryz.prog 14 #[.pointer none] w fun e w' => e = .returned (.int .i64 0) ∧ Below w.heap.size w w'

/-- WHERE A LAW STANDS: the Refs v, in the world w, which is as w0 but for what has been made since. -/
structure RfAt (Is : (Nat → Prop) → World → Value → RefD → Prop) (w0 : World) (v : Value) (r : RefD) (w : World) : Prop where
  is : ∃ F, Is F w v r ∧ ∀ k, F k → w0.heap.size ≤ k
  since : Below w0.heap.size w0 w
section
variable {Is : (Nat → Prop) → World → Value → RefD → Prop} {w0 w : World} {v : Value} {r : RefD}
theorem RfAt.ok (S : RefsSaid Is) (h : RfAt Is w0 v r w) : OkR r := by
  obtain ⟨F, hi, _⟩ := h.is
  exact S.ok F w v r hi
theorem RfAt.other (S : RefsSaid Is) (h : RfAt Is w0 v r w) {w' : World} (hb : Below w.heap.size w w') : RfAt Is w0 v r w' := by
  obtain ⟨F, hi, hF⟩ := h.is
  exact ⟨⟨F, S.keep F w w' v r hi hb.size fun k hk => hb.block k (S.inn F w v r hi k hk), hF⟩, h.since.trans (hb.mono h.since.size)⟩
theorem RfAt.gave (h : RfAt Is w0 v r w) {F : Nat → Prop} (hF : ∀ k, F k → w0.heap.size ≤ k) {r' : RefD} {a : Value} {e : Ending} {w' : World} (hg : GaveR Is F v r' a w e w') :
    e = .returned a ∧ RfAt Is w0 v r' w' := by
  obtain ⟨rfl, F', hi, hs, ht⟩ := hg
  refine ⟨rfl, ⟨F', hi, fun k hk => ?_⟩, h.since.trans (ht.below h.since.size hF)⟩
  rcases hs k hk with h1 | h1
  · exact hF k h1
  · have := h.since.size; omega
theorem rgetAt (S : RefsSaid Is) (x : List UInt8) (s : List UInt8) (y : ByteArray) (hy : bytes s = y) (b : Bool) (c : Int) (hr : getR r x = (s, b, c)) (hx : x.length ≤ 1000000) (h : RfAt Is w0 v r w) :
    Calls Tryz.prog 68 #[v, .string (bytes x)] w fun e w' => e = .returned (.tuple #[.string y, .bool b, .int .i64 c]) ∧ RfAt Is w0 v r w' := by
  subst hy
  obtain ⟨F, hi, hF⟩ := h.is
  have C := S.get F v r x w hx hi
  rw [hr] at C
  exact C.mono fun e w' hg => ⟨hg.1, h.other S hg.2⟩
theorem ropenAt (S : RefsSaid Is) (x : List UInt8) (most : Int) (s : List UInt8) (y : ByteArray) (hy : bytes s = y) (c : Int) (r' : RefD) (hr : openT r x most = (s, c)) (hr' : openS r x most = r') (hx : x.length ≤ 1000000) (hm : FitsR most) (h : RfAt Is w0 v r w) :
    Calls Tryz.prog 78 #[v, .string (bytes x), .int .i64 most] w fun e w' => e = .returned (.tuple #[.string y, .int .i64 c]) ∧ RfAt Is w0 v r' w' := by
  subst hy
  obtain ⟨F, hi, hF⟩ := h.is
  have C := S.opn F v r x most w hx hm hi
  rw [hr, hr'] at C
  exact C.mono fun e w' hg => h.gave hF hg
theorem rcloseAt (S : RefsSaid Is) (x : List UInt8) (b : Bool) (r' : RefD) (hr : closeB r x = b) (hr' : closeS r x = r') (hx : x.length ≤ 1000000) (h : RfAt Is w0 v r w) :
    Calls Tryz.prog 70 #[v, .string (bytes x)] w fun e w' => e = .returned (.bool b) ∧ RfAt Is w0 v r' w' := by
  obtain ⟨F, hi, hF⟩ := h.is
  have C := S.cls F v r x w hx hi
  rw [hr, hr'] at C
  exact C.mono fun e w' hg => h.gave hF hg
theorem rspendAt (S : RefsSaid Is) (k most c : Int) (r' : RefD) (hr : spendC r k most = c) (hr' : spendS r k most = r') (hk : FitsR k) (hm : FitsR most) (h : RfAt Is w0 v r w) :
    Calls Tryz.prog 94 #[v, .int .i64 k, .int .i64 most] w fun e w' => e = .returned (.int .i64 c) ∧ RfAt Is w0 v r' w' := by
  obtain ⟨F, hi, hF⟩ := h.is
  have C := S.spend F v r k most w hk hm hi
  rw [hr, hr'] at C
  exact C.mono fun e w' hg => h.gave hF hg
theorem rspentAt (S : RefsSaid Is) (h : RfAt Is w0 v r w) :
    Calls Tryz.prog 14 #[v] w fun e w' => e = .returned (.int .i64 r.n) ∧ RfAt Is w0 v r w' := by
  obtain ⟨F, hi, hF⟩ := h.is
  exact (S.spent F v r w hi).mono fun e w' hg => ⟨hg.1, h.other S hg.2⟩
theorem rdepthAt (S : RefsSaid Is) (h : RfAt Is w0 v r w) :
    Calls Tryz.prog 15 #[v] w fun e w' => e = .returned (.int .i64 r.opened.length) ∧ RfAt Is w0 v r w' := by
  obtain ⟨F, hi, hF⟩ := h.is
  exact (S.depth F v r w hi).mono fun e w' hg => ⟨hg.1, h.other S hg.2⟩
theorem rnewAt (S : RefsSaid Is) (l : List EntD) (nm : ByteArray) (s t : Value) (hl : FewR l) (h : EntsAt w.heap.size w s l) :
    Calls Tryz.prog 9 #[.agg #[.string nm, s, t]] w fun e w' => ∃ a, e = .returned (.pointer (some a)) ∧ RfAt Is w (.pointer (some a)) (ref0 l) w' := by
  refine (S.new l nm s t w hl h).mono ?_
  rintro e w' ⟨v, F, rfl, hi, hF, hb⟩
  obtain ⟨a, rfl⟩ := S.isPtr F w' v _ hi
  exact ⟨a, rfl, ⟨F, hi, fun k hk => (hF k hk).1⟩, hb⟩
end
end Go.Proofs.YtjijjmkeehdooaaGreatDoor
