/-
  LAYER 2, PART BY PART: what the laws of layer 2 ask of package text (TextSaid: to be proved of the program that lands), and told of layer 2 out of it.
-/
import Derived.Test.YteejkkdimkgmfaaDoorOwnBytes
import Derived.Test.YteejkkdimkgmfaaDoorTextLaw2
import Derived.Lib.SlBytesConst
namespace Go.Proofs.YteejkkdimkgmfaaDoor
open Go.RowKit

/-- THE VALUE v IS A SLICE THAT HOLDS THE BYTES bs, in a block below B (of no bytes: any slice). -/
def BytesAt (B : Nat) (w : World) (v : Value) (bs : List UInt8) : Prop :=
  ∃ a cap, v = .slice a bs.length cap ∧ bs.length ≤ cap ∧ (bs = [] ∨ ∃ b off, a = some ⟨b, off, none⟩ ∧ b < B ∧ ∀ i, i < bs.length → w.cell? ⟨b, off + i, none⟩ = some (bval (bs.getD i 0)))
theorem BytesAt.below {B : Nat} {w w' : World} {v : Value} {bs : List UInt8} (h : BytesAt B w v bs) (hb : Below B w w') : BytesAt B w' v bs := by
  obtain ⟨a, cap, h1, hcap, h2⟩ := h
  refine ⟨a, cap, h1, hcap, ?_⟩
  rcases h2 with h2 | ⟨b, off, h3, h4, h5⟩
  · exact Or.inl h2
  · exact Or.inr ⟨b, off, h3, h4, fun i hi => by rw [hb.cell (p := ⟨b, off + i, none⟩) h4]; exact h5 i hi⟩
theorem BytesAt.mono {B B' : Nat} {w : World} {v : Value} {bs : List UInt8} (h : BytesAt B w v bs) (hB : B ≤ B') : BytesAt B' w v bs := by
  obtain ⟨a, cap, h1, hcap, h2⟩ := h
  refine ⟨a, cap, h1, hcap, ?_⟩
  rcases h2 with h2 | ⟨b, off, h3, h4, h5⟩
  · exact Or.inl h2
  · exact Or.inr ⟨b, off, h3, by omega, h5⟩
theorem bytesAt_alloc (w : World) (C : Array Value) (fr : Nat × Nat) (bs : List UInt8) (n cap : Nat) (hC : C.toList = bs.map bval) (hn : n = bs.length) (hcap : n ≤ cap) :
    BytesAt (w.heap.size + 1) (w.alloc (.cells C 5 fr)) (.slice (some ⟨w.heap.size, 0, none⟩) n cap) bs := by
  refine ⟨_, cap, by rw [hn], by omega, Or.inr ⟨w.heap.size, 0, rfl, by omega, fun i hi => ?_⟩⟩
  have e : (w.alloc (.cells C 5 fr)).heap[w.heap.size]? = some (.cells C 5 fr) := by
    show (w.heap.push (Obj.cells C 5 fr))[w.heap.size]? = _
    simp
  rw [Nat.zero_add]
  have e2 : C[i]? = some (bval (bs.getD i 0)) := by
    rw [← Array.getElem?_toList, hC, List.getElem?_map, List.getElem?_eq_getElem hi]
    simp [List.getD, List.getElem?_eq_getElem hi]
  unfold World.cell?
  simp only [e]
  exact e2

theorem step_below2 {w a b : World} (h : Below w.heap.size w a) (h' : Below a.heap.size a b) : Below w.heap.size w b := h.trans (h'.mono h.size)

/-- WHAT IS ASKED OF PACKAGE text, in worlds that meet E. -/
structure TextSaid (E : World → Prop) : Prop where
  below : ∀ w w', E w → Below w.heap.size w w' → E w'
  valid : ∀ B v bs w, E w → bs.length ≤ 100000 → BytesAt B w v bs → Calls Tryd.prog 10 #[v] w fun e w' => e = .returned (.bool (validT ⟨bs.toArray⟩)) ∧ Below w.heap.size w w'
  read : ∀ B v bs w, E w → bs.length ≤ 100000 → BytesAt B w v bs → Calls Tryd.prog 11 #[v] w fun e w' => e = .returned (.tuple #[.string (readT ⟨bs.toArray⟩).1, .int .i64 (if (readT ⟨bs.toArray⟩).2 = true then 0 else 2)]) ∧ Below w.heap.size w w'
  ends : ∀ s w, E w → s.size ≤ 100000 → Calls Tryd.prog 14 #[.string s] w fun e w' => e = .returned (.string (endsT s)) ∧ Below w.heap.size w w'
  lines : ∀ s w, E w → s.size ≤ 100000 → Calls Tryd.prog 16 #[.string s] w fun e w' => e = .returned (.int .i64 (linesT s)) ∧ Below w.heap.size w w'

theorem TextSaid.validIs {E : World → Prop} (T : TextSaid E) (B : Nat) (v : Value) (bs : List UInt8) (x : Bool) (hx : validT ⟨bs.toArray⟩ = x) (w : World) (hE : E w) (hl : bs.length ≤ 100000) (hb : BytesAt B w v bs) :
    Calls Tryd.prog 10 #[v] w fun e w' => e = .returned (.bool x) ∧ Below w.heap.size w w' := by
  subst hx; exact T.valid B v bs w hE hl hb
theorem TextSaid.readIs {E : World → Prop} (T : TextSaid E) (B : Nat) (v : Value) (bs : List UInt8) (s : ByteArray) (c : Int) (x : Bool) (hx : readT ⟨bs.toArray⟩ = (s, x)) (hc : (if x = true then (0 : Int) else 2) = c) (w : World) (hE : E w) (hl : bs.length ≤ 100000) (hb : BytesAt B w v bs) :
    Calls Tryd.prog 11 #[v] w fun e w' => e = .returned (.tuple #[.string s, .int .i64 c]) ∧ Below w.heap.size w w' := by
  have := T.read B v bs w hE hl hb
  rw [hx] at this
  subst hc
  exact this
theorem TextSaid.endsIs {E : World → Prop} (T : TextSaid E) (s t : ByteArray) (hx : endsT s = t) (w : World) (hE : E w) (hl : s.size ≤ 100000) :
    Calls Tryd.prog 14 #[.string s] w fun e w' => e = .returned (.string t) ∧ Below w.heap.size w w' := by
  subst hx; exact T.ends s w hE hl
theorem TextSaid.linesIs {E : World → Prop} (T : TextSaid E) (s : ByteArray) (n : Nat) (hx : linesT s = n) (w : World) (hE : E w) (hl : s.size ≤ 100000) :
    Calls Tryd.prog 16 #[.string s] w fun e w' => e = .returned (.int .i64 n) ∧ Below w.heap.size w w' := by
  subst hx; exact T.lines s w hE hl

theorem told2a : readT ⟨[239, 187, 191, 97, 13, 10, 98, 13, 99].toArray⟩ = (⟨#[97, 10, 98, 10, 99]⟩, true) := by kernel_rfl
theorem told2b : readT ⟨[192, 128].toArray⟩ = (⟨#[]⟩, false) := by kernel_rfl
theorem told2c : readT ⟨[0].toArray⟩ = (⟨#[]⟩, false) := by kernel_rfl
theorem told2d : endsT ⟨#[13, 10, 13]⟩ = ⟨#[10, 10]⟩ := by kernel_rfl
theorem told2e : linesT ⟨#[97, 10, 98, 10]⟩ = 2 := by kernel_rfl
theorem told2f : validT ⟨[226, 130, 172].toArray⟩ = true := by kernel_rfl
theorem told2g : validT ⟨[237, 160, 128].toArray⟩ = false := by kernel_rfl

set_option maxHeartbeats 4000000 in
set_option maxRecDepth 100000 in
theorem told2_any {E : World → Prop} (T : TextSaid E) (w : World) (hE : E w) :
    Calls Tryd.prog 9 #[] w fun e w' => e = .returned (.bool true) ∧ Below w.heap.size w w' := by
  have HE := Lib.hid hE
  clear hE
  have kc := fun (w : World) (C : Array Value) (n c : Nat) => Lib.run_convert_bytes_const (P := Tryd.prog) w 22 5 C n c Tryd.underlying22 Tryd.underlying5
  go_enter Tryd.func9, Tryd.ntmps9
  go_wp2_with fail
  refine (T.readIs _ _ [239, 187, 191, 97, 13, 10, 98, 13, 99] _ 0 true told2a rfl _ (T.below _ _ HE.out ?hb1) (by decide) (bytesAt_alloc _ _ _ _ _ _ rfl rfl (by decide))).mono ?_
  case hb1 => exact (Below.refl _ _).alloc (Nat.le_refl _) _
  rintro e w1 ⟨rfl, hb'⟩
  have hb := step_below2 ((Below.refl _ w).alloc (Nat.le_refl _) _) hb'
  clear hb'
  go_wp2_with fail
  refine (T.readIs _ _ [192, 128] _ 2 false told2b rfl _ (T.below _ _ HE.out ?hb2) (by decide) (bytesAt_alloc _ _ _ _ _ _ rfl rfl (by decide))).mono ?_
  case hb2 => exact hb.alloc hb.size _
  rintro e w2 ⟨rfl, hb'⟩
  replace hb := step_below2 (hb.alloc hb.size _) hb'
  clear hb'
  go_wp2_with fail
  refine (T.readIs _ _ [0] _ 2 false told2c rfl _ (T.below _ _ HE.out ?hb3) (by decide) (bytesAt_alloc _ _ _ _ _ _ rfl rfl (by decide))).mono ?_
  case hb3 => exact hb.alloc hb.size _
  rintro e w3 ⟨rfl, hb'⟩
  replace hb := step_below2 (hb.alloc hb.size _) hb'
  clear hb'
  go_wp2_with fail
  refine (T.endsIs _ _ told2d _ (T.below _ _ HE.out hb) (by decide)).mono ?_
  rintro e w4 ⟨rfl, hb'⟩
  replace hb := step_below2 hb hb'
  clear hb'
  go_wp2_with fail
  refine (T.linesIs _ _ told2e _ (T.below _ _ HE.out hb) (by decide)).mono ?_
  rintro e w5 ⟨rfl, hb'⟩
  replace hb := step_below2 hb hb'
  clear hb'
  go_wp2_with fail
  refine (T.validIs _ _ [226, 130, 172] true told2f _ (T.below _ _ HE.out ?hb6) (by decide) (bytesAt_alloc _ _ _ _ _ _ rfl rfl (by decide))).mono ?_
  case hb6 => exact hb.alloc hb.size _
  rintro e w6 ⟨rfl, hb'⟩
  replace hb := step_below2 (hb.alloc hb.size _) hb'
  clear hb'
  go_wp2_with fail
  refine (T.validIs _ _ [237, 160, 128] false told2g _ (T.below _ _ HE.out ?hb7) (by decide) (bytesAt_alloc _ _ _ _ _ _ rfl rfl (by decide))).mono ?_
  case hb7 => exact hb.alloc hb.size _
  rintro e w7 ⟨rfl, hb'⟩
  replace hb := step_below2 (hb.alloc hb.size _) hb'
  clear hb'
  go_wp2
  go_ret
  exact ⟨rfl, hb⟩
end Go.Proofs.YteejkkdimkgmfaaDoor
