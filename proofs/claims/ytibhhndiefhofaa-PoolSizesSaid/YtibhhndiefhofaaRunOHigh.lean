/-
  THE CONTRACTS OF highs.at, highs.size OF THE LANDED PACKAGE offs, where there is one piece.
-/
import Derived.Test.YtibhhndiefhofaaRunOLow
import Derived.Test.YtibhhndiefhofaaRunBitC
import Derived.Test.YtibhhndiefhofaaRunSize
import Derived.RangeFuncBox
namespace Go.Proofs.Ytibhhndiefhofaa
open Go.RowKit

/-- ONE PIECE OF THE BITS bs, in blocks from B on. -/
def HighAt (B : Nat) (w : World) (v : Value) (bs : List Bool) : Prop :=
  ∃ (g cap : Nat) (a : Addr) (C : Array Value) (t : TypeId) (fr : Nat × Nat), v = .slice (some ⟨g, 0, none⟩) 1 cap ∧ B ≤ g ∧ w.heap[g]? = some (.cells C t fr) ∧ w.cell? ⟨g, 0, none⟩ = some (.pointer (some a)) ∧ Kept B w (.pointer (some a)) bs
theorem cell_same {w w' : World} {g : Nat} (h : w'.heap[g]? = w.heap[g]?) (i : Nat) : w'.cell? ⟨g, i, none⟩ = w.cell? ⟨g, i, none⟩ := by
  unfold World.cell?
  rw [h]
theorem heap_lt {w : World} {g : Nat} {o : Obj} (h : w.heap[g]? = some o) : g < w.heap.size := (Array.getElem?_eq_some_iff.1 h).1
theorem HighAt.keep {B : Nat} {w w' : World} {v : Value} {bs : List Bool} (h : HighAt B w v bs) (hk : ∀ k, B ≤ k → k < w.heap.size → w'.heap[k]? = w.heap[k]?) : HighAt B w' v bs := by
  obtain ⟨g, cap, a, C, t, fr, rfl, h1, h2, h3, h4⟩ := h
  have hs := hk g h1 (heap_lt h2)
  exact ⟨g, cap, a, C, t, fr, rfl, h1, hs.trans h2, by rw [cell_same hs]; exact h3, kept_keep _ _ _ _ _ h4 hk⟩
theorem kept_mono {B B' : Nat} {w : World} {v : Value} {xs : List Bool} (h : Kept B w v xs) (hB : B' ≤ B) : Kept B' w v xs := by
  obtain ⟨p, q, bw, bb, bi, rfl, h1, h2, h3, h4, h5, r⟩ := h
  exact ⟨p, q, bw, bb, bi, rfl, Nat.le_trans hB h1, Nat.le_trans hB h2, Nat.le_trans hB h3, Nat.le_trans hB h4, Nat.le_trans hB h5, r⟩
theorem HighAt.mono {B B' : Nat} {w : World} {v : Value} {bs : List Bool} (h : HighAt B w v bs) (hB : B' ≤ B) : HighAt B' w v bs := by
  obtain ⟨g, cap, a, C, t, fr, rfl, h1, h2, h3, h4⟩ := h
  exact ⟨g, cap, a, C, t, fr, rfl, Nat.le_trans hB h1, h2, h3, kept_mono h4 hB⟩
/-! ### what is said of cells alone outlives the turn of a block that is no cells -/
def NoCells (w : World) (row : Option Nat) : Prop := ∀ r, row = some r → ∃ o : Obj, w.heap[r]? = some o ∧ o.isCells = false
theorem cells_own {w w' : World} {row : Option Nat} (hg : w.grownBy w' row) (hr : NoCells w row) {b : Nat} {C : Array Value} {t : TypeId} {fr : Nat × Nat} (h : w.heap[b]? = some (.cells C t fr)) : w'.heap[b]? = w.heap[b]? :=
  hg.block b (heap_lt h) fun e => by
    obtain ⟨o, ho, hc⟩ := hr b e.symm
    rw [h] at ho; cases ho; cases hc
theorem rowIs_own {w w' : World} {row : Option Nat} (hg : w.grownBy w' row) (hr : NoCells w row) {b n : Nat} {t : TypeId} {f : Nat → Value} (h : w.rowIs b t n f) : w'.rowIs b t n f := by
  obtain ⟨c, hc, _⟩ := id h
  exact h.of_block (cells_own hg hr hc)
theorem kept_own {w w' : World} {row : Option Nat} (hg : w.grownBy w' row) (hr : NoCells w row) {B : Nat} {v : Value} {xs : List Bool} (h : Kept B w v xs) : Kept B w' v xs := by
  obtain ⟨p, q, bw, bb, bi, rfl, h1, h2, h3, h4, h5, r1, r2, r3, r4, r5⟩ := h
  exact ⟨p, q, bw, bb, bi, rfl, h1, h2, h3, h4, h5, rowIs_own hg hr r1, rowIs_own hg hr r2, rowIs_own hg hr r3, rowIs_own hg hr r4, rowIs_own hg hr r5⟩
theorem HighAt.own {w w' : World} {row : Option Nat} (hg : w.grownBy w' row) (hr : NoCells w row) {B : Nat} {v : Value} {bs : List Bool} (h : HighAt B w v bs) : HighAt B w' v bs := by
  obtain ⟨g, cap, a, C, t, fr, rfl, h1, h2, h3, h4⟩ := h
  have hs := cells_own hg hr h2
  exact ⟨g, cap, a, C, t, fr, rfl, h1, hs.trans h2, by rw [cell_same hs]; exact h3, kept_own hg hr h4⟩

set_option maxHeartbeats 1000000 in
set_option maxRecDepth 100000 in
/-- HOW MANY NOUGHTS STAND AHEAD OF THE k-TH ONE, which stands at place p. -/
theorem rhat_any (B k u : Nat) (v : Value) (bs : List Bool) (w : World) (hx : bs.length ≤ 4194304) (hs : selL bs (k : Int) true = ((k + u : Nat) : Int)) (hk : k ≤ 4194304) (hu : u ≤ 8388608) (hv : HighAt B w v bs) :
    Calls Try.prog 40 #[v, .int .i64 k] w fun e w' => e = .returned (.int .i64 u) ∧ Below w.heap.size w w' := by
  obtain ⟨g, cap, a, _, _, _, rfl, _, _, hc, hkp⟩ := hv
  have C := Lib.hid (rsel_any B _ bs (k : Int) true w hkp hx)
  rw [hs] at C
  obtain ⟨p, hp⟩ : ∃ p, k + u = p := ⟨_, rfl⟩
  rw [hp] at C
  have e1 : (p : Int) - (k : Int) = (u : Int) := by omega
  have hpb : p ≤ 16777216 := by omega
  clear hs hkp hp
  go_enter Try.func40, Try.ntmps40
  go_wp2
  go_loopw [5, 6, 13] (fun x y i wr => x = .int .i64 0 ∧ y = .int .i64 k ∧ i = .int .i64 0 ∧ wr = w) (fun _ _ _ _ => 0)
  case atStart => exact ⟨rfl, rfl, rfl, rfl⟩
  case round =>
    obtain ⟨rfl, rfl, rfl, rfl⟩ := hrel
    go_wp2_with fail
    refine C.out.mono ?_
    rintro o w2 ⟨rfl, hb⟩
    go_wp2
    go_ret
    exact ⟨ret_i64Z (by omega), hb⟩
set_option maxHeartbeats 1000000 in
set_option maxRecDepth 100000 in
theorem rhsize_any (B : Nat) (v : Value) (bs : List Bool) (w : World) (hx : bs.length ≤ 4194304) (hv : HighAt B w v bs) :
    Calls Try.prog 95 #[v] w fun e w' => e = .returned (.int .i64 (bitsN bs.length)) ∧ w = w' := by
  obtain ⟨g, cap, a, _, _, _, rfl, _, _, hc, hkp⟩ := hv
  have C := Lib.hid (rsize_any B _ bs w hkp hx)
  have hsm := bitsN_le bs.length
  generalize bitsN bs.length = z at *
  clear hkp
  go_enter Try.func95, Try.ntmps95
  go_wp2
  go_loopw [3, 8] (fun x i wr => (x = .int .i64 0 ∧ i = .int .i64 0 ∨ x = .int .i64 z ∧ i = .int .i64 1) ∧ wr = w) (fun _ i _ => 1 - (intOf i).toNat)
  case atStart => exact ⟨Or.inl ⟨rfl, rfl⟩, rfl⟩
  case round =>
    obtain ⟨⟨rfl, rfl⟩ | ⟨rfl, rfl⟩, rfl⟩ := hrel
    · go_wp2_with fail
      refine C.out.mono ?_
      rintro o w2 ⟨rfl, rfl⟩
      go_wp2
      go_roundw
      case rel => exact ⟨Or.inr ⟨by go_num, by go_num⟩, by first | rfl | trivial⟩
      case measure => simp [intOf]
    · go_wp2
      go_ret
      exact ⟨rfl, rfl⟩
end Go.Proofs.Ytibhhndiefhofaa
