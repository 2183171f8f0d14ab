/-
  THE LANDED PACKAGE pool MEETS WHAT THE LAWS OF LAYER 8 ASK OF IT (PoolSaid).
-/
import Derived.Test.YtibhhndiefhofaaRunOffA
import Derived.Test.YtibhhndiefhofaaPoolSaid
import Derived.Test.YtibhhndiefhofaaPoolJoin
import Derived.Test.YtibhhndiefhofaaShelf
import Derived.BigCall
namespace Go.Proofs.Ytibhhndiefhofaa
open Go.RowKit

/-- THE TEXTS ss, KEPT IN BLOCKS FROM B ON. -/
def IsP (B : Nat) (w : World) (v : Value) (ss : List ByteArray) : Prop :=
  ∃ (p q : Nat) (r : Addr), v = .pointer (some ⟨p, 0, none⟩) ∧ B ≤ p ∧ B ≤ q ∧
    w.rowIs p 47 1 (fun _ => .slice (some ⟨q, 0, none⟩) 2 2) ∧
    w.rowIs q 49 2 (fun i => if i = 0 then .iface 39 (.string (joinT ss)) else .iface 43 (.agg #[.pointer (some r)])) ∧
    IsO B w (.pointer (some r)) (begFrom 0 ss)
theorem isP_keep (B : Nat) (w w' : World) (v : Value) (ss : List ByteArray) (h : IsP B w v ss) (hk : ∀ k, B ≤ k → k < w.heap.size → w'.heap[k]? = w.heap[k]?) : IsP B w' v ss := by
  obtain ⟨p, q, r, rfl, h1, h2, r1, r2, h3⟩ := h
  exact ⟨p, q, r, rfl, h1, h2, r1.of_block (hk _ h1 r1.lt), r2.of_block (hk _ h2 r2.lt), isO_keep _ _ _ _ _ h3 hk⟩
theorem isP_ptr (B : Nat) (w : World) (v : Value) (ss : List ByteArray) (h : IsP B w v ss) : ∃ a, v = .pointer (some a) := by
  obtain ⟨p, _, _, rfl, _⟩ := h
  exact ⟨_, rfl⟩
theorem isO_mono {B B' : Nat} {w : World} {v : Value} {xs : List Int} (h : IsO B w v xs) (hB : B' ≤ B) : IsO B' w v xs := by
  obtain ⟨p, q, pz, hv, rfl, h1, h2, r1, r2, h3, h4⟩ := h
  exact ⟨p, q, pz, hv, rfl, by omega, by omega, r1, r2, keptz_mono h3 hB, h4.mono hB⟩
theorem beg_len (ss : List ByteArray) (h : ss.length ≤ 100000) : (begFrom 0 ss).length ≤ 1048576 := by rw [begFrom_length]; omega
theorem as_joined (v : Value) (w : World) : (Instr.typeAssert (.iface 39 v) 49 39 false).run Try.prog w = .ok v w := by kernel_rfl
theorem as_places (v : Value) (w : World) : (Instr.typeAssert (.iface 43 v) 49 43 false).run Try.prog w = .ok v w := by kernel_rfl
theorem meth_joined (n : Nat) (v : Value) (w : World) : (method (n + 1) 39 v "bracken/pool.size").run Try.prog w = .ok (90, v) w := by kernel_rfl
theorem meth_places (n : Nat) (v : Value) (w : World) : (method (n + 1) 43 v "bracken/pool.size").run Try.prog w = .ok (91, v) w := by kernel_rfl

set_option maxHeartbeats 1000000 in
set_option maxRecDepth 100000 in
theorem rtotal_any (s : Value) (ss : List ByteArray) (w : World) (hl : ss.length ≤ 100000) (hf : bytesN ss ≤ 8388608) (hs : StrOK w s ss) :
    Calls Try.prog 14 #[s] w fun e w' => e = .returned (.tuple #[.int .i64 (bytesN ss), .bool true]) ∧ w = w' := by
  obtain ⟨a, cap, rfl⟩ : ∃ a cap, s = .slice a ss.length cap := by
    obtain ⟨_, a, cap, h, _⟩ := hs
    exact ⟨a, cap, h⟩
  have HC := Lib.hid (fun k hk => StrOK.cell hs k hk)
  have HA := Lib.hid (bytesTo_all ss)
  clear hs
  go_enter Try.func14, Try.ntmps14
  go_wp2
  go_loopw [2, 8] (fun x i wr => wr = w ∧ ∃ k : Nat, k ≤ ss.length ∧ i = .int .i64 k ∧ x = .int .i64 (bytesTo ss k)) (fun _ i _ => ss.length - (intOf i).toNat)
  case atStart => exact ⟨rfl, 0, Nat.zero_le _, rfl, rfl⟩
  case round =>
    obtain ⟨rfl, k, hk, rfl, rfl⟩ := hrel
    by_cases hlt : k < ss.length
    · obtain ⟨t, ht⟩ : ∃ t, strAt ss k = t := ⟨_, rfl⟩
      obtain ⟨g, off, rfl, hg, hc⟩ := HC.out k hlt
      have hcell : wr.cell? ⟨g, off + k, none⟩ = some (.string t) := by rw [← ht]; exact hc k hlt
      clear hc
      have hn := bytesTo_next ss k t hlt ht
      have hle := bytesTo_le ss (k + 1)
      have HN := Lib.hid hn
      have hbd : bytesTo ss k + t.size ≤ 8388608 := by omega
      generalize bytesTo ss k = b at *
      have g1 : decide (8388608 - b < t.size) = false := decide_eq_false (by omega)
      have g2 : decide ((8388608 : Int) - (b : Int) < (t.size : Int)) = false := decide_eq_false (by omega)
      clear hn hle
      go_wp2
      go_roundw
      case rel => exact ⟨by trivial, k + 1, by omega, by go_num, by rw [HN.out]; go_num⟩
      case measure => simp [intOf]; omega
    · obtain rfl : k = ss.length := by omega
      go_wp2
      go_ret2
      exact ⟨by rw [HA.out]; rfl, rfl⟩

theorem cells_putT (a : List UInt8) (x : ByteArray) : Lib.byteCells a ++ Lib.strCells x = Lib.byteCells (a ++ x.data.toList) := by
  rw [Lib.strCells_eq, Lib.byteCells_append]
set_option maxHeartbeats 1000000 in
set_option maxRecDepth 100000 in
theorem rjoin_any (s : Value) (ss : List ByteArray) (w : World) (hl : ss.length ≤ 100000) (hf : bytesN ss ≤ 8388608) (hs : StrOK w s ss) :
    Calls Try.prog 15 #[s, .int .i64 (bytesN ss)] w fun e w' => e = .returned (.string (joinT ss)) ∧ Below w.heap.size w w' := by
  obtain ⟨a, cap, rfl⟩ : ∃ a cap, s = .slice a ss.length cap := by
    obtain ⟨_, a, cap, h, _⟩ := hs
    exact ⟨a, cap, h⟩
  have HC := Lib.hid (fun k hk => StrOK.cell hs k hk)
  have HP := Lib.hid (fun (k : Nat) (t : ByteArray) (wx : World) (hk : k < ss.length) (ht : ss.getD k ⟨#[]⟩ = t) (hI : Lib.IsBuilderF 57 5 w.heap.size w.heap.size (Lib.byteCells (joinL (ss.take k))) wx) (hB : w.heap.size ≤ wx.heap.size) =>
    Try.Builder_WriteString_k w.heap.size w.heap.size _ t wx hI (by have := bytesTo_next ss k t hk ht; have := bytesTo_le ss (k + 1); rw [Lib.byteCells_length, joinL_length]; unfold bytesTo at *; omega) hB)
  clear hs
  generalize bytesN ss = n at *
  go_enter Try.func15, Try.ntmps15
  go_wp2_with fail
  refine (Try.Builder_Grow_fresh w.heap.size w.heap.size n _ (Nat.le_refl _) ?hbk (by simp) (by omega)).mono ?_
  case hbk =>
    show (w.heap.push (Obj.cells #[.pointer none, .slice none 0 0] 57 (0, 0)))[w.heap.size]? = _
    rw [Array.getElem?_push_size]
  rintro e W1 ⟨rfl, h1, hb1⟩
  have hbw : Below w.heap.size w W1 := ((Below.refl _ w).alloc (Nat.le_refl _) _).trans hb1
  have hI := Lib.IsBuilderF.of (Or.inr h1)
  clear h1 hb1
  go_wp2_with fail
  go_loopw [12] (fun i wr => ∃ k : Nat, k ≤ ss.length ∧ i = .int .i64 k ∧ Lib.IsBuilderF 57 5 w.heap.size w.heap.size (Lib.byteCells (joinL (ss.take k))) wr ∧ Below w.heap.size w wr) (fun i _ => ss.length - (intOf i).toNat)
  case atStart => exact ⟨0, Nat.zero_le _, rfl, hI, hbw⟩
  case round =>
    obtain ⟨k, hk, rfl, hI2, hb⟩ := hrel
    clear hI hbw
    by_cases hlt : k < ss.length
    · obtain ⟨t, ht⟩ : ∃ t, strAt ss k = t := ⟨_, rfl⟩
      obtain ⟨g, off, rfl, hg, hc⟩ := HC.out k hlt
      have hcell : wr.cell? ⟨g, off + k, none⟩ = some (.string t) := by rw [hb.cell (p := ⟨g, off + k, none⟩) hg, ← ht]; exact hc k hlt
      have CW := Lib.hid (HP.out k t wr hlt ht hI2 hb.size)
      have HN := Lib.hid (joinL_next ss k t hlt ht)
      have HB := Lib.hid hb
      clear hc hI2 hb ht
      go_wp2_with fail
      refine CW.out.mono ?_
      rintro e W2 ⟨rfl, h2, b2, _⟩
      rw [cells_putT, ← HN.out] at h2
      have HI2 := Lib.hid (show Lib.IsBuilderF _ _ _ _ _ W2 from Or.inr h2)
      have HB2 := Lib.hid (HB.out.trans b2)
      clear h2 b2
      go_wp2
      go_roundw
      case rel => exact ⟨k + 1, by omega, by go_num, HI2.out, HB2.out⟩
      case measure => simp [intOf]; omega
    · obtain rfl : k = ss.length := by omega
      have CS := Lib.hid (Try.Builder_String_any_k w.heap.size w.heap.size _ wr hI2 hb.size)
      have HB := Lib.hid hb
      clear hI2 hb
      go_wp2_with fail
      refine CS.out.mono ?_
      rintro e W2 ⟨rfl, _, b2, _⟩
      go_wp2
      go_ret
      exact ⟨rfl, HB.out.trans b2⟩

theorem info_intT : (Try.prog.info? 3).map (fun i => (i.zero, i.size, i.bytes)) = some (some (.int .i64 0), 1, 8) := by kernel_rfl
theorem make_intT (n : Nat) (h : n ≤ 4294967296) (w : World) :
    (Instr.makeSlice 50 (.int .i64 ((n : Int) + 1)) (.int .i64 ((n : Int) + 1))).run Try.prog w = .ok (.slice (some ⟨w.heap.size, 0, none⟩) (n + 1) (n + 1)) (w.alloc (.cells (madeCells #[.int .i64 0] (n + 1)) 3)) :=
  run_make_row' 50 3 (.int .i64 0) 8 Try.underlying50 info_intT rfl .i64 .i64 (n + 1) (by omega) (by omega) w
/-- where the first k texts end lies in block b -/
def BegTo (w : World) (b : Nat) (ss : List ByteArray) (k : Nat) : Prop := w.rowIs b 3 (ss.length + 1) (fun i => .int .i64 (if i ≤ k then bytesTo ss i else 0 : Nat))
theorem BegTo.on {w : World} {b : Nat} {ss : List ByteArray} {k : Nat} (h : BegTo w b ss k) (y : Int) (hy : y = (bytesTo ss (k + 1) : Int)) : BegTo (w.setCell ⟨b, k + 1, none⟩ (.int .i64 y)) b ss (k + 1) := by
  subst hy
  refine World.rowIs.congr (World.rowIs.set h (k + 1) _) fun i _ => ?_
  by_cases e : i = k + 1
  · subst e
    rw [if_pos rfl, if_pos (Nat.le_refl _)]
  · rw [if_neg e]
    by_cases h1 : i ≤ k
    · rw [if_pos h1, if_pos (by omega)]
    · rw [if_neg h1, if_neg (by omega)]
theorem BegTo.sym {w : World} {b : Nat} {ss : List ByteArray} (h : BegTo w b ss ss.length) : SymOK w (.slice (some ⟨b, 0, none⟩) (ss.length + 1) (ss.length + 1)) (begFrom 0 ss) := by
  refine ⟨Or.inr ⟨b, 0, ss.length + 1, by rw [begFrom_length], World.rowIs.lt h, fun i hi => ?_⟩, _, ss.length + 1, by rw [begFrom_length], by rw [begFrom_length]; omega⟩
  rw [begFrom_length] at hi
  rw [Nat.zero_add, World.rowIs.cell h hi, if_pos (by omega), beg_at ss i (by omega)]
set_option maxHeartbeats 1000000 in
set_option maxRecDepth 100000 in
theorem rplaces_any (s : Value) (ss : List ByteArray) (w : World) (hl : ss.length ≤ 100000) (hf : bytesN ss ≤ 8388608) (hs : StrOK w s ss) :
    Calls Try.prog 16 #[s] w fun e w' => ∃ r, e = .returned (.agg #[.pointer (some r)]) ∧ IsO w.heap.size w' (.pointer (some r)) (begFrom 0 ss) ∧ Below w.heap.size w w' := by
  obtain ⟨a, cap, rfl⟩ : ∃ a cap, s = .slice a ss.length cap := by
    obtain ⟨_, a, cap, h, _⟩ := hs
    exact ⟨a, cap, h⟩
  have HC := Lib.hid (fun k hk => StrOK.cell hs k hk)
  have HM := Lib.hid (begFrom_may ss hf)
  have HL := Lib.hid (beg_len ss hl)
  clear hs
  have hbox := World.rowIs_alloc w #[.pointer none] 43 (fun _ => .pointer none) (by
    intro i hi
    rcases (show i = 0 by have : i < 1 := hi; omega) with rfl; rfl)
  have hb0 := (Below.refl w.heap.size w).alloc (Nat.le_refl _) (.cells #[.pointer none] 43)
  obtain ⟨W0, hW0⟩ : ∃ W0, w.alloc (.cells #[.pointer none] 43) = W0 := ⟨_, rfl⟩
  rw [hW0] at hbox hb0
  have hz0 : W0.heap.size = w.heap.size + 1 := by rw [← hW0]; simp
  have hmk := make_intT ss.length (by omega) W0
  have hrow0 : BegTo (W0.alloc (.cells (madeCells #[.int .i64 0] (ss.length + 1)) 3)) W0.heap.size ss 0 := World.rowIs.congr (World.rowIs_made W0 _ _ _) fun i _ => by
    by_cases e : i ≤ 0
    · obtain rfl : i = 0 := by omega
      rfl
    · rw [if_neg e]; rfl
  rw [hz0] at hrow0 hmk
  have hb1 : Below w.heap.size w (W0.alloc (.cells (madeCells #[.int .i64 0] (ss.length + 1)) 3)) := hb0.alloc hb0.size _
  have hbox1 := hbox.alloc (.cells (madeCells #[.int .i64 0] (ss.length + 1)) 3)
  go_enter Try.func16, Try.ntmps16
  go_wp2
  clear hW0 hmk hb0 hbox
  go_loopw [14] (fun i wr => ∃ k : Nat, k ≤ ss.length ∧ i = .int .i64 k ∧ Below w.heap.size w wr ∧ BegTo wr (w.heap.size + 1) ss k ∧ wr.rowIs w.heap.size 43 1 (fun _ => .pointer none)) (fun i _ => ss.length - (intOf i).toNat)
  case atStart => exact ⟨0, Nat.zero_le _, rfl, hb1, hrow0, hbox1⟩
  case round =>
    obtain ⟨k, hk, rfl, hbe, hlo, hbo⟩ := hrel
    clear hb1 hrow0 hbox1
    by_cases hlt : k < ss.length
    · obtain ⟨t, ht⟩ : ∃ t, strAt ss k = t := ⟨_, rfl⟩
      obtain ⟨g, off, rfl, hg, hc⟩ := HC.out k hlt
      have hcell : wr.cell? ⟨g, off + k, none⟩ = some (.string t) := by rw [hbe.cell (p := ⟨g, off + k, none⟩) hg, ← ht]; exact hc k hlt
      clear hc
      have hld := hlo.cell (i := k) (by omega)
      rw [if_pos (Nat.le_refl _)] at hld
      have hst := hlo.cell (i := k + 1) (by omega)
      have hfr := World.rowIs.frozen hlo (k + 1)
      have hn := bytesTo_next ss k t hlt ht
      have hle := bytesTo_le ss (k + 1)
      have HN := Lib.hid hn
      have hbd : bytesTo ss k + t.size ≤ 8388608 := by omega
      generalize bytesTo ss k = b at *
      have HLO := Lib.hid hlo
      have HBO := Lib.hid hbo
      have HBE := Lib.hid hbe
      clear hlo hbo hbe hn hle ht
      go_wp2
      go_roundw
      case rel => exact ⟨k + 1, by omega, by go_num, HBE.out.setCell (by simp) _, HLO.out.on _ (by rw [HN.out]; go_num), HBO.out.setOther (by simp) _⟩
      case measure => simp [intOf]; omega
    · obtain rfl : k = ss.length := by omega
      have C := Lib.hid (ronew_any _ (begFrom 0 ss) wr HL.out hlo.sym HM.out)
      have HBE := Lib.hid hbe
      have hbl := World.rowIs.lt hbo
      have HBO := Lib.hid hbo
      clear hlo hbe hbo
      go_wp2_with fail
      refine C.out.mono ?_
      rintro o w2 ⟨v, rfl, hko, hbz⟩
      have hbo2 := HBO.out.of_block (hbz.block _ hbl)
      obtain ⟨vb, rfl⟩ := isO_ptr _ _ _ _ hko
      have HKO := Lib.hid hko
      have HBZ := Lib.hid (HBE.out.trans (hbz.mono (by have := HBE.out.size; omega)))
      have c0 := hbo2.cell (i := 0) (by decide)
      have f0 := hbo2.frozen 0
      have HB2 := Lib.hid hbo2
      clear hbo2 hko hbz
      have d0 : (w2.setCell ⟨w.heap.size, 0, none⟩ (.pointer (some vb))).cell? ⟨w.heap.size, 0, none⟩ = some (.pointer (some vb)) := (HB2.out.set 0 _).cell (i := 0) (by decide)
      go_wp2
      refine bodyPost_ret (by simp [results, Try.results16, d0, go_sem]; try rfl) rfl ?_
      have hwr : w.heap.size < wr.heap.size := hbl
      refine ⟨_, rfl, isO_mono (isO_keep _ _ _ _ _ HKO.out fun k h1 h2 => ?_) (by omega), HBZ.out.setCell (Nat.le_refl _) _⟩
      rw [Below.heap_setCell _ _ _ _ (show k ≠ w.heap.size by omega)]

/-- a struct of one pointer, in a box of its own -/
theorem placesBox {B : Nat} {w : World} {r : Addr} {xs : List Int} (h : IsO B w (.pointer (some r)) xs) :
    (w.alloc (.cells #[.pointer (some r)] 43)).cell? ⟨w.heap.size, 0, none⟩ = some (.pointer (some r)) ∧
    IsO B (w.alloc (.cells #[.pointer (some r)] 43)) (.pointer (some r)) xs ∧
    Below w.heap.size w (w.alloc (.cells #[.pointer (some r)] 43)) := by
  have hb0 := (Below.refl w.heap.size w).alloc (Nat.le_refl _) (.cells #[.pointer (some r)] 43)
  have hbox := World.rowIs_alloc w #[.pointer (some r)] 43 (fun _ => .pointer (some r)) (by
    intro i hi
    rcases (show i = 0 by have : i < 1 := hi; omega) with rfl; rfl)
  exact ⟨hbox.cell (i := 0) (by show 0 < 1; decide), isO_keep _ _ _ _ _ h fun k _ hk => hb0.block k hk, hb0⟩
set_option maxHeartbeats 1000000 in
set_option maxRecDepth 100000 in
theorem rtexts_any (B : Nat) (r : Addr) (ss : List ByteArray) (w : World) (hl : ss.length ≤ 100000) (h : IsO B w (.pointer (some r)) (begFrom 0 ss)) :
    Calls Try.prog 18 #[.agg #[.pointer (some r)]] w fun e w' => e = .returned (.int .i64 ss.length) ∧ Below w.heap.size w w' := by
  obtain ⟨c0, h1, hb⟩ := placesBox h
  have C := Lib.hid (rolen_any B _ _ _ h1)
  rw [begFrom_length] at C
  have HB := Lib.hid hb
  clear h h1 hb
  generalize ss.length = n at *
  go_enter Try.func18, Try.ntmps18
  go_wp2_with fail
  refine C.out.mono ?_
  rintro o w2 ⟨rfl, rfl⟩
  go_wp2
  go_ret
  exact ⟨ret_i64Z (by omega), HB.out⟩
set_option maxHeartbeats 1000000 in
set_option maxRecDepth 100000 in
theorem raround_any (B : Nat) (r : Addr) (ss : List ByteArray) (k : Nat) (w : World) (hl : ss.length ≤ 100000) (hf : bytesN ss ≤ 8388608) (hk : k < ss.length) (h : IsO B w (.pointer (some r)) (begFrom 0 ss)) :
    Calls Try.prog 20 #[.agg #[.pointer (some r)], .int .i64 k] w fun e w' => e = .returned (.tuple #[.int .i64 (bytesTo ss k), .int .i64 (bytesTo ss (k + 1))]) ∧ Below w.heap.size w w' := by
  obtain ⟨c0, h1, hb⟩ := placesBox h
  have C1 := Lib.hid (roget_any B _ (begFrom 0 ss) k _ (beg_len ss hl) (begFrom_may ss hf) ⟨by omega, by omega⟩ h1)
  have C2 := Lib.hid (fun w2 (hw : Below (w.alloc (.cells #[.pointer (some r)] 43)).heap.size (w.alloc (.cells #[.pointer (some r)] 43)) w2) => roget_any B _ (begFrom 0 ss) ((k : Int) + 1) w2 (beg_len ss hl) (begFrom_may ss hf) ⟨by omega, by omega⟩ (isO_keep _ _ _ _ _ h1 fun k _ hk => hw.block k hk))
  rw [getW_at _ k (by rw [begFrom_length]; omega), getWE_at _ k (by rw [begFrom_length]; omega), beg_at ss k (by omega)] at C1
  rw [show (k : Int) + 1 = ((k + 1 : Nat) : Int) from rfl, getW_at _ (k + 1) (by rw [begFrom_length]; omega), getWE_at _ (k + 1) (by rw [begFrom_length]; omega), beg_at ss (k + 1) (by omega)] at C2
  have HB := Lib.hid hb
  have hsz : w.heap.size < (w.alloc (.cells #[.pointer (some r)] 43)).heap.size := by simp
  clear h h1 hb
  generalize bytesTo ss k = b0 at *
  generalize bytesTo ss (k + 1) = b1 at *
  obtain ⟨k1, hk1⟩ : ∃ k1, k + 1 = k1 := ⟨_, rfl⟩
  have hk2 : (k : Int) + 1 = (k1 : Int) := by omega
  rw [hk1] at C2
  go_enter Try.func20, Try.ntmps20
  go_wp2_with fail
  refine C1.out.mono ?_
  rintro o w2 ⟨rfl, hb2⟩
  have C3 := Lib.hid (C2.out w2 hb2)
  have c2 := (hb2.cell (p := ⟨w.heap.size, 0, none⟩) hsz).trans c0
  have HB2 := Lib.hid (HB.out.trans (hb2.mono HB.out.size))
  clear C2 hb2 c0
  go_wp2_with fail
  refine C3.out.mono ?_
  rintro o w3 ⟨rfl, hb3⟩
  have HB3 := Lib.hid (HB2.out.trans (hb3.mono HB2.out.size))
  clear hb3
  go_wp2
  go_ret2
  exact ⟨rfl, HB3.out⟩
set_option maxHeartbeats 1000000 in
set_option maxRecDepth 100000 in
theorem rpsize_any (B : Nat) (r : Addr) (ss : List ByteArray) (w : World) (hl : ss.length ≤ 100000) (hf : bytesN ss ≤ 8388608) (h : IsO B w (.pointer (some r)) (begFrom 0 ss)) :
    Calls Try.prog 91 #[.agg #[.pointer (some r)]] w fun e w' => e = .returned (.int .i64 (poolN ss)) ∧ Below w.heap.size w w' := by
  obtain ⟨c0, h1, hb⟩ := placesBox h
  have C := Lib.hid (rosize_any B _ _ _ (beg_len ss hl) (begFrom_may ss hf) h1)
  rw [show offsN (begFrom 0 ss) = poolN ss from rfl] at C
  have HB := Lib.hid hb
  clear h h1 hb
  generalize poolN ss = n at *
  go_enter Try.func91, Try.ntmps91
  go_wp2_with fail
  refine C.out.mono ?_
  rintro o w2 ⟨rfl, hb2⟩
  have HB2 := Lib.hid (HB.out.trans (hb2.mono HB.out.size))
  clear hb2
  go_wp2
  go_ret
  exact ⟨rfl, HB2.out⟩
theorem rjsize_any (s : ByteArray) (w : World) : Calls Try.prog 90 #[.string s] w fun e w' => e = .returned (.int .i64 s.size) ∧ w = w' := by
  go_enter Try.func90, Try.ntmps90
  go_wp2
  go_ret
  exact ⟨rfl, rfl⟩
set_option maxHeartbeats 1000000 in
set_option maxRecDepth 100000 in
theorem sclone_any (s : ByteArray) (w : World) (hs : s.size ≤ 8388608) : Calls Try.prog 31 #[.string s] w fun e w' => e = .returned (.string s) ∧ Below w.heap.size w w' := by
  have C := Lib.hid (Try.stringslite_Clone s w (by omega))
  go_enter Try.func31, Try.ntmps31
  go_wp2_with fail
  refine C.out.mono ?_
  rintro o w2 ⟨rfl, hb⟩
  go_wp2
  go_ret
  exact ⟨rfl, hb⟩
set_option maxHeartbeats 1000000 in
set_option maxRecDepth 100000 in
theorem rcut_any (s : ByteArray) (a b : Nat) (w : World) (h1 : a ≤ b) (h2 : b ≤ s.size) (hs : s.size ≤ 8388608) :
    Calls Try.prog 21 #[.string s, .int .i64 a, .int .i64 b] w fun e w' => e = .returned (.string (s.extract a b)) ∧ Below w.heap.size w w' := by
  have C := Lib.hid (sclone_any (s.extract a b) w (by rw [ByteArray.size_extract]; omega))
  have q1 : (a : Int) ≤ (b : Int) := by omega
  have q2 : (b : Int) ≤ (s.size : Int) := by omega
  go_enter Try.func21, Try.ntmps21
  go_wp2_with fail
  refine C.out.mono ?_
  rintro o w2 ⟨rfl, hb⟩
  go_wp2
  go_ret
  exact ⟨rfl, hb⟩

theorem remptyNil_any (w : World) : Calls Try.prog 17 #[.pointer none] w fun e w' => e = .returned (.bool true) ∧ w = w' := by
  go_enter Try.func17, Try.ntmps17
  go_wp2
  go_ret
  exact ⟨rfl, rfl⟩
theorem rempty_any (p q : Nat) (w : World) (c : w.cell? ⟨p, 0, none⟩ = some (.slice (some ⟨q, 0, none⟩) 2 2)) :
    Calls Try.prog 17 #[.pointer (some ⟨p, 0, none⟩)] w fun e w' => e = .returned (.bool false) ∧ w = w' := by
  go_enter Try.func17, Try.ntmps17
  go_wp2
  go_ret
  exact ⟨rfl, rfl⟩
theorem rplenNil_any (w : World) : Calls Try.prog 11 #[.pointer none] w fun e w' => e = .returned (.int .i64 0) ∧ Below w.heap.size w w' := by
  have CE := Lib.hid (remptyNil_any w)
  go_enter Try.func11, Try.ntmps11
  go_wp2_with fail
  refine CE.out.mono ?_
  rintro o w2 ⟨rfl, rfl⟩
  go_wp2
  go_ret
  exact ⟨rfl, Below.refl _ _⟩
theorem rpbytesNil_any (w : World) : Calls Try.prog 10 #[.pointer none] w fun e w' => e = .returned (.int .i64 0) ∧ Below w.heap.size w w' := by
  have CE := Lib.hid (remptyNil_any w)
  go_enter Try.func10, Try.ntmps10
  go_wp2_with fail
  refine CE.out.mono ?_
  rintro o w2 ⟨rfl, rfl⟩
  go_wp2
  go_ret
  exact ⟨rfl, Below.refl _ _⟩
set_option maxHeartbeats 1000000 in
set_option maxRecDepth 100000 in
theorem rplen_any (B : Nat) (v : Value) (ss : List ByteArray) (w : World) (hl : ss.length ≤ 100000) (h : IsP B w v ss) :
    Calls Try.prog 11 #[v] w fun e w' => e = .returned (.int .i64 ss.length) ∧ Below w.heap.size w w' := by
  obtain ⟨p, q, r, rfl, _, _, r1, r2, h3⟩ := h
  have c0 : w.cell? ⟨p, 0, none⟩ = some (.slice (some ⟨q, 0, none⟩) 2 2) := r1.cell (i := 0) (by decide)
  have c1 : w.cell? ⟨q, 1, none⟩ = some (.iface 43 (.agg #[.pointer (some r)])) := r2.cell (i := 1) (by decide)
  have a1 := fun W => as_places (.agg #[.pointer (some r)]) W
  have CE := Lib.hid (rempty_any p q w c0)
  have CT := Lib.hid (rtexts_any B r ss w hl h3)
  clear r1 r2 h3
  generalize ss.length = n at *
  go_enter Try.func11, Try.ntmps11
  go_wp2_with fail
  refine CE.out.mono ?_
  rintro o w2 ⟨rfl, rfl⟩
  go_wp2_with fail
  refine CT.out.mono ?_
  rintro o w2 ⟨rfl, hb⟩
  go_wp2
  go_ret
  exact ⟨rfl, hb⟩
set_option maxHeartbeats 1000000 in
set_option maxRecDepth 100000 in
theorem rpbytes_any (B : Nat) (v : Value) (ss : List ByteArray) (w : World) (h : IsP B w v ss) :
    Calls Try.prog 10 #[v] w fun e w' => e = .returned (.int .i64 (bytesN ss)) ∧ Below w.heap.size w w' := by
  obtain ⟨p, q, r, rfl, _, _, r1, r2, h3⟩ := h
  have c0 : w.cell? ⟨p, 0, none⟩ = some (.slice (some ⟨q, 0, none⟩) 2 2) := r1.cell (i := 0) (by decide)
  have c1 : w.cell? ⟨q, 0, none⟩ = some (.iface 39 (.string (joinT ss))) := r2.cell (i := 0) (by decide)
  have m1 := fun n W => meth_joined n (.string (joinT ss)) W
  have CE := Lib.hid (rempty_any p q w c0)
  have CT := Lib.hid (rjsize_any (joinT ss) w)
  rw [joinT_size] at CT
  clear r1 r2 h3
  generalize joinT ss = s at *
  generalize bytesN ss = n at *
  go_enter Try.func10, Try.ntmps10
  go_wp2_with fail
  refine CE.out.mono ?_
  rintro o w2 ⟨rfl, rfl⟩
  go_wp2_with fail
  refine CT.out.mono ?_
  rintro o w2 ⟨rfl, rfl⟩
  go_wp2
  go_ret
  exact ⟨rfl, Below.refl _ _⟩
set_option maxHeartbeats 1000000 in
set_option maxRecDepth 100000 in
theorem rppsize_any (B : Nat) (v : Value) (ss : List ByteArray) (w : World) (hl : ss.length ≤ 100000) (hf : bytesN ss ≤ 8388608) (h : IsP B w v ss) :
    Calls Try.prog 9 #[v] w fun e w' => e = .returned (.int .i64 (poolN ss)) ∧ Below w.heap.size w w' := by
  obtain ⟨p, q, r, rfl, _, _, r1, r2, h3⟩ := h
  have c0 : w.cell? ⟨p, 0, none⟩ = some (.slice (some ⟨q, 0, none⟩) 2 2) := r1.cell (i := 0) (by decide)
  have c1 : w.cell? ⟨q, 1, none⟩ = some (.iface 43 (.agg #[.pointer (some r)])) := r2.cell (i := 1) (by decide)
  have m1 := fun n W => meth_places n (.agg #[.pointer (some r)]) W
  have CE := Lib.hid (rempty_any p q w c0)
  have CT := Lib.hid (rpsize_any B r ss w hl hf h3)
  clear r1 r2 h3
  generalize poolN ss = n at *
  go_enter Try.func9, Try.ntmps9
  go_wp2_with fail
  refine CE.out.mono ?_
  rintro o w2 ⟨rfl, rfl⟩
  go_wp2_with fail
  refine CT.out.mono ?_
  rintro o w2 ⟨rfl, hb⟩
  go_wp2
  go_ret
  exact ⟨rfl, hb⟩
set_option maxHeartbeats 1000000 in
set_option maxRecDepth 100000 in
theorem rpget_any (B : Nat) (v : Value) (ss : List ByteArray) (k : Int) (w : World) (hl : ss.length ≤ 100000) (hf : bytesN ss ≤ 8388608) (hk64 : In64 k) (h : IsP B w v ss) :
    Calls Try.prog 13 #[v, .int .i64 k] w fun e w' => e = .returned (.tuple #[.string (getS ss k), .int .i64 (getSE ss k)]) ∧ Below w.heap.size w w' := by
  have CL := Lib.hid (rplen_any B v ss w hl h)
  by_cases h0 : k < 0
  · rw [getS_out ss k (by omega), getSE_out ss k (by omega)]
    clear h CL
    go_enter Try.func13, Try.ntmps13
    go_wp2
    go_ret2
    exact ⟨rfl, Below.refl _ _⟩
  · obtain ⟨j, rfl⟩ := Int.eq_ofNat_of_zero_le (show 0 ≤ k by omega)
    by_cases h1 : j < ss.length
    · rw [getS_at ss j h1, getSE_at ss j h1]
      obtain ⟨t, ht⟩ : ∃ t, ss.getD j ⟨#[]⟩ = t := ⟨_, rfl⟩
      have HT := Lib.hid (joinT_extract ss j t h1 ht)
      rw [ht]
      obtain ⟨p, q, r, rfl, _, _, r1, r2, h3⟩ := h
      have c0 : w.cell? ⟨p, 0, none⟩ = some (.slice (some ⟨q, 0, none⟩) 2 2) := r1.cell (i := 0) (by decide)
      have c1 : w.cell? ⟨q, 1, none⟩ = some (.iface 43 (.agg #[.pointer (some r)])) := r2.cell (i := 1) (by decide)
      have c2 : w.cell? ⟨q, 0, none⟩ = some (.iface 39 (.string (joinT ss))) := r2.cell (i := 0) (by decide)
      have hpb := World.block_lt_of_cell? w _ c0
      have hqb := World.block_lt_of_cell? w _ c1
      have a1 := fun W => as_places (.agg #[.pointer (some r)]) W
      have a2 := fun W => as_joined (.string (joinT ss)) W
      have g1 : decide (ss.length ≤ j) = false := decide_eq_false (by omega)
      have CA := Lib.hid (fun w2 (hb : Below w.heap.size w w2) => raround_any B r ss j w2 hl hf h1 (isO_keep _ _ _ _ _ h3 fun k _ hk => hb.block k hk))
      have CC := Lib.hid (fun w2 => rcut_any (joinT ss) (bytesTo ss j) (bytesTo ss (j + 1)) w2 (bytesTo_mono ss j h1) (by rw [joinT_size]; exact bytesTo_le ss (j + 1)) (by rw [joinT_size]; exact hf))
      rw [HT.out] at CC
      clear r1 r2 h3 ht
      generalize joinT ss = s at *
      generalize bytesTo ss j = b0 at *
      generalize bytesTo ss (j + 1) = b1 at *
      go_enter Try.func13, Try.ntmps13
      go_wp2_with fail
      refine CL.out.mono ?_
      rintro o w2 ⟨rfl, hb2⟩
      have d0 := (hb2.cell (p := ⟨p, 0, none⟩) hpb).trans c0
      have d1 := (hb2.cell (p := ⟨q, 1, none⟩) hqb).trans c1
      have C1 := Lib.hid (CA.out w2 hb2)
      have HB2 := Lib.hid hb2
      clear hb2 CA
      go_wp2_with fail
      refine C1.out.mono ?_
      rintro o w3 ⟨rfl, hb3⟩
      have hb3' := HB2.out.trans (hb3.mono HB2.out.size)
      have e0 := (hb3'.cell (p := ⟨p, 0, none⟩) hpb).trans c0
      have e1 := (hb3'.cell (p := ⟨q, 0, none⟩) hqb).trans c2
      have HB3 := Lib.hid hb3'
      clear hb3 hb3'
      go_wp2_with fail
      refine (CC.out w3).mono ?_
      rintro o w4 ⟨rfl, hb4⟩
      have HB4 := Lib.hid (HB3.out.trans (hb4.mono HB3.out.size))
      clear hb4
      go_wp2
      go_ret2
      exact ⟨rfl, HB4.out⟩
    · rw [getS_out ss j (by omega), getSE_out ss j (by omega)]
      obtain ⟨p, rfl⟩ := isP_ptr B w v ss h
      clear h
      have g1 : decide (ss.length ≤ j) = true := decide_eq_true (by omega)
      go_enter Try.func13, Try.ntmps13
      go_wp2_with fail
      refine CL.out.mono ?_
      rintro o w2 ⟨rfl, hb2⟩
      go_wp2
      go_ret2
      exact ⟨rfl, hb2⟩
set_option maxHeartbeats 1000000 in
set_option maxRecDepth 100000 in
theorem rpnew_any (s : Value) (ss : List ByteArray) (w : World) (hl : ss.length ≤ 100000) (hf : bytesN ss ≤ 8388608) (hs : StrOK w s ss) :
    Calls Try.prog 8 #[s] w fun e w' => ∃ v, e = .returned (.tuple #[v, .int .i64 0]) ∧ IsP w.heap.size w' v ss ∧ Below w.heap.size w w' := by
  have CT := Lib.hid (rtotal_any s ss w hl hf hs)
  have CJ := Lib.hid (rjoin_any s ss w hl hf hs)
  have CP := Lib.hid (fun w2 (hb : Below w.heap.size w w2) => rplaces_any s ss w2 hl hf (hs.below hb))
  obtain ⟨a, cap, rfl⟩ : ∃ a cap, s = .slice a ss.length cap := by
    obtain ⟨_, a, cap, h, _⟩ := hs
    exact ⟨a, cap, h⟩
  clear hs
  go_enter Try.func8, Try.ntmps8
  go_wp2_with fail
  refine CT.out.mono ?_
  rintro o w2 ⟨rfl, rfl⟩
  go_wp2_with fail
  refine CJ.out.mono ?_
  rintro o w2 ⟨rfl, hb2⟩
  have C1 := Lib.hid (CP.out w2 hb2)
  have HB2 := Lib.hid hb2
  clear hb2 CP
  go_wp2_with fail
  refine C1.out.mono ?_
  rintro o w3 ⟨r, rfl, hko, hb3⟩
  have HKO := Lib.hid (isO_mono hko HB2.out.size)
  have HB3 := Lib.hid (HB2.out.trans (hb3.mono HB2.out.size))
  clear hko hb3
  go_wp2
  go_ret2
  have r1 := World.rowIs_alloc w3 #[.iface 39 (.string (joinT ss)), .iface 43 (.agg #[.pointer (some r)])] 49 (fun i => if i = 0 then .iface 39 (.string (joinT ss)) else .iface 43 (.agg #[.pointer (some r)])) (by
    intro i hi
    rcases (show i = 0 ∨ i = 1 by have : i < 2 := hi; omega) with rfl | rfl <;> rfl)
  have hb4 := HB3.out.alloc HB3.out.size (.cells #[.iface 39 (.string (joinT ss)), .iface 43 (.agg #[.pointer (some r)])] 49)
  have hz4 : (w3.alloc (.cells #[.iface 39 (.string (joinT ss)), .iface 43 (.agg #[.pointer (some r)])] 49)).heap.size = w3.heap.size + 1 := by simp
  have ha4 : ∀ k, k < w3.heap.size → (w3.alloc (.cells #[.iface 39 (.string (joinT ss)), .iface 43 (.agg #[.pointer (some r)])] 49)).heap[k]? = w3.heap[k]? := fun k h => Below.heap_alloc w3 _ k h
  have hz3 := HB3.out.size
  generalize w3.alloc (.cells #[.iface 39 (.string (joinT ss)), .iface 43 (.agg #[.pointer (some r)])] 49) = w4 at *
  have r2 := World.rowIs_alloc w4 #[.slice (some ⟨w3.heap.size, 0, none⟩) 2 2] 47 (fun _ => .slice (some ⟨w3.heap.size, 0, none⟩) 2 2) (by
    intro i hi
    rcases (show i = 0 by have : i < 1 := hi; omega) with rfl; rfl)
  rw [hz4] at r2
  have ha5 : ∀ k, k < w3.heap.size → (w4.alloc (.cells #[.slice (some ⟨w3.heap.size, 0, none⟩) 2 2] 47)).heap[k]? = w3.heap[k]? := fun k h => (Below.heap_alloc w4 _ k (by omega)).trans (ha4 k h)
  exact ⟨_, rfl, ⟨w3.heap.size + 1, w3.heap.size, r, rfl, by omega, by omega, r2, r1.alloc _, isO_keep _ _ _ _ _ HKO.out fun k _ h2 => ha5 k h2⟩, hb4.alloc hb4.size _⟩
/-- THE LANDED PACKAGE pool. -/
theorem pool_said : PoolSaid (fun _ => True) IsP where
  below := fun _ _ _ _ => trivial
  keep := isP_keep
  isPtr := isP_ptr
  new := fun s ss w _ hl hf hs => rpnew_any s ss w hl hf hs
  len := fun B v ss w _ hl _ h => rplen_any B v ss w hl h
  get := fun B v ss k w _ hl hf h64 h => rpget_any B v ss k w hl hf h64 h
  bytes := fun B v ss w _ _ _ h => rpbytes_any B v ss w h
  size := fun B v ss w _ hl hf h => rppsize_any B v ss w hl hf h
  lenNil := fun w _ => rplenNil_any w
  bytesNil := fun w _ => rpbytesNil_any w
end Go.Proofs.Ytibhhndiefhofaa
