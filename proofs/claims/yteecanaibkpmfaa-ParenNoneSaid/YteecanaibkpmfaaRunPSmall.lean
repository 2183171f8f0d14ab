/-
  THE LANDED PACKAGE paren: its small functions, and the count of steps.
-/
import Derived.Test.YteecanaibkpmfaaRunGet
import Derived.Test.YteecanaibkpmfaaRunPLaws
import Derived.Test.YteecanaibkpmfaaApart
import Derived.Deep.RegionHeld3
import Derived.RegionTactic
import Derived.BigRegion
namespace Go.Proofs.Yteecanaibkpmfaa
open Go.RowKit

theorem rrise_any (b : Bool) (w : World) : Calls Try.prog 53 #[.bool b] w fun e w' => e = .returned (.int .i64 (sgn b)) ∧ w = w' := by
  cases b
  · go_enter Try.func53, Try.ntmps53
    go_wp2
    go_ret
    exact ⟨rfl, rfl⟩
  · go_enter Try.func53, Try.ntmps53
    go_wp2
    go_ret
    exact ⟨rfl, rfl⟩
theorem rgroup_any (l : Nat) (w : World) : Calls Try.prog 69 #[.int .i64 l] w fun e w' => e = .returned (.int .i64 (grpP l)) ∧ w = w' := by
  by_cases h : l = 0
  · subst h
    go_enter Try.func69, Try.ntmps69
    go_wp2
    go_ret
    exact ⟨rfl, rfl⟩
  · have g1 : ((l : Int) == 0) = false := beq_eq_false_iff_ne.2 (by omega)
    have g2 : (l == 0) = false := beq_eq_false_iff_ne.2 h
    have HG : Hid (grpP l = 8) := Lib.hid (if_neg h)
    rw [HG.out]
    go_enter Try.func69, Try.ntmps69
    go_wp2
    go_ret
    exact ⟨rfl, rfl⟩

/-- bits kept in blocks from B to below T -/
def KeptIn (B T : Nat) (w : World) (v : Value) (xs : List Bool) : Prop := ∃ w0 : World, w0.heap.size ≤ T ∧ Kept B w0 v xs ∧ ∀ k, B ≤ k → k < w0.heap.size → w.heap[k]? = w0.heap[k]?
theorem KeptIn.kept {B T : Nat} {w : World} {v : Value} {xs : List Bool} (h : KeptIn B T w v xs) : Kept B w v xs := by
  obtain ⟨w0, _, h1, h2⟩ := h
  exact kept_keep B w0 w v xs h1 h2
theorem KeptIn.keep {B T : Nat} {w w' : World} {v : Value} {xs : List Bool} (h : KeptIn B T w v xs) (hk : ∀ k, B ≤ k → k < T → w'.heap[k]? = w.heap[k]?) : KeptIn B T w' v xs := by
  obtain ⟨w0, h0, h1, h2⟩ := h
  exact ⟨w0, h0, h1, fun k hk1 hk2 => (hk k hk1 (by omega)).trans (h2 k hk1 hk2)⟩

/-- FROM w TO w' NOTHING TURNS BUT THE COUNT OF STEPS, in block sb, which is s then. -/
structure Went (sb s : Nat) (w w' : World) : Prop where
  apart : Apart sb (sb + 1) w w'
  row : w'.rowIs sb 3 1 (fun _ => .int .i64 s)
theorem Apart.trans {B T : Nat} {w w' w'' : World} (h : Apart B T w w') (k : Apart B T w' w'') : Apart B T w w'' :=
  ⟨k.os.trans h.os, k.tape.trans h.tape, k.output.trans h.output, Nat.le_trans h.size k.size, fun i hi h2 => (k.block i (by have := h.size; omega) h2).trans (h.block i hi h2)⟩
theorem Went.trans {sb s t : Nat} {w w' w'' : World} (h : Went sb s w w') (k : Went sb t w' w'') : Went sb t w w'' := ⟨h.apart.trans k.apart, k.row⟩
theorem Went.other {sb s : Nat} {w w' w'' : World} (h : Went sb s w w') (hb : Below w'.heap.size w' w'') : Went sb s w w'' :=
  ⟨h.apart.trans (Apart.of_below hb), h.row.of_block (hb.block _ h.row.lt)⟩
theorem Went.stay {sb s : Nat} {w w' : World} (h : w.rowIs sb 3 1 (fun _ => .int .i64 s)) (hb : Below w.heap.size w w') : Went sb s w w' := ⟨Apart.of_below hb, h.of_block (hb.block _ h.lt)⟩
theorem Went.set {sb s t : Nat} {w w' : World} (h : Went sb s w w') (x : Int) (hx : x = (t : Int)) : Went sb t w (w'.setCell ⟨sb, 0, none⟩ (.int .i64 x)) := by
  subst hx
  refine ⟨⟨h.apart.os, h.apart.tape, h.apart.output, by rw [Deep.nblk_setCell]; exact h.apart.size, fun k hk h2 => ?_⟩, (h.row.set 0 _).congr fun i hi => by rw [if_pos (by omega)]⟩
  rw [Below.heap_setCell _ _ _ _ (show k ≠ sb by omega)]
  exact h.apart.block k hk h2
theorem Went.keptIn {B T sb s : Nat} {w w' : World} {v : Value} {xs : List Bool} (h : Went sb s w w') (hT : T ≤ sb) (hw : T ≤ w.heap.size) (hk : KeptIn B T w v xs) : KeptIn B T w' v xs :=
  hk.keep fun k _ h2 => h.apart.block k (by omega) (Or.inl (by omega))

set_option maxHeartbeats 1000000 in
set_option maxRecDepth 100000 in
theorem rplen_any (B : Nat) (v : Value) (xs : List Bool) (w : World) (hk : Kept B w v xs) :
    Calls Try.prog 49 #[.agg #[v]] w fun e w' => e = .returned (.int .i64 xs.length) ∧ Below w.heap.size w w' := by
  have HB := Lib.hid (fun c t => (Below.refl w.heap.size w).alloc (Nat.le_refl _) (.cells c t))
  have CL := Lib.hid (fun c t => rlen_any B v xs (w.alloc (.cells c t)) (kept_keep B w _ v xs hk fun k _ h => (HB.out c t).block k h))
  clear hk
  go_enter Try.func49, Try.ntmps49
  go_wp2_with fail
  refine (CL.out _ _).mono ?_
  rintro e w' ⟨rfl, rfl⟩
  go_wp2
  go_ret
  exact ⟨rfl, HB.out _ _⟩
theorem new_box (w : World) (v : Value) (t : TypeId) : (w.alloc (.cells #[v] t)).rowIs w.heap.size t 1 (fun _ => v) := by
  refine World.rowIs_alloc w #[v] t (fun _ => v) fun i hi => ?_
  obtain rfl : i = 0 := by have : i < 1 := hi; omega
  rfl
/-- the receiver's own cell, behind a store of the count -/
theorem box_cell (w : World) (v x : Value) (t : TypeId) (sb : Nat) (h : sb < w.heap.size) : ((w.alloc (.cells #[v] t)).setCell ⟨sb, 0, none⟩ x).cell? ⟨w.heap.size, 0, none⟩ = some v :=
  World.rowIs.cell (i := 0) ((new_box w v t).setOther (a := ⟨sb, 0, none⟩) (show w.heap.size ≠ sb by omega) x) Nat.one_pos
/-- the count grows by one, and the sign at k is told -/
theorem at_get {xs : List Bool} {k : Nat} (h : k < xs.length) : getB xs (k : Int) = xs.getD k false := by
  unfold getB
  rw [if_pos (by omega), Int.toNat_natCast]
set_option maxHeartbeats 1000000 in
set_option maxRecDepth 100000 in
theorem rpat_any (B T sb s : Nat) (v : Value) (xs : List Bool) (k : Nat) (w : World) (hx : xs.length ≤ 4194304) (hlt : k < xs.length) (hs : s ≤ 1000000) (hT : T ≤ sb) (hT2 : T ≤ w.heap.size) (hk : KeptIn B T w v xs)
    (hr : w.rowIs sb 3 1 (fun _ => .int .i64 s)) :
    Calls Try.prog 68 #[.agg #[v], .int .i64 k, .pointer (some ⟨sb, 0, none⟩)] w fun e w' => e = .returned (.bool (xs.getD k false)) ∧ Went sb (s + 1) w w' := by
  have hg := at_get hlt
  have HW0 := Lib.hid (fun c t => Went.stay hr ((Below.refl w.heap.size w).alloc (Nat.le_refl _) (.cells c t)))
  have HC1 := Lib.hid (fun c t => ((HW0.out c t).row.cell (i := 0) Nat.one_pos))
  have HC2 := Lib.hid (fun c t => ((HW0.out c t).row.frozen 0))
  have h1 := HC1.out #[v] 48
  have h2 := HC2.out #[v] 48
  have HW := Lib.hid (fun (x : Int) (hx : x = ((s + 1 : Nat) : Int)) => (HW0.out #[v] 48).set x hx)
  have CG := Lib.hid (fun (x : Int) (hy : x = ((s + 1 : Nat) : Int)) => rget_any B v xs k _ ((HW.out x hy).keptIn hT hT2 hk).kept hx ⟨by omega, by omega⟩)
  have HG := Lib.hid hg
  have h3 := box_cell w v (.int .i64 ((s : Int) + 1)) 48 sb hr.lt
  clear hk hr hg HW0 HC1 HC2
  go_enter Try.func68, Try.ntmps68
  go_wp2_with fail
  refine (CG.out ((s : Int) + 1) (by omega)).mono ?_
  rintro e w' ⟨rfl, rfl⟩
  go_wp2
  go_ret
  exact ⟨by rw [HG.out]; rfl, HW.out _ (by omega)⟩
set_option maxHeartbeats 1000000 in
set_option maxRecDepth 100000 in
theorem rpexc_any (B T sb s : Nat) (v : Value) (xs : List Bool) (k : Nat) (w : World) (hx : xs.length ≤ 4194304) (hle : k ≤ xs.length) (hs : s ≤ 1000000) (hT : T ≤ sb) (hT2 : T ≤ w.heap.size) (hk : KeptIn B T w v xs)
    (hr : w.rowIs sb 3 1 (fun _ => .int .i64 s)) :
    Calls Try.prog 45 #[.agg #[v], .int .i64 k, .pointer (some ⟨sb, 0, none⟩)] w fun e w' => e = .returned (.int .i64 (exc xs k)) ∧ ∃ d, d ≤ 3 ∧ Went sb (s + d) w w' := by
  have HW0 := Lib.hid (fun c t => Went.stay hr ((Below.refl w.heap.size w).alloc (Nat.le_refl _) (.cells c t)))
  by_cases h0 : k = 0
  · subst h0
    clear hk hr
    go_enter Try.func45, Try.ntmps45
    go_wp2
    go_ret
    exact ⟨rfl, 0, by omega, HW0.out _ _⟩
  · have HC1 := Lib.hid (fun c t => ((HW0.out c t).row.cell (i := 0) Nat.one_pos))
    have HC2 := Lib.hid (fun c t => ((HW0.out c t).row.frozen 0))
    have h1 := HC1.out #[v] 48
    have h2 := HC2.out #[v] 48
    have HW := Lib.hid (fun (x : Int) (hx : x = ((s + 3 : Nat) : Int)) => (HW0.out #[v] 48).set x hx)
    have CG := Lib.hid (fun (x : Int) (hy : x = ((s + 3 : Nat) : Int)) => rrank_any B v xs k true _ ((HW.out x hy).keptIn hT hT2 hk).kept hx)
    have h3 := rank_both xs k hle
    have h5 := box_cell w v (.int .i64 ((s : Int) + 3)) 48 sb hr.lt
    have h4 := exc_rank xs k hle
    have HR : Hid (rankL xs (k : Int) true = rankN xs k true) := Lib.hid (by unfold rankL; rw [Int.toNat_natCast])
    rw [HR.out] at CG
    have hrb := rankN_le xs k true
    have HE : Hid (exc xs k = 2 * (rankN xs k true : Int) - (k : Int)) := Lib.hid (by omega)
    rw [HE.out]
    have g1 : ((k : Int) == 0) = false := beq_eq_false_iff_ne.2 (by omega)
    have g2 : (k == 0) = false := beq_eq_false_iff_ne.2 h0
    clear hk hr HW0 HC1 HC2 h3 h4
    generalize rankN xs k true = r at *
    go_enter Try.func45, Try.ntmps45
    go_wp2_with fail
    refine (CG.out ((s : Int) + 3) (by omega)).mono ?_
    rintro e w' ⟨rfl, n, rfl⟩
    go_wp2
    go_ret
    exact ⟨by first | rfl | go_num, 3, by omega, (HW.out _ (by omega)).other (drewN_below (Below.refl _ _) n)⟩
/-- does one stand at k that opens, or one that closes? -/
def isB (xs : List Bool) (k : Int) (b : Bool) : Bool := if 0 ≤ k ∧ k < xs.length then xs.getD k.toNat false == b else false
set_option maxHeartbeats 1000000 in
set_option maxRecDepth 100000 in
theorem rpis_any (B T sb s : Nat) (v : Value) (xs : List Bool) (k : Int) (b : Bool) (w : World) (hx : xs.length ≤ 4194304) (hk64 : In64 k) (hs : s ≤ 1000000) (hT : T ≤ sb) (hT2 : T ≤ w.heap.size) (hk : KeptIn B T w v xs)
    (hr : w.rowIs sb 3 1 (fun _ => .int .i64 s)) :
    Calls Try.prog 56 #[.agg #[v], .int .i64 k, .bool b, .pointer (some ⟨sb, 0, none⟩)] w fun e w' => e = .returned (.bool (isB xs k b)) ∧ ∃ d, d ≤ 1 ∧ Went sb (s + d) w w' := by
  have HW0 := Lib.hid (Went.stay hr ((Below.refl w.heap.size w).alloc (Nat.le_refl _) (.cells #[v] 48)))
  have h3 : (w.alloc (.cells #[v] 48)).cell? ⟨w.heap.size, 0, none⟩ = some v := (new_box w v _).cell (i := 0) Nat.one_pos
  have hkA := HW0.out.keptIn hT hT2 hk
  have hsz : T ≤ (w.alloc (.cells #[v] 48)).heap.size := by show T ≤ (w.heap.push _).size; rw [Array.size_push]; omega
  have CL := Lib.hid (rplen_any B v xs _ hkA.kept)
  by_cases h0 : k < 0
  · have e1 : isB xs k b = false := by unfold isB; rw [if_neg (by omega)]
    rw [e1]
    clear e1 hk hkA hr CL
    go_enter Try.func56, Try.ntmps56
    go_wp2
    go_ret
    exact ⟨rfl, 0, by omega, HW0.out⟩
  · obtain ⟨j, rfl⟩ := Int.eq_ofNat_of_zero_le (show 0 ≤ k by omega)
    by_cases h1 : j < xs.length
    · have e1 : isB xs (j : Int) b = (xs.getD j false == b) := by unfold isB; rw [if_pos (by omega), Int.toNat_natCast]
      rw [e1]
      have CA := Lib.hid (fun W (hb : Below (w.alloc (.cells #[v] 48)).heap.size (w.alloc (.cells #[v] 48)) W) => rpat_any B T sb s v xs j W hx h1 hs hT (by have := hb.size; omega) ((HW0.out.other hb).keptIn hT hT2 hk) (HW0.out.other hb).row)
      have HC := Lib.hid (fun W (hb : Below (w.alloc (.cells #[v] 48)).heap.size (w.alloc (.cells #[v] 48)) W) => hb.cell (p := ⟨w.heap.size, 0, none⟩) (new_box w v _).lt)
      have g1 : decide (xs.length ≤ j) = false := decide_eq_false (by omega)
      generalize xs.getD j false = x at *
      clear e1 hk hkA hr
      go_enter Try.func56, Try.ntmps56
      go_wp2_with fail
      refine CL.out.mono ?_
      rintro e w1 ⟨rfl, hb1⟩
      have h4 := (HC.out w1 hb1).trans h3
      go_wp2_with fail
      refine (CA.out w1 hb1).mono ?_
      rintro e w2 ⟨rfl, hw2⟩
      go_wp2
      go_ret
      exact ⟨rfl, 1, by omega, (HW0.out.other hb1).trans hw2⟩
    · have e1 : isB xs (j : Int) b = false := by unfold isB; rw [if_neg (by omega)]
      rw [e1]
      have g1 : decide (xs.length ≤ j) = true := decide_eq_true (by omega)
      clear e1 hk hkA hr
      go_enter Try.func56, Try.ntmps56
      go_wp2_with fail
      refine CL.out.mono ?_
      rintro e w1 ⟨rfl, hb1⟩
      go_wp2
      go_ret
      exact ⟨rfl, 0, by omega, HW0.out.other hb1⟩
/-! ### rows of leasts -/
theorem rllen_any (a : Option Addr) (n cap : Nat) (w : World) : Calls Try.prog 38 #[.slice a n cap] w fun e w' => e = .returned (.int .i64 n) ∧ w = w' := by
  go_enter Try.func38, Try.ntmps38
  go_wp2
  go_ret
  exact ⟨rfl, rfl⟩
set_option maxHeartbeats 1000000 in
set_option maxRecDepth 100000 in
theorem rlfirst_any (g sb s n a z : Nat) (f : Nat → Int) (e : Int) (w : World) (hn : n ≤ 4194304) (haz : a ≤ z) (hz : z ≤ n) (hs : s ≤ 1000000) (hf : ∀ i, -4194304 ≤ f i ∧ f i ≤ 4194304) (hgs : g ≠ sb)
    (hrow : w.rowIs g 21 n (fun i => .int .i32 (f i))) (hr : w.rowIs sb 3 1 (fun _ => .int .i64 s)) :
    Calls Try.prog 89 #[.slice (some ⟨g, 0, none⟩) n n, .int .i64 a, .int .i64 z, .int .i64 e, .pointer (some ⟨sb, 0, none⟩)] w fun o w' =>
      ∃ r, o = .returned (.int .i64 (r : Nat)) ∧ FirstP f e a z r ∧ ∃ d, d ≤ z - a ∧ Went sb (s + d) w w' := by
  have HR := Lib.hid hrow
  have HF := Lib.hid hf
  have H0 := Lib.hid (Went.stay hr (Below.refl _ w))
  clear hrow hf hr
  go_enter Try.func89, Try.ntmps89
  go_wp2
  go_loopw [11] (fun iv wr => ∃ i : Nat, a ≤ i ∧ i ≤ z ∧ iv = .int .i64 i ∧ (∀ j, a ≤ j → j < i → e < f j) ∧ Went sb (s + (i - a)) w wr) (fun iv _ => z - (intOf iv).toNat)
  case atStart => exact ⟨a, Nat.le_refl _, haz, rfl, fun j h1 h2 => by omega, by rw [Nat.sub_self]; exact H0.out⟩
  case round =>
    obtain ⟨i, hai, hiz, rfl, hno, hw⟩ := hrel
    have HN := Lib.hid hno
    have HW := Lib.hid hw
    clear hno hw
    by_cases hlt : i < z
    · have hin : i < n := by omega
      have hc1 := HW.out.row.cell (i := 0) Nat.one_pos
      have hc2 := HW.out.row.frozen 0
      obtain ⟨t, ht⟩ : ∃ t, s + (i - a) = t := ⟨_, rfl⟩
      rw [ht] at hc1 HW
      have htb : t ≤ 9000000 := by omega
      have HT := Lib.hid ht
      clear ht
      have HS := Lib.hid (HW.out.set (t := t + 1) ((t : Int) + 1) (by omega))
      have hc3 : (wr.setCell ⟨sb, 0, none⟩ (.int .i64 ((t : Int) + 1))).cell? ⟨g, i, none⟩ = some (.int .i32 (f i)) := by
        rw [World.cell?_of_block (w := wr) (Below.heap_setCell _ _ _ _ (show g ≠ sb from hgs))]
        rw [World.cell?_of_block (w := w) (HW.out.apart.block g (HR.out.lt) (by omega))]
        exact HR.out.cell hin
      have hfb := HF.out i
      obtain ⟨fi, hfi⟩ : ∃ fi, f i = fi := ⟨_, rfl⟩
      rw [hfi] at hc3 hfb
      have HFI := Lib.hid hfi
      clear hfi
      by_cases hle : fi ≤ e
      · have g1 : decide (fi ≤ e) = true := decide_eq_true hle
        go_wp2
        go_ret
        exact ⟨i, rfl, ⟨hai, hiz, HN.out, fun _ => by rw [HFI.out]; exact hle⟩, i - a + 1, by omega, by rw [show s + (i - a + 1) = t + 1 by have := HT.out; omega]; exact HS.out⟩
      · have g1 : decide (fi ≤ e) = false := decide_eq_false hle
        go_wp2
        go_roundw
        case rel => exact ⟨i + 1, by omega, by omega, by go_num, fun j h1 h2 => by
          by_cases hj : j < i
          · exact HN.out j h1 hj
          · obtain rfl : j = i := by omega
            rw [HFI.out]; omega, by rw [show s + (i + 1 - a) = t + 1 by have := HT.out; omega]; exact HS.out⟩
        case measure => simp [intOf]; omega
    · have hiz2 : i = z := by omega
      subst hiz2
      go_wp2
      go_ret
      exact ⟨i, rfl, ⟨hai, Nat.le_refl _, HN.out, fun h => absurd h (Nat.lt_irrefl _)⟩, i - a, Nat.le_refl _, HW.out⟩
set_option maxHeartbeats 1000000 in
set_option maxRecDepth 100000 in
theorem rllast_any (g sb s n a z : Nat) (f : Nat → Int) (e : Int) (w : World) (hn : n ≤ 4194304) (haz : a ≤ z) (hz : z ≤ n) (hs : s ≤ 1000000) (hf : ∀ i, -4194304 ≤ f i ∧ f i ≤ 4194304) (hgs : g ≠ sb)
    (hrow : w.rowIs g 21 n (fun i => .int .i32 (f i))) (hr : w.rowIs sb 3 1 (fun _ => .int .i64 s)) :
    Calls Try.prog 90 #[.slice (some ⟨g, 0, none⟩) n n, .int .i64 a, .int .i64 z, .int .i64 e, .pointer (some ⟨sb, 0, none⟩)] w fun o w' =>
      ∃ r : Nat, o = .returned (.int .i64 ((r : Int) - 1)) ∧ LastP f e a z r ∧ ∃ d, d ≤ z - a ∧ Went sb (s + d) w w' := by
  have HR := Lib.hid hrow
  have HF := Lib.hid hf
  have H0 := Lib.hid (Went.stay hr (Below.refl _ w))
  clear hrow hf hr
  go_enter Try.func90, Try.ntmps90
  go_wp2
  go_loopw [11] (fun iv wr => ∃ i : Nat, a ≤ i ∧ i ≤ z ∧ iv = .int .i64 ((i : Int) - 1) ∧ (∀ j, i ≤ j → j < z → e < f j) ∧ Went sb (s + (z - i)) w wr) (fun iv _ => (intOf iv + 1).toNat)
  case atStart => exact ⟨z, haz, Nat.le_refl _, rfl, fun j h1 h2 => by omega, by rw [Nat.sub_self]; exact H0.out⟩
  case round =>
    obtain ⟨i, hai, hiz, rfl, hno, hw⟩ := hrel
    have HN := Lib.hid hno
    have HW := Lib.hid hw
    clear hno hw
    by_cases hlt : a < i
    · obtain ⟨m, rfl⟩ : ∃ m, i = m + 1 := ⟨i - 1, by omega⟩
      have e0 : ((m + 1 : Nat) : Int) - 1 = (m : Int) := by omega
      rw [e0]
      have hin : m < n := by omega
      have hc1 := HW.out.row.cell (i := 0) Nat.one_pos
      have hc2 := HW.out.row.frozen 0
      obtain ⟨t, ht⟩ : ∃ t, s + (z - (m + 1)) = t := ⟨_, rfl⟩
      rw [ht] at hc1 HW
      have htb : t ≤ 9000000 := by omega
      have HT := Lib.hid ht
      clear ht
      have HS := Lib.hid (HW.out.set (t := t + 1) ((t : Int) + 1) (by omega))
      have hc3 : (wr.setCell ⟨sb, 0, none⟩ (.int .i64 ((t : Int) + 1))).cell? ⟨g, m, none⟩ = some (.int .i32 (f m)) := by
        rw [World.cell?_of_block (w := wr) (Below.heap_setCell _ _ _ _ (show g ≠ sb from hgs))]
        rw [World.cell?_of_block (w := w) (HW.out.apart.block g (HR.out.lt) (by omega))]
        exact HR.out.cell hin
      have hfb := HF.out m
      obtain ⟨fi, hfi⟩ : ∃ fi, f m = fi := ⟨_, rfl⟩
      rw [hfi] at hc3 hfb
      have HFI := Lib.hid hfi
      clear hfi
      by_cases hle : fi ≤ e
      · have g1 : decide (fi ≤ e) = true := decide_eq_true hle
        go_wp2
        go_ret
        exact ⟨m + 1, by rw [e0]; rfl, ⟨hai, hiz, HN.out, fun _ => by rw [Nat.add_sub_cancel, HFI.out]; exact hle⟩, z - m, by omega, by rw [show s + (z - m) = t + 1 by have := HT.out; omega]; exact HS.out⟩
      · have g1 : decide (fi ≤ e) = false := decide_eq_false hle
        go_wp2
        go_roundw
        case rel => exact ⟨m, by omega, by omega, by first | rfl | go_num, fun j h1 h2 => by
          by_cases hj : m + 1 ≤ j
          · exact HN.out j hj h2
          · obtain rfl : j = m := by omega
            rw [HFI.out]; omega, by rw [show s + (z - m) = t + 1 by have := HT.out; omega]; exact HS.out⟩
        case measure => first | (simp [intOf]; done) | (simp [intOf]; omega)
    · have hiz2 : i = a := by omega
      subst hiz2
      have g1 : decide ((i : Int) ≤ (i : Int) - 1) = false := decide_eq_false (by omega)
      go_wp2
      go_ret
      exact ⟨i, rfl, ⟨Nat.le_refl _, hiz, HN.out, fun h => absurd h (Nat.lt_irrefl _)⟩, z - i, Nat.le_refl _, HW.out⟩
end Go.Proofs.Yteecanaibkpmfaa
