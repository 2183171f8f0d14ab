/-
  PLAIN MATHEMATICS OF THE LANDED PACKAGE paren: levels of least excesses over a row, and what is found by them.
  THE LANDED PACKAGE paren: its small functions, and the count of steps.
  THE LANDED PACKAGE paren: searches in the row itself.
  THE LANDED PACKAGE paren: how a Paren lies in memory, and its way down from a thing to a place.
-/
import Derived.Test.YteecanaibkpmfaaParLaws
import Derived.Test.YteecanaibkpmfaaRunBitA
import Derived.Test.YteecanaibkpmfaaApart
import Derived.Deep.RegionHeld3
import Derived.RegionTactic
import Derived.BigRegion
import Derived.KernelRfl
namespace Go.Proofs.Yteecanaibkpmfaa

/-- the least of f a .. f (a + m) -/
def lowF (f : Nat → Int) (a : Nat) : Nat → Int
  | 0 => f a
  | m + 1 => min (lowF f a m) (f (a + m + 1))
theorem lowF_le (f : Nat → Int) (a : Nat) : ∀ m j, a ≤ j → j ≤ a + m → lowF f a m ≤ f j
  | 0, j, h1, h2 => by obtain rfl : j = a := by omega
                       exact Int.le_refl _
  | m + 1, j, h1, h2 => by
    show min (lowF f a m) (f (a + m + 1)) ≤ f j
    by_cases e : j = a + m + 1
    · subst e; omega
    · have := lowF_le f a m j h1 (by omega)
      omega
theorem lowF_at (f : Nat → Int) (a : Nat) : ∀ m, ∃ j, a ≤ j ∧ j ≤ a + m ∧ lowF f a m = f j
  | 0 => ⟨a, Nat.le_refl _, Nat.le_refl _, rfl⟩
  | m + 1 => by
    obtain ⟨j, h1, h2, h3⟩ := lowF_at f a m
    by_cases h : lowF f a m ≤ f (a + m + 1)
    · exact ⟨j, h1, by omega, by show min (lowF f a m) (f (a + m + 1)) = _; omega⟩
    · exact ⟨a + m + 1, by omega, by omega, by show min (lowF f a m) (f (a + m + 1)) = _; omega⟩

/-- how many things of level l make one of the next -/
def grpP (l : Nat) : Nat := if l = 0 then 128 else 8
/-- how many places a thing of level l stands for -/
def widP : Nat → Nat
  | 0 => 1
  | l + 1 => widP l * grpP l
/-- how many things of level l there are over n places -/
def cntP (n : Nat) : Nat → Nat
  | 0 => n
  | l + 1 => begunN (cntP n l) (grpP l)
/-- the least excess of the i-th thing of level l -/
def leastP (xs : List Bool) : Nat → Nat → Int
  | 0, i => exc xs (i + 1)
  | l + 1, i => lowF (leastP xs l) (grpP l * i) (min (grpP l * i + grpP l) (cntP xs.length l) - grpP l * i - 1)
theorem grp_pos (l : Nat) : 0 < grpP l := by unfold grpP; split <;> omega
theorem wid_pos : ∀ l, 0 < widP l
  | 0 => Nat.one_pos
  | l + 1 => Nat.mul_pos (wid_pos l) (grp_pos l)
theorem cnt_next (n l : Nat) : cntP n (l + 1) = (cntP n l + grpP l - 1) / grpP l := rfl
theorem lt_begun {i n g : Nat} (hg : 0 < g) : i < (n + g - 1) / g ↔ g * i < n := by
  rw [Nat.lt_iff_add_one_le, Nat.le_div_iff_mul_le hg, Nat.add_mul, Nat.one_mul, Nat.mul_comm i g]
  omega
theorem lt_cnt (n : Nat) : ∀ l i, i < cntP n l ↔ widP l * i < n
  | 0, i => by show i < n ↔ 1 * i < n; rw [Nat.one_mul]
  | l + 1, i => by
    rw [cnt_next, lt_begun (grp_pos l), lt_cnt n l]
    show widP l * (grpP l * i) < n ↔ widP l * grpP l * i < n
    rw [Nat.mul_assoc]
theorem least_ge (xs : List Bool) : ∀ l i p, widP l * i ≤ p → p < widP l * (i + 1) → p < xs.length → leastP xs l i ≤ exc xs (p + 1)
  | 0, i, p, h1, h2, h3 => by
    obtain rfl : p = i := by simp only [widP] at h1 h2; omega
    exact Int.le_refl _
  | l + 1, i, p, h1, h2, h3 => by
    have hw := wid_pos l
    have hg := grp_pos l
    have e1 : widP (l + 1) * i = widP l * (grpP l * i) := Nat.mul_assoc _ _ _
    have e2 : widP (l + 1) * (i + 1) = widP l * (grpP l * i + grpP l) := by show widP l * grpP l * (i + 1) = _; rw [Nat.mul_assoc, Nat.mul_add, Nat.mul_one]
    rw [e1] at h1; rw [e2] at h2
    have d1 : grpP l * i ≤ p / widP l := (Nat.le_div_iff_mul_le hw).2 (by rw [Nat.mul_comm]; exact h1)
    have d2 : p / widP l < grpP l * i + grpP l := (Nat.div_lt_iff_lt_mul hw).2 (by rw [Nat.mul_comm]; exact h2)
    have m1 := Nat.div_add_mod p (widP l)
    have m2 := Nat.mod_lt p hw
    have d3 : p / widP l < cntP xs.length l := (lt_cnt _ _ _).2 (by omega)
    have ih := least_ge xs l (p / widP l) p (by omega) (by rw [Nat.mul_add, Nat.mul_one]; omega) h3
    refine Int.le_trans (lowF_le (leastP xs l) (grpP l * i) _ (p / widP l) d1 (by omega)) ih
theorem least_child (xs : List Bool) (l i : Nat) (hi : i < cntP xs.length (l + 1)) : ∃ j, grpP l * i ≤ j ∧ j < min (grpP l * i + grpP l) (cntP xs.length l) ∧ leastP xs (l + 1) i = leastP xs l j := by
  rw [cnt_next, lt_begun (grp_pos l)] at hi
  have hg := grp_pos l
  obtain ⟨j, h1, h2, h3⟩ := lowF_at (leastP xs l) (grpP l * i) (min (grpP l * i + grpP l) (cntP xs.length l) - grpP l * i - 1)
  exact ⟨j, h1, by omega, h3⟩
theorem exc_bound (xs : List Bool) : ∀ m : Nat, -(xs.length : Int) ≤ exc xs m ∧ exc xs m ≤ xs.length
  | 0 => by simp [exc]
  | m + 1 => by
    have h1 := exc_abs xs (m + 1)
    by_cases h : m < xs.length
    · omega
    · have : exc xs (m + 1) = exc xs m := by show exc xs m + (if m < xs.length then _ else 0) = _; rw [if_neg h, Int.add_zero]
      rw [this]
      exact exc_bound xs m
theorem lowF_bound (f : Nat → Int) (N : Int) (h : ∀ i, -N ≤ f i ∧ f i ≤ N) (a m : Nat) : -N ≤ lowF f a m ∧ lowF f a m ≤ N := by
  obtain ⟨j, _, _, e⟩ := lowF_at f a m
  rw [e]; exact h j
theorem least_bound (xs : List Bool) : ∀ l i, -(xs.length : Int) ≤ leastP xs l i ∧ leastP xs l i ≤ xs.length
  | 0, i => exc_bound xs (i + 1)
  | l + 1, _ => lowF_bound _ _ (least_bound xs l) _ _

/-! ### searches -/
/-- r is the first of from .. to (less to) whose f comes down to e; to, if there is none -/
structure FirstP (f : Nat → Int) (e : Int) (a z r : Nat) : Prop where
  lo : a ≤ r
  hi : r ≤ z
  none : ∀ i, a ≤ i → i < r → e < f i
  found : r < z → f r ≤ e
/-- r - 1 is the last of a .. z (less z) whose f comes down to e; a - 1, if there is none -/
structure LastP (f : Nat → Int) (e : Int) (a z r : Nat) : Prop where
  lo : a ≤ r
  hi : r ≤ z
  none : ∀ i, r ≤ i → i < z → e < f i
  found : a < r → f (r - 1) ≤ e
/-- behind none of the places a .. z (less z) does the excess come down to e -/
def HighP (xs : List Bool) (e : Int) (a z : Nat) : Prop := ∀ p, a ≤ p → p < z → p < xs.length → e < exc xs (p + 1)
theorem HighP.join {xs : List Bool} {e : Int} {a m z : Nat} (h1 : HighP xs e a m) (h2 : HighP xs e m z) : HighP xs e a z := fun p ha hz hn => by
  by_cases h : p < m
  · exact h1 p ha h hn
  · exact h2 p (by omega) hz hn
theorem high_of (xs : List Bool) (e : Int) (l a z : Nat) (h : ∀ i, a ≤ i → i < z → e < leastP xs l i) : HighP xs e (widP l * a) (widP l * z) := fun p ha hz hn => by
  have hw := wid_pos l
  have d1 : a ≤ p / widP l := (Nat.le_div_iff_mul_le hw).2 (by rw [Nat.mul_comm]; exact ha)
  have d2 : p / widP l < z := (Nat.div_lt_iff_lt_mul hw).2 (by rw [Nat.mul_comm]; exact hz)
  have m1 := Nat.div_add_mod p (widP l)
  have m2 := Nat.mod_lt p hw
  have h1 := h _ d1 d2
  have h2 := least_ge xs l (p / widP l) p (by omega) (by rw [Nat.mul_add, Nat.mul_one]; omega) hn
  omega
/-- FROM A THING DOWN TO THE FIRST OF ITS PARTS. -/
theorem first_down {xs : List Bool} {e : Int} {l i r : Nat} (hi : i < cntP xs.length (l + 1)) (hl : leastP xs (l + 1) i ≤ e) (h : FirstP (leastP xs l) e (grpP l * i) (min (grpP l * i + grpP l) (cntP xs.length l)) r) :
    r < cntP xs.length l ∧ leastP xs l r ≤ e ∧ widP (l + 1) * i ≤ widP l * r ∧ HighP xs e (widP (l + 1) * i) (widP l * r) := by
  obtain ⟨j, h1, h2, h3⟩ := least_child xs l i hi
  have hr : r < min (grpP l * i + grpP l) (cntP xs.length l) := by
    by_cases hc : r < min (grpP l * i + grpP l) (cntP xs.length l)
    · exact hc
    · have := h.none j h1 (by have := h.hi; omega)
      omega
  have e1 : widP (l + 1) * i = widP l * (grpP l * i) := Nat.mul_assoc _ _ _
  rw [e1]
  exact ⟨by omega, h.found hr, Nat.mul_le_mul_left _ h.lo, high_of xs e l _ _ h.none⟩
/-- FROM A THING DOWN TO THE LAST OF ITS PARTS. -/
theorem last_down {xs : List Bool} {e : Int} {l i r : Nat} (hi : i < cntP xs.length (l + 1)) (hl : leastP xs (l + 1) i ≤ e) (h : LastP (leastP xs l) e (grpP l * i) (min (grpP l * i + grpP l) (cntP xs.length l)) r) :
    0 < r ∧ r - 1 < cntP xs.length l ∧ leastP xs l (r - 1) ≤ e ∧ widP l * r ≤ widP (l + 1) * (i + 1) ∧ HighP xs e (widP l * r) (widP (l + 1) * (i + 1)) := by
  obtain ⟨j, h1, h2, h3⟩ := least_child xs l i hi
  have hr : grpP l * i < r := by
    by_cases hc : grpP l * i < r
    · exact hc
    · have := h.none j (by have := h.lo; omega) h2
      omega
  have e2 : widP (l + 1) * (i + 1) = widP l * (grpP l * i + grpP l) := by show widP l * grpP l * (i + 1) = _; rw [Nat.mul_assoc, Nat.mul_add, Nat.mul_one]
  have hh := h.hi
  refine ⟨by omega, by omega, h.found hr, by rw [e2]; exact Nat.mul_le_mul_left _ (by omega), ?_⟩
  rw [e2]
  intro p ha hz hn
  refine high_of xs e l r (min (grpP l * i + grpP l) (cntP xs.length l)) h.none p ha ?_ hn
  by_cases hc : cntP xs.length l ≤ grpP l * i + grpP l
  · rw [Nat.min_eq_right hc]
    by_cases hq : p < widP l * cntP xs.length l
    · exact hq
    · exact absurd ((lt_cnt xs.length l (cntP xs.length l)).2 (by omega)) (Nat.lt_irrefl _)
  · rw [Nat.min_eq_left (by omega)]; exact hz

/-! ### the levels that there are -/
/-- P parts: the row, and levels of leasts up to one of at most eight -/
structure TopP (n P : Nat) : Prop where
  one : 1 ≤ P
  none : n = 0 → P = 1
  some : 0 < n → 2 ≤ P
  more : ∀ l, 1 ≤ l → l + 1 < P → 8 < cntP n l
  top : 2 ≤ P → cntP n (P - 1) ≤ 8
theorem cnt_one (n : Nat) : cntP n 1 = (n + 127) / 128 := by
  show (n + 128 - 1) / 128 = _
  rw [show n + 128 - 1 = n + 127 by omega]
theorem cnt_two (n l : Nat) : cntP n (l + 2) = (cntP n (l + 1) + 7) / 8 := by
  rw [cnt_next, show grpP (l + 1) = 8 from if_neg (Nat.succ_ne_zero l)]
  rw [show cntP n (l + 1) + 8 - 1 = cntP n (l + 1) + 7 by omega]
theorem top_few {n P : Nat} (h : TopP n P) (hn : n ≤ 4194304) : P ≤ 6 := by
  by_cases hc : P ≤ 6
  · exact hc
  · have h5 := h.more 5 (by omega) (by omega)
    rw [show (5 : Nat) = 3 + 2 from rfl, cnt_two, show (3 : Nat) + 1 = 2 + 2 from rfl, cnt_two, show (2 : Nat) + 1 = 1 + 2 from rfl, cnt_two, show (1 : Nat) + 1 = 0 + 2 from rfl, cnt_two, show (0 : Nat) + 1 = 1 from rfl, cnt_one] at h5
    omega
end Go.Proofs.Yteecanaibkpmfaa
namespace Go.Proofs.Yteecanaibkpmfaa
open Go.RowKit

theorem rrise_any (b : Bool) (w : World) : Calls Try.prog 53 #[.bool b] w fun e w' => e = .returned (.int .i64 (sgn b)) ∧ w = w' := by
  cases b
  · go_enter Try.func53, Try.ntmps53
    go_wp2
    go_ret
    exact ⟨rfl, rfl⟩
  · go_enter Try.func53, Try.ntmps53
    go_wp2
    go_ret
    exact ⟨rfl, rfl⟩
theorem rgroup_any (l : Nat) (w : World) : Calls Try.prog 69 #[.int .i64 l] w fun e w' => e = .returned (.int .i64 (grpP l)) ∧ w = w' := by
  by_cases h : l = 0
  · subst h
    go_enter Try.func69, Try.ntmps69
    go_wp2
    go_ret
    exact ⟨rfl, rfl⟩
  · have g1 : ((l : Int) == 0) = false := beq_eq_false_iff_ne.2 (by omega)
    have g2 : (l == 0) = false := beq_eq_false_iff_ne.2 h
    have HG : Hid (grpP l = 8) := Lib.hid (if_neg h)
    rw [HG.out]
    go_enter Try.func69, Try.ntmps69
    go_wp2
    go_ret
    exact ⟨rfl, rfl⟩

/-- bits kept in blocks from B to below T -/
def KeptIn (B T : Nat) (w : World) (v : Value) (xs : List Bool) : Prop := ∃ w0 : World, w0.heap.size ≤ T ∧ Kept B w0 v xs ∧ ∀ k, B ≤ k → k < w0.heap.size → w.heap[k]? = w0.heap[k]?
theorem KeptIn.kept {B T : Nat} {w : World} {v : Value} {xs : List Bool} (h : KeptIn B T w v xs) : Kept B w v xs := by
  obtain ⟨w0, _, h1, h2⟩ := h
  exact kept_keep B w0 w v xs h1 h2
theorem KeptIn.keep {B T : Nat} {w w' : World} {v : Value} {xs : List Bool} (h : KeptIn B T w v xs) (hk : ∀ k, B ≤ k → k < T → w'.heap[k]? = w.heap[k]?) : KeptIn B T w' v xs := by
  obtain ⟨w0, h0, h1, h2⟩ := h
  exact ⟨w0, h0, h1, fun k hk1 hk2 => (hk k hk1 (by omega)).trans (h2 k hk1 hk2)⟩

/-- FROM w TO w' NOTHING TURNS BUT THE COUNT OF STEPS, in block sb, which is s then. -/
structure Went (sb s : Nat) (w w' : World) : Prop where
  apart : Apart sb (sb + 1) w w'
  row : w'.rowIs sb 3 1 (fun _ => .int .i64 s)
theorem Apart.trans {B T : Nat} {w w' w'' : World} (h : Apart B T w w') (k : Apart B T w' w'') : Apart B T w w'' :=
  ⟨k.os.trans h.os, k.tape.trans h.tape, k.output.trans h.output, Nat.le_trans h.size k.size, fun i hi h2 => (k.block i (by have := h.size; omega) h2).trans (h.block i hi h2)⟩
theorem Went.trans {sb s t : Nat} {w w' w'' : World} (h : Went sb s w w') (k : Went sb t w' w'') : Went sb t w w'' := ⟨h.apart.trans k.apart, k.row⟩
theorem Went.other {sb s : Nat} {w w' w'' : World} (h : Went sb s w w') (hb : Below w'.heap.size w' w'') : Went sb s w w'' :=
  ⟨h.apart.trans (Apart.of_below hb), h.row.of_block (hb.block _ h.row.lt)⟩
theorem Went.stay {sb s : Nat} {w w' : World} (h : w.rowIs sb 3 1 (fun _ => .int .i64 s)) (hb : Below w.heap.size w w') : Went sb s w w' := ⟨Apart.of_below hb, h.of_block (hb.block _ h.lt)⟩
theorem Went.set {sb s t : Nat} {w w' : World} (h : Went sb s w w') (x : Int) (hx : x = (t : Int)) : Went sb t w (w'.setCell ⟨sb, 0, none⟩ (.int .i64 x)) := by
  subst hx
  refine ⟨⟨h.apart.os, h.apart.tape, h.apart.output, by rw [Deep.nblk_setCell]; exact h.apart.size, fun k hk h2 => ?_⟩, (h.row.set 0 _).congr fun i hi => by rw [if_pos (by omega)]⟩
  rw [Below.heap_setCell _ _ _ _ (show k ≠ sb by omega)]
  exact h.apart.block k hk h2
theorem Went.keptIn {B T sb s : Nat} {w w' : World} {v : Value} {xs : List Bool} (h : Went sb s w w') (hT : T ≤ sb) (hw : T ≤ w.heap.size) (hk : KeptIn B T w v xs) : KeptIn B T w' v xs :=
  hk.keep fun k _ h2 => h.apart.block k (by omega) (Or.inl (by omega))

set_option maxHeartbeats 1000000 in
set_option maxRecDepth 100000 in
theorem rplen_any (B : Nat) (v : Value) (xs : List Bool) (w : World) (hk : Kept B w v xs) :
    Calls Try.prog 49 #[.agg #[v]] w fun e w' => e = .returned (.int .i64 xs.length) ∧ Below w.heap.size w w' := by
  have HB := Lib.hid (fun c t => (Below.refl w.heap.size w).alloc (Nat.le_refl _) (.cells c t))
  have CL := Lib.hid (fun c t => rlen_any B v xs (w.alloc (.cells c t)) (kept_keep B w _ v xs hk fun k _ h => (HB.out c t).block k h))
  clear hk
  go_enter Try.func49, Try.ntmps49
  go_wp2_with fail
  refine (CL.out _ _).mono ?_
  rintro e w' ⟨rfl, rfl⟩
  go_wp2
  go_ret
  exact ⟨rfl, HB.out _ _⟩
theorem new_box (w : World) (v : Value) (t : TypeId) : (w.alloc (.cells #[v] t)).rowIs w.heap.size t 1 (fun _ => v) := by
  refine World.rowIs_alloc w #[v] t (fun _ => v) fun i hi => ?_
  obtain rfl : i = 0 := by have : i < 1 := hi; omega
  rfl
/-- the receiver's own cell, behind a store of the count -/
theorem box_cell (w : World) (v x : Value) (t : TypeId) (sb : Nat) (h : sb < w.heap.size) : ((w.alloc (.cells #[v] t)).setCell ⟨sb, 0, none⟩ x).cell? ⟨w.heap.size, 0, none⟩ = some v :=
  World.rowIs.cell (i := 0) ((new_box w v t).setOther (a := ⟨sb, 0, none⟩) (show w.heap.size ≠ sb by omega) x) Nat.one_pos
/-- the count grows by one, and the sign at k is told -/
theorem at_get {xs : List Bool} {k : Nat} (h : k < xs.length) : getB xs (k : Int) = xs.getD k false := by
  unfold getB
  rw [if_pos (by omega), Int.toNat_natCast]
set_option maxHeartbeats 1000000 in
set_option maxRecDepth 100000 in
theorem rpat_any (B T sb s : Nat) (v : Value) (xs : List Bool) (k : Nat) (w : World) (hx : xs.length ≤ 4194304) (hlt : k < xs.length) (hs : s ≤ 1000000) (hT : T ≤ sb) (hT2 : T ≤ w.heap.size) (hk : KeptIn B T w v xs)
    (hr : w.rowIs sb 3 1 (fun _ => .int .i64 s)) :
    Calls Try.prog 68 #[.agg #[v], .int .i64 k, .pointer (some ⟨sb, 0, none⟩)] w fun e w' => e = .returned (.bool (xs.getD k false)) ∧ Went sb (s + 1) w w' := by
  have hg := at_get hlt
  have HW0 := Lib.hid (fun c t => Went.stay hr ((Below.refl w.heap.size w).alloc (Nat.le_refl _) (.cells c t)))
  have HC1 := Lib.hid (fun c t => ((HW0.out c t).row.cell (i := 0) Nat.one_pos))
  have HC2 := Lib.hid (fun c t => ((HW0.out c t).row.frozen 0))
  have h1 := HC1.out #[v] 48
  have h2 := HC2.out #[v] 48
  have HW := Lib.hid (fun (x : Int) (hx : x = ((s + 1 : Nat) : Int)) => (HW0.out #[v] 48).set x hx)
  have CG := Lib.hid (fun (x : Int) (hy : x = ((s + 1 : Nat) : Int)) => rget_any B v xs k _ ((HW.out x hy).keptIn hT hT2 hk).kept hx ⟨by omega, by omega⟩)
  have HG := Lib.hid hg
  have h3 := box_cell w v (.int .i64 ((s : Int) + 1)) 48 sb hr.lt
  clear hk hr hg HW0 HC1 HC2
  go_enter Try.func68, Try.ntmps68
  go_wp2_with fail
  refine (CG.out ((s : Int) + 1) (by omega)).mono ?_
  rintro e w' ⟨rfl, rfl⟩
  go_wp2
  go_ret
  exact ⟨by rw [HG.out]; rfl, HW.out _ (by omega)⟩
set_option maxHeartbeats 1000000 in
set_option maxRecDepth 100000 in
theorem rpexc_any (B T sb s : Nat) (v : Value) (xs : List Bool) (k : Nat) (w : World) (hx : xs.length ≤ 4194304) (hle : k ≤ xs.length) (hs : s ≤ 1000000) (hT : T ≤ sb) (hT2 : T ≤ w.heap.size) (hk : KeptIn B T w v xs)
    (hr : w.rowIs sb 3 1 (fun _ => .int .i64 s)) :
    Calls Try.prog 45 #[.agg #[v], .int .i64 k, .pointer (some ⟨sb, 0, none⟩)] w fun e w' => e = .returned (.int .i64 (exc xs k)) ∧ ∃ d, d ≤ 3 ∧ Went sb (s + d) w w' := by
  have HW0 := Lib.hid (fun c t => Went.stay hr ((Below.refl w.heap.size w).alloc (Nat.le_refl _) (.cells c t)))
  by_cases h0 : k = 0
  · subst h0
    clear hk hr
    go_enter Try.func45, Try.ntmps45
    go_wp2
    go_ret
    exact ⟨rfl, 0, by omega, HW0.out _ _⟩
  · have HC1 := Lib.hid (fun c t => ((HW0.out c t).row.cell (i := 0) Nat.one_pos))
    have HC2 := Lib.hid (fun c t => ((HW0.out c t).row.frozen 0))
    have h1 := HC1.out #[v] 48
    have h2 := HC2.out #[v] 48
    have HW := Lib.hid (fun (x : Int) (hx : x = ((s + 3 : Nat) : Int)) => (HW0.out #[v] 48).set x hx)
    have CG := Lib.hid (fun (x : Int) (hy : x = ((s + 3 : Nat) : Int)) => rrank_any B v xs k true _ ((HW.out x hy).keptIn hT hT2 hk).kept hx)
    have h3 := rank_both xs k hle
    have h5 := box_cell w v (.int .i64 ((s : Int) + 3)) 48 sb hr.lt
    have h4 := exc_rank xs k hle
    have HR : Hid (rankL xs (k : Int) true = rankN xs k true) := Lib.hid (by unfold rankL; rw [Int.toNat_natCast])
    rw [HR.out] at CG
    have hrb := rankN_le xs k true
    have HE : Hid (exc xs k = 2 * (rankN xs k true : Int) - (k : Int)) := Lib.hid (by omega)
    rw [HE.out]
    have g1 : ((k : Int) == 0) = false := beq_eq_false_iff_ne.2 (by omega)
    have g2 : (k == 0) = false := beq_eq_false_iff_ne.2 h0
    clear hk hr HW0 HC1 HC2 h3 h4
    generalize rankN xs k true = r at *
    go_enter Try.func45, Try.ntmps45
    go_wp2_with fail
    refine (CG.out ((s : Int) + 3) (by omega)).mono ?_
    rintro e w' ⟨rfl, n, rfl⟩
    go_wp2
    go_ret
    exact ⟨by first | rfl | go_num, 3, by omega, (HW.out _ (by omega)).other (drewN_below (Below.refl _ _) n)⟩
/-- does one stand at k that opens, or one that closes? -/
def isB (xs : List Bool) (k : Int) (b : Bool) : Bool := if 0 ≤ k ∧ k < xs.length then xs.getD k.toNat false == b else false
set_option maxHeartbeats 1000000 in
set_option maxRecDepth 100000 in
theorem rpis_any (B T sb s : Nat) (v : Value) (xs : List Bool) (k : Int) (b : Bool) (w : World) (hx : xs.length ≤ 4194304) (hk64 : In64 k) (hs : s ≤ 1000000) (hT : T ≤ sb) (hT2 : T ≤ w.heap.size) (hk : KeptIn B T w v xs)
    (hr : w.rowIs sb 3 1 (fun _ => .int .i64 s)) :
    Calls Try.prog 56 #[.agg #[v], .int .i64 k, .bool b, .pointer (some ⟨sb, 0, none⟩)] w fun e w' => e = .returned (.bool (isB xs k b)) ∧ ∃ d, d ≤ 1 ∧ Went sb (s + d) w w' := by
  have HW0 := Lib.hid (Went.stay hr ((Below.refl w.heap.size w).alloc (Nat.le_refl _) (.cells #[v] 48)))
  have h3 : (w.alloc (.cells #[v] 48)).cell? ⟨w.heap.size, 0, none⟩ = some v := (new_box w v _).cell (i := 0) Nat.one_pos
  have hkA := HW0.out.keptIn hT hT2 hk
  have hsz : T ≤ (w.alloc (.cells #[v] 48)).heap.size := by show T ≤ (w.heap.push _).size; rw [Array.size_push]; omega
  have CL := Lib.hid (rplen_any B v xs _ hkA.kept)
  by_cases h0 : k < 0
  · have e1 : isB xs k b = false := by unfold isB; rw [if_neg (by omega)]
    rw [e1]
    clear e1 hk hkA hr CL
    go_enter Try.func56, Try.ntmps56
    go_wp2
    go_ret
    exact ⟨rfl, 0, by omega, HW0.out⟩
  · obtain ⟨j, rfl⟩ := Int.eq_ofNat_of_zero_le (show 0 ≤ k by omega)
    by_cases h1 : j < xs.length
    · have e1 : isB xs (j : Int) b = (xs.getD j false == b) := by unfold isB; rw [if_pos (by omega), Int.toNat_natCast]
      rw [e1]
      have CA := Lib.hid (fun W (hb : Below (w.alloc (.cells #[v] 48)).heap.size (w.alloc (.cells #[v] 48)) W) => rpat_any B T sb s v xs j W hx h1 hs hT (by have := hb.size; omega) ((HW0.out.other hb).keptIn hT hT2 hk) (HW0.out.other hb).row)
      have HC := Lib.hid (fun W (hb : Below (w.alloc (.cells #[v] 48)).heap.size (w.alloc (.cells #[v] 48)) W) => hb.cell (p := ⟨w.heap.size, 0, none⟩) (new_box w v _).lt)
      have g1 : decide (xs.length ≤ j) = false := decide_eq_false (by omega)
      generalize xs.getD j false = x at *
      clear e1 hk hkA hr
      go_enter Try.func56, Try.ntmps56
      go_wp2_with fail
      refine CL.out.mono ?_
      rintro e w1 ⟨rfl, hb1⟩
      have h4 := (HC.out w1 hb1).trans h3
      go_wp2_with fail
      refine (CA.out w1 hb1).mono ?_
      rintro e w2 ⟨rfl, hw2⟩
      go_wp2
      go_ret
      exact ⟨rfl, 1, by omega, (HW0.out.other hb1).trans hw2⟩
    · have e1 : isB xs (j : Int) b = false := by unfold isB; rw [if_neg (by omega)]
      rw [e1]
      have g1 : decide (xs.length ≤ j) = true := decide_eq_true (by omega)
      clear e1 hk hkA hr
      go_enter Try.func56, Try.ntmps56
      go_wp2_with fail
      refine CL.out.mono ?_
      rintro e w1 ⟨rfl, hb1⟩
      go_wp2
      go_ret
      exact ⟨rfl, 0, by omega, HW0.out.other hb1⟩
/-! ### rows of leasts -/
theorem rllen_any (a : Option Addr) (n cap : Nat) (w : World) : Calls Try.prog 38 #[.slice a n cap] w fun e w' => e = .returned (.int .i64 n) ∧ w = w' := by
  go_enter Try.func38, Try.ntmps38
  go_wp2
  go_ret
  exact ⟨rfl, rfl⟩
set_option maxHeartbeats 1000000 in
set_option maxRecDepth 100000 in
theorem rlfirst_any (g sb s n a z : Nat) (f : Nat → Int) (e : Int) (w : World) (hn : n ≤ 4194304) (haz : a ≤ z) (hz : z ≤ n) (hs : s ≤ 1000000) (hf : ∀ i, -4194304 ≤ f i ∧ f i ≤ 4194304) (hgs : g ≠ sb)
    (hrow : w.rowIs g 21 n (fun i => .int .i32 (f i))) (hr : w.rowIs sb 3 1 (fun _ => .int .i64 s)) :
    Calls Try.prog 89 #[.slice (some ⟨g, 0, none⟩) n n, .int .i64 a, .int .i64 z, .int .i64 e, .pointer (some ⟨sb, 0, none⟩)] w fun o w' =>
      ∃ r, o = .returned (.int .i64 (r : Nat)) ∧ FirstP f e a z r ∧ ∃ d, d ≤ z - a ∧ Went sb (s + d) w w' := by
  have HR := Lib.hid hrow
  have HF := Lib.hid hf
  have H0 := Lib.hid (Went.stay hr (Below.refl _ w))
  clear hrow hf hr
  go_enter Try.func89, Try.ntmps89
  go_wp2
  go_loopw [11] (fun iv wr => ∃ i : Nat, a ≤ i ∧ i ≤ z ∧ iv = .int .i64 i ∧ (∀ j, a ≤ j → j < i → e < f j) ∧ Went sb (s + (i - a)) w wr) (fun iv _ => z - (intOf iv).toNat)
  case atStart => exact ⟨a, Nat.le_refl _, haz, rfl, fun j h1 h2 => by omega, by rw [Nat.sub_self]; exact H0.out⟩
  case round =>
    obtain ⟨i, hai, hiz, rfl, hno, hw⟩ := hrel
    have HN := Lib.hid hno
    have HW := Lib.hid hw
    clear hno hw
    by_cases hlt : i < z
    · have hin : i < n := by omega
      have hc1 := HW.out.row.cell (i := 0) Nat.one_pos
      have hc2 := HW.out.row.frozen 0
      obtain ⟨t, ht⟩ : ∃ t, s + (i - a) = t := ⟨_, rfl⟩
      rw [ht] at hc1 HW
      have htb : t ≤ 9000000 := by omega
      have HT := Lib.hid ht
      clear ht
      have HS := Lib.hid (HW.out.set (t := t + 1) ((t : Int) + 1) (by omega))
      have hc3 : (wr.setCell ⟨sb, 0, none⟩ (.int .i64 ((t : Int) + 1))).cell? ⟨g, i, none⟩ = some (.int .i32 (f i)) := by
        rw [World.cell?_of_block (w := wr) (Below.heap_setCell _ _ _ _ (show g ≠ sb from hgs))]
        rw [World.cell?_of_block (w := w) (HW.out.apart.block g (HR.out.lt) (by omega))]
        exact HR.out.cell hin
      have hfb := HF.out i
      obtain ⟨fi, hfi⟩ : ∃ fi, f i = fi := ⟨_, rfl⟩
      rw [hfi] at hc3 hfb
      have HFI := Lib.hid hfi
      clear hfi
      by_cases hle : fi ≤ e
      · have g1 : decide (fi ≤ e) = true := decide_eq_true hle
        go_wp2
        go_ret
        exact ⟨i, rfl, ⟨hai, hiz, HN.out, fun _ => by rw [HFI.out]; exact hle⟩, i - a + 1, by omega, by rw [show s + (i - a + 1) = t + 1 by have := HT.out; omega]; exact HS.out⟩
      · have g1 : decide (fi ≤ e) = false := decide_eq_false hle
        go_wp2
        go_roundw
        case rel => exact ⟨i + 1, by omega, by omega, by go_num, fun j h1 h2 => by
          by_cases hj : j < i
          · exact HN.out j h1 hj
          · obtain rfl : j = i := by omega
            rw [HFI.out]; omega, by rw [show s + (i + 1 - a) = t + 1 by have := HT.out; omega]; exact HS.out⟩
        case measure => simp [intOf]; omega
    · have hiz2 : i = z := by omega
      subst hiz2
      go_wp2
      go_ret
      exact ⟨i, rfl, ⟨hai, Nat.le_refl _, HN.out, fun h => absurd h (Nat.lt_irrefl _)⟩, i - a, Nat.le_refl _, HW.out⟩
set_option maxHeartbeats 1000000 in
set_option maxRecDepth 100000 in
theorem rllast_any (g sb s n a z : Nat) (f : Nat → Int) (e : Int) (w : World) (hn : n ≤ 4194304) (haz : a ≤ z) (hz : z ≤ n) (hs : s ≤ 1000000) (hf : ∀ i, -4194304 ≤ f i ∧ f i ≤ 4194304) (hgs : g ≠ sb)
    (hrow : w.rowIs g 21 n (fun i => .int .i32 (f i))) (hr : w.rowIs sb 3 1 (fun _ => .int .i64 s)) :
    Calls Try.prog 90 #[.slice (some ⟨g, 0, none⟩) n n, .int .i64 a, .int .i64 z, .int .i64 e, .pointer (some ⟨sb, 0, none⟩)] w fun o w' =>
      ∃ r : Nat, o = .returned (.int .i64 ((r : Int) - 1)) ∧ LastP f e a z r ∧ ∃ d, d ≤ z - a ∧ Went sb (s + d) w w' := by
  have HR := Lib.hid hrow
  have HF := Lib.hid hf
  have H0 := Lib.hid (Went.stay hr (Below.refl _ w))
  clear hrow hf hr
  go_enter Try.func90, Try.ntmps90
  go_wp2
  go_loopw [11] (fun iv wr => ∃ i : Nat, a ≤ i ∧ i ≤ z ∧ iv = .int .i64 ((i : Int) - 1) ∧ (∀ j, i ≤ j → j < z → e < f j) ∧ Went sb (s + (z - i)) w wr) (fun iv _ => (intOf iv + 1).toNat)
  case atStart => exact ⟨z, haz, Nat.le_refl _, rfl, fun j h1 h2 => by omega, by rw [Nat.sub_self]; exact H0.out⟩
  case round =>
    obtain ⟨i, hai, hiz, rfl, hno, hw⟩ := hrel
    have HN := Lib.hid hno
    have HW := Lib.hid hw
    clear hno hw
    by_cases hlt : a < i
    · obtain ⟨m, rfl⟩ : ∃ m, i = m + 1 := ⟨i - 1, by omega⟩
      have e0 : ((m + 1 : Nat) : Int) - 1 = (m : Int) := by omega
      rw [e0]
      have hin : m < n := by omega
      have hc1 := HW.out.row.cell (i := 0) Nat.one_pos
      have hc2 := HW.out.row.frozen 0
      obtain ⟨t, ht⟩ : ∃ t, s + (z - (m + 1)) = t := ⟨_, rfl⟩
      rw [ht] at hc1 HW
      have htb : t ≤ 9000000 := by omega
      have HT := Lib.hid ht
      clear ht
      have HS := Lib.hid (HW.out.set (t := t + 1) ((t : Int) + 1) (by omega))
      have hc3 : (wr.setCell ⟨sb, 0, none⟩ (.int .i64 ((t : Int) + 1))).cell? ⟨g, m, none⟩ = some (.int .i32 (f m)) := by
        rw [World.cell?_of_block (w := wr) (Below.heap_setCell _ _ _ _ (show g ≠ sb from hgs))]
        rw [World.cell?_of_block (w := w) (HW.out.apart.block g (HR.out.lt) (by omega))]
        exact HR.out.cell hin
      have hfb := HF.out m
      obtain ⟨fi, hfi⟩ : ∃ fi, f m = fi := ⟨_, rfl⟩
      rw [hfi] at hc3 hfb
      have HFI := Lib.hid hfi
      clear hfi
      by_cases hle : fi ≤ e
      · have g1 : decide (fi ≤ e) = true := decide_eq_true hle
        go_wp2
        go_ret
        exact ⟨m + 1, by rw [e0]; rfl, ⟨hai, hiz, HN.out, fun _ => by rw [Nat.add_sub_cancel, HFI.out]; exact hle⟩, z - m, by omega, by rw [show s + (z - m) = t + 1 by have := HT.out; omega]; exact HS.out⟩
      · have g1 : decide (fi ≤ e) = false := decide_eq_false hle
        go_wp2
        go_roundw
        case rel => exact ⟨m, by omega, by omega, by first | rfl | go_num, fun j h1 h2 => by
          by_cases hj : m + 1 ≤ j
          · exact HN.out j hj h2
          · obtain rfl : j = m := by omega
            rw [HFI.out]; omega, by rw [show s + (z - m) = t + 1 by have := HT.out; omega]; exact HS.out⟩
        case measure => first | (simp [intOf]; done) | (simp [intOf]; omega)
    · have hiz2 : i = a := by omega
      subst hiz2
      have g1 : decide ((i : Int) ≤ (i : Int) - 1) = false := decide_eq_false (by omega)
      go_wp2
      go_ret
      exact ⟨i, rfl, ⟨Nat.le_refl _, hiz, HN.out, fun h => absurd h (Nat.lt_irrefl _)⟩, z - i, Nat.le_refl _, HW.out⟩
end Go.Proofs.Yteecanaibkpmfaa
namespace Go.Proofs.Yteecanaibkpmfaa
open Go.RowKit

theorem Went.box {sb s b : Nat} {w w' : World} {v : Value} {t : TypeId} (h : Went sb s w w') (hb : w.rowIs b t 1 (fun _ => v)) (hne : b ≠ sb) : w'.cell? ⟨b, 0, none⟩ = some v :=
  (hb.of_block (h.apart.block b hb.lt (by omega))).cell (i := 0) Nat.one_pos
theorem sgn_bound (b : Bool) : -1 ≤ sgn b ∧ sgn b ≤ 1 := by cases b <;> simp [sgn]
set_option maxHeartbeats 1000000 in
set_option maxRecDepth 100000 in
theorem rpfirst_any (B T sb s a z : Nat) (v : Value) (xs : List Bool) (e : Int) (w : World) (hx : xs.length ≤ 4194304) (haz : a ≤ z) (hz : z ≤ xs.length) (hs : s ≤ 500000) (hsz : z - a ≤ 128) (hT : T ≤ sb) (hT2 : T ≤ w.heap.size) (hk : KeptIn B T w v xs)
    (hr : w.rowIs sb 3 1 (fun _ => .int .i64 s)) :
    Calls Try.prog 87 #[.agg #[v], .int .i64 a, .int .i64 z, .int .i64 e, .pointer (some ⟨sb, 0, none⟩)] w fun o w' =>
      ∃ r : Nat, o = .returned (.int .i64 r) ∧ FirstP (leastP xs 0) e a z r ∧ ∃ d, d ≤ 3 + (z - a) ∧ Went sb (s + d) w w' := by
  have HW0 := Lib.hid (Went.stay hr ((Below.refl w.heap.size w).alloc (Nat.le_refl _) (.cells #[v] 48)))
  have hsbn : w.heap.size ≠ sb := by have := hr.lt; omega
  have HBX := Lib.hid (new_box w v 48)
  have HKK := Lib.hid hk
  have hwz : T ≤ (w.alloc (.cells #[v] 48)).heap.size := by show T ≤ (w.heap.push _).size; rw [Array.size_push]; omega
  clear hk hr
  generalize hWW : w.alloc (.cells #[v] 48) = W0 at *
  have HWW := Lib.hid hWW
  by_cases haz0 : a = z
  · subst haz0
    have g0 : ((a : Int) == (a : Int)) = true := beq_self_eq_true _
    go_enter Try.func87, Try.ntmps87
    go_wp2
    go_ret
    exact ⟨a, rfl, ⟨Nat.le_refl _, Nat.le_refl _, fun i h1 h2 => by omega, fun h => absurd h (Nat.lt_irrefl _)⟩, 0, by omega, HW0.out⟩
  · have g0 : ((a : Int) == (z : Int)) = false := beq_eq_false_iff_ne.2 (by omega)
    have g1 : (a == z) = false := beq_eq_false_iff_ne.2 haz0
    have hc0 : (w.alloc (.cells #[v] 48)).cell? ⟨w.heap.size, 0, none⟩ = some v := by rw [hWW]; exact HBX.out.cell (i := 0) Nat.one_pos
    clear hWW
    go_enter Try.func87, Try.ntmps87
    go_wp2_with fail
    rw [HWW.out]
    refine (rpexc_any B T sb s v xs a W0 hx (by omega) (by omega) hT hwz (HW0.out.keptIn hT hT2 HKK.out) HW0.out.row).mono ?_
    rintro o w1 ⟨rfl, d0, hd0, hw1⟩
    have H1 := Lib.hid hw1
    obtain ⟨s1, hs1⟩ : ∃ s1, s + d0 = s1 := ⟨_, rfl⟩
    rw [hs1] at H1
    have hsb1 : s1 ≤ 600000 := by omega
    have HS1 := Lib.hid hs1
    clear hw1 hs1
    go_wp2
    go_loopw [11, 12] (fun nv kv wr => ∃ k : Nat, a ≤ k ∧ k ≤ z ∧ nv = .int .i64 (exc xs k) ∧ kv = .int .i64 k ∧ (∀ j, a ≤ j → j < k → e < exc xs (j + 1)) ∧ Went sb (s1 + (k - a)) W0 wr) (fun _ kv _ => z - (intOf kv).toNat)
    case atStart => exact ⟨a, Nat.le_refl _, haz, rfl, rfl, fun j h1 h2 => by omega, by rw [Nat.sub_self]; exact H1.out⟩
    case round =>
      clear hc0
      obtain ⟨k, hak, hkz, rfl, rfl, hno, hw⟩ := hrel
      have HN := Lib.hid hno
      have HW := Lib.hid hw
      clear hno hw
      by_cases hlt : k < z
      · have hc1 := HW.out.box HBX.out hsbn
        have CA := rpat_any B T sb (s1 + (k - a)) v xs k wr hx (by omega) (by omega) hT (by have := HW.out.apart.size; omega) ((HW0.out.trans HW.out).keptIn hT hT2 HKK.out) HW.out.row
        obtain ⟨b, hb⟩ : ∃ b, xs.getD k false = b := ⟨_, rfl⟩
        have hes := exc_succ xs k b (by omega) hb
        have heb := exc_bound xs k
        have hes2 := sgn_bound b
        rw [hb] at CA
        have HES := Lib.hid hes
        clear hes hb
        generalize exc xs k = x at *
        have CA' := Lib.hid CA
        clear CA
        go_wp2_with fail
        refine CA'.out.mono ?_
        rintro o w2 ⟨rfl, hw2⟩
        go_wp2_with fail
        refine (rrise_any b w2).mono ?_
        rintro o w3 ⟨rfl, rfl⟩
        have HW2 := Lib.hid (HW.out.trans hw2)
        clear hw2 hc1
        have ex : x + sgn b = exc xs (k + 1) := HES.out.symm
        obtain ⟨y, hy⟩ : ∃ y, exc xs (k + 1) = y := ⟨_, rfl⟩
        rw [hy] at ex
        have HY := Lib.hid hy
        have HT : Hid (s + (d0 + (k - a + 1)) = s1 + (k - a) + 1) := Lib.hid (by have := HS1.out; omega)
        clear hy
        by_cases hle : y ≤ e
        · have g2 : decide (y ≤ e) = true := decide_eq_true hle
          go_wp2
          go_ret
          exact ⟨k, rfl, ⟨hak, hkz, HN.out, fun _ => by show exc xs (k + 1) ≤ e; rw [HY.out]; exact hle⟩, d0 + (k - a + 1), by omega, by rw [HT.out]; exact HW0.out.trans HW2.out⟩
        · have g2 : decide (y ≤ e) = false := decide_eq_false hle
          go_wp2
          go_roundw
          case rel => exact ⟨k + 1, by omega, by omega, by rw [HY.out], by go_num, fun j h1 h2 => by
            by_cases hj : j < k
            · exact HN.out j h1 hj
            · obtain rfl : j = k := by omega
              rw [HY.out]; omega, by rw [show s1 + (k + 1 - a) = s1 + (k - a) + 1 by omega]; exact HW2.out⟩
          case measure => simp [intOf]; omega
      · have hkz2 : k = z := by omega
        subst hkz2
        go_wp2
        go_ret
        exact ⟨k, rfl, ⟨hak, Nat.le_refl _, HN.out, fun h => absurd h (Nat.lt_irrefl _)⟩, d0 + (k - a), by omega, by have := HS1.out; rw [show s + (d0 + (k - a)) = s1 + (k - a) by omega]; exact HW0.out.trans HW.out⟩
set_option maxHeartbeats 1000000 in
set_option maxRecDepth 100000 in
theorem rplast_any (B T sb s a z : Nat) (v : Value) (xs : List Bool) (e : Int) (w : World) (hx : xs.length ≤ 4194304) (haz : a ≤ z) (hz : z ≤ xs.length) (hs : s ≤ 500000) (hsz : z - a ≤ 128) (hT : T ≤ sb) (hT2 : T ≤ w.heap.size) (hk : KeptIn B T w v xs)
    (hr : w.rowIs sb 3 1 (fun _ => .int .i64 s)) :
    Calls Try.prog 88 #[.agg #[v], .int .i64 a, .int .i64 z, .int .i64 e, .pointer (some ⟨sb, 0, none⟩)] w fun o w' =>
      ∃ r : Nat, o = .returned (.int .i64 ((r : Int) - 1)) ∧ LastP (leastP xs 0) e a z r ∧ ∃ d, d ≤ 3 + (z - a) ∧ Went sb (s + d) w w' := by
  have HW0 := Lib.hid (Went.stay hr ((Below.refl w.heap.size w).alloc (Nat.le_refl _) (.cells #[v] 48)))
  have hsbn : w.heap.size ≠ sb := by have := hr.lt; omega
  have HBX := Lib.hid (new_box w v 48)
  have HKK := Lib.hid hk
  have hwz : T ≤ (w.alloc (.cells #[v] 48)).heap.size := by show T ≤ (w.heap.push _).size; rw [Array.size_push]; omega
  clear hk hr
  generalize hWW : w.alloc (.cells #[v] 48) = W0 at *
  have HWW := Lib.hid hWW
  have hc0 : (w.alloc (.cells #[v] 48)).cell? ⟨w.heap.size, 0, none⟩ = some v := by rw [hWW]; exact HBX.out.cell (i := 0) Nat.one_pos
  clear hWW
  go_enter Try.func88, Try.ntmps88
  go_wp2_with fail
  rw [HWW.out]
  refine (rpexc_any B T sb s v xs z W0 hx (by omega) (by omega) hT hwz (HW0.out.keptIn hT hT2 HKK.out) HW0.out.row).mono ?_
  rintro o w1 ⟨rfl, d0, hd0, hw1⟩
  have H1 := Lib.hid hw1
  obtain ⟨s1, hs1⟩ : ∃ s1, s + d0 = s1 := ⟨_, rfl⟩
  rw [hs1] at H1
  have hsb1 : s1 ≤ 600000 := by omega
  have HS1 := Lib.hid hs1
  clear hw1 hs1
  go_wp2
  go_loopw [11, 12] (fun nv kv wr => ∃ k : Nat, a ≤ k ∧ k ≤ z ∧ nv = .int .i64 (exc xs k) ∧ kv = .int .i64 ((k : Int) - 1) ∧ (∀ j, k ≤ j → j < z → e < exc xs (j + 1)) ∧ Went sb (s1 + (z - k)) W0 wr) (fun _ kv _ => (intOf kv + 1).toNat)
  case atStart => exact ⟨z, haz, Nat.le_refl _, rfl, rfl, fun j h1 h2 => by omega, by rw [Nat.sub_self]; exact H1.out⟩
  case round =>
    clear hc0
    obtain ⟨k, hak, hkz, rfl, rfl, hno, hw⟩ := hrel
    have HN := Lib.hid hno
    have HW := Lib.hid hw
    clear hno hw
    by_cases hlt : a < k
    · obtain ⟨m, rfl⟩ : ∃ m, k = m + 1 := ⟨k - 1, by omega⟩
      have e0 : ((m + 1 : Nat) : Int) - 1 = (m : Int) := by omega
      rw [e0]
      have hc1 := HW.out.box HBX.out hsbn
      have CA := rpat_any B T sb (s1 + (z - (m + 1))) v xs m wr hx (by omega) (by omega) hT (by have := HW.out.apart.size; omega) ((HW0.out.trans HW.out).keptIn hT hT2 HKK.out) HW.out.row
      obtain ⟨b, hb⟩ : ∃ b, xs.getD m false = b := ⟨_, rfl⟩
      have hes := exc_succ xs m b (by omega) hb
      have heb := exc_bound xs (m + 1)
      have hes2 := sgn_bound b
      rw [hb] at CA
      have HES : Hid (exc xs (m + 1) - sgn b = exc xs m) := Lib.hid (by omega)
      obtain ⟨y, hy⟩ : ∃ y, exc xs (m + 1) = y := ⟨_, rfl⟩
      rw [hy] at heb
      have HY := Lib.hid hy
      have HT : Hid (s + (d0 + (z - (m + 1))) = s1 + (z - (m + 1))) := Lib.hid (by have := HS1.out; omega)
      rw [hy]
      clear hes hb hy
      have CA' := Lib.hid CA
      clear CA
      by_cases hle : y ≤ e
      · have g2 : decide (y ≤ e) = true := decide_eq_true hle
        go_wp2
        go_ret
        exact ⟨m + 1, by rw [e0]; rfl, ⟨by omega, hkz, HN.out, fun _ => by show exc xs (m + 1 - 1 + 1) ≤ e; rw [Nat.add_sub_cancel, HY.out]; exact hle⟩, d0 + (z - (m + 1)), by omega, by rw [HT.out]; exact HW0.out.trans HW.out⟩
      · have g2 : decide (y ≤ e) = false := decide_eq_false hle
        have HES' : Hid (y - sgn b = exc xs m) := Lib.hid (by rw [← HY.out]; exact HES.out)
        go_wp2_with fail
        refine CA'.out.mono ?_
        rintro o w2 ⟨rfl, hw2⟩
        go_wp2_with fail
        refine (rrise_any b w2).mono ?_
        rintro o w3 ⟨rfl, rfl⟩
        have HW2 := Lib.hid (HW.out.trans hw2)
        clear hw2 hc1
        go_wp2
        go_roundw
        case rel => exact ⟨m, by omega, by omega, by rw [HES'.out], by first | rfl | go_num, fun j h1 h2 => by
          by_cases hj : m + 1 ≤ j
          · exact HN.out j hj h2
          · obtain rfl : j = m := by omega
            rw [HY.out]; omega, by rw [show s1 + (z - m) = s1 + (z - (m + 1)) + 1 by omega]; exact HW2.out⟩
        case measure => first | (simp [intOf]; done) | (simp [intOf]; omega)
    · have hkz2 : k = a := by omega
      subst hkz2
      have g3 : decide ((k : Int) ≤ (k : Int) - 1) = false := decide_eq_false (by omega)
      go_wp2
      go_ret
      exact ⟨k, rfl, ⟨Nat.le_refl _, hkz, HN.out, fun h => absurd h (Nat.lt_irrefl _)⟩, d0 + (z - k), by omega, by have := HS1.out; rw [show s + (d0 + (z - k)) = s1 + (z - k) by omega]; exact HW0.out.trans HW.out⟩
end Go.Proofs.Yteecanaibkpmfaa
namespace Go.Proofs.Yteecanaibkpmfaa
open Go.RowKit

theorem meth_row_len (n : Nat) (v : Value) (w : World) : (method (n + 1) 48 v "bracken/paren.len").run Try.prog w = .ok (49, v) w := by kernel_rfl
theorem meth_row_first (n : Nat) (v : Value) (w : World) : (method (n + 1) 48 v "bracken/paren.first").run Try.prog w = .ok (87, v) w := by kernel_rfl
theorem meth_row_last (n : Nat) (v : Value) (w : World) : (method (n + 1) 48 v "bracken/paren.last").run Try.prog w = .ok (88, v) w := by kernel_rfl
theorem meth_leasts_len (n : Nat) (v : Value) (w : World) : (method (n + 1) 53 v "bracken/paren.len").run Try.prog w = .ok (38, v) w := by kernel_rfl
theorem meth_leasts_first (n : Nat) (v : Value) (w : World) : (method (n + 1) 53 v "bracken/paren.first").run Try.prog w = .ok (89, v) w := by kernel_rfl
theorem meth_leasts_last (n : Nat) (v : Value) (w : World) : (method (n + 1) 53 v "bracken/paren.last").run Try.prog w = .ok (90, v) w := by kernel_rfl

/-- the l-th part -/
def partV (bv : Value) (bl : Nat → Nat) (n l : Nat) : Value := if l = 0 then .iface 48 (.agg #[bv]) else .iface 53 (.slice (some ⟨bl l, 0, none⟩) (cntP n l) (cntP n l))
/-- THE PARTS OF A Paren of xs, in blocks from B to below T; block p, the Paren itself, is none of theirs. -/
structure InP (B T p q P : Nat) (bv : Value) (bl : Nat → Nat) (xs : List Bool) (w : World) : Prop where
  top : TopP xs.length P
  may : mayL xs = true
  len : xs.length ≤ 4194304
  pB : B ≤ p
  pT : p < T
  qB : B ≤ q
  qT : q < T
  qp : q ≠ p
  lB : ∀ l, 1 ≤ l → l < P → B ≤ bl l ∧ bl l < T ∧ bl l ≠ p
  size : T ≤ w.heap.size
  kept : KeptIn B p w bv xs
  parts : ∀ l, l < P → w.cell? ⟨q, l, none⟩ = some (partV bv bl xs.length l)
  rows : ∀ l, 1 ≤ l → l < P → w.rowIs (bl l) 21 (cntP xs.length l) (fun i => .int .i32 (leastP xs l i))
theorem InP.keep {B T p q P : Nat} {bv : Value} {bl : Nat → Nat} {xs : List Bool} {w w' : World} (h : InP B T p q P bv bl xs w) (hs : w.heap.size ≤ w'.heap.size) (hk : ∀ k, B ≤ k → k < T → k ≠ p → w'.heap[k]? = w.heap[k]?) : InP B T p q P bv bl xs w' :=
  ⟨h.top, h.may, h.len, h.pB, h.pT, h.qB, h.qT, h.qp, h.lB, Nat.le_trans h.size hs, h.kept.keep fun k h1 h2 => hk k h1 (by have := h.pT; omega) (by omega),
    fun l hl => (World.cell?_of_block (w := w) (hk q h.qB h.qT h.qp)).trans (h.parts l hl), fun l h1 hl => (h.rows l h1 hl).of_block (hk _ (h.lB l h1 hl).1 (h.lB l h1 hl).2.1 (h.lB l h1 hl).2.2)⟩
/-- block p holds the Paren: its parts, its last count of steps -/
def PaV (p q P cap st : Nat) (w : World) : Prop := w.rowIs p 51 2 (fun i => if i = 0 then .slice (some ⟨q, 0, none⟩) P cap else .int .i64 st)
/-- IN THE MIDST OF A QUESTION: the Paren as it was, the count of steps s in block sb. -/
structure Mid (B T p q P cap st sb : Nat) (bv : Value) (bl : Nat → Nat) (xs : List Bool) (s : Nat) (w : World) : Prop where
  inp : InP B T p q P bv bl xs w
  pa : PaV p q P cap st w
  sT : T ≤ sb
  sr : w.rowIs sb 3 1 (fun _ => .int .i64 s)
section
variable {B T p q P cap st sb s t : Nat} {bv : Value} {bl : Nat → Nat} {xs : List Bool} {w w' : World}
theorem Mid.went (h : Mid B T p q P cap st sb bv bl xs s w) (k : Went sb t w w') : Mid B T p q P cap st sb bv bl xs t w' :=
  ⟨h.inp.keep k.apart.size fun i _ h2 _ => k.apart.block i (by have := h.inp.size; omega) (Or.inl (by have := h.sT; omega)), h.pa.of_block (k.apart.block p (by have := h.inp.size; have := h.inp.pT; omega) (Or.inl (by have := h.sT; have := h.inp.pT; omega))), h.sT, k.row⟩
theorem Mid.other (h : Mid B T p q P cap st sb bv bl xs s w) (k : Below w.heap.size w w') : Mid B T p q P cap st sb bv bl xs s w' := h.went (Went.stay h.sr k)
theorem Mid.parts (h : Mid B T p q P cap st sb bv bl xs s w) : w.cell? ⟨p, 0, none⟩ = some (.slice (some ⟨q, 0, none⟩) P cap) := h.pa.cell (i := 0) (by decide)
theorem Mid.row (h : Mid B T p q P cap st sb bv bl xs s w) : w.cell? ⟨q, 0, none⟩ = some (.iface 48 (.agg #[bv])) := h.inp.parts 0 h.inp.top.one
theorem Mid.leasts (h : Mid B T p q P cap st sb bv bl xs s w) (l : Nat) (hl : l + 1 < P) : w.cell? ⟨q, l + 1, none⟩ = some (.iface 53 (.slice (some ⟨bl (l + 1), 0, none⟩) (cntP xs.length (l + 1)) (cntP xs.length (l + 1)))) := h.inp.parts (l + 1) hl
theorem Mid.few (h : Mid B T p q P cap st sb bv bl xs s w) : P ≤ 6 := top_few h.inp.top h.inp.len
theorem Mid.pT (h : Mid B T p q P cap st sb bv bl xs s w) : p ≤ sb := by have := h.sT; have := h.inp.pT; omega
theorem Mid.pW (h : Mid B T p q P cap st sb bv bl xs s w) : p ≤ w.heap.size := by have := h.inp.size; have := h.inp.pT; omega

/-! what the parts tell -/
theorem Mid.lenRow (h : Mid B T p q P cap st sb bv bl xs s w) : Calls Try.prog 49 #[.agg #[bv]] w fun e w' => e = .returned (.int .i64 (cntP xs.length 0)) ∧ Mid B T p q P cap st sb bv bl xs s w' ∧ Went sb s w w' :=
  (rplen_any B bv xs w h.inp.kept.kept).mono fun _ _ hp => ⟨hp.1, h.other hp.2, Went.stay h.sr hp.2⟩
theorem Mid.firstRow (h : Mid B T p q P cap st sb bv bl xs s w) (a z : Nat) (e : Int) (hs : s ≤ 500000) (haz : a ≤ z) (hz : z ≤ cntP xs.length 0) (hd : z - a ≤ 128) :
    Calls Try.prog 87 #[.agg #[bv], .int .i64 a, .int .i64 z, .int .i64 e, .pointer (some ⟨sb, 0, none⟩)] w fun o w' =>
      ∃ r : Nat, o = .returned (.int .i64 r) ∧ FirstP (leastP xs 0) e a z r ∧ ∃ d, d ≤ 3 + (z - a) ∧ Went sb (s + d) w w' :=
  rpfirst_any B p sb s a z bv xs e w h.inp.len haz hz hs hd h.pT h.pW h.inp.kept h.sr
theorem Mid.lastRow (h : Mid B T p q P cap st sb bv bl xs s w) (a z : Nat) (e : Int) (hs : s ≤ 500000) (haz : a ≤ z) (hz : z ≤ cntP xs.length 0) (hd : z - a ≤ 128) :
    Calls Try.prog 88 #[.agg #[bv], .int .i64 a, .int .i64 z, .int .i64 e, .pointer (some ⟨sb, 0, none⟩)] w fun o w' =>
      ∃ r : Nat, o = .returned (.int .i64 ((r : Int) - 1)) ∧ LastP (leastP xs 0) e a z r ∧ ∃ d, d ≤ 3 + (z - a) ∧ Went sb (s + d) w w' :=
  rplast_any B p sb s a z bv xs e w h.inp.len haz hz hs hd h.pT h.pW h.inp.kept h.sr
theorem cntP_le (n : Nat) : ∀ l, cntP n l ≤ n
  | 0 => Nat.le_refl _
  | l + 1 => by
    by_cases hc : cntP n (l + 1) ≤ n
    · exact hc
    · have h1 := (lt_cnt n (l + 1) n).1 (by omega)
      have h2 := Nat.mul_le_mul_right n (wid_pos (l + 1))
      omega
theorem Mid.bound (h : Mid B T p q P cap st sb bv bl xs s w) (l : Nat) : ∀ i, -4194304 ≤ leastP xs l i ∧ leastP xs l i ≤ 4194304 := fun i => by
  have := least_bound xs l i
  have := h.inp.len
  omega
theorem Mid.firstLeasts (h : Mid B T p q P cap st sb bv bl xs s w) (l a z : Nat) (e : Int) (hl : l + 1 < P) (hs : s ≤ 500000) (haz : a ≤ z) (hz : z ≤ cntP xs.length (l + 1)) :
    Calls Try.prog 89 #[.slice (some ⟨bl (l + 1), 0, none⟩) (cntP xs.length (l + 1)) (cntP xs.length (l + 1)), .int .i64 a, .int .i64 z, .int .i64 e, .pointer (some ⟨sb, 0, none⟩)] w fun o w' =>
      ∃ r : Nat, o = .returned (.int .i64 r) ∧ FirstP (leastP xs (l + 1)) e a z r ∧ ∃ d, d ≤ z - a ∧ Went sb (s + d) w w' :=
  rlfirst_any (bl (l + 1)) sb s (cntP xs.length (l + 1)) a z (leastP xs (l + 1)) e w (Nat.le_trans (cntP_le _ _) h.inp.len) haz hz (by omega) (h.bound _) (by have := (h.inp.lB (l + 1) (by omega) hl).2.1; have := h.sT; omega) (h.inp.rows (l + 1) (by omega) hl) h.sr
theorem Mid.lastLeasts (h : Mid B T p q P cap st sb bv bl xs s w) (l a z : Nat) (e : Int) (hl : l + 1 < P) (hs : s ≤ 500000) (haz : a ≤ z) (hz : z ≤ cntP xs.length (l + 1)) :
    Calls Try.prog 90 #[.slice (some ⟨bl (l + 1), 0, none⟩) (cntP xs.length (l + 1)) (cntP xs.length (l + 1)), .int .i64 a, .int .i64 z, .int .i64 e, .pointer (some ⟨sb, 0, none⟩)] w fun o w' =>
      ∃ r : Nat, o = .returned (.int .i64 ((r : Int) - 1)) ∧ LastP (leastP xs (l + 1)) e a z r ∧ ∃ d, d ≤ z - a ∧ Went sb (s + d) w w' :=
  rllast_any (bl (l + 1)) sb s (cntP xs.length (l + 1)) a z (leastP xs (l + 1)) e w (Nat.le_trans (cntP_le _ _) h.inp.len) haz hz (by omega) (h.bound _) (by have := (h.inp.lB (l + 1) (by omega) hl).2.1; have := h.sT; omega) (h.inp.rows (l + 1) (by omega) hl) h.sr
/-! the same, the level named -/
theorem Mid.leastsAt (h : Mid B T p q P cap st sb bv bl xs s w) {l c : Nat} (h1 : 1 ≤ l) (hl : l < P) (hc : cntP xs.length l = c) : w.cell? ⟨q, l, none⟩ = some (.iface 53 (.slice (some ⟨bl l, 0, none⟩) c c)) := by
  obtain ⟨m, rfl⟩ : ∃ m, l = m + 1 := ⟨l - 1, by omega⟩
  rw [← hc]
  exact h.leasts m hl
theorem Mid.firstAt (h : Mid B T p q P cap st sb bv bl xs s w) {l c : Nat} (h1 : 1 ≤ l) (hl : l < P) (hc : cntP xs.length l = c) (a z : Nat) (e : Int) (hs : s ≤ 500000) (haz : a ≤ z) (hz : z ≤ c) :
    Calls Try.prog 89 #[.slice (some ⟨bl l, 0, none⟩) c c, .int .i64 a, .int .i64 z, .int .i64 e, .pointer (some ⟨sb, 0, none⟩)] w fun o w' =>
      ∃ r : Nat, o = .returned (.int .i64 r) ∧ FirstP (leastP xs l) e a z r ∧ ∃ d, d ≤ z - a ∧ Went sb (s + d) w w' := by
  obtain ⟨m, rfl⟩ : ∃ m, l = m + 1 := ⟨l - 1, by omega⟩
  subst hc
  exact h.firstLeasts m a z e hl hs haz hz
theorem Mid.lastAt (h : Mid B T p q P cap st sb bv bl xs s w) {l c : Nat} (h1 : 1 ≤ l) (hl : l < P) (hc : cntP xs.length l = c) (a z : Nat) (e : Int) (hs : s ≤ 500000) (haz : a ≤ z) (hz : z ≤ c) :
    Calls Try.prog 90 #[.slice (some ⟨bl l, 0, none⟩) c c, .int .i64 a, .int .i64 z, .int .i64 e, .pointer (some ⟨sb, 0, none⟩)] w fun o w' =>
      ∃ r : Nat, o = .returned (.int .i64 ((r : Int) - 1)) ∧ LastP (leastP xs l) e a z r ∧ ∃ d, d ≤ z - a ∧ Went sb (s + d) w w' := by
  obtain ⟨m, rfl⟩ : ∃ m, l = m + 1 := ⟨l - 1, by omega⟩
  subst hc
  exact h.lastLeasts m a z e hl hs haz hz
end
end Go.Proofs.Yteecanaibkpmfaa
