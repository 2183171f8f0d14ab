/-
  THE LANDED PACKAGE wave: Get, Rank, Select, Count, Nth, Size of a Wave.
-/
import Derived.Test.YtnjlckgmoodkiaaRunWUp
namespace Go.Proofs.Ytnjlckgmoodkiaa
open Go.RowKit

/-- v IS A Wave OF THE SYMBOLS xs BELOW sigma, in blocks from B to below T, and its steps are few. -/
def IsW (B T : Nat) (w : World) (v : Value) (xs : List Int) (sigma : Int) : Prop :=
  ∃ (p q L cap st : Nat) (qa : Option Addr) (lb lt : Nat → Nat) (ba : Nat → Addr), v = .pointer (some ⟨p, 0, none⟩) ∧ InW B T p q L cap qa lb lt ba xs sigma w ∧ WaV p xs.length L cap st qa sigma w ∧ st ≤ stepsW sigma
theorem isw_keep (B T : Nat) (w w' : World) (v : Value) (xs : List Int) (sigma : Int) (h : IsW B T w v xs sigma) (hs : w.heap.size ≤ w'.heap.size) (hk : ∀ k, B ≤ k → k < T → w'.heap[k]? = w.heap[k]?) : IsW B T w' v xs sigma := by
  obtain ⟨p, q, L, cap, st, qa, lb, lt, ba, rfl, h1, h2, h3⟩ := h
  exact ⟨p, q, L, cap, st, qa, lb, lt, ba, rfl, h1.keep hs fun k a b _ => hk k a b, h2.of_block (hk p h1.pB h1.pT), h3⟩
theorem isw_ptr (B T : Nat) (w : World) (v : Value) (xs : List Int) (sigma : Int) (h : IsW B T w v xs sigma) : ∃ a, v = .pointer (some a) := by
  obtain ⟨p, _, _, _, _, _, _, _, _, rfl, _⟩ := h
  exact ⟨_, rfl⟩
theorem isw_span (B T : Nat) (w : World) (v : Value) (xs : List Int) (sigma : Int) (h : IsW B T w v xs sigma) : B ≤ T ∧ T ≤ w.heap.size := by
  obtain ⟨p, _, _, _, _, _, _, _, _, rfl, h1, _⟩ := h
  exact ⟨by have := h1.pB; have := h1.pT; omega, h1.size⟩
theorem isw_below {B T : Nat} {w w' : World} {v : Value} {xs : List Int} {sigma : Int} (h : IsW B T w v xs sigma) (hb : Below w.heap.size w w') : IsW B T w' v xs sigma := by
  have hT := (isw_span B T w v xs sigma h).2
  exact isw_keep B T w w' v xs sigma h hb.size fun k _ h2 => hb.block k (by omega)
section
variable {B T p q L cap st : Nat} {qa : Option Addr} {lb lt : Nat → Nat} {ba : Nat → Addr} {xs : List Int} {sigma : Int} {w : World}
theorem isw_of (h1 : InW B T p q L cap qa lb lt ba xs sigma w) (h2 : WaV p xs.length L cap st qa sigma w) (h3 : st ≤ stepsW sigma) : IsW B T w (.pointer (some ⟨p, 0, none⟩)) xs sigma := ⟨p, q, L, cap, st, qa, lb, lt, ba, rfl, h1, h2, h3⟩
theorem midw_start (h1 : InW B T p q L cap qa lb lt ba xs sigma w) (h2 : WaV p xs.length L cap st qa sigma w) : MidW B T p q L cap st w.heap.size qa lb lt ba xs sigma 0 (w.alloc (.cells #[.int .i64 0] 3)) := by
  have hb := (Below.refl w.heap.size w).alloc (Nat.le_refl _) (.cells #[.int .i64 0] 3)
  exact ⟨h1.keep hb.size fun k _ h _ => hb.block k (by have := h1.size; omega), h2.of_block (hb.block p (by have := h1.size; have := h1.pT; omega)), h1.size, new_box w (.int .i64 0) _⟩
/-- a question ends: its count is kept -/
theorem askw_end {t : Nat} {w2 : World} (h1 : InW B T p q L cap qa lb lt ba xs sigma w) (h2 : WaV p xs.length L cap st qa sigma w) (hw : Went w.heap.size t (w.alloc (.cells #[.int .i64 0] 3)) w2) (ht : t ≤ stepsW sigma) :
    IsW B T (w2.setCell ⟨p, 3, none⟩ (.int .i64 t)) (.pointer (some ⟨p, 0, none⟩)) xs sigma ∧ Apart B T w (w2.setCell ⟨p, 3, none⟩ (.int .i64 t)) := by
  have hb := went_start hw
  have hz := h1.size
  have hp := h1.pT
  have hpB := h1.pB
  have i2 : InW B T p q L cap qa lb lt ba xs sigma w2 := h1.keep hb.size fun k _ h _ => hb.block k (by omega)
  have p2 : WaV p xs.length L cap st qa sigma w2 := h2.of_block (hb.block p (by omega))
  refine ⟨isw_of (st := t) (cap := cap) (i2.keep (by rw [Deep.nblk_setCell]; exact Nat.le_refl _) fun k _ _ hk => Below.heap_setCell _ _ _ _ hk) ?_ ht, ⟨hb.os, hb.tape, hb.output, by rw [Deep.nblk_setCell]; exact hb.size, fun k hk h => ?_⟩⟩
  · refine (World.rowIs.set p2 3 _).congr fun i hi => ?_
    rcases (show i = 0 ∨ i = 1 ∨ i = 2 ∨ i = 3 by omega) with rfl | rfl | rfl | rfl <;> rfl
  · rw [Below.heap_setCell _ _ _ _ (show k ≠ p by omega)]
    exact hb.block k hk
end
theorem few_steps {sigma : Int} {L d n : Nat} (hL : L = levelsN sigma) (hn : n ≤ 5) (h : d ≤ n * L) : d ≤ stepsW sigma := by
  subst hL
  unfold stepsW
  have : n * levelsN sigma ≤ 5 * levelsN sigma := Nat.mul_le_mul_right _ hn
  omega
set_option maxHeartbeats 1000000 in
set_option maxRecDepth 100000 in
theorem rwget_any (B T : Nat) (v : Value) (xs : List Int) (sigma k : Int) (w : World) (hk : In64 k) (h : IsW B T w v xs sigma) :
    Calls Try.prog 13 #[v, .int .i64 k] w (WavGave IsW B T v xs sigma (.tuple #[.int .i64 (getW xs k), .int .i64 (getWE xs k)]) w) := by
  obtain ⟨p, q, L, cap, st, qa, lb, lt, ba, rfl, h1, h2, h3⟩ := h
  have HM := Lib.hid (midw_start h1 h2)
  have H1 := Lib.hid h1
  have H2 := Lib.hid h2
  clear h1 h2 h3
  go_enter Try.func13, Try.ntmps13
  go_wp2_with fail
  refine (rat_any k _ (by decide) hk HM.out).mono ?_
  rintro o w2 ⟨rfl, t, ht, hw⟩
  rw [Nat.zero_add] at hw
  have hc := hw.row.cell (i := 0) Nat.one_pos
  have HE := Lib.hid (askw_end H1.out H2.out hw (few_steps H1.out.lev (by omega) ht))
  have HPA := Lib.hid (HM.out.went hw).pa
  clear hw
  go_wp2_with fail
  refine (rasked_any t w2 HPA.out).mono ?_
  rintro o w3 ⟨rfl, rfl⟩
  go_wp2
  go_ret2
  exact ⟨rfl, HE.out.1, HE.out.2⟩
set_option maxHeartbeats 1000000 in
set_option maxRecDepth 100000 in
theorem rwcount_any (B T : Nat) (v : Value) (xs : List Int) (sigma lo hi x : Int) (w : World) (h : IsW B T w v xs sigma) :
    Calls Try.prog 19 #[v, .int .i64 lo, .int .i64 hi, .int .i64 x] w (WavGave IsW B T v xs sigma (.int .i64 (countL xs lo hi x)) w) := by
  obtain ⟨p, q, L, cap, st, qa, lb, lt, ba, rfl, h1, h2, h3⟩ := h
  have HM := Lib.hid (midw_start h1 h2)
  have H1 := Lib.hid h1
  have H2 := Lib.hid h2
  have hxl := h1.len
  clear h1 h2 h3
  by_cases hno : min hi xs.length ≤ max lo 0 ∨ x < 0 ∨ sigma ≤ x
  · have HZ : Hid (countL xs lo hi x = 0) := Lib.hid (by
      rcases hno with h | h
      · exact part_none xs x lo hi h
      · exact count_out H1.out.may x lo hi (by omega))
    rw [HZ.out]
    have HE := Lib.hid (askw_end H1.out H2.out (Went.stay HM.out.sr (Below.refl _ _)) (Nat.zero_le _))
    have hc := HM.out.sr.cell (i := 0) Nat.one_pos
    go_enter Try.func19, Try.ntmps19
    go_wp2_with fail
    refine (rgather_out lo hi x _ hno HM.out).mono ?_
    rintro o w2 ⟨rfl, rfl⟩
    go_wp2_with fail
    refine (rasked_any 0 _ HM.out.pa).mono ?_
    rintro o w3 ⟨rfl, rfl⟩
    go_wp2
    go_ret
    exact ⟨rfl, HE.out.1, HE.out.2⟩
  · obtain ⟨a, ha⟩ : ∃ a : Nat, (a : Int) = max lo 0 := ⟨(max lo 0).toNat, by omega⟩
    obtain ⟨b, hb⟩ : ∃ b : Nat, (b : Int) = min hi xs.length := ⟨(min hi xs.length).toNat, by omega⟩
    have hab : a < b := by omega
    have hbn : b ≤ xs.length := by omega
    have hwc := way_count H1.out.may (by omega : 0 ≤ x) (by omega : x < sigma) a b (by omega) hbn
    rw [← H1.out.lev] at hwc
    have hlb := downL_le xs L x b hbn L
    have CG := Lib.hid (rgather_in lo hi x a b _ (by decide) ha hb hab (by omega) (by omega) HM.out)
    rw [(part_clamp xs x lo hi a b ha hb).1]
    generalize downL xs L x b L = g at *
    generalize downL xs L x a L = f at *
    generalize countL xs a b x = c at *
    have hsub : (g : Int) - (f : Int) = (c : Int) := by omega
    clear hwc ha hb
    go_enter Try.func19, Try.ntmps19
    go_wp2_with fail
    refine CG.out.mono ?_
    rintro o w2 ⟨rfl, t, ht, hw⟩
    rw [Nat.zero_add] at hw
    have hc := hw.row.cell (i := 0) Nat.one_pos
    have HE := Lib.hid (askw_end H1.out H2.out hw (few_steps H1.out.lev (by omega) ht))
    have HPA := Lib.hid (HM.out.went hw).pa
    clear hw
    go_wp2_with fail
    refine (rasked_any t w2 HPA.out).mono ?_
    rintro o w3 ⟨rfl, rfl⟩
    go_wp2
    go_ret
    exact ⟨rfl, HE.out.1, HE.out.2⟩
theorem nth_neg (xs : List Int) (lo hi s j : Int) (h : j < 0) : nthL xs lo hi s j = -1 := selFrom_none true j _ _ 0 (by omega)
set_option maxHeartbeats 1000000 in
set_option maxRecDepth 100000 in
theorem rwnth_any (B T : Nat) (v : Value) (xs : List Int) (sigma lo hi x j : Int) (w : World) (h : IsW B T w v xs sigma) :
    Calls Try.prog 20 #[v, .int .i64 lo, .int .i64 hi, .int .i64 x, .int .i64 j] w (WavGave IsW B T v xs sigma (.int .i64 (nthL xs lo hi x j)) w) := by
  obtain ⟨p, q, L, cap, st, qa, lb, lt, ba, rfl, h1, h2, h3⟩ := h
  have HM := Lib.hid (midw_start h1 h2)
  have H1 := Lib.hid h1
  have H2 := Lib.hid h2
  have hxl := h1.len
  clear h1 h2 h3
  by_cases hno : min hi xs.length ≤ max lo 0 ∨ x < 0 ∨ sigma ≤ x
  · have hz : countL xs lo hi x = 0 := by
      rcases hno with h | h
      · exact part_none xs x lo hi h
      · exact count_out H1.out.may x lo hi (by omega)
    have HN : Hid (nthL xs lo hi x j = -1) := Lib.hid (by
      by_cases h : j < 0
      · exact nth_neg xs lo hi x j h
      · exact nth_many xs lo hi x j (by rw [hz]; omega))
    rw [HN.out]
    clear hz
    have HE := Lib.hid (askw_end H1.out H2.out (Went.stay HM.out.sr (Below.refl _ _)) (Nat.zero_le _))
    have hc := HM.out.sr.cell (i := 0) Nat.one_pos
    by_cases hj : 0 ≤ j
    · have g1 : decide (0 ≤ j) = true := decide_eq_true hj
      have g2 : decide (j < 0) = false := decide_eq_false (by omega)
      go_enter Try.func20, Try.ntmps20
      go_wp2_with fail
      refine (rgather_out lo hi x _ hno HM.out).mono ?_
      rintro o w2 ⟨rfl, rfl⟩
      go_wp2_with fail
      refine (rasked_any 0 _ HM.out.pa).mono ?_
      rintro o w3 ⟨rfl, rfl⟩
      go_wp2
      go_ret
      exact ⟨rfl, HE.out.1, HE.out.2⟩
    · have g1 : decide (0 ≤ j) = false := decide_eq_false hj
      go_enter Try.func20, Try.ntmps20
      go_wp2_with fail
      refine (rgather_out lo hi x _ hno HM.out).mono ?_
      rintro o w2 ⟨rfl, rfl⟩
      go_wp2_with fail
      refine (rasked_any 0 _ HM.out.pa).mono ?_
      rintro o w3 ⟨rfl, rfl⟩
      go_wp2
      go_ret
      exact ⟨rfl, HE.out.1, HE.out.2⟩
  · obtain ⟨a, ha⟩ : ∃ a : Nat, (a : Int) = max lo 0 := ⟨(max lo 0).toNat, by omega⟩
    obtain ⟨b, hb⟩ : ∃ b : Nat, (b : Int) = min hi xs.length := ⟨(min hi xs.length).toNat, by omega⟩
    have hab : a < b := by omega
    have hbn : b ≤ xs.length := by omega
    have hwc := way_count H1.out.may (by omega : 0 ≤ x) (by omega : x < sigma) a b (by omega) hbn
    rw [← H1.out.lev] at hwc
    have hlb := downL_le xs L x b hbn L
    have CG := Lib.hid (rgather_in lo hi x a b _ (by decide) ha hb hab (by omega) (by omega) HM.out)
    rw [(part_clamp xs x lo hi a b ha hb).2 j]
    by_cases hin : 0 ≤ j ∧ j < (countL xs a b x : Int)
    · obtain ⟨n, rfl⟩ : ∃ n : Nat, j = (n : Int) := ⟨j.toNat, by omega⟩
      obtain ⟨r, hr, hrx, hrn, hrd⟩ := way_nth H1.out.may (by omega : 0 ≤ x) (by omega : x < sigma) a b n hbn (by omega)
      rw [← H1.out.lev] at hrd
      rw [hrn]
      clear hrn
      have CC := Lib.hid (fun t w2 (ht : t ≤ 1000) hm => rclimb_any (st := st) (s := t) (sb := w.heap.size) (B := B) (T := T) (p := p) (q := q) (L := L) (cap := cap) (qa := qa) (lb := lb) (lt := lt) (ba := ba) (xs := xs) (sigma := sigma) r x w2 ht hr hrx hm)
      generalize downL xs L x b L = g at *
      generalize downL xs L x a L = f at *
      generalize countL xs a b x = c at *
      generalize downL xs L x r L = m at *
      have hsub : (g : Int) - (f : Int) = (c : Int) := by omega
      have hsum : (f : Int) + (n : Int) = (m : Int) := by omega
      have g1 : decide ((n : Int) < (c : Int)) = true := decide_eq_true hin.2
      have g2 : decide (n < c) = true := decide_eq_true (by omega)
      have hmb : m ≤ 2000000 := by omega
      have hfew := HM.out.few
      clear hwc ha hb hrd
      go_enter Try.func20, Try.ntmps20
      go_wp2_with fail
      refine CG.out.mono ?_
      rintro o w2 ⟨rfl, t, ht, hw⟩
      rw [Nat.zero_add] at hw
      have HM2 := Lib.hid (HM.out.went hw)
      have HW := Lib.hid hw
      clear hw
      go_wp2_with fail
      refine (CC.out t w2 (by omega) HM2.out).mono ?_
      rintro o w3 ⟨rfl, d, hd, hw3⟩
      have hc := hw3.row.cell (i := 0) Nat.one_pos
      have HE := Lib.hid (askw_end H1.out H2.out (HW.out.trans hw3) (few_steps (n := 5) H1.out.lev (by omega) (by omega)))
      have HPA := Lib.hid (HM2.out.went hw3).pa
      clear hw3
      go_wp2_with fail
      refine (rasked_any (t + d) w3 HPA.out).mono ?_
      rintro o w4 ⟨rfl, rfl⟩
      go_wp2
      go_ret
      exact ⟨rfl, HE.out.1, HE.out.2⟩
    · have HN : Hid (nthL xs a b x j = -1) := Lib.hid (by
        by_cases h : j < 0
        · exact nth_neg xs a b x j h
        · exact nth_many xs a b x j (by omega))
      rw [HN.out]
      generalize downL xs L x b L = g at *
      generalize downL xs L x a L = f at *
      generalize countL xs a b x = c at *
      have hsub : (g : Int) - (f : Int) = (c : Int) := by omega
      clear hwc ha hb
      by_cases hj : 0 ≤ j
      · have g1 : decide (0 ≤ j) = true := decide_eq_true hj
        have g2 : decide (j < (c : Int)) = false := decide_eq_false (by omega)
        go_enter Try.func20, Try.ntmps20
        go_wp2_with fail
        refine CG.out.mono ?_
        rintro o w2 ⟨rfl, t, ht, hw⟩
        rw [Nat.zero_add] at hw
        have hc := hw.row.cell (i := 0) Nat.one_pos
        have HE := Lib.hid (askw_end H1.out H2.out hw (few_steps H1.out.lev (by omega) ht))
        have HPA := Lib.hid (HM.out.went hw).pa
        clear hw
        go_wp2_with fail
        refine (rasked_any t w2 HPA.out).mono ?_
        rintro o w3 ⟨rfl, rfl⟩
        go_wp2
        go_ret
        exact ⟨rfl, HE.out.1, HE.out.2⟩
      · have g1 : decide (0 ≤ j) = false := decide_eq_false hj
        go_enter Try.func20, Try.ntmps20
        go_wp2_with fail
        refine CG.out.mono ?_
        rintro o w2 ⟨rfl, t, ht, hw⟩
        rw [Nat.zero_add] at hw
        have hc := hw.row.cell (i := 0) Nat.one_pos
        have HE := Lib.hid (askw_end H1.out H2.out hw (few_steps H1.out.lev (by omega) ht))
        have HPA := Lib.hid (HM.out.went hw).pa
        clear hw
        go_wp2_with fail
        refine (rasked_any t w2 HPA.out).mono ?_
        rintro o w3 ⟨rfl, rfl⟩
        go_wp2
        go_ret
        exact ⟨rfl, HE.out.1, HE.out.2⟩
set_option maxHeartbeats 1000000 in
set_option maxRecDepth 100000 in
theorem rwrank_any (B T : Nat) (v : Value) (xs : List Int) (sigma k x : Int) (w : World) (h : IsW B T w v xs sigma) :
    Calls Try.prog 16 #[v, .int .i64 k, .int .i64 x] w (WavGave IsW B T v xs sigma (.int .i64 (countL xs 0 k x)) w) := by
  have CC := Lib.hid (rwcount_any B T v xs sigma 0 k x w h)
  obtain ⟨a, rfl⟩ := isw_ptr B T w v xs sigma h
  clear h
  go_enter Try.func16, Try.ntmps16
  go_wp2_with fail
  refine CC.out.mono ?_
  rintro o w2 ⟨rfl, hi, ha⟩
  go_wp2
  go_ret
  exact ⟨rfl, hi, ha⟩
theorem rwlenI_any (B T : Nat) (v : Value) (xs : List Int) (sigma : Int) (w : World) (h : IsW B T w v xs sigma) :
    Calls Try.prog 10 #[v] w fun e w' => e = .returned (.int .i64 xs.length) ∧ w = w' := by
  obtain ⟨p, q, L, cap, st, qa, lb, lt, ba, rfl, h1, h2, h3⟩ := h
  exact rwlen_any p xs.length w h2.num
set_option maxHeartbeats 1000000 in
set_option maxRecDepth 100000 in
theorem rwselect_any (B T : Nat) (v : Value) (xs : List Int) (sigma j x : Int) (w : World) (h : IsW B T w v xs sigma) :
    Calls Try.prog 17 #[v, .int .i64 j, .int .i64 x] w (WavGave IsW B T v xs sigma (.int .i64 (nthL xs 0 xs.length x j)) w) := by
  have CL := Lib.hid (rwlenI_any B T v xs sigma w h)
  have CC := Lib.hid (rwnth_any B T v xs sigma 0 xs.length x j w h)
  obtain ⟨a, rfl⟩ := isw_ptr B T w v xs sigma h
  clear h
  go_enter Try.func17, Try.ntmps17
  go_wp2_with fail
  refine CL.out.mono ?_
  rintro o w1 ⟨rfl, rfl⟩
  go_wp2_with fail
  refine CC.out.mono ?_
  rintro o w2 ⟨rfl, hi, ha⟩
  go_wp2
  go_ret
  exact ⟨rfl, hi, ha⟩
end Go.Proofs.Ytnjlckgmoodkiaa
