/-
  THE LANDED PACKAGE paren: its questions.
-/
import Derived.Test.YteecanaibkpmfaaRunPEnc
import Derived.Test.YteecanaibkpmfaaRunSel
namespace Go.Proofs.Yteecanaibkpmfaa
open Go.RowKit

/-- v IS A Paren OF THE BALANCED ROW xs, in blocks from B to below T, and its steps are few. -/
def IsP (B T : Nat) (w : World) (v : Value) (xs : List Bool) : Prop :=
  ∃ (p q P cap st : Nat) (bv : Value) (bl : Nat → Nat), v = .pointer (some ⟨p, 0, none⟩) ∧ InP B T p q P bv bl xs w ∧ PaV p q P cap st w ∧ st ≤ stepsN xs.length
theorem isp_keep (B T : Nat) (w w' : World) (v : Value) (xs : List Bool) (h : IsP B T w v xs) (hs : w.heap.size ≤ w'.heap.size) (hk : ∀ k, B ≤ k → k < T → w'.heap[k]? = w.heap[k]?) : IsP B T w' v xs := by
  obtain ⟨p, q, P, cap, st, bv, bl, rfl, h1, h2, h3⟩ := h
  exact ⟨p, q, P, cap, st, bv, bl, rfl, h1.keep hs fun k a b _ => hk k a b, h2.of_block (hk p h1.pB h1.pT), h3⟩
theorem isp_below {B T : Nat} {w w' : World} {v : Value} {xs : List Bool} (h : IsP B T w v xs) (hb : Below w.heap.size w w') : IsP B T w' v xs := by
  have hT : T ≤ w.heap.size := by obtain ⟨_, _, _, _, _, _, _, _, h1, _⟩ := h; exact h1.size
  exact isp_keep B T w w' v xs h hb.size fun k _ h2 => hb.block k (by omega)
theorem isp_ptr (B T : Nat) (w : World) (v : Value) (xs : List Bool) (h : IsP B T w v xs) : ∃ a, v = .pointer (some a) := by
  obtain ⟨p, _, _, _, _, _, _, rfl, _⟩ := h
  exact ⟨_, rfl⟩
theorem isp_span (B T : Nat) (w : World) (v : Value) (xs : List Bool) (h : IsP B T w v xs) : B ≤ T ∧ T ≤ w.heap.size := by
  obtain ⟨p, _, _, _, _, _, _, rfl, h1, _⟩ := h
  exact ⟨by have := h1.pB; have := h1.pT; omega, h1.size⟩
set_option maxHeartbeats 1000000 in
set_option maxRecDepth 100000 in
/-- the count is put into the Paren -/
theorem rlooked_any (p q P cap st t : Nat) (w : World) (h : PaV p q P cap st w) :
    Calls Try.prog 41 #[.pointer (some ⟨p, 0, none⟩), .int .i64 t] w fun e w' => e = .returned (.tuple #[]) ∧ w' = w.setCell ⟨p, 1, none⟩ (.int .i64 t) := by
  have c1 := h.cell (i := 1) (by decide)
  have c2 := h.frozen 1
  clear h
  go_enter Try.func41, Try.ntmps41
  go_wp2
  go_end0
  exact ⟨rfl, rfl⟩
section
variable {B T p q P cap st : Nat} {bv : Value} {bl : Nat → Nat} {xs : List Bool} {w : World}
theorem isp_of (h1 : InP B T p q P bv bl xs w) (h2 : PaV p q P cap st w) (h3 : st ≤ stepsN xs.length) : IsP B T w (.pointer (some ⟨p, 0, none⟩)) xs := ⟨p, q, P, cap, st, bv, bl, rfl, h1, h2, h3⟩
/-- a question begins: a new count -/
theorem mid_start (h1 : InP B T p q P bv bl xs w) (h2 : PaV p q P cap st w) : Mid B T p q P cap st w.heap.size bv bl xs 0 (w.alloc (.cells #[.int .i64 0] 3)) := by
  have hb := (Below.refl w.heap.size w).alloc (Nat.le_refl _) (.cells #[.int .i64 0] 3)
  exact ⟨h1.keep hb.size fun k _ h _ => hb.block k (by have := h1.size; omega), h2.of_block (hb.block p (by have := h1.size; have := h1.pT; omega)), h1.size, new_box w (.int .i64 0) _⟩
theorem went_start {t : Nat} {w2 : World} (hw : Went w.heap.size t (w.alloc (.cells #[.int .i64 0] 3)) w2) : Below w.heap.size w w2 := by
  have hb := (Below.refl w.heap.size w).alloc (Nat.le_refl _) (.cells #[.int .i64 0] 3)
  exact hb.trans ⟨hw.apart.os, hw.apart.tape, hw.apart.output, hw.apart.size, fun k hk => hw.apart.block k (by have := hb.size; omega) (Or.inl hk)⟩
/-- a question ends: its count is kept -/
theorem ask_end {t : Nat} {w2 : World} (h1 : InP B T p q P bv bl xs w) (h2 : PaV p q P cap st w) (hw : Went w.heap.size t (w.alloc (.cells #[.int .i64 0] 3)) w2) (ht : t ≤ stepsN xs.length) :
    IsP B T (w2.setCell ⟨p, 1, none⟩ (.int .i64 t)) (.pointer (some ⟨p, 0, none⟩)) xs ∧ Apart B T w (w2.setCell ⟨p, 1, none⟩ (.int .i64 t)) := by
  have hb := went_start hw
  have hz := h1.size
  have hp := h1.pT
  have hpB := h1.pB
  have i2 : InP B T p q P bv bl xs w2 := h1.keep hb.size fun k _ h _ => hb.block k (by omega)
  have p2 : PaV p q P cap st w2 := h2.of_block (hb.block p (by omega))
  refine ⟨isp_of (st := t) (cap := cap) (i2.keep (by rw [Deep.nblk_setCell]; exact Nat.le_refl _) fun k _ _ hk => Below.heap_setCell _ _ _ _ hk) ?_ ht, ⟨hb.os, hb.tape, hb.output, by rw [Deep.nblk_setCell]; exact hb.size, fun k hk h => ?_⟩⟩
  · refine (World.rowIs.set p2 1 _).congr fun i hi => ?_
    rcases (show i = 0 ∨ i = 1 by omega) with rfl | rfl <;> rfl
  · rw [Below.heap_setCell _ _ _ _ (show k ≠ p by omega)]
    exact hb.block k hk
theorem row_of (h1 : InP B T p q P bv bl xs w) (h2 : PaV p q P cap st w) : Calls Try.prog 43 #[.pointer (some ⟨p, 0, none⟩)] w fun e w' => e = .returned (.agg #[bv]) ∧ Below w.heap.size w w' := by
  obtain ⟨a, ha⟩ := kept_ptr _ _ _ _ h1.kept.kept
  exact rrow_any p q P cap a bv ha w (h2.cell (i := 0) (by decide)) (h1.parts 0 h1.top.one) h1.top.one
theorem kept_of {w' : World} (h1 : InP B T p q P bv bl xs w) (hb : Below w.heap.size w w') : Kept B w' bv xs :=
  (h1.keep hb.size fun k _ h _ => hb.block k (by have := h1.size; omega)).kept.kept
end
theorem aft_few {xs : List Bool} {d : Nat} (h : d ≤ aftN xs.length + 4) : d ≤ stepsN xs.length := by
  by_cases h0 : xs.length = 0
  · rw [h0] at h ⊢
    have : aftN 0 = 3 := rfl
    have : 80 ≤ stepsN 0 := by unfold stepsN; omega
    omega
  · have := steps_few xs.length (by omega)
    omega
set_option maxHeartbeats 1000000 in
set_option maxRecDepth 100000 in
theorem rclose_any (B T : Nat) (v : Value) (xs : List Bool) (k : Int) (w : World) (hk : In64 k) (h : IsP B T w v xs) :
    Calls Try.prog 13 #[v, .int .i64 k] w (ParGave IsP B T v xs (.int .i64 (closeL xs k)) w) := by
  obtain ⟨p, q, P, cap, st, bv, bl, rfl, h1, h2, h3⟩ := h
  have HM := Lib.hid (mid_start h1 h2)
  have H1 := Lib.hid h1
  have H2 := Lib.hid h2
  clear h1 h2 h3
  go_enter Try.func13, Try.ntmps13
  go_wp2_with fail
  refine (rclosing_any k _ (by decide) hk HM.out).mono ?_
  rintro o w2 ⟨rfl, t, ht, hw⟩
  rw [Nat.zero_add] at hw
  have hc := hw.row.cell (i := 0) Nat.one_pos
  have HE := Lib.hid (ask_end H1.out H2.out hw (aft_few ht))
  have HPA := Lib.hid (HM.out.went hw).pa
  clear hw
  go_wp2_with fail
  refine (rlooked_any p q P cap st t w2 HPA.out).mono ?_
  rintro o w3 ⟨rfl, rfl⟩
  go_wp2
  go_ret
  exact ⟨rfl, HE.out.1, HE.out.2⟩
set_option maxHeartbeats 1000000 in
set_option maxRecDepth 100000 in
theorem rbegin_any (B T : Nat) (v : Value) (xs : List Bool) (k : Int) (w : World) (hk : In64 k) (h : IsP B T w v xs) :
    Calls Try.prog 14 #[v, .int .i64 k] w (ParGave IsP B T v xs (.int .i64 (beginL xs k)) w) := by
  obtain ⟨p, q, P, cap, st, bv, bl, rfl, h1, h2, h3⟩ := h
  have HM := Lib.hid (mid_start h1 h2)
  have H1 := Lib.hid h1
  have H2 := Lib.hid h2
  clear h1 h2 h3
  go_enter Try.func14, Try.ntmps14
  go_wp2_with fail
  refine (rbeginning_any k _ (by decide) hk HM.out).mono ?_
  rintro o w2 ⟨rfl, t, ht, hw⟩
  rw [Nat.zero_add] at hw
  have hc := hw.row.cell (i := 0) Nat.one_pos
  have HE := Lib.hid (ask_end H1.out H2.out hw (aft_few ht))
  have HPA := Lib.hid (HM.out.went hw).pa
  clear hw
  go_wp2_with fail
  refine (rlooked_any p q P cap st t w2 HPA.out).mono ?_
  rintro o w3 ⟨rfl, rfl⟩
  go_wp2
  go_ret
  exact ⟨rfl, HE.out.1, HE.out.2⟩
set_option maxHeartbeats 1000000 in
set_option maxRecDepth 100000 in
theorem rup_any (B T : Nat) (v : Value) (xs : List Bool) (k n : Int) (w : World) (hk : In64 k) (hn : In64 n) (h : IsP B T w v xs) :
    Calls Try.prog 18 #[v, .int .i64 k, .int .i64 n] w (ParGave IsP B T v xs (.int .i64 (upL xs k n)) w) := by
  obtain ⟨p, q, P, cap, st, bv, bl, rfl, h1, h2, h3⟩ := h
  have HM := Lib.hid (mid_start h1 h2)
  have H1 := Lib.hid h1
  have H2 := Lib.hid h2
  clear h1 h2 h3
  go_enter Try.func18, Try.ntmps18
  go_wp2_with fail
  refine (renclosing_any k n _ (by decide) hk hn HM.out).mono ?_
  rintro o w2 ⟨rfl, t, ht, hw⟩
  rw [Nat.zero_add] at hw
  have hc := hw.row.cell (i := 0) Nat.one_pos
  have HE := Lib.hid (ask_end H1.out H2.out hw (aft_few ht))
  have HPA := Lib.hid (HM.out.went hw).pa
  clear hw
  go_wp2_with fail
  refine (rlooked_any p q P cap st t w2 HPA.out).mono ?_
  rintro o w3 ⟨rfl, rfl⟩
  go_wp2
  go_ret
  exact ⟨rfl, HE.out.1, HE.out.2⟩
set_option maxHeartbeats 1000000 in
set_option maxRecDepth 100000 in
theorem renclose_any (B T : Nat) (v : Value) (xs : List Bool) (k : Int) (w : World) (hk : In64 k) (h : IsP B T w v xs) :
    Calls Try.prog 21 #[v, .int .i64 k] w (ParGave IsP B T v xs (.int .i64 (encloseL xs k)) w) := by
  have CU := Lib.hid (rup_any B T v xs k 1 w hk ⟨by decide, by decide⟩ h)
  obtain ⟨p, q, P, cap, st, bv, bl, rfl, h1, h2, h3⟩ := h
  clear h1 h2 h3
  go_enter Try.func21, Try.ntmps21
  go_wp2_with fail
  refine CU.out.mono ?_
  rintro o w2 ⟨rfl, hi, ha⟩
  go_wp2
  go_ret
  exact ⟨by rw [← told_enclose]; rfl, hi, ha⟩
/-! ### what looks at nothing but the row -/
theorem field_row (v : Value) (w : World) : (Instr.field 48 (.agg #[v]) 0).run Try.prog w = .ok v w := by kernel_rfl
theorem getB_open (xs : List Bool) (k : Int) : getB xs k = openB xs k := by
  unfold getB openB
  by_cases h : 0 ≤ k ∧ k < xs.length
  · rw [if_pos h, decide_eq_true h.1, decide_eq_true h.2, Bool.true_and, Bool.true_and]
  · rw [if_neg h]
    by_cases h0 : 0 ≤ k
    · rw [decide_eq_false (fun h1 => h ⟨h0, h1⟩), Bool.false_and, Bool.and_false]
    · rw [decide_eq_false h0, Bool.false_and]
set_option maxHeartbeats 1000000 in
set_option maxRecDepth 100000 in
theorem rplenP_any (B T : Nat) (v : Value) (xs : List Bool) (w : World) (h : IsP B T w v xs) :
    Calls Try.prog 23 #[v] w fun e w' => e = .returned (.int .i64 xs.length) ∧ Below w.heap.size w w' := by
  obtain ⟨p, q, P, cap, st, bv, bl, rfl, h1, h2, h3⟩ := h
  have CR := Lib.hid (row_of h1 h2)
  have H1 := Lib.hid h1
  clear h1 h2 h3
  go_enter Try.func23, Try.ntmps23
  go_wp2_with fail
  refine CR.out.mono ?_
  rintro o w1 ⟨rfl, hb1⟩
  have CL := Lib.hid (rplen_any B bv xs w1 (kept_of H1.out hb1))
  go_wp2_with fail
  refine CL.out.mono ?_
  rintro o w2 ⟨rfl, hb2⟩
  go_wp2
  go_ret
  exact ⟨rfl, hb1.trans (hb2.mono hb1.size)⟩
set_option maxHeartbeats 1000000 in
set_option maxRecDepth 100000 in
theorem ropen_any (B T : Nat) (v : Value) (xs : List Bool) (k : Int) (w : World) (hk : In64 k) (h : IsP B T w v xs) :
    Calls Try.prog 22 #[v, .int .i64 k] w fun e w' => e = .returned (.bool (openB xs k)) ∧ Below w.heap.size w w' := by
  obtain ⟨p, q, P, cap, st, bv, bl, rfl, h1, h2, h3⟩ := h
  have CR := Lib.hid (row_of h1 h2)
  have H1 := Lib.hid h1
  have f1 := fun w => field_row bv w
  clear h1 h2 h3
  go_enter Try.func22, Try.ntmps22
  go_wp2_with fail
  refine CR.out.mono ?_
  rintro o w1 ⟨rfl, hb1⟩
  have CL := Lib.hid (rget_any B bv xs k w1 (kept_of H1.out hb1) H1.out.len hk)
  rw [getB_open] at CL
  go_wp2_with fail
  refine CL.out.mono ?_
  rintro o w2 ⟨rfl, rfl⟩
  go_wp2
  go_ret
  exact ⟨rfl, hb1⟩
set_option maxHeartbeats 1000000 in
set_option maxRecDepth 100000 in
theorem rplace_any (B T : Nat) (v : Value) (xs : List Bool) (k : Int) (w : World) (h : IsP B T w v xs) :
    Calls Try.prog 19 #[v, .int .i64 k] w fun e w' => e = .returned (.int .i64 (selL xs k true)) ∧ Below w.heap.size w w' := by
  obtain ⟨p, q, P, cap, st, bv, bl, rfl, h1, h2, h3⟩ := h
  have CR := Lib.hid (row_of h1 h2)
  have H1 := Lib.hid h1
  have f1 := fun w => field_row bv w
  clear h1 h2 h3
  go_enter Try.func19, Try.ntmps19
  go_wp2_with fail
  refine CR.out.mono ?_
  rintro o w1 ⟨rfl, hb1⟩
  have CL := Lib.hid (rsel_any B bv xs k true w1 (kept_of H1.out hb1) H1.out.len)
  go_wp2_with fail
  refine CL.out.mono ?_
  rintro o w2 ⟨rfl, hb2⟩
  go_wp2
  go_ret
  exact ⟨rfl, hb1.trans (hb2.mono hb1.size)⟩
set_option maxHeartbeats 1000000 in
set_option maxRecDepth 100000 in
theorem rnumber_any (B T : Nat) (v : Value) (xs : List Bool) (k : Int) (w : World) (hk : In64 k) (h : IsP B T w v xs) :
    Calls Try.prog 16 #[v, .int .i64 k] w fun e w' => e = .returned (.int .i64 (numberL xs k)) ∧ Below w.heap.size w w' := by
  have CO := Lib.hid (ropen_any B T v xs k w hk h)
  have H := Lib.hid h
  obtain ⟨a, rfl⟩ := isp_ptr B T w v xs h
  clear h
  obtain ⟨u, hu⟩ : ∃ u, openB xs k = u := ⟨_, rfl⟩
  have HU := Lib.hid hu
  rw [hu] at CO
  clear hu
  cases u
  · rw [show numberL xs k = -1 from by unfold numberL; rw [HU.out]; rfl]
    go_enter Try.func16, Try.ntmps16
    go_wp2_with fail
    refine CO.out.mono ?_
    rintro o w1 ⟨rfl, hb1⟩
    go_wp2
    go_ret
    exact ⟨rfl, hb1⟩
  · rw [show numberL xs k = (rankL xs k true : Int) from by unfold numberL; rw [HU.out]; rfl]
    go_enter Try.func16, Try.ntmps16
    go_wp2_with fail
    refine CO.out.mono ?_
    rintro o w1 ⟨rfl, hb1⟩
    have HI := Lib.hid (isp_below H.out hb1)
    obtain ⟨p, q, P, cap, st, bv, bl, hv, h1, h2, h3⟩ := HI.out
    injection hv with hv
    injection hv with hv
    subst hv
    have CR := Lib.hid (row_of h1 h2)
    have H1 := Lib.hid h1
    have f1 := fun w => field_row bv w
    clear h1 h2 h3 HI
    go_wp2_with fail
    refine CR.out.mono ?_
    rintro o w2 ⟨rfl, hb2⟩
    have CL := Lib.hid (rrank_any B bv xs k true w2 (kept_of H1.out hb2) H1.out.len)
    go_wp2_with fail
    refine CL.out.mono ?_
    rintro o w3 ⟨rfl, n, rfl⟩
    go_wp2
    go_ret
    exact ⟨rfl, drewN_below (hb1.trans (hb2.mono hb1.size)) n⟩
end Go.Proofs.Yteecanaibkpmfaa
