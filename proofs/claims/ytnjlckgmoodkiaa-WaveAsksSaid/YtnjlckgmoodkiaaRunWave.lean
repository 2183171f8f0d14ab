/-
  THE LANDED PACKAGE wave MEETS WHAT THE LAWS OF LAYER 6 ASK OF IT (WavSaid).
-/
import Derived.Test.YtnjlckgmoodkiaaRunWNew
namespace Go.Proofs.Ytnjlckgmoodkiaa
open Go.RowKit

set_option maxHeartbeats 400000 in
set_option maxRecDepth 100000 in
theorem rwnew_any (s : Value) (xs : List Int) (sigma : Int) (w : World) (hx : xs.length ≤ 1048576) (hs : SymOK w s xs) (hm : maySyms xs sigma = true) :
    Calls Try.prog 9 #[s, .int .i64 sigma] w fun e w' => ∃ v, e = .returned (.tuple #[v, .int .i64 0]) ∧ IsW w.heap.size w'.heap.size w' v xs sigma ∧ Below w.heap.size w w' := by
  obtain ⟨i0, hi, hz0, hz1, hz2⟩ := info_parts info_partW
  have hsg := may_sigma hm
  have hwi : withinL xs sigma = true := by
    rw [may_within, Bool.and_eq_true] at hm
    exact hm.1
  have CW := Lib.hid (rwithin_any s xs sigma w hx hs.1)
  rw [hwi] at CW
  clear hwi
  obtain ⟨g, hg⟩ : ∃ g : Nat, sigma - 1 = (g : Int) := ⟨(sigma - 1).toNat, by omega⟩
  have HLV : Hid (widthN g = levelsN sigma) := Lib.hid (by unfold levelsN; rw [hg, Int.toNat_natCast])
  have hfew := levels_few hsg.2
  have CWD := Lib.hid (fun w1 => rwidth_any g w1 (by omega))
  rw [HLV.out] at CWD
  have hwrap : IntKind.u64.wrap (g : Int) = (g : Int) := by rw [IntKind.wrap_u64]; omega
  obtain ⟨L, hL⟩ : ∃ L, levelsN sigma = L := ⟨_, rfl⟩
  rw [hL] at CWD hfew
  have HL := Lib.hid hL
  have HS := Lib.hid hs
  have HM := Lib.hid hm
  have g1 : decide (sigma < 1) = false := decide_eq_false (by omega)
  have g2 : decide (1048576 < sigma) = false := decide_eq_false (by omega)
  have g3 : decide (1048576 < xs.length) = false := decide_eq_false (by omega)
  have g4 : decide ((1048576 : Int) < (xs.length : Int)) = false := decide_eq_false (by omega)
  have HXB : Hid (∀ x ∈ xs, 0 ≤ x ∧ x ≤ 1048576) := Lib.hid (by
    intro x hx2
    simp only [maySyms, Bool.and_eq_true, List.all_eq_true, decide_eq_true_eq] at hm
    have := hm.1 x hx2
    omega)
  obtain ⟨_, sa, scap, rfl, _⟩ := hs
  clear hm hL HLV
  go_enter Try.func9, Try.ntmps9
  go_wp2_with fail
  refine CW.out.mono ?_
  rintro o w0 ⟨rfl, rfl⟩
  go_wp2_with fail
  refine (CWD.out _).mono ?_
  rintro o w1 ⟨rfl, rfl⟩
  have HR0 := Lib.hid (rising_startW (L := L) (lb := fun _ => 0) (lt := fun _ => 0) (ba := fun _ => ⟨0, 0, none⟩) (xs := xs) (sigma := sigma) xs.length w rfl)
  have HB0 := Lib.hid ((Below.refl w.heap.size w).alloc (Nat.le_refl _) (.cells #[.int .i64 xs.length, .int .i64 sigma, .slice none 0 0, .int .i64 0] 44))
  obtain ⟨p, hp⟩ : ∃ p, w.heap.size = p := ⟨_, rfl⟩
  rw [hp] at HR0 HB0 ⊢
  go_wp2
  generalize w.alloc (.cells #[.int .i64 xs.length, .int .i64 sigma, .slice none 0 0, .int .i64 0] 44) = W0 at *
  have HS0 := Lib.hid (HS.out.below (HB0.out.mono (by omega)))
  go_loopw [0, 7] (fun lv iv wr => ∃ (i j cap : Nat) (qa : Option Addr) (lb lt : Nat → Nat) (ba : Nat → Addr), i + j = L ∧ iv = .int .i64 ((i : Int) - 1) ∧ SymOK wr lv (rowL xs L j) ∧ RisingW p j L cap qa lb lt ba xs sigma wr ∧ Below p w wr) (fun _ iv _ => (intOf iv + 1).toNat)
  case atStart => exact ⟨L, 0, 0, none, _, _, _, rfl, rfl, HS0.out, HR0.out, HB0.out⟩
  case round =>
    obtain ⟨i, j, cap, qa, lb, lt, ba, hij, rfl, hsy, hri, hbe⟩ := hrel
    have HSY := Lib.hid hsy
    have HRI := Lib.hid hri
    have HBE := Lib.hid hbe
    clear hsy hri hbe
    by_cases h0 : i = 0
    · subst h0
      obtain rfl : j = L := by omega
      go_wp2
      go_ret2
      exact ⟨_, rfl, by rw [hp]; exact HRI.out.done HL.out.symm HM.out hx, by rw [hp]; exact HBE.out⟩
    · obtain ⟨m, rfl⟩ : ∃ m, i = m + 1 := ⟨i - 1, by omega⟩
      have ei : ((m + 1 : Nat) : Int) - 1 = (m : Int) := by omega
      rw [ei]
      have hmj : L - 1 - j = m := by omega
      have CS := Lib.hid (rsplit_any _ (rowL xs L j) m wr (by rw [rowL_length]; exact hx) (fun x hx2 => HXB.out x ((rowL_mem xs L x j).1 hx2)) (by omega) HSY.out)
      go_wp2_with fail
      refine CS.out.mono ?_
      rintro o w2 ⟨a, b2, t2, s2, rfl, hb2, ht2, hk2, hs2, hbel⟩
      have HB2 := Lib.hid (hbel.alloc hbel.size (.cells #[.pointer (some a)] 49))
      have hbox := new_box w2 (.pointer (some a)) 49
      have HK2 := Lib.hid (hk2.keep fun k _ h => Below.heap_alloc w2 (.cells #[.pointer (some a)] 49) k (by omega))
      have HS2 := Lib.hid (ownI_same hs2 fun k _ h => Below.heap_alloc w2 (.cells #[.pointer (some a)] 49) k h)
      have hz2 : w2.heap.size < (w2.alloc (.cells #[.pointer (some a)] 49)).heap.size := hbox.lt
      have hcx := hbox.cell (i := 0) Nat.one_pos
      have hwz := HRI.out.pa.lt
      have hbz := hbel.size
      go_wp2_with fail
      generalize w2.alloc (.cells #[.pointer (some a)] 49) = W2 at *
      have HR2 := Lib.hid (HRI.out.below HB2.out)
      have hcp := HR2.out.pa.slc
      have hpz := HR2.out.pa.lt
      have HPA : Hid ((W2.drew.alloc (.cells #[.iface 49 (.agg #[.pointer (some a)])] 53)).rowIs p 44 4 _) := Lib.hid (World.rowIs.alloc HR2.out.pa _)
      have hcp3 := HPA.out.cell (i := 2) (by decide)
      have hown0 : W2.drew.ownsRow (p + 1) 53 1 (.slice qa j cap) j ((List.range j).map (levV ba)) := HR2.out.own
      have hnew := World.news_of_block (heap_alloc_new W2.drew (.cells #[.iface 49 (.agg #[.pointer (some a)])] 53))
      have HOB : Hid ((Value.slice qa j cap).ownBlock ≠ some p) := Lib.hid (by
        rcases HR2.out.form with ⟨rfl, _, _⟩ | ⟨q, rfl, h1, _⟩
        · exact fun e => by cases e
        · exact fun e => by injection e with e; have : q = p := e; omega)
      go_region_law (refine step_append_lies _ (by rfl) _ _ 42 (by rfl) (p + 1) 53 i0 .nilIface 1 16 Try.underlying42 hi hz0 hz1 (by assumption) rfl (by decide) _ _ _ (by rfl) (hown0.alloc _) _ 1 1 _ (by rfl) rfl hnew (by intro u hu; simp at hu; subst hu; rfl) (by decide) (by unfold maxLen; omega) (by omega) (by simp; omega) (W2.heap.size + 1) (by simp) ?_; intro q2 cap2 w4 hown4 hgr4 hat4 hlt4; have hp4 := HPA.out.of_block (hgr4.block p (by simp; omega) (fun e => HOB.out e.symm)); have hc4 := hp4.cell (i := 2) (by decide); have hf4 := hp4.frozen 2)
      all_goals
        have HADD := Lib.hid ((HR2.out.below (Below.refl _ _).drew).add (b2 := b2) (t2 := t2) (a2 := a) (by omega) (Nat.le_trans ht2 (Nat.le_of_lt hz2)) (fun q hq => by
          rcases HRI.out.form with ⟨h, _⟩ | ⟨q', h, _, h3⟩
          · rw [h] at hq; cases hq
          · rw [h] at hq; injection hq with hq; injection hq with hq; omega) (by unfold bitsL; rw [hmj]; exact HK2.out) q2 cap2 _ _ w4 hgr4 hat4 hown4)
        have HOS : Hid (OwnI (w4.setCell ⟨p, 2, none⟩ (.slice (some ⟨q2, 0, none⟩) (j + 1) cap2)) wr.heap.size s2 (partB (rowL xs L j) m)) := Lib.hid (ownI_same HS2.out fun k h1 h2 => by
          rw [Below.heap_setCell _ _ _ _ (show k ≠ p by omega)]
          refine (hgr4.block k (by simp; omega) fun e => ?_).trans (Below.heap_alloc W2.drew _ k h2)
          rcases HRI.out.form with ⟨rfl, _, _⟩ | ⟨q', rfl, _, h3⟩
          · cases e
          · injection e with e
            have : k = q' := e
            omega)
        have HB5 := Lib.hid (((((HBE.out.trans (HB2.out.mono (by omega))).drew).alloc (by have := hpz; show p ≤ W2.heap.size; omega) (.cells #[.iface 49 (.agg #[.pointer (some a)])] 53)).grown hgr4 (by simp; omega) (fun k hk => by
          rcases HRI.out.form with ⟨rfl, _, _⟩ | ⟨q', rfl, h2, _⟩
          · cases hk
          · injection hk with hk
            have : q' = k := hk
            omega)).setCell (p := ⟨p, 2, none⟩) (Nat.le_refl _) (.slice (some ⟨q2, 0, none⟩) (j + 1) cap2))
        generalize w4.setCell ⟨p, 2, none⟩ (.slice (some ⟨q2, 0, none⟩) (j + 1) cap2) = W5 at *
        go_wp2
        go_roundw
        case rel =>
          refine ⟨m, j + 1, cap2, _, _, _, _, by omega, by go_num, ?_, HADD.out, HB5.out⟩
          have h := symOK_of HOS.out
          rw [← hmj] at h
          exact h
        case measure => simp [intOf]
set_option maxHeartbeats 1000000 in
set_option maxRecDepth 100000 in
theorem rwnewNo_any (s : Value) (xs : List Int) (sigma : Int) (w : World) (hx : xs.length ≤ 1048576) (hs : SymOK w s xs) (hm : maySyms xs sigma = false) :
    Calls Try.prog 9 #[s, .int .i64 sigma] w fun e w' => e = .returned (.tuple #[.pointer none, .int .i64 1]) ∧ Below w.heap.size w w' := by
  have CW := Lib.hid (rwithin_any s xs sigma w hx hs.1)
  obtain ⟨_, sa, scap, rfl, _⟩ := hs
  rw [may_within] at hm
  by_cases h1 : sigma < 1
  · have g1 : decide (sigma < 1) = true := decide_eq_true h1
    go_enter Try.func9, Try.ntmps9
    go_wp2
    go_ret2
    exact ⟨rfl, Below.refl _ _⟩
  · have g1 : decide (sigma < 1) = false := decide_eq_false h1
    by_cases h2 : 1048576 < sigma
    · have g2 : decide (1048576 < sigma) = true := decide_eq_true h2
      go_enter Try.func9, Try.ntmps9
      go_wp2
      go_ret2
      exact ⟨rfl, Below.refl _ _⟩
    · have g2 : decide (1048576 < sigma) = false := decide_eq_false h2
      rw [decide_eq_true (by omega : 1 ≤ sigma), decide_eq_true (by omega : sigma ≤ 1048576), Bool.and_self, Bool.and_true] at hm
      rw [hm] at CW
      clear hm
      go_enter Try.func9, Try.ntmps9
      go_wp2_with fail
      refine CW.out.mono ?_
      rintro o w0 ⟨rfl, rfl⟩
      go_wp2
      go_ret2
      exact ⟨rfl, Below.refl _ _⟩
theorem meth_level (n : Nat) (v : Value) (w : World) : (method (n + 1) 49 v "bracken/wave.size").run Try.prog w = .ok (72, v) w := by kernel_rfl
set_option maxHeartbeats 1000000 in
set_option maxRecDepth 100000 in
theorem rwsize_any (B T : Nat) (v : Value) (xs : List Int) (sigma : Int) (w : World) (h : IsW B T w v xs sigma) :
    Calls Try.prog 11 #[v] w fun e w' => e = .returned (.int .i64 (waveN xs.length sigma)) ∧ Below w.heap.size w w' := by
  obtain ⟨p, q, L, cap, st, qa, lb, lt, ba, rfl, h1, h2, h3⟩ := h
  have hxl := h1.len
  have HV : Hid (waveN xs.length sigma = L * bitsN xs.length) := Lib.hid (by unfold waveN; rw [h1.lev])
  have hfew : L ≤ 20 := by rw [h1.lev]; exact levels_few (may_sigma h1.may).2
  have hN : bitsN xs.length ≤ 2000000 := by unfold bitsN begunN; omega
  rw [HV.out]
  have hsl := h2.slc
  have CS := Lib.hid (fun (i : Nat) (hi : i < L) (u : World) (hb : Below w.heap.size w u) => rlsize_any (lb i) (.pointer (some (ba i))) (bitsL xs L i) u (by rw [bitsL_length]; omega) ((h1.kept i hi).keep fun k _ h => hb.block k (by have := (h1.lvs i hi).2.1; have := h1.size; omega)).kept)
  have CC := Lib.hid (fun (i : Nat) (hi : i < L) (u : World) (hb : Below w.heap.size w u) => (World.cell?_of_block (w := w) (a := ⟨q, i, none⟩) (hb.block q (by have := (h1.qs (by omega)).2.2.1; have := h1.size; omega))).trans (h1.parts i hi))
  have hqa := h1.qs
  clear h1 h2 h3
  generalize hbn : bitsN xs.length = bn at *
  have HBN := Lib.hid hbn
  clear hbn
  go_enter Try.func11, Try.ntmps11
  go_wp2
  go_loopw [3, 13] (fun nv iv wr => ∃ i : Nat, i ≤ L ∧ nv = .int .i64 ((i * bn : Nat) : Int) ∧ iv = .int .i64 i ∧ Below w.heap.size w wr) (fun _ iv _ => L - (intOf iv).toNat)
  case atStart => exact ⟨0, Nat.zero_le _, by rw [Nat.zero_mul]; rfl, rfl, Below.refl _ _⟩
  case round =>
    obtain ⟨i, hi, rfl, rfl, hb⟩ := hrel
    have HB := Lib.hid hb
    clear hb
    by_cases hlt : i < L
    · obtain ⟨rfl, _⟩ := hqa (by omega)
      have hc := CC.out i hlt wr HB.out
      unfold levV at hc
      have CL := Lib.hid (CS.out i hlt wr HB.out)
      rw [bitsL_length, HBN.out] at CL
      have m1 := fun n => meth_level n (.agg #[.pointer (some (ba i))]) wr
      have hmul : i * bn ≤ 20 * 2000000 := Nat.mul_le_mul (by omega) hN
      have HT : Hid (i * bn + bn = (i + 1) * bn) := Lib.hid (by rw [Nat.succ_mul])
      generalize i * bn = s at *
      go_wp2_with fail
      refine CL.out.mono ?_
      rintro o w2 ⟨rfl, hb2⟩
      have HB2 := Lib.hid (HB.out.trans (hb2.mono HB.out.size))
      clear hb2
      go_wp2
      go_roundw
      case rel => exact ⟨i + 1, by omega, by rw [← HT.out]; go_num, by go_num, HB2.out⟩
      case measure => simp [intOf]; omega
    · obtain rfl : i = L := by omega
      go_wp2
      go_ret
      exact ⟨rfl, HB.out⟩
set_option maxHeartbeats 1000000 in
set_option maxRecDepth 100000 in
theorem rgatherNil_any (w : World) (a : Addr) : Calls Try.prog 31 #[.pointer none, .int .i64 0, .int .i64 1, .int .i64 2, .pointer (some a)] w fun e w' => e = .returned (.tuple #[.int .i64 0, .int .i64 0]) ∧ w = w' := by
  go_enter Try.func31, Try.ntmps31
  go_wp2_with fail
  refine (rwlenNil_any w).mono ?_
  rintro o w0 ⟨rfl, rfl⟩
  go_wp2
  go_ret2
  exact ⟨rfl, rfl⟩
set_option maxHeartbeats 1000000 in
set_option maxRecDepth 100000 in
theorem rwnthNil_any (w : World) : Calls Try.prog 20 #[.pointer none, .int .i64 0, .int .i64 1, .int .i64 2, .int .i64 0] w fun e w' => e = .returned (.int .i64 (-1)) ∧ Below w.heap.size w w' := by
  have HB := Lib.hid (fun c t => (Below.refl w.heap.size w).alloc (Nat.le_refl _) (.cells c t))
  have hbox := new_box w (.int .i64 0) 3
  have hc := hbox.cell (i := 0) Nat.one_pos
  clear hbox
  go_enter Try.func20, Try.ntmps20
  go_wp2_with fail
  refine (rgatherNil_any _ _).mono ?_
  rintro o w2 ⟨rfl, rfl⟩
  go_wp2_with fail
  refine (raskedNil_any 0 _).mono ?_
  rintro o w3 ⟨rfl, rfl⟩
  go_wp2
  go_ret
  exact ⟨rfl, HB.out _ _⟩
theorem same_belowW {w : World} {r : Value} {f : FuncId} {args : Array Value} (h : Calls Try.prog f args w fun e w' => e = .returned r ∧ w = w') : Calls Try.prog f args w fun e w' => e = .returned r ∧ Below w.heap.size w w' :=
  h.mono (by rintro e w' ⟨rfl, rfl⟩; exact ⟨rfl, Below.refl _ _⟩)
theorem below_gaveW {B T : Nat} {v : Value} {xs : List Int} {sigma : Int} {w : World} {r : Value} {f : FuncId} {args : Array Value} (hi : IsW B T w v xs sigma) (h : Calls Try.prog f args w fun e w' => e = .returned r ∧ Below w.heap.size w w') :
    Calls Try.prog f args w (WavGave IsW B T v xs sigma r w) :=
  h.mono (by rintro e w' ⟨rfl, hb⟩; exact ⟨rfl, isw_below hi hb, Apart.of_below hb⟩)
theorem rwstepsI_any (B T : Nat) (v : Value) (xs : List Int) (sigma : Int) (w : World) (h : IsW B T w v xs sigma) :
    Calls Try.prog 30 #[v] w fun e w' => ∃ t : Nat, t ≤ stepsW sigma ∧ WavGave IsW B T v xs sigma (.int .i64 t) w e w' := by
  have h0 := h
  obtain ⟨p, q, L, cap, st, qa, lb, lt, ba, rfl, h1, h2, h3⟩ := h
  refine (rwsteps_any p st w h2.stp).mono ?_
  rintro e w' ⟨rfl, rfl⟩
  exact ⟨st, h3, rfl, h0, Apart.of_below (Below.refl _ _)⟩
/-- THE LANDED PACKAGE wave. -/
theorem wave_said : WavSaid (fun _ _ => True) IsW where
  stay := fun _ _ _ _ _ => trivial
  keep := isw_keep
  isPtr := isw_ptr
  span := isw_span
  newOk := fun _ s xs sigma w _ _ hx hs hm => rwnew_any s xs sigma w hx hs hm
  newNo := fun _ s xs sigma w _ _ hx _ _ hs hm => rwnewNo_any s xs sigma w hx hs hm
  len := fun _ B T v xs sigma w _ _ _ _ h => below_gaveW h (same_belowW (rwlenI_any B T v xs sigma w h))
  rank := fun _ B T v xs sigma k s w _ _ _ _ _ _ h => rwrank_any B T v xs sigma k s w h
  select := fun _ B T v xs sigma j s w _ _ _ _ _ _ h => rwselect_any B T v xs sigma j s w h
  count := fun _ B T v xs sigma lo hi s w _ _ _ _ _ _ _ h => rwcount_any B T v xs sigma lo hi s w h
  nth := fun _ B T v xs sigma lo hi s j w _ _ _ _ _ _ _ _ h => rwnth_any B T v xs sigma lo hi s j w h
  get := fun _ B T v xs sigma k w _ _ _ _ hk h => rwget_any B T v xs sigma k w hk h
  size := fun _ B T v xs sigma w _ _ _ _ h => below_gaveW h (rwsize_any B T v xs sigma w h)
  steps := fun _ B T v xs sigma w _ _ _ _ h => rwstepsI_any B T v xs sigma w h
  lenNil := fun _ w _ _ => same_belowW (rwlenNil_any w)
  nthNil := fun _ w _ _ => rwnthNil_any w
end Go.Proofs.Ytnjlckgmoodkiaa
