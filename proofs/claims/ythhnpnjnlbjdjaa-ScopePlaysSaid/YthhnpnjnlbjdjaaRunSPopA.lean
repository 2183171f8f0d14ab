/-
  THE LANDED PACKAGE scope: Pop.
-/
import Derived.Test.YthhnpnjnlbjdjaaRunSPop
import Derived.Deep.LoopGhost
namespace Go.Proofs.Ythhnpnjnlbjdjaa
open Go.RowKit

set_option maxHeartbeats 1000000 in
set_option maxRecDepth 100000 in
theorem rpop_none {F : Nat → Prop} {w : World} {sb : Nat} {VN : List Value} {vl vm : Value} (h : ScAt F w sb [] VN vl vm) :
    Calls Try.prog 17 #[.pointer (some ⟨sb, 0, none⟩)] w fun e w' => e = .returned (.bool false) ∧ w = w' := by
  have C := Lib.hid (rdepth_any h)
  go_enter Try.func17, Try.ntmps17
  go_wp2_with fail
  refine C.out.mono ?_
  rintro e w1 ⟨rfl, rfl⟩
  go_wp2
  go_ret
  exact ⟨rfl, rfl⟩
theorem rowIs_ne14 {w : World} {b b' : Nat} {t t' : TypeId} {n n' : Nat} {f f' : Nat → Value} (h : w.rowIs b t n f) (h' : w.rowIs b' t' n' f') (ht : t ≠ t') : b ≠ b' := by
  rintro rfl
  obtain ⟨c, e, _⟩ := h
  obtain ⟨c', e', _⟩ := h'
  rw [e] at e'
  injection e' with e'
  injection e' with _ e2 _
  exact ht e2
theorem own_blk {w : World} {base : Nat} {t : TypeId} {n n' g cap sz : Nat} {xs : List Value} (h : w.ownsRow base t sz (.slice (some ⟨g, 0, none⟩) n cap) n' xs) : ∃ cur, w.heap[g]? = some (Obj.cells cur t (0, 0)) := by
  rcases h.2 with ⟨e, _⟩ | ⟨g', c', cur, e, _, hg, _⟩
  · cases e
  · injection e with e _ _
    injection e with e
    injection e with e
    subst e
    exact ⟨cur, hg⟩
theorem drop_head {α : Type} {l : List α} {i : Nat} (h : i < l.length) : l.drop i = l[i] :: l.drop (i + 1) := List.drop_eq_getElem_cons h
set_option maxHeartbeats 1000000 in
set_option maxRecDepth 100000 in
theorem rpop_some {F : Nat → Prop} {w : World} {sb b0 : Nat} {lv : List Bb} {r : List (List Bb)} {VN : List Value} {vl vm : Value} (h : Parts14 F w sb (lv :: r) VN vl vm b0) (hN : NiceS (era (lv :: r))) :
    Calls Try.prog 17 #[.pointer (some ⟨sb, 0, none⟩)] w (GaveS IsSc F (.pointer (some ⟨sb, 0, none⟩)) (era r) (.bool true) w) := by
  have C := Lib.hid (rdepth_any h.sc)
  have hlen : (lv :: r).length = r.length + 1 := rfl
  have hfew : r.length < 1048576 := by have := hN.few; rw [era_len, hlen] at this; omega
  have hsm : lv.length ≤ 1048576 := by have := hN.small (lv.map (·.2)) (by simp [era]); simpa using this
  obtain ⟨v, vr, rfl⟩ : ∃ v vr, VN = v :: vr := by
    cases VN with
    | nil => exact h.sc.inn.elim
    | cons v vr => exact ⟨v, vr, rfl⟩
  have hvr : vr.length = r.length := h.sc.inn.2.2.len
  obtain ⟨g, cap, x, rfl, hc, hx, hcell⟩ := own_cell h.sc.lev (i := r.length) (by rw [hlen]; omega)
  obtain rfl : v = x := by
    rw [List.reverse_cons, List.getElem?_append_right (by simp [hvr])] at hx
    simpa [hvr] using hx
  obtain ⟨a, cv, rfl⟩ := own_slice h.sc.inn.1
  have c0 : w.cell? ⟨sb, 0, none⟩ = some (.slice (some ⟨g, 0, none⟩) (r.length + 1) cap) := h.sc.box.cell (i := 0) (by decide)
  have H := Lib.hid h
  have HN := Lib.hid hN
  have ey : (r.length : Int) + 1 - 1 = (r.length : Int) := by omega
  have il : (r.length : Int) < (r.length : Int) + 1 := by omega
  have ig : ¬ ((r.length : Int) < 0) := by omega
  have HG : Hid (∀ wr, Turns (fun k => vm = .map (some k)) w wr → ∀ k c t m, w.heap[k]? = some (Obj.cells c t m) → wr.heap[k]? = w.heap[k]?) := Lib.hid (by
    intro wr ht k c t m hk
    refine ht.block k (Array.getElem?_eq_some_iff.1 hk).1 fun e => ?_
    obtain ⟨D, ⟨es, clock, hb, _⟩, _⟩ := (h.map k e).2
    rw [hk] at hb
    cases hb)
  have HROW : Hid (∀ wr, Turns (fun k => vm = .map (some k)) w wr → ∀ k t n f, w.rowIs k t n f → wr.rowIs k t n f) := Lib.hid (by
    intro wr ht k t n f hr
    obtain ⟨c, e, _⟩ := id hr
    exact hr.of_block (HG.out wr ht k _ _ _ e))
  have HOWN : Hid (∀ wr, Turns (fun k => vm = .map (some k)) w wr → ∀ t n v (xs : List Value), w.ownsRow 0 t 1 v n xs → wr.ownsRow 0 t 1 v n xs) := Lib.hid (by
    intro wr ht t n v xs ho
    refine ownsRow_block ho fun g' hg' => ?_
    rcases ho.2 with ⟨rfl, _⟩ | ⟨g2, c2, cur, rfl, _, hg2, _⟩
    · cases hg'
    · injection hg' with hg'
      subst hg'
      exact HG.out wr ht _ _ _ _ hg2)
  have HGS : Hid (g ≠ sb) := Lib.hid (row_own_ne h.sc.box h.sc.lev (by decide) g rfl)
  have ic : (r.length : Int) ≤ (cap : Int) := by rw [hlen] at hc; omega
  have i0 : (0 : Int) ≤ (r.length : Int) := by omega
  clear h hN hx hvr hc
  rw [hlen] at C
  go_enter Try.func17, Try.ntmps17
  go_wp2_with fail
  refine C.out.mono ?_
  rintro e w1 ⟨rfl, rfl⟩
  clear C
  go_wp2
  go_loopw [19] (fun iv wr => ∃ i : Nat, i ≤ lv.length ∧ iv = .int .i64 i ∧ Hid (Turns (fun k => vm = .map (some k)) w wr ∧ ∀ mb, vm = .map (some mb) → MapH wr mb (hdB b0 (lv.drop i :: r)))) (fun iv _ => lv.length - (intOf iv).toNat)
  case atStart => exact ⟨0, Nat.zero_le _, rfl, Lib.hid ⟨Turns.refl _ _, fun mb e => (H.out.map mb e).2⟩⟩
  case round =>
    obtain ⟨i, hi, rfl, HL⟩ := hrel
    by_cases hlt : i < lv.length
    · obtain ⟨ga, ca, y, e1, hca, hy, hcy⟩ := own_cell (HOWN.out wr HL.out.1 _ _ _ _ H.out.sc.inn.1) hlt
      injection e1 with e1 _ e3
      subst e1; subst e3
      obtain ⟨x, hx⟩ : ∃ x, lv[i] = x := ⟨_, rfl⟩
      have hxm : x ∈ lv := by rw [← hx]; exact List.getElem_mem hlt
      have hyx : y = .pointer (some ⟨x.1, 0, none⟩) := by
        rw [List.getElem?_map, List.getElem?_eq_getElem hlt, hx] at hy
        injection hy with hy
        exact hy.symm
      subst hyx
      obtain ⟨⟨mb, hmb⟩, hbs⟩ : (∃ mb, vm = .map (some mb)) ∧ BsAt F w b0 (lv :: r) := by
        rcases H.out.bs with ⟨_, hT⟩ | h
        · have := hT lv (by simp)
          subst this
          simp at hlt
        · exact h
      have hbx := hbs.1 x hxm
      have hdr : lv.drop i = x :: lv.drop (i + 1) := by rw [drop_head hlt, hx]
      have hap : ∀ z ∈ lv.drop (i + 1), z.2.1 ≠ x.2.1 := by
        have hnd := HN.out.apart (lv.map (·.2)) (by simp [era])
        rw [List.map_map] at hnd
        have h2 : ((lv.drop i).map ((·.1) ∘ (·.2))).Nodup := hnd.sublist ((List.drop_sublist i lv).map _)
        rw [hdr, List.map_cons] at h2
        intro z hz e
        exact (List.nodup_cons.1 h2).1 (List.mem_map.2 ⟨z, hz, e⟩)
      have hnm : x.2.1.length ≤ 8388608 := (HN.out.sizes (lv.map (·.2)) (by simp [era]) x.2 (List.mem_map_of_mem hxm)).1
      have hall : (allN (era (lv.drop i :: r))).length ≤ 1099511627777 := by
        have h1 := allN_len (era (lv.drop i :: r)) (by
          intro l hl
          rcases List.mem_cons.1 hl with e | hl
          · rw [e]; simp; omega
          · exact HN.out.small l (List.mem_cons_of_mem _ hl))
        rw [era_len] at h1
        have h2 : (lv.drop i :: r).length * 1048576 ≤ 1048576 * 1048576 := Nat.mul_le_mul_right _ (by simp; omega)
        omega
      have hmr := HL.out.2 mb hmb
      have hbox := HROW.out wr HL.out.1 _ _ _ _ H.out.sc.box
      rw [hmb] at hbox
      have CU := Lib.hid (runbind_any hbox ⟨hbx.inF, HROW.out wr HL.out.1 _ _ _ _ hbx.row⟩ (by have := HL.out.1.size; have := H.out.sc.inF mb (H.out.map mb hmb).1; omega) hmr hnm hall)
      have HMB := Lib.hid hmb
      have HST := Lib.hid (fun q => hdB_step b0 x (lv.drop (i + 1)) r hap q)
      have HDR := Lib.hid hdr
      clear hmr hbox hall hnm hap hdr hbx hbs hmb hxm hx hy hca
      have i1 : (0 : Int) ≤ (i : Int) := by omega
      have i2 : (i : Int) < (lv.length : Int) := by omega
      go_wp2_with fail
      refine CU.out.mono ?_
      rintro e w3 ⟨rfl, hm3, ht3⟩
      have HL3 : Hid (Turns (fun k => vm = .map (some k)) w w3 ∧ ∀ mb, vm = .map (some mb) → MapH w3 mb (hdB b0 (lv.drop (i + 1) :: r))) := Lib.hid ⟨HL.out.1.next ht3 (fun k hk => Or.inl (by rw [hk]; exact HMB.out)), fun mb' hmb' => by
        rw [HMB.out] at hmb'
        injection hmb' with e
        injection e with e
        subst e
        refine hm3.congr fun q => ?_
        rw [HDR.out]
        exact HST.out q⟩
      clear hm3 ht3
      go_wp2
      go_roundw
      case rel => exact ⟨i + 1, by omega, by go_num, HL3⟩
      case measure => simp [intOf]; omega
    · obtain rfl : i = lv.length := by omega
      have hbox := HROW.out wr HL.out.1 _ _ _ _ H.out.sc.box
      have hlev := HOWN.out wr HL.out.1 _ _ _ _ H.out.sc.lev
      have d0 : wr.cell? ⟨sb, 0, none⟩ = some (.slice (some ⟨g, 0, none⟩) (r.length + 1) cap) := hbox.cell (i := 0) (by decide)
      obtain ⟨cur, hcur⟩ := own_blk hlev
      have fg : wr.frozen? ⟨g, r.length, none⟩ = false := by simp [World.frozen?, hcur]
      have dg : wr.cell? ⟨g, r.length, none⟩ = some (.slice a lv.length cv) := by
        obtain ⟨cur', hcur'⟩ := own_blk H.out.sc.lev
        have hb : wr.heap[g]? = w.heap[g]? := HG.out wr HL.out.1 g _ _ _ hcur'
        rw [← hcell]
        exact World.cell?_of_block hb
      have d1 : (wr.setCell ⟨g, r.length, none⟩ (.slice none 0 0)).cell? ⟨sb, 0, none⟩ = some (.slice (some ⟨g, 0, none⟩) (r.length + 1) cap) := (hbox.setOther (a := ⟨g, r.length, none⟩) (Ne.symm HGS.out) _).cell (i := 0) (by decide)
      have f1 := (hbox.setOther (a := ⟨g, r.length, none⟩) (Ne.symm HGS.out) (.slice none 0 0)).frozen 0
      have g1 : decide (lv.length < lv.length) = false := decide_eq_false (by omega)
      have HEND : Hid (IsSc F ((wr.setCell ⟨g, r.length, none⟩ (.slice none 0 0)).setCell ⟨sb, 0, none⟩ (.slice (some ⟨g, 0, none⟩) r.length cap)) (.pointer (some ⟨sb, 0, none⟩)) (era r)) := Lib.hid (by
        have hoth : ∀ k, k ≠ g → k ≠ sb → ((wr.setCell ⟨g, r.length, none⟩ (.slice none 0 0)).setCell ⟨sb, 0, none⟩ (.slice (some ⟨g, 0, none⟩) r.length cap)).heap[k]? = wr.heap[k]? := fun k h1 h2 => (Below.heap_setCell _ _ _ _ h2).trans (Below.heap_setCell _ _ _ _ h1)
        have hsize : wr.heap.size = ((wr.setCell ⟨g, r.length, none⟩ (.slice none 0 0)).setCell ⟨sb, 0, none⟩ (.slice (some ⟨g, 0, none⟩) r.length cap)).heap.size := by rw [Deep.nblk_setCell, Deep.nblk_setCell]
        have hnew := own_less (w' := wr.setCell ⟨g, r.length, none⟩ (.slice none 0 0)) (xs := vr.reverse) (ys := vr.reverse) (by rw [List.reverse_cons] at hlev; exact hlev) rfl (.slice none 0 0) rfl
        have hrowne : ∀ k t n f, w.rowIs k t n f → t ≠ 74 → k ≠ g := fun k t n f hr ht => Ne.symm (row_own_ne hr H.out.sc.lev ht g rfl)
        refine isSc_some (Parts14.some (vm := vm) (b0 := b0) (VN := vr) (vl := .slice (some ⟨g, 0, none⟩) r.length cap) ⟨⟨fun k hk => ?_, H.out.sc.fsb, ?_, ?_, ?_, ?_⟩, fun mb hmb => ⟨(H.out.map mb hmb).1, ?_⟩, ?_⟩)
        · rw [← hsize]; exact Nat.lt_of_lt_of_le (H.out.sc.inF k hk) HL.out.1.size
        · refine ((hbox.setOther (a := ⟨g, r.length, none⟩) (Ne.symm HGS.out) (.slice none 0 0)).set 0 _).congr fun i hi => ?_
          rcases (show i = 0 ∨ i = 1 by omega) with rfl | rfl <;> rfl
        · exact ownsRow_block hnew fun g' hg' => Below.heap_setCell _ _ _ _ (by injection hg' with hg'; rw [← hg']; exact HGS.out)
        · intro g' hg'
          exact H.out.sc.flev g' hg'
        · refine H.out.sc.inn.2.2.keep (fun v' hv' g' hg' => ?_) fun _ h => h
          obtain ⟨_, lv', hlv'⟩ := H.out.sc.inn.2.2.mem v' hv' g' hg'
          have hlw := HOWN.out wr HL.out.1 _ _ _ _ hlv'
          have hb : wr.heap[g']? = w.heap[g']? := by
            rcases hlv'.2 with ⟨rfl, _⟩ | ⟨g2, c2, cu2, rfl, _, hg2, _⟩
            · cases hg'
            · injection hg' with hg'
              subst hg'
              exact HG.out wr HL.out.1 _ _ _ _ hg2
          refine (hoth g' (fun e => ?_) (fun e => ?_)).trans hb
          · subst e
            rcases hlw.2 with ⟨rfl, _⟩ | ⟨g2, c2, cu2, rfl, _, hg2, _⟩
            · cases hg'
            · injection hg' with hg'
              subst hg'
              rw [hcur] at hg2
              injection hg2 with hg2
              injection hg2 with _ h3 _
              exact absurd h3 (by decide)
          · exact row_own_ne hbox hlw (by decide) g' hg' e
        · have hm := HL.out.2 mb hmb
          rw [List.drop_length] at hm
          refine (hm.keep (hoth mb (fun e => ?_) (fun e => ?_))).congr fun q => hdB_nil b0 r q
          · obtain ⟨D, ⟨es, clock, hb, _⟩, _⟩ := hm
            rw [e, hcur] at hb
            cases hb
          · obtain ⟨D, ⟨es, clock, hb, _⟩, _⟩ := hm
            obtain ⟨c, hc, _⟩ := hbox
            rw [e, hc] at hb
            cases hb
        · rcases H.out.bs with ⟨e, hT⟩ | ⟨e, hbs⟩
          · exact Or.inl ⟨e, fun l hl => hT l (List.mem_cons_of_mem _ hl)⟩
          · refine Or.inr ⟨e, hbs.2.keep (fun k hk hf => ?_) fun _ h => h⟩
            obtain ⟨f, hf⟩ := hf
            obtain ⟨c, hc, _⟩ := id hf
            exact (hoth k (hrowne k _ _ _ hf (by decide)) (rowIs_ne14 hf H.out.sc.box (by decide))).trans (HG.out wr HL.out.1 k _ _ _ hc))
      have HT : Hid (Turns F w ((wr.setCell ⟨g, r.length, none⟩ (.slice none 0 0)).setCell ⟨sb, 0, none⟩ (.slice (some ⟨g, 0, none⟩) r.length cap))) := Lib.hid (by
        have h1 : Turns F w wr := (Turns.refl F w).next HL.out.1 fun k hk => Or.inl (H.out.map k hk).1
        exact (h1.setCell (p := ⟨g, r.length, none⟩) (Or.inl (H.out.sc.flev g rfl)) _).setCell (p := ⟨sb, 0, none⟩) (Or.inl H.out.sc.fsb) _)
      clear hbox hlev hcur
      go_wp2
      go_ret
      exact ⟨rfl, F, HEND.out, fun k hk => Or.inl hk, HT.out⟩
end Go.Proofs.Ythhnpnjnlbjdjaa
