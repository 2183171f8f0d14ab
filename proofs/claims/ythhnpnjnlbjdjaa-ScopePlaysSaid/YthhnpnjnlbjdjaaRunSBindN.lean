/-
  THE LANDED PACKAGE scope: bind: the name is bound nowhere. (Written by gen_bind.py.)
-/
import Derived.Test.YthhnpnjnlbjdjaaRunSBind
import Derived.Deep.RegionHeld3
namespace Go.Proofs.Ythhnpnjnlbjdjaa
open Go.RowKit

set_option maxHeartbeats 2000000 in
set_option maxRecDepth 100000 in
theorem rbind_new {F : Nat → Prop} {w : World} {sb : Nat} {lv : List Bb} {r : List (List Bb)} {VN : List Value} {vl : Value} (b : Bd) (h : Some14 F w sb (lv :: r) VN vl) (hN : NiceS (era (lv :: r))) (hb1 : b.1.length ≤ 8388608) (hfew : lv.length < 1048576) (hmay : mayB b = true) (hin : inLv (lv.map (·.2)) b.1 = none) (hlk : lookS (era (lv :: r)) b.1 = none) :
    Calls Try.prog 25 #[.pointer (some ⟨sb, 0, none⟩), .iface (bondT b) (bondA b)] w (GaveS IsSc F (.pointer (some ⟨sb, 0, none⟩)) ((lv.map (·.2) ++ [b]) :: era r) (.bool true) w) := by
  obtain ⟨vm, b1, hp⟩ := h.parts
  have CD := Lib.hid (rdepth_any hp.sc)
  have CB := Lib.hid (rbound_any h)
  obtain ⟨f1, f2, f3, f4, M⟩ := bond_mets b
  have m1 := M.mname
  have m2 := M.ename
  have m3 := M.mmay
  have m4 := M.emay
  have CN := Lib.hid M.name
  have CM := Lib.hid M.may
  have HN := Lib.hid hN
  have HB1 := Lib.hid hb1
  have HF := Lib.hid hfew
  obtain ⟨tb, htb⟩ : ∃ t, bondT b = t := ⟨_, rfl⟩
  obtain ⟨ab, hab⟩ : ∃ t, bondA b = t := ⟨_, rfl⟩
  have HTB := Lib.hid htb
  have HAB := Lib.hid hab
  rw [htb, hab] at m1 m3 ⊢
  rw [hab] at m2 m4 CN CM
  rw [hmay] at CM
  have HFB := Lib.hid (findB_inLv_none.2 hin)
  have HLK := Lib.hid hlk
  clear hmay hin hlk
  clear hp h M hN hb1 hfew htb hab
  go_enter Try.func25, Try.ntmps25
  go_wp2_with fail
  refine CD.out.mono ?_
  rintro e w0 ⟨rfl, rfl⟩
  go_wp2_with fail
  refine CB.out.mono ?_
  rintro e w1 ⟨mb, b0, F1, rfl, hf, hsub, hsup, hturn⟩
  have HFU := Lib.hid hf
  have HW := Lib.hid (show Went F F1 w w1 from ⟨hsub, hsup, hturn⟩)
  clear hf hsub hsup hturn CB CD
  go_wp2_with fail
  refine (CN.out _).mono ?_
  rintro e w2 ⟨rfl, hb2⟩
  have HB2 := Lib.hid hb2
  have hlook := (HFU.out.below hb2).map.look b.1 HB1.out
  obtain ⟨oh, hoh⟩ : ∃ o, hdB b0 (lv :: r) b.1 = o := ⟨_, rfl⟩
  rw [hoh] at hlook
  have hlook' : (Instr.lookup 52 (.map (some mb)) (.string (bytes b.1)) true).run Try.prog w2 = .ok (.tuple #[.pointer (oh.map fun b => ⟨b, 0, none⟩), .bool oh.isSome]) w2 := hlook
  have HOH := Lib.hid hoh
  clear hlook hoh hb2
  go_wp2_with fail
  refine (CM.out _).mono ?_
  rintro e w3 ⟨rfl, hb3⟩
  have HB3 := Lib.hid (HB2.out.trans (hb3.mono HB2.out.size))
  clear hb3 hlook'
  have e1 : oh = none := by
    rw [← HOH.out]
    unfold hdB
    cases hh : headB b0 (lv :: r) b.1 with
    | none => rfl
    | some y => have := HLK.out; rw [uri_some hh] at this; cases this
  subst e1
  obtain ⟨v, vr, rfl⟩ : ∃ v vr, VN = v :: vr := by
    cases VN with
    | nil => exact HFU.out.sc.inn.elim
    | cons v vr => exact ⟨v, vr, rfl⟩
  have hf3 := HFU.out.below HB3.out
  have hvr : vr.length = r.length := hf3.sc.inn.2.2.len
  have hlen : (lv :: r).length = r.length + 1 := rfl
  obtain ⟨g, cap, x, rfl, hc, hx, hcell⟩ := own_cell hf3.sc.lev (i := r.length) (by rw [hlen]; omega)
  obtain rfl : v = x := by
    rw [List.reverse_cons, List.getElem?_append_right (by simp [hvr])] at hx
    simpa [hvr] using hx
  obtain ⟨a, cv, rfl⟩ := own_slice hf3.sc.inn.1
  have c0 : w3.cell? ⟨sb, 0, none⟩ = some (.slice (some ⟨g, 0, none⟩) (r.length + 1) cap) := hf3.sc.box.cell (i := 0) (by decide)
  have ey : (r.length : Int) + 1 - 1 = (r.length : Int) := by omega
  have il : (r.length : Int) < (r.length : Int) + 1 := by omega
  have i0 : (0 : Int) ≤ (r.length : Int) := by omega
  have hfew : r.length < 1048576 := by have := HN.out.few; rw [era_len, hlen] at this; omega
  have ew : IntKind.i64.wrap ((r.length : Int) + 1 - 1) = (r.length : Int) := by rw [ey]; simp [IntKind.wrap, IntKind.bits, IntKind.signed]; omega
  have ew2 : IntKind.i64.wrap (r.length : Int) = (r.length : Int) := by simp [IntKind.wrap, IntKind.bits, IntKind.signed]; omega
  have hsbl := hf3.sc.box.lt
  have hgl := (hf3.sc.lev.lt g rfl).2
  have KEEP := Lib.hid (fun W (hb : Below w3.heap.size w3 W) => show W.cell? ⟨sb, 0, none⟩ = some (.slice (some ⟨g, 0, none⟩) (r.length + 1) cap) ∧ W.cell? ⟨g, r.length, none⟩ = some (.slice a lv.length cv) from ⟨(hb.cell (p := ⟨sb, 0, none⟩) hsbl).trans c0, (hb.cell (p := ⟨g, r.length, none⟩) hgl).trans hcell⟩)
  obtain ⟨i1, hi1, hz0, hz1, hz2⟩ := info_open info_bp
  have HFZ : Hid (w3.frozen? ⟨g, r.length, none⟩ = false) := Lib.hid (by obtain ⟨cur, hcur⟩ := own_blk hf3.sc.lev; simp [World.frozen?, hcur])
  have HF3 := Lib.hid (show Full F1 w3 sb (lv :: r) (.slice a lv.length cv :: vr) (.slice (some ⟨g, 0, none⟩) (r.length + 1) cap) mb b0 from hf3)
  have HAL : Hid ((allN (era (lv :: r))).length ≤ 1099511627777) := Lib.hid HN.out.names
  clear hx hvr hc hf3
  go_wp2_with fail
  have h4 := (Below.refl w3.heap.size w3).alloc (Nat.le_refl _) (.cells #[.iface tb ab, .int .i64 ((r.length : Int) + 1), .pointer none] 68)
  have r4 := World.rowIs_alloc w3 #[.iface tb ab, .int .i64 ((r.length : Int) + 1), .pointer none] 68 (rowB b (r.length + 1) none) (by
    intro i hi
    rcases (show i = 0 ∨ i = 1 ∨ i = 2 by have : i < 3 := hi; omega) with rfl | rfl | rfl
    · rw [← HTB.out, ← HAB.out]; rfl
    · rfl
    · rfl)
  have s4 : (w3.alloc (.cells #[.iface tb ab, .int .i64 ((r.length : Int) + 1), .pointer none] 68)).heap.size = w3.heap.size + 1 := by show (w3.heap.push _).size = _; rw [Array.size_push]
  obtain ⟨W4, hW4⟩ : ∃ W4, w3.alloc (.cells #[.iface tb ab, .int .i64 ((r.length : Int) + 1), .pointer none] 68) = W4 := ⟨_, rfl⟩
  rw [hW4] at h4 r4 s4 ⊢
  have h5 : Below w3.heap.size w3 W4.drew := h4.drew
  have own5 : W4.drew.ownsRow 0 65 1 (.slice a lv.length cv) lv.length (lv.map fun x => ptrV (some x.1)) := (HF3.out.below h5).sc.inn.1
  have k5 := KEEP.out _ h5
  have h6 : Below w3.heap.size w3 (W4.drew.alloc (.cells #[.pointer (some ⟨w3.heap.size, 0, none⟩)] 65)) := h5.alloc h5.size _
  have k6 := KEEP.out _ h6
  have s5 : W4.drew.heap.size = w3.heap.size + 1 := s4
  have s6 : (W4.drew.alloc (.cells #[.pointer (some ⟨w3.heap.size, 0, none⟩)] 65)).heap.size = w3.heap.size + 2 := by show (W4.heap.push _).size = _; rw [Array.size_push, s4]
  have hgne : ∀ g2, (Value.slice a lv.length cv).ownBlock = some g2 → g2 ≠ sb ∧ g2 ≠ g := fun g2 e => ⟨row_own_ne HF3.out.sc.box HF3.out.sc.inn.1 (by decide) g2 e, fun e2 => own_own_ne HF3.out.sc.inn.1 HF3.out.sc.lev (by decide) g2 e (by rw [e2]; rfl)⟩
  have k5a := k5.1
  have k5b := k5.2
  have k6a : (W4.alloc (.cells #[.pointer (some ⟨w3.heap.size, 0, none⟩)] 65)).drew.cell? ⟨sb, 0, none⟩ = some (.slice (some ⟨g, 0, none⟩) (r.length + 1) cap) := k6.1
  have k6b : (W4.alloc (.cells #[.pointer (some ⟨w3.heap.size, 0, none⟩)] 65)).drew.cell? ⟨g, r.length, none⟩ = some (.slice a lv.length cv) := k6.2
  have HR6 : Hid ((W4.drew.alloc (.cells #[.pointer (some ⟨w3.heap.size, 0, none⟩)] 65)).rowIs w3.heap.size 68 3 (rowB b (r.length + 1) none)) := Lib.hid (r4.drew.alloc _)
  clear hW4 r4
  go_region_law (first | (refine step_append_lies _ (by rfl) _ _ 74 (by rfl) 0 65 i1 (.pointer none) 1 8 Try.underlying74 hi1 hz0 hz1 hz2 rfl (by decide) _ _ _ (by rfl) (own5.alloc _) ⟨w3.heap.size + 1, 0, none⟩ 1 1 [.pointer (some ⟨w3.heap.size, 0, none⟩)] (by rfl) rfl (cell_one_s _ _ _ _ s5) (by intro u hu; simp at hu; subst hu; rfl) (by decide) (by unfold maxLen; have := HF.out; omega) (by have := HF.out; omega) (Nat.zero_le _) (w3.heap.size + 2) s6 ?_; intro g2 cap2 w6 hown6 hgr6 hat6 hlt6; have k7 : w6.cell? ⟨sb, 0, none⟩ = some (.slice (some ⟨g, 0, none⟩) (r.length + 1) cap) ∧ w6.cell? ⟨g, r.length, none⟩ = some (.slice a lv.length cv) := ⟨hgr6.cell k6.1 (fun e => (hgne sb e.symm).1 rfl), hgr6.cell k6.2 (fun e => (hgne g e.symm).2 rfl)⟩; have fz7 : w6.frozen? ⟨g, r.length, none⟩ = false := (World.frozen?_of_block ((hgr6.block g (Nat.lt_of_lt_of_le hgl h6.size) (fun e => (hgne g e.symm).2 rfl)).trans (h6.block g hgl))).trans HFZ.out; have k7a := k7.1; have k7b := k7.2))
  all_goals
    have HMID : Hid (Mid w3 sb mb b0 w3.heap.size g g2 cap2 cap lv r (.slice a lv.length cv) vr b none (w6.setCell ⟨g, r.length, none⟩ (.slice (some ⟨g2, 0, none⟩) (lv.length + 1) cap2))) := Lib.hid (mid_of HF3.out h6 (by rw [s6]; omega) (Nat.le_refl _) HR6.out hown6 hgr6 hat6)
    clear k5 k5a k5b k6 k6a k6b k7 k7a k7b fz7 hown6 hgr6 hat6 hlt6 own5 h4 h5 h6 hgne s4 s5 s6 c0 hcell hi1 hz0 hz1 hz2 HFZ HR6 KEEP
    obtain ⟨W7, hW7⟩ : ∃ W7, w6.setCell ⟨g, r.length, none⟩ (.slice (some ⟨g2, 0, none⟩) (lv.length + 1) cap2) = W7 := ⟨_, rfl⟩
    rw [hW7] at HMID ⊢
    clear hW7
    have n1 : W7.cell? ⟨sb, 1, none⟩ = some (.map (some mb)) := HMID.out.box.cell (i := 1) (by decide)
    have hbw : Below W7.heap.size W7 W7.drew := (Below.refl _ _).drew
    have HMB : Hid (mb < W7.heap.size) := Lib.hid (by have h1 := HF3.out.sc.inF mb HF3.out.fmb; have h2 := HMID.out.turns.size; omega)
    have HSB := Lib.hid HMID.out.box.lt
    have HSM : Hid (sb ≠ mb) := Lib.hid (by
      obtain ⟨D, ⟨es, clock, hm1, _⟩, _⟩ := HMID.out.map
      obtain ⟨c, e, _⟩ := HMID.out.box
      exact fun h => (by rw [h, hm1] at e; cases e))
    go_wp2_with fail
    go_region_held3 (fun W => W.cell? ⟨sb, 1, none⟩ = some (.map (some mb)))
      (first | exact n1 | assumption)
      ((refine (CN.out _).mono ?_; rintro e w8 ⟨rfl, hb8⟩; obtain ⟨w9, hrun8, hm9, ht9⟩ := (HMID.out.map.keep ((hbw.trans hb8).block _ HMB.out)).put HAL.out b.1 HB1.out w3.heap.size; have hrun9 : (Instr.mapUpdate 52 (.map (some mb)) (.string (bytes b.1)) (.pointer (some ⟨w3.heap.size, 0, none⟩))).run Try.prog w8 = .ok () w9 := hrun8; clear hrun8; have hs8 : w8.cell? ⟨sb, 1, none⟩ = some (.map (some mb)) := ((hbw.trans hb8).cell (p := ⟨sb, 1, none⟩) HSB.out).trans n1; have hs9 : w9.cell? ⟨sb, 1, none⟩ = some (.map (some mb)) := ht9.grown.cell hs8 (fun e => HSM.out (by injection e))))
    have HB9 := Lib.hid (turned_below (hbw.trans hb8) ht9)
    have HM9 := Lib.hid hm9
    clear hm9 ht9 hs8 hs9 hrun9 hb8
    go_wp2
    go_ret
    exact mid_end HF3.out HW.out HB3.out (by rw [HOH.out]; exact HMID.out) HFB.out HM9.out HB9.out
end Go.Proofs.Ythhnpnjnlbjdjaa
