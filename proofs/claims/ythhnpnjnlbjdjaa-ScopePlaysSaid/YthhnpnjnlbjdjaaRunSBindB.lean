/-
  THE LANDED PACKAGE scope: bind: a bond that may not be. (Written by gen_bind.py.)
-/
import Derived.Test.YthhnpnjnlbjdjaaRunSBind
import Derived.Deep.RegionHeld3
namespace Go.Proofs.Ythhnpnjnlbjdjaa
open Go.RowKit

/-- a bond that may not be -/
theorem gaveS_bad {F F1 : Nat → Prop} {w w1 w' : World} {sb : Nat} {T : List (List Bb)} {VN : List Value} {vl : Value} {mb b0 : Nat} {r : Value} (hf : Full F1 w1 sb T VN vl mb b0) (hw : Went F F1 w w1) (hb : Below w1.heap.size w1 w') :
    GaveS IsSc F (.pointer (some ⟨sb, 0, none⟩)) (era T) r w (.returned r) w' :=
  ⟨rfl, F1, isSc_some (Or.inr ⟨mb, b0, hf.below hb⟩), (hw.below hb).sub, (hw.below hb).turns⟩
set_option maxHeartbeats 2000000 in
set_option maxRecDepth 100000 in
theorem rbind_bad {F : Nat → Prop} {w : World} {sb : Nat} {lv : List Bb} {r : List (List Bb)} {VN : List Value} {vl : Value} (b : Bd) (h : Some14 F w sb (lv :: r) VN vl) (hN : NiceS (era (lv :: r))) (hb1 : b.1.length ≤ 8388608) (hfew : lv.length < 1048576) (hbad : ¬ (mayB b = true ∧ inLv (lv.map (·.2)) b.1 = none)) :
    Calls Try.prog 25 #[.pointer (some ⟨sb, 0, none⟩), .iface (bondT b) (bondA b)] w (GaveS IsSc F (.pointer (some ⟨sb, 0, none⟩)) (era (lv :: r)) (.bool false) w) := by
  obtain ⟨vm, b1, hp⟩ := h.parts
  have CD := Lib.hid (rdepth_any hp.sc)
  have CB := Lib.hid (rbound_any h)
  obtain ⟨f1, f2, f3, f4, M⟩ := bond_mets b
  have m1 := M.mname
  have m2 := M.ename
  have m3 := M.mmay
  have m4 := M.emay
  have CN := Lib.hid M.name
  have CM := Lib.hid M.may
  have HN := Lib.hid hN
  have HB1 := Lib.hid hb1
  have HF := Lib.hid hfew
  obtain ⟨tb, htb⟩ : ∃ t, bondT b = t := ⟨_, rfl⟩
  obtain ⟨ab, hab⟩ : ∃ t, bondA b = t := ⟨_, rfl⟩
  have HTB := Lib.hid htb
  have HAB := Lib.hid hab
  rw [htb, hab] at m1 m3 ⊢
  rw [hab] at m2 m4 CN CM
  obtain ⟨my, hmy⟩ : ∃ x, mayB b = x := ⟨_, rfl⟩
  rw [hmy] at CM
  have HMY := Lib.hid hmy
  have HBAD := Lib.hid hbad
  clear hmy hbad
  clear hp h M hN hb1 hfew htb hab
  go_enter Try.func25, Try.ntmps25
  go_wp2_with fail
  refine CD.out.mono ?_
  rintro e w0 ⟨rfl, rfl⟩
  go_wp2_with fail
  refine CB.out.mono ?_
  rintro e w1 ⟨mb, b0, F1, rfl, hf, hsub, hsup, hturn⟩
  have HFU := Lib.hid hf
  have HW := Lib.hid (show Went F F1 w w1 from ⟨hsub, hsup, hturn⟩)
  clear hf hsub hsup hturn CB CD
  go_wp2_with fail
  refine (CN.out _).mono ?_
  rintro e w2 ⟨rfl, hb2⟩
  have HB2 := Lib.hid hb2
  have hlook := (HFU.out.below hb2).map.look b.1 HB1.out
  obtain ⟨oh, hoh⟩ : ∃ o, hdB b0 (lv :: r) b.1 = o := ⟨_, rfl⟩
  rw [hoh] at hlook
  have hlook' : (Instr.lookup 52 (.map (some mb)) (.string (bytes b.1)) true).run Try.prog w2 = .ok (.tuple #[.pointer (oh.map fun b => ⟨b, 0, none⟩), .bool oh.isSome]) w2 := hlook
  have HOH := Lib.hid hoh
  clear hlook hoh hb2
  go_wp2_with fail
  refine (CM.out _).mono ?_
  rintro e w3 ⟨rfl, hb3⟩
  have HB3 := Lib.hid (HB2.out.trans (hb3.mono HB2.out.size))
  clear hb3 hlook'
  cases my with
  | false =>
    go_wp2
    go_ret
    exact gaveS_bad HFU.out HW.out HB3.out
  | true =>
    cases hfb : findB lv b.1 with
    | some x =>
      have hh := findB_some_lv (b0 := b0) (r := r) hfb
      have e1 : oh = some x.1 := by rw [← HOH.out]; unfold hdB; rw [hh]; rfl
      subst e1
      obtain ⟨nxt, hbd⟩ := (HFU.out.below HB3.out).bs.head hh
      have d1 : w3.cell? ⟨x.1, 1, none⟩ = some (.int .i64 ((r.length + 1 : Nat) : Int)) := hbd.row.cell (i := 1) (by decide)
      clear hbd hh hfb
      go_wp2
      go_ret
      exact gaveS_bad HFU.out HW.out HB3.out
    | none => exact absurd ⟨HMY.out, findB_inLv_none.1 hfb⟩ HBAD.out
end Go.Proofs.Ythhnpnjnlbjdjaa
