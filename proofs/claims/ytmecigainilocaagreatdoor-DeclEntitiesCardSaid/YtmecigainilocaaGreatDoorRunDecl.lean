/-
  THE LANDED PACKAGE decl: the contracts of piece, subset, whole, Doctype.
  THE LANDED PACKAGE decl: the contracts of whole and of its function.
  THE LANDED PACKAGE decl: the contract of newDoctype.
  THE LANDED PACKAGE decl: the contract of Doctype.
  THE LANDED PACKAGE decl: the contract of Doctype, inside the text.
  THE LANDED PACKAGE decl: WHAT THE LAWS OF LAYER 11 ASK OF IT (DeclSaid), of what the code reads (DE).
-/
import Derived.Test.YtmecigainilocaaGreatDoorRunDAttlist
import Derived.Test.YtmecigainilocaaGreatDoorRunDDoc
import Derived.Deep.RegionLaw
import Derived.Test.YtmecigainilocaaGreatDoorRunDXml
import Derived.Test.YtmecigainilocaaGreatDoorRunDEnt
namespace Go.Proofs.YtmecigainilocaaGreatDoor
open Go.RowKit

/-- A DOCUMENT TYPE THAT IS BEING READ, and what it has declared up to here. -/
def DocOk (k : Dk) (W0 w : World) (l : List UInt8) (d : DeclD) : Prop :=
  ∃ s1 s2 g, DocAt k W0 w l (bytes d.name) d.ents d.atts (PE d.ents) (PT d.atts) s1 s2 g ∧ ∀ e, g e = none → ∀ y, PT d.atts e y = false
section
variable {k : Dk} {W0 w w' : World} {l l' : List UInt8} {d : DeclD}
/-- what piece, subset and whole give -/
def PcG (k : Dk) (W0 : World) (o : Option (DeclD × List UInt8)) (e : Ending) (w' : World) : Prop :=
  (o = none ∧ e = .returned (.bool false) ∧ Below W0.heap.size W0 w') ∨ ∃ d r, o = some (d, r) ∧ e = .returned (.bool true) ∧ DocOk k W0 w' r d
theorem pcG_no {o : Option (DeclD × List UInt8)} (h : o = none) (hb : Below W0.heap.size W0 w) : PcG k W0 o (.returned (.bool false)) w := Or.inl ⟨h, rfl, hb⟩
theorem pcG_yes {o : Option (DeclD × List UInt8)} (h : o = some (d, l)) (hb : DocOk k W0 w l d) : PcG k W0 o (.returned (.bool true)) w := Or.inr ⟨_, _, h, rfl, hb⟩
theorem GiveB.pc {c : Rd} {w0 : World} {o : Option (List UInt8)} {e : Ending} {s1 s2 : Value} {g : List UInt8 → Option Nat} (hc : c = k.c (bytes d.name) s1 s2) (h : DocAt k W0 w0 l (bytes d.name) d.ents d.atts (PE d.ents) (PT d.atts) s1 s2 g) (hng : ∀ e, g e = none → ∀ y, PT d.atts e y = false) (hl : ∀ r, o = some r → r.length ≤ l.length) (hg : GiveB c w0 o e w') : PcG k W0 (o.map fun r => (d, r)) e w' := by
  subst hc
  rcases hg with ⟨h1, l', h2, h3⟩ | ⟨r, h1, h2, h3⟩
  · exact Or.inl ⟨by rw [h1]; rfl, h2, h.far h3⟩
  · exact Or.inr ⟨d, r, by rw [h1]; rfl, h2, _, _, _, h.step h3 (hl r h1), hng⟩
set_option maxHeartbeats 4000000 in
set_option maxRecDepth 100000 in
theorem piece_d (I : Ign) (hn : k.n ≤ W0.heap.size) (h : DocOk k W0 w l d) : Calls Tryz.prog 47 #[.pointer (some ⟨k.b, 0, none⟩)] w (PcG k W0 (pieceD d l)) := by
  obtain ⟨s1, s2, g, hd, hng⟩ := h
  have HD := Lib.hid hd
  have HNG := Lib.hid hng
  clear hd hng
  by_cases hg : gapL l = 0
  · have CS := Lib.hid (space_n HD.out.rd hg)
    have hp0 : pieceD d l = if swB entityW l = true then (entityL (l.drop 8)).map fun x => (⟨d.name, addE d.ents x.1, d.atts⟩, x.2)
        else if swB attlistW l = true then (attlistL (l.drop 9)).map fun x => (⟨d.name, d.ents, x.1.foldl addA d.atts⟩, x.2)
        else if swB elementW l = true then (ignL (l.drop 9)).map fun r => (d, r)
        else if swB notatW l = true then (ignL (l.drop 10)).map fun r => (d, r)
        else (asideL l).map fun r => (d, r) := by unfold pieceD; rw [if_neg (by simp [hg])]
    have HP := Lib.hid hp0
    clear hg hp0
    go_enter Tryz.func47, Tryz.ntmps47
    go_wp2_with fail
    refine CS.out.mono ?_
    rintro e w1 ⟨rfl, h1⟩
    have H1 := Lib.hid (HD.out.step h1 (Nat.le_refl _))
    clear CS h1 HD
    cases hs1 : swB entityW l with
    | true =>
      have CT := Lib.hid (take_y entityW H1.out.rd (by decide) hs1)
      have HP2 : Hid (pieceD d l = (entityL (l.drop 8)).map fun x => (⟨d.name, addE d.ents x.1, d.atts⟩, x.2)) := Lib.hid (by rw [HP.out, if_pos hs1])
      clear hs1 HP
      go_wp2_with fail
      refine CT.out.mono ?_
      rintro e w2 ⟨rfl, h2⟩
      have H2 := Lib.hid (H1.out.step h2 (by rw [List.length_drop]; omega))
      have CE := Lib.hid (entity_d hn H2.out)
      clear CT h2 H1
      go_wp2_with fail
      refine CE.out.mono ?_
      rintro e w3 (⟨hx, rfl, hb⟩ | ⟨x, r, s1', hx, rfl, h3, _⟩)
      · have HN : Hid (pieceD d l = none) := Lib.hid (by rw [HP2.out]; show (entityL (l.drop entityW.length)).map _ = none; rw [hx]; rfl)
        have H3 := Lib.hid hb
        clear CE hx hb HP2
        go_wp2
        go_ret
        exact pcG_no HN.out H3.out
      · have HN : Hid (pieceD d l = some (⟨d.name, addE d.ents x, d.atts⟩, r)) := Lib.hid (by rw [HP2.out]; show (entityL (l.drop entityW.length)).map _ = _; rw [hx]; rfl)
        have H3 : Hid (DocOk k W0 w3 r ⟨d.name, addE d.ents x, d.atts⟩) := Lib.hid ⟨_, _, _, h3, HNG.out⟩
        clear CE hx h3 HP2
        go_wp2
        go_ret
        exact pcG_yes HN.out H3.out
    | false =>
      have CT := Lib.hid (take_n entityW H1.out.rd (by decide) hs1)
      have HP2 := Lib.hid (HP.out.trans (if_neg (by rw [hs1]; decide)))
      clear hs1 HP
      go_wp2_with fail
      refine CT.out.mono ?_
      rintro e w2 ⟨rfl, h2⟩
      have H2 := Lib.hid (H1.out.step h2 (Nat.le_refl _))
      clear CT h2 H1
      cases hs2 : swB attlistW l with
      | true =>
        have CT := Lib.hid (take_y attlistW H2.out.rd (by decide) hs2)
        have HP3 := Lib.hid (HP2.out.trans (if_pos hs2))
        clear hs2 HP2
        go_wp2_with fail
        refine CT.out.mono ?_
        rintro e w3 ⟨rfl, h3⟩
        have H3 := Lib.hid (H2.out.step h3 (by rw [List.length_drop]; omega))
        have CE := Lib.hid (attlist_d hn H3.out HNG.out)
        clear CT h3 H2
        go_wp2_with fail
        refine CE.out.mono ?_
        rintro e w4 (⟨hx, rfl, hb⟩ | ⟨ts, r, s2', g', hx, rfl, h4, hng', _⟩)
        · have HN : Hid (pieceD d l = none) := Lib.hid (by rw [HP3.out]; show (attlistL (l.drop attlistW.length)).map _ = none; rw [hx]; rfl)
          have H4 := Lib.hid hb
          clear CE hx hb HP3
          go_wp2
          go_ret
          exact pcG_no HN.out H4.out
        · have HN : Hid (pieceD d l = some (⟨d.name, d.ents, ts.foldl addA d.atts⟩, r)) := Lib.hid (by rw [HP3.out]; show (attlistL (l.drop attlistW.length)).map _ = _; rw [hx]; rfl)
          have H4 : Hid (DocOk k W0 w4 r ⟨d.name, d.ents, ts.foldl addA d.atts⟩) := Lib.hid ⟨_, _, _, h4, hng'⟩
          clear CE hx h4 hng' HP3
          go_wp2
          go_ret
          exact pcG_yes HN.out H4.out
      | false =>
        have CT := Lib.hid (take_n attlistW H2.out.rd (by decide) hs2)
        have HP3 := Lib.hid (HP2.out.trans (if_neg (by rw [hs2]; decide)))
        clear hs2 HP2
        go_wp2_with fail
        refine CT.out.mono ?_
        rintro e w3 ⟨rfl, h3⟩
        have H3 := Lib.hid (H2.out.step h3 (Nat.le_refl _))
        clear CT h3 H2
        cases hs3 : swB elementW l with
        | true =>
          have CT := Lib.hid (take_y elementW H3.out.rd (by decide) hs3)
          have HP4 := Lib.hid (HP3.out.trans (if_pos hs3))
          clear hs3 HP3
          go_wp2_with fail
          refine CT.out.mono ?_
          rintro e w4 ⟨rfl, h4⟩
          have H4 := Lib.hid (H3.out.step h4 (by rw [List.length_drop]; omega))
          have CE := Lib.hid ((ignored_d I H4.out.rd).mono (fun _ _ hg => GiveB.pc rfl H4.out HNG.out (fun r hr => Nat.le_of_lt (ignL_len hr)) hg))
          clear CT h4 H3
          go_wp2_with fail
          refine CE.out.mono ?_
          rintro e w5 (⟨hx, rfl, hb⟩ | ⟨d2, r, hx, rfl, h5⟩)
          · have HN : Hid (pieceD d l = none) := Lib.hid (HP4.out.trans hx)
            have H5 := Lib.hid hb
            clear CE hx hb HP4
            go_wp2
            go_ret
            exact pcG_no HN.out H5.out
          · have HN : Hid (pieceD d l = some (d2, r)) := Lib.hid (HP4.out.trans hx)
            have H5 := Lib.hid h5
            clear CE hx h5 HP4
            go_wp2
            go_ret
            exact pcG_yes HN.out H5.out
        | false =>
          have CT := Lib.hid (take_n elementW H3.out.rd (by decide) hs3)
          have HP4 := Lib.hid (HP3.out.trans (if_neg (by rw [hs3]; decide)))
          clear hs3 HP3
          go_wp2_with fail
          refine CT.out.mono ?_
          rintro e w4 ⟨rfl, h4⟩
          have H4 := Lib.hid (H3.out.step h4 (Nat.le_refl _))
          clear CT h4 H3
          cases hs4 : swB notatW l with
          | true =>
            have CT := Lib.hid (take_y notatW H4.out.rd (by decide) hs4)
            have HP5 := Lib.hid (HP4.out.trans (if_pos hs4))
            clear hs4 HP4
            go_wp2_with fail
            refine CT.out.mono ?_
            rintro e w5 ⟨rfl, h5⟩
            have H5 := Lib.hid (H4.out.step h5 (by rw [List.length_drop]; omega))
            have CE := Lib.hid ((ignored_d I H5.out.rd).mono (fun _ _ hg => GiveB.pc rfl H5.out HNG.out (fun r hr => Nat.le_of_lt (ignL_len hr)) hg))
            clear CT h5 H4
            go_wp2_with fail
            refine CE.out.mono ?_
            rintro e w6 (⟨hx, rfl, hb⟩ | ⟨d2, r, hx, rfl, h6⟩)
            · have HN : Hid (pieceD d l = none) := Lib.hid (HP5.out.trans hx)
              have H6 := Lib.hid hb
              clear CE hx hb HP5
              go_wp2
              go_ret
              exact pcG_no HN.out H6.out
            · have HN : Hid (pieceD d l = some (d2, r)) := Lib.hid (HP5.out.trans hx)
              have H6 := Lib.hid h6
              clear CE hx h6 HP5
              go_wp2
              go_ret
              exact pcG_yes HN.out H6.out
          | false =>
            have CT := Lib.hid (take_n notatW H4.out.rd (by decide) hs4)
            have HP5 := Lib.hid (HP4.out.trans (if_neg (by rw [hs4]; decide)))
            clear hs4 HP4
            go_wp2_with fail
            refine CT.out.mono ?_
            rintro e w5 ⟨rfl, h5⟩
            have H5 := Lib.hid (H4.out.step h5 (Nat.le_refl _))
            have CE := Lib.hid ((aside_d H5.out.rd).mono (fun _ _ hg => GiveB.pc rfl H5.out HNG.out (fun r hr => Nat.le_of_lt (aside_len hr)) hg))
            clear CT h5 H4
            go_wp2_with fail
            refine CE.out.mono ?_
            rintro e w6 (⟨hx, rfl, hb⟩ | ⟨d2, r, hx, rfl, h6⟩)
            · have HN : Hid (pieceD d l = none) := Lib.hid (HP5.out.trans hx)
              have H6 := Lib.hid hb
              clear CE hx hb HP5
              go_wp2
              go_ret
              exact pcG_no HN.out H6.out
            · have HN : Hid (pieceD d l = some (d2, r)) := Lib.hid (HP5.out.trans hx)
              have H6 := Lib.hid h6
              clear CE hx h6 HP5
              go_wp2
              go_ret
              exact pcG_yes HN.out H6.out
  · have CS := Lib.hid (space_y HD.out.rd hg)
    have HN : Hid (pieceD d l = some (d, mayL l)) := Lib.hid (by unfold pieceD; rw [if_pos hg])
    clear hg
    go_enter Tryz.func47, Tryz.ntmps47
    go_wp2_with fail
    refine CS.out.mono ?_
    rintro e w1 ⟨rfl, h1⟩
    have H1 : Hid (DocOk k W0 w1 (mayL l) d) := Lib.hid ⟨_, _, _, HD.out.step h1 (by have := may_len l; omega), HNG.out⟩
    clear CS h1
    go_wp2
    go_ret
    exact pcG_yes HN.out H1.out
/-! ### the subset -/
theorem entity_len {l r : List UInt8} {x : EntD} (h : entityL l = some (x, r)) : r.length < l.length := by
  unfold entityL at h
  obtain ⟨a, ha, h2⟩ := Option.bind_eq_some_iff.1 h
  obtain ⟨m, hm, h3⟩ := Option.bind_eq_some_iff.1 h2
  obtain ⟨c, hc, h4⟩ := Option.bind_eq_some_iff.1 h3
  obtain ⟨q, hq, h5⟩ := Option.map_eq_some_iff.1 h4
  simp only [Prod.mk.injEq] at h5
  obtain ⟨_, rfl⟩ := h5
  have := spName_len (x := a.1) (r := a.2) ha
  have := spc_len hm
  obtain ⟨⟨c1, c2⟩, c3⟩ := c
  have := content_len hc
  unfold endL11 markL at hq
  split at hq
  · injection hq with hq
    subst hq
    have := may_len c3
    rw [List.length_drop]
    show (mayL c3).length - 1 < _
    omega
  · cases hq
theorem attsF_len (el : List UInt8) : ∀ (f : Nat) (r : List UInt8), (attsF el f r).2.length ≤ r.length
  | 0, r => Nat.le_refl _
  | f + 1, r => by
    cases hd : attD el r with
    | none => rw [atts_none (f + 1) hd]; exact Nat.le_refl _
    | some x =>
      obtain ⟨a, r2⟩ := x
      rw [atts_some f hd]
      have := attsF_len el f r2
      have := (att_len11 hd).1
      show (attsF el f r2).2.length ≤ _
      omega
theorem attlist_len {l r : List UInt8} {ts : List AttD} (h : attlistL l = some (ts, r)) : r.length < l.length := by
  unfold attlistL at h
  obtain ⟨a, ha, h2⟩ := Option.bind_eq_some_iff.1 h
  obtain ⟨q, hq, h5⟩ := Option.map_eq_some_iff.1 h2
  simp only [Prod.mk.injEq] at h5
  obtain ⟨_, rfl⟩ := h5
  have := spName_len (x := a.1) (r := a.2) ha
  have := attsF_len a.1 l.length a.2
  unfold endL11 markL at hq
  split at hq
  · injection hq with hq
    subst hq
    have := may_len (attsF a.1 l.length a.2).2
    rw [List.length_drop]
    show (mayL _).length - 1 < _
    omega
  · cases hq
theorem piece_len {d d2 : DeclD} {l r : List UInt8} (h : pieceD d l = some (d2, r)) : r.length < l.length := by
  unfold pieceD at h
  split at h
  · simp only [Option.some.injEq, Prod.mk.injEq] at h
    obtain ⟨_, rfl⟩ := h
    have := may_len l
    omega
  · split at h
    · obtain ⟨x, hx, h2⟩ := Option.map_eq_some_iff.1 h
      simp only [Prod.mk.injEq] at h2
      obtain ⟨_, rfl⟩ := h2
      have := entity_len (x := x.1) (r := x.2) hx
      rw [List.length_drop] at this
      omega
    · split at h
      · obtain ⟨x, hx, h2⟩ := Option.map_eq_some_iff.1 h
        simp only [Prod.mk.injEq] at h2
        obtain ⟨_, rfl⟩ := h2
        have := attlist_len (ts := x.1) (r := x.2) hx
        rw [List.length_drop] at this
        omega
      · split at h
        · obtain ⟨x, hx, h2⟩ := Option.map_eq_some_iff.1 h
          simp only [Prod.mk.injEq] at h2
          obtain ⟨_, rfl⟩ := h2
          have := ignL_len hx
          rw [List.length_drop] at this
          omega
        · split at h
          · obtain ⟨x, hx, h2⟩ := Option.map_eq_some_iff.1 h
            simp only [Prod.mk.injEq] at h2
            obtain ⟨_, rfl⟩ := h2
            have := ignL_len hx
            rw [List.length_drop] at this
            omega
          · obtain ⟨x, hx, h2⟩ := Option.map_eq_some_iff.1 h
            simp only [Prod.mk.injEq] at h2
            obtain ⟨_, rfl⟩ := h2
            exact aside_len hx
theorem subs_step (f : Nat) (d : DeclD) (l : List UInt8) : subsF (f + 1) d l = if swB [93] l = true then some (d, l.drop 1) else (pieceD d l).bind fun x => subsF f x.1 x.2 := rfl
set_option maxHeartbeats 2000000 in
set_option maxRecDepth 100000 in
theorem subset_d (I : Ign) (hn : k.n ≤ W0.heap.size) (h : DocOk k W0 w l d) (F : Nat) (hF : l.length < F) : Calls Tryz.prog 30 #[.pointer (some ⟨k.b, 0, none⟩)] w (PcG k W0 (subsF F d l)) := by
  have H0 := Lib.hid h
  clear h
  go_enter Tryz.func30, Tryz.ntmps30
  go_wp2
  go_loopg [2] F (fun f _ wr => ∃ d2 r, DocOk k W0 wr r d2 ∧ subsF F d l = subsF f d2 r ∧ r.length < f)
  case atStart => exact ⟨d, l, H0.out, rfl, hF⟩
  case round =>
    obtain ⟨d2, r, hd, hs, hl⟩ := hrel
    obtain ⟨s1, s2, g, hd, hng⟩ := hd
    cases gk with
    | zero => exfalso; omega
    | succ f =>
      have HD := Lib.hid hd
      have HNG := Lib.hid hng
      rw [subs_step] at hs
      have HS := Lib.hid hs
      clear hd hng hs H0
      cases hm : swB [93] r with
      | true =>
        have CT := Lib.hid (take_y [93] HD.out.rd (by decide) hm)
        have HN : Hid (subsF F d l = some (d2, r.drop 1)) := Lib.hid (by rw [HS.out, if_pos hm])
        clear hm HS
        go_wp2_with fail
        refine CT.out.mono ?_
        rintro e w1 ⟨rfl, h1⟩
        have H1 : Hid (DocOk k W0 w1 (r.drop 1) d2) := Lib.hid ⟨_, _, _, HD.out.step h1 (by rw [List.length_drop]; omega), HNG.out⟩
        clear CT h1
        go_wp2
        go_ret
        exact pcG_yes HN.out H1.out
      | false =>
        have CT := Lib.hid (take_n [93] HD.out.rd (by decide) hm)
        have HN : Hid (subsF F d l = (pieceD d2 r).bind fun x => subsF f x.1 x.2) := Lib.hid (by rw [HS.out, if_neg (by rw [hm]; decide)])
        clear hm HS
        go_wp2_with fail
        refine CT.out.mono ?_
        rintro e w1 ⟨rfl, h1⟩
        have H1 : Hid (DocOk k W0 w1 r d2) := Lib.hid ⟨_, _, _, HD.out.step h1 (Nat.le_refl _), HNG.out⟩
        have CP := Lib.hid (piece_d I hn H1.out)
        clear CT h1
        go_wp2_with fail
        refine CP.out.mono ?_
        rintro e w2 (⟨hx, rfl, hb⟩ | ⟨d3, r3, hx, rfl, h2⟩)
        · have HN2 : Hid (subsF F d l = none) := Lib.hid (by rw [HN.out, hx]; rfl)
          have H2 := Lib.hid hb
          clear CP hx hb HN
          go_wp2
          go_ret
          exact pcG_no HN2.out H2.out
        · have HN2 : Hid (subsF F d l = subsF f d3 r3) := Lib.hid (by rw [HN.out, hx]; rfl)
          have H2 := Lib.hid h2
          have hlt := piece_len hx
          clear CP hx h2 HN
          go_wp2
          go_roundg f
          case measure => omega
          case rel => exact ⟨d3, r3, H2.out, HN2.out, by omega⟩
end
end Go.Proofs.YtmecigainilocaaGreatDoor

namespace Go.Proofs.YtmecigainilocaaGreatDoor
open Go.RowKit

theorem enter_whole1 : ∀ args w, (callFunc 28 args).run Tryz.prog w = .ok (.enter 28 args) w := enters_of Tryz.func28 (by kernel_rfl) rfl
theorem per_len {f : List UInt8 → Option (List UInt8)} {l : List UInt8} (h : ∀ r, f l = some r → r.length ≤ l.length) : (perL f l).length ≤ l.length := by
  unfold perL
  cases hf : f l with
  | none => exact Nat.le_refl _
  | some r => exact h r hf
theorem spExt_len {l r : List UInt8} (h : (spcL l).bind extL = some r) : r.length ≤ l.length := by
  obtain ⟨m, hm, h2⟩ := Option.bind_eq_some_iff.1 h
  have := spc_len hm
  have := ext_len h2
  omega
section
variable {c : Rd} {w0 w w' : World} {l l' : List UInt8}
set_option maxHeartbeats 1000000 in
theorem whole1_d (B : Nat) (h : DR c w w l) (hB : w.cell? ⟨B, 0, none⟩ = some (.pointer (some ⟨c.b, 0, none⟩))) (hBb : B ≠ c.b) :
    Calls Tryz.prog 28 #[.pointer (some ⟨B, 0, none⟩)] w (GiveB c w ((spcL l).bind extL)) := by
  have HK := Lib.hid (fun w' l' (h' : DR c w w' l') => h'.cellOf (p := ⟨B, 0, none⟩) hB hBb)
  by_cases hg : gapL l = 0
  · have CS := Lib.hid (space_n h hg)
    have HN : Hid ((spcL l).bind extL = none) := Lib.hid (by rw [spc_none hg]; rfl)
    clear h
    go_enter Tryz.func28, Tryz.ntmps28
    go_wp2_with fail
    refine CS.out.mono ?_
    rintro e w1 ⟨rfl, h1⟩
    have H1 := Lib.hid h1
    clear CS h1
    go_wp2
    go_ret
    exact giveB_no HN.out H1.out
  · have CS := Lib.hid (space_y h hg)
    have HN : Hid ((spcL l).bind extL = extL (mayL l)) := Lib.hid (by rw [spc_some hg]; rfl)
    clear h
    go_enter Tryz.func28, Tryz.ntmps28
    go_wp2_with fail
    refine CS.out.mono ?_
    rintro e w1 ⟨rfl, h1⟩
    have k1 := HK.out w1 _ h1
    have CE := Lib.hid (external_d h1)
    clear CS h1
    go_wp2_with fail
    refine CE.out.mono ?_
    rintro e w2 (⟨hn, l', rfl, h2⟩ | ⟨r, hn, rfl, h2⟩)
    · have HN2 := Lib.hid (HN.out.trans hn)
      have H2 := Lib.hid h2
      clear CE h2 hn HN
      go_wp2
      go_ret
      exact giveB_no HN2.out H2.out
    · have HN2 := Lib.hid (HN.out.trans hn)
      have H2 := Lib.hid h2
      clear CE h2 hn HN
      go_wp2
      go_ret
      exact giveB_yes HN2.out H2.out
end
section
variable {k : Dk} {W0 w w' : World} {l l' : List UInt8} {nm : ByteArray} {E : List EntD} {A : List AttD} {P1 : List UInt8 → Bool} {P2 : List UInt8 → List UInt8 → Bool} {s1 s2 : Value} {g : List UInt8 → Option Nat}
/-- what lies between stays -/
theorem DocAt.box (h : DocAt k W0 w l nm E A P1 P2 s1 s2 g) {B : Nat} {v : Value} (hV : k.V.cell? ⟨B, 0, none⟩ = some v) (h1 : k.b < B) (h2 : B < k.lo) : w.cell? ⟨B, 0, none⟩ = some v := by
  rw [← hV]
  unfold World.cell?
  rw [h.mid B h1 h2]
/-- the document type has got its name -/
theorem DocAt.named (h : DocAt k W0 w l nm E A P1 P2 s1 s2 g) (hn : k.n ≤ W0.heap.size) (nm' : ByteArray) : DocAt k W0 (w.setCell ⟨k.b, 2, none⟩ (.string nm')) l nm' E A P1 P2 s1 s2 g := by
  have hset : ∀ q, q ≠ k.b → (w.setCell ⟨k.b, 2, none⟩ (.string nm')).heap[q]? = w.heap[q]? := fun q hq => Below.heap_setCell _ _ _ _ hq
  have hm1 := h.lt1
  have hm2 := h.lt2
  have hbl := h.blt
  have hlow := h.low1
  have hr := h.rd
  have hrb : w.rowIs k.b 57 7 ((k.c nm s1 s2).v l) := hr.rd
  have hT2 : Turns (fun q => k.b ≤ q) w (w.setCell ⟨k.b, 2, none⟩ (.string nm')) := (Turns.refl _ w).setCell (p := ⟨k.b, 2, none⟩) (Or.inl (Nat.le_refl _)) _
  refine ⟨⟨hr.e.stay (hT2.below (show k.n ≤ w.heap.size by have := h.since.size; omega) (fun q hq => by have : k.n ≤ W0.heap.size := hn; show k.n ≤ q; omega)), hr.nb, (World.rowIs.set hrb 2 _).congr fun i hi => ?_, hr.m2, by rw [Deep.nblk_setCell]; exact hrb.lt, Turns.refl _ _, hr.small, hr.suf⟩,
    owns_keep h.own1 fun q hq => hset q (by have := h.row1 q hq; omega), owns_keep h.own2 fun q hq => hset q (by have := h.row2 q hq; omega),
    h.set1.of_block (hset k.m1 (by omega)), h.set2.of_block (hset k.m2 (by omega)),
    fun e q hq => ⟨(h.inn e q hq).1, (h.inn e q hq).2.of_block (hset q (by have := (h.inn e q hq).1; omega))⟩, h.inj, h.ne, h.lt1, h.lt2, h.low1, h.low2,
    h.since.trans (hT2.below h.since.size (fun q hq => by omega)), h.cnt1, h.cnt2, fun q h1 h2 => (hset q (by omega)).trans (h.mid q h1 h2), h.blo, by rw [Deep.nblk_setCell]; exact h.lole, h.innlo⟩
  show (if i = 2 then .string nm' else (k.c nm s1 s2).v l i) = (k.c nm' s1 s2).v l i
  rcases (show i = 0 ∨ i = 1 ∨ i = 2 ∨ i = 3 ∨ i = 4 ∨ i = 5 ∨ i = 6 by have : i < 7 := hi; omega) with rfl | rfl | rfl | rfl | rfl | rfl | rfl <;> rfl
theorem DocAt.start' (hrd : DR (k.c ⟨#[]⟩ (.slice none 0 0) (.slice none 0 0)) w w l) (h1 : NamesM w k.m1 (fun _ => false) 0) (h2 : ElemsM w k.m2 (fun _ => none) 0) (hne : k.m1 ≠ k.m2) (hl1 : k.m1 < k.b) (hl2 : k.m2 < k.b) (hw1 : W0.heap.size ≤ k.m1) (hw2 : W0.heap.size ≤ k.m2) (hs : Below W0.heap.size W0 w)
    (hmid : ∀ q, k.b < q → q < k.lo → w.heap[q]? = k.V.heap[q]?) (hblo : k.b < k.lo) (hlo : k.lo ≤ w.heap.size) : DocAt k W0 w l ⟨#[]⟩ [] [] (PE []) (PT []) (.slice none 0 0) (.slice none 0 0) (fun _ => none) := by
  have hsh := hrd.short
  exact ⟨hrd, World.ownsRow_nil _ _ _ _, World.ownsRow_nil _ _ _ _, (h1.mono (Nat.zero_le _)).congr (fun _ => rfl), h2.mono (Nat.zero_le _), fun _ _ h => (by cases h), fun _ _ _ h => (by cases h), hne, hl1, hl2, hw1, hw2, hs,
    by show 0 + l.length ≤ 100000; omega, by show 0 + l.length ≤ 100000; omega, hmid, hblo, hlo, fun _ _ h => (by cases h)⟩
/-- the end of a document type -/
theorem topEnd_some {x : DeclD} {q : List UInt8} (h : swB [62] q = true) : ((some (x, q)).bind fun (x : DeclD × List UInt8) => (markL [62] x.2).map fun r => (x.1, r)) = some (x, q.drop 1) := by
  show (markL [62] q).map _ = _
  rw [mark_some h]; rfl
theorem topEnd_none {x : DeclD} {q : List UInt8} (h : swB [62] q = false) : ((some (x, q)).bind fun (x : DeclD × List UInt8) => (markL [62] x.2).map fun r => (x.1, r)) = none := by
  show (markL [62] q).map _ = _
  rw [mark_none h]; rfl
set_option maxHeartbeats 8000000 in
set_option maxRecDepth 100000 in
theorem whole_d (I : Ign) (hn : k.n ≤ W0.heap.size) (hV : k.V.cell? ⟨w.heap.size, 0, none⟩ = some (.pointer (some ⟨k.b, 0, none⟩))) (hB1 : k.b < w.heap.size) (hB2 : w.heap.size < k.lo)
    (h : DocAt k W0 (w.alloc (.cells #[.pointer (some ⟨k.b, 0, none⟩)] 49)) l ⟨#[]⟩ [] [] (PE []) (PT []) (.slice none 0 0) (.slice none 0 0) (fun _ => none)) :
    Calls Tryz.prog 17 #[.pointer (some ⟨k.b, 0, none⟩)] w (PcG k W0 (wholeD l)) := by
  have HD := Lib.hid h
  have hc0 := h.box hV hB1 hB2
  have CN := Lib.hid (spacedName_d splitB _ enter_qualified h.rd (qualified_s k.n))
  have HV := Lib.hid hV
  have hBb : w.heap.size ≠ k.b := by omega
  clear h hV
  go_enter Tryz.func17, Tryz.ntmps17
  go_wp2_with fail
  refine CN.out.mono ?_
  rintro e w1 (⟨hx, x, l', rfl, h1⟩ | ⟨en, r, hx, rfl, h1, hnl, hrl⟩)
  · have HN : Hid (wholeD l = none) := Lib.hid (by unfold wholeD; rw [hx]; rfl)
    have H1 := Lib.hid (HD.out.far h1)
    clear CN hx h1
    go_wp2
    go_ret
    exact pcG_no HN.out H1.out
  · have HN : Hid (wholeD l = (if swB [91] (mayL (perL (fun x => (spcL x).bind extL) r)) = true then (subsF ((mayL (perL (fun x => (spcL x).bind extL) r)).length + 1) ⟨en, [], []⟩ ((mayL (perL (fun x => (spcL x).bind extL) r)).drop 1)).map fun x => (x.1, mayL x.2) else some (⟨en, [], []⟩, mayL (perL (fun x => (spcL x).bind extL) r))).bind fun x => (markL [62] x.2).map fun r => (x.1, r)) := Lib.hid (by unfold wholeD; rw [hx]; rfl)
    have h1' := HD.out.step h1 (by omega)
    have k1 := h1'.box HV.out hB1 hB2
    have f1 : w1.frozen? ⟨k.b, 2, none⟩ = false := h1'.rd.fro 2
    have c1 : w1.cell? ⟨k.b, 2, none⟩ = some (.string ⟨#[]⟩) := h1'.rd.rd.cell (i := 2) (show 2 < 7 by decide)
    have h2 := h1'.named hn (bytes en)
    have k2 := h2.box HV.out hB1 hB2
    have H2 := Lib.hid h2
    have C1 := Lib.hid (perhapsB_d (fun x => (spcL x).bind extL) _ #[.pointer (some ⟨w.heap.size, 0, none⟩)] enter_whole1 h2.rd (whole1_d w.heap.size h2.rd k2 hBb))
    have HL1 := Lib.hid (per_len (f := fun x => (spcL x).bind extL) (l := r) fun q hq => spExt_len hq)
    clear CN hx h1 h1' h2
    generalize perL (fun x => (spcL x).bind extL) r = q1 at *
    go_wp2_with fail
    refine C1.out.mono ?_
    rintro e w3 ⟨⟨z3, rfl⟩, h3⟩
    have h3' := H2.out.step h3 HL1.out
    have k3 := h3'.box HV.out hB1 hB2
    have H3 := Lib.hid h3'
    have C2 := Lib.hid (space_may h3'.rd)
    have HL2 := Lib.hid (may_len q1)
    clear C1 h3 h3' k1 f1 c1 k2
    generalize mayL q1 = q2 at *
    go_wp2_with fail
    refine C2.out.mono ?_
    rintro e w4 ⟨⟨z4, rfl⟩, h4⟩
    have h4' := H3.out.step h4 (by have := HL2.out; omega)
    have k4 := h4'.box HV.out hB1 hB2
    have H4 := Lib.hid h4'
    clear C2 h4 h4' k3 H2 H3
    cases hm : swB [91] q2 with
    | false =>
      have C3 := Lib.hid (take_n [91] H4.out.rd (by decide) hm)
      have HN2 : Hid (wholeD l = (some ((⟨en, [], []⟩ : DeclD), q2)).bind fun x => (markL [62] x.2).map fun r => (x.1, r)) := Lib.hid (by rw [HN.out, if_neg (by rw [hm]; decide)])
      clear hm HN
      go_wp2_with fail
      refine C3.out.mono ?_
      rintro e w5 ⟨rfl, h5⟩
      have h5' := H4.out.step h5 (Nat.le_refl _)
      have k5 := h5'.box HV.out hB1 hB2
      have H5 := Lib.hid h5'
      clear C3 h5 h5' k4
      cases hm2 : swB [62] q2 with
      | false =>
        have C4 := Lib.hid (take_n [62] H5.out.rd (by decide) hm2)
        have HN3 := Lib.hid (HN2.out.trans (topEnd_none hm2))
        clear hm2 HN2
        go_wp2_with fail
        refine C4.out.mono ?_
        rintro e w6 ⟨rfl, h6⟩
        have H6 := Lib.hid (H5.out.far h6)
        clear C4 h6
        go_wp2
        go_ret
        exact pcG_no HN3.out H6.out
      | true =>
        have C4 := Lib.hid (take_y [62] H5.out.rd (by decide) hm2)
        have HN3 := Lib.hid (HN2.out.trans (topEnd_some hm2))
        clear hm2 HN2
        go_wp2_with fail
        refine C4.out.mono ?_
        rintro e w6 ⟨rfl, h6⟩
        have H6 : Hid (DocOk k W0 w6 (q2.drop 1) ⟨en, [], []⟩) := Lib.hid ⟨_, _, _, H5.out.step h6 (by rw [List.length_drop]; omega), fun _ _ _ => rfl⟩
        clear C4 h6
        go_wp2
        go_ret
        exact pcG_yes HN3.out H6.out
    | true =>
      have C3 := Lib.hid (take_y [91] H4.out.rd (by decide) hm)
      have HN2 : Hid (wholeD l = ((subsF (q2.length + 1) ⟨en, [], []⟩ (q2.drop 1)).map fun x => (x.1, mayL x.2)).bind fun x => (markL [62] x.2).map fun r => (x.1, r)) := Lib.hid (by rw [HN.out, if_pos hm])
      clear hm HN
      go_wp2_with fail
      refine C3.out.mono ?_
      rintro e w5 ⟨rfl, h5⟩
      have h5' := H4.out.step h5 (by rw [List.length_drop]; omega)
      have k5 := h5'.box HV.out hB1 hB2
      have CS := Lib.hid (subset_d I hn (d := ⟨en, [], []⟩) ⟨_, _, _, h5', fun _ _ _ => rfl⟩ (q2.length + 1) (by rw [List.length_drop]; omega))
      clear C3 h5 h5' k4
      go_wp2_with fail
      refine CS.out.mono ?_
      rintro e w6 (⟨hx, rfl, hb⟩ | ⟨d3, r3, hx, rfl, h6⟩)
      · have HN3 : Hid (wholeD l = none) := Lib.hid (by rw [HN2.out, show subsF (q2.length + 1) ⟨en, [], []⟩ (q2.drop 1) = none from hx]; rfl)
        have H6 := Lib.hid hb
        clear CS hx hb HN2
        go_wp2
        go_ret
        exact pcG_no HN3.out H6.out
      · have HN3 : Hid (wholeD l = (some (d3, mayL r3)).bind fun x => (markL [62] x.2).map fun r => (x.1, r)) := Lib.hid (by rw [HN2.out, show subsF (q2.length + 1) ⟨en, [], []⟩ (q2.drop 1) = some (d3, r3) from hx]; rfl)
        obtain ⟨t1, t2, g6, h6, hng⟩ := h6
        have k6 := h6.box HV.out hB1 hB2
        have HNG := Lib.hid hng
        have H6 := Lib.hid h6
        have C4 := Lib.hid (space_may h6.rd)
        have HL6 := Lib.hid (may_len r3)
        clear CS hx h6 hng k5 HN2
        generalize mayL r3 = q6 at *
        go_wp2_with fail
        refine C4.out.mono ?_
        rintro e w7 ⟨⟨z7, rfl⟩, h7⟩
        have h7' := H6.out.step h7 (by have := HL6.out; omega)
        have k7 := h7'.box HV.out hB1 hB2
        have H7 := Lib.hid h7'
        clear C4 h7 h7' k6
        cases hm2 : swB [62] q6 with
        | false =>
          have C5 := Lib.hid (take_n [62] H7.out.rd (by decide) hm2)
          have HN4 := Lib.hid (HN3.out.trans (topEnd_none hm2))
          clear hm2 HN3
          go_wp2_with fail
          refine C5.out.mono ?_
          rintro e w8 ⟨rfl, h8⟩
          have H8 := Lib.hid (H7.out.far h8)
          clear C5 h8
          go_wp2
          go_ret
          exact pcG_no HN4.out H8.out
        | true =>
          have C5 := Lib.hid (take_y [62] H7.out.rd (by decide) hm2)
          have HN4 := Lib.hid (HN3.out.trans (topEnd_some hm2))
          clear hm2 HN3
          go_wp2_with fail
          refine C5.out.mono ?_
          rintro e w8 ⟨rfl, h8⟩
          have H8 : Hid (DocOk k W0 w8 (q6.drop 1) d3) := Lib.hid ⟨_, _, _, H7.out.step h8 (by rw [List.length_drop]; omega), HNG.out⟩
          clear C5 h8
          go_wp2
          go_ret
          exact pcG_yes HN4.out H8.out
end
end Go.Proofs.YtmecigainilocaaGreatDoor

namespace Go.Proofs.YtmecigainilocaaGreatDoor
open Go.RowKit

/-- the world behind newDoctype: two sets, and the box -/
def newW (w : World) (s : List UInt8) (a : Int) : World :=
  ((w.alloc (.map #[] 0)).alloc (.map #[] 0)).alloc (.cells #[.string (bytes s), .int .i64 a, .string ⟨#[]⟩, .slice none 0 0, .slice none 0 0, .map (some w.heap.size), .map (some (w.heap.size + 1))] 57)
set_option maxHeartbeats 1000000 in
set_option maxRecDepth 100000 in
theorem new_d (s : List UInt8) (a : Int) (w : World) : Calls Tryz.prog 15 #[.string (bytes s), .int .i64 a] w fun e w' => e = .returned (.pointer (some ⟨w.heap.size + 2, 0, none⟩)) ∧ w' = newW w s a := by
  have hmm := @run_makeMap Tryz.prog
  go_enter Tryz.func15, Tryz.ntmps15
  go_wp2

  go_ret
  exact ⟨rfl, rfl⟩
end Go.Proofs.YtmecigainilocaaGreatDoor

namespace Go.Proofs.YtmecigainilocaaGreatDoor
open Go.RowKit

theorem flatE_get : ∀ (E : List EntD) (i : Nat), i < E.length → (flatE E)[i * 3]? = some (.string (bytes (entI E i).name)) ∧ (flatE E)[i * 3 + 1]? = some (.string (bytes (entI E i).value)) ∧ (flatE E)[i * 3 + 2]? = some (.bool (entI E i).ext)
  | [], _, h => absurd h (Nat.not_lt_zero _)
  | e :: E, 0, _ => ⟨rfl, rfl, rfl⟩
  | e :: E, i + 1, h => by
    have := flatE_get E i (Nat.lt_of_succ_lt_succ h)
    have e0 : flatE (e :: E) = .string (bytes e.name) :: .string (bytes e.value) :: .bool e.ext :: flatE E := rfl
    rw [e0, show (i + 1) * 3 = i * 3 + 1 + 1 + 1 by omega]
    exact this
theorem flatT_get : ∀ (A : List AttD) (i : Nat), i < A.length → (flatT A)[i * 5]? = some (.string (bytes (attI A i).elem)) ∧ (flatT A)[i * 5 + 1]? = some (.string (bytes (attI A i).name)) ∧ (flatT A)[i * 5 + 2]? = some (.int .i64 ((attI A i).type : Int)) ∧ (flatT A)[i * 5 + 3]? = some (.bool (attI A i).has) ∧ (flatT A)[i * 5 + 4]? = some (.string (bytes (attI A i).value))
  | [], _, h => absurd h (Nat.not_lt_zero _)
  | a :: A, 0, _ => ⟨rfl, rfl, rfl, rfl, rfl⟩
  | a :: A, i + 1, h => by
    have := flatT_get A i (Nat.lt_of_succ_lt_succ h)
    have e0 : flatT (a :: A) = .string (bytes a.elem) :: .string (bytes a.name) :: .int .i64 (a.type : Int) :: .bool a.has :: .string (bytes a.value) :: flatT A := rfl
    rw [e0, show (i + 1) * 5 = i * 5 + 1 + 1 + 1 + 1 + 1 by omega]
    exact this
theorem flatE_len (E : List EntD) : (flatE E).length = E.length * 3 := by
  induction E with
  | nil => rfl
  | cons e E ih =>
    show (flatE E).length + 1 + 1 + 1 = (E.length + 1) * 3
    omega
theorem flatT_len (A : List AttD) : (flatT A).length = A.length * 5 := by
  induction A with
  | nil => rfl
  | cons a A ih =>
    show (flatT A).length + 1 + 1 + 1 + 1 + 1 = (A.length + 1) * 5
    omega
theorem owns_ents {w : World} {B : Nat} {v : Value} {E : List EntD} (h : w.ownsRow B 32 3 v E.length (flatE E)) : EntsAt w.heap.size w v E := by
  rcases h.2 with ⟨rfl, h0⟩ | ⟨g, cap, cur, rfl, _, hg, _, _, _, h4⟩
  · exact Or.inl ⟨none, 0, rfl, List.eq_nil_of_length_eq_zero h0⟩
  · refine Or.inr ⟨g, 0, cap, rfl, (Array.getElem?_eq_some_iff.1 hg).1, fun i hi => ?_⟩
    obtain ⟨v1, v2, v3⟩ := flatE_get E i hi
    rw [← h4, List.getElem?_take, if_pos (by omega)] at v1
    rw [← h4, List.getElem?_take, if_pos (by omega)] at v2
    rw [← h4, List.getElem?_take, if_pos (by omega)] at v3
    rw [Array.getElem?_toList] at v1 v2 v3
    rw [Nat.zero_add]
    exact ⟨by simp [World.cell?, hg, v1], by simp [World.cell?, hg, v2], by simp [World.cell?, hg, v3]⟩
theorem owns_attd {w : World} {B : Nat} {v : Value} {A : List AttD} (h : w.ownsRow B 39 5 v A.length (flatT A)) : AttdAt w.heap.size w v A := by
  rcases h.2 with ⟨rfl, h0⟩ | ⟨g, cap, cur, rfl, _, hg, _, _, _, h4⟩
  · exact Or.inl ⟨none, 0, rfl, List.eq_nil_of_length_eq_zero h0⟩
  · refine Or.inr ⟨g, 0, cap, rfl, (Array.getElem?_eq_some_iff.1 hg).1, fun i hi => ?_⟩
    obtain ⟨v1, v2, v3, v5, v6⟩ := flatT_get A i hi
    rw [← h4, List.getElem?_take, if_pos (by omega)] at v1
    rw [← h4, List.getElem?_take, if_pos (by omega)] at v2
    rw [← h4, List.getElem?_take, if_pos (by omega)] at v3
    rw [← h4, List.getElem?_take, if_pos (by omega)] at v5
    rw [← h4, List.getElem?_take, if_pos (by omega)] at v6
    rw [Array.getElem?_toList] at v1 v2 v3 v5 v6
    rw [Nat.zero_add]
    exact ⟨by simp [World.cell?, hg, v1], by simp [World.cell?, hg, v2], by simp [World.cell?, hg, v3], by simp [World.cell?, hg, v5], by simp [World.cell?, hg, v6]⟩
/-! ### the result's box -/
def zero3 : Nat → Value := fun i => if i = 0 then .string ⟨#[]⟩ else .slice none 0 0
def zeroD : Obj := .cells #[.string ⟨#[]⟩, .slice none 0 0, .slice none 0 0] 27
theorem zeroD_row (w : World) : (w.alloc (.cells #[.string ⟨#[]⟩, .slice none 0 0, .slice none 0 0] 27)).rowIs w.heap.size 27 3 zero3 := World.rowIs_alloc w #[.string ⟨#[]⟩, .slice none 0 0, .slice none 0 0] 27 zero3 (by
  intro i hi
  rcases (show i = 0 ∨ i = 1 ∨ i = 2 by have : i < 3 := hi; omega) with rfl | rfl | rfl <;> rfl)
def dec3 (nm : ByteArray) (s1 s2 : Value) : Nat → Value := fun i => if i = 0 then .string nm else if i = 1 then s1 else s2
theorem store3 {w : World} {H : Nat} {f : Nat → Value} (h : w.rowIs H 27 3 f) (v0 v1 v2 : Value) :
    (((w.setCell ⟨H, 0, none⟩ v0).setCell ⟨H, 1, none⟩ v1).setCell ⟨H, 2, none⟩ v2).rowIs H 27 3 (fun i => if i = 0 then v0 else if i = 1 then v1 else v2) := by
  refine (World.rowIs.set (World.rowIs.set (World.rowIs.set h 0 v0) 1 v1) 2 v2).congr fun i hi => ?_
  rcases (show i = 0 ∨ i = 1 ∨ i = 2 by have : i < 3 := hi; omega) with rfl | rfl | rfl <;> rfl
theorem set3_block {w : World} {H q : Nat} (hq : q ≠ H) (v0 v1 v2 : Value) : (((w.setCell ⟨H, 0, none⟩ v0).setCell ⟨H, 1, none⟩ v1).setCell ⟨H, 2, none⟩ v2).heap[q]? = w.heap[q]? :=
  (Below.heap_setCell _ _ _ _ hq).trans ((Below.heap_setCell _ _ _ _ hq).trans (Below.heap_setCell _ _ _ _ hq))
/-- what Doctype gives -/
def DcG (s : List UInt8) (k : Int) (w : World) (e : Ending) (w' : World) : Prop :=
  ∃ v, e = .returned (.tuple #[v, .int .i64 (docT s k).2.1, .int .i64 (docT s k).2.2]) ∧ DeclsAt w'.heap.size w' v (docT s k).1 ∧ Below w.heap.size w w'
theorem dcG_no {s : List UInt8} {k c : Int} {w w' : World} (h : docT s k = (decl0, k, c)) (hb : Below w.heap.size w w') : DcG s k w (.returned (.tuple #[.agg #[.string ⟨#[]⟩, .slice none 0 0, .slice none 0 0], .int .i64 k, .int .i64 c])) w' := by
  unfold DcG
  rw [h]
  exact ⟨_, rfl, ⟨_, _, rfl, Or.inl ⟨none, 0, rfl, rfl⟩, Or.inl ⟨none, 0, rfl, rfl⟩⟩, hb⟩
set_option maxHeartbeats 8000000 in
set_option maxRecDepth 100000 in
theorem doc_out (s : List UInt8) (k : Int) (w : World) (h1 : k < 0 ∨ (s.length : Int) < k) : Calls Tryz.prog 9 #[.string (bytes s), .int .i64 k] w (DcG s k w) := by
  have hsz : (bytes s).size = s.length := bytes_len s
  have HZ := Lib.hid (zeroD_row w)
  have HBZ : Hid (Below w.heap.size w (w.alloc (.cells #[.string ⟨#[]⟩, .slice none 0 0, .slice none 0 0] 27))) := Lib.hid ((Below.refl _ _).alloc (Nat.le_refl _) _)
  have HT : Hid (docT s k = (decl0, k, 6)) := Lib.hid (by unfold docT; rw [if_pos h1])
  have g : k < 0 ∨ (¬ k < 0 ∧ (s.length : Int) < k) := by omega
  clear h1
  have hr := HZ.out
  have f0 := hr.frozen 0
  have f1 := hr.frozen 1
  have f2 := hr.frozen 2
  have c0 := hr.cell (i := 0) (by decide)
  have c1 := hr.cell (i := 1) (by decide)
  have c2 := hr.cell (i := 2) (by decide)
  clear hr
  obtain ⟨x1, x2, hg1, hg2, hg3⟩ : ∃ x1 x2 : Bool, decide (k < 0) = x1 ∧ decide ((s.length : Int) < k) = x2 ∧ (x1 = true ∨ x1 = false ∧ x2 = true) := ⟨_, _, rfl, rfl, by simpa using g⟩
  clear g
  rcases hg3 with rfl | ⟨rfl, rfl⟩
  all_goals
    (go_enter Tryz.func9, Tryz.ntmps9
     go_wp2
     have d0 : World.cell? _ ⟨w.heap.size, 0, none⟩ = some (.string ⟨#[]⟩) := HZ.out.cell (i := 0) (by decide)
     have d1 : World.cell? _ ⟨w.heap.size, 1, none⟩ = some (.slice none 0 0) := HZ.out.cell (i := 1) (by decide)
     have d2 : World.cell? _ ⟨w.heap.size, 2, none⟩ = some (.slice none 0 0) := HZ.out.cell (i := 2) (by decide)
     refine bodyPost_ret (by simp [results, Tryz.results9, d0, d1, d2, go_sem]; try rfl) rfl ?_
     exact dcG_no HT.out HBZ.out)
/-! ### a new one -/
structure NewS (n : Nat) (s : List UInt8) (W1 : World) (b m1 m2 : Nat) (w : World) (l : List UInt8) : Prop where
  rd : DR (docC n b s ⟨#[]⟩ (.slice none 0 0) (.slice none 0 0) m1 m2) w w l
  set1 : NamesM w m1 (fun _ => false) 0
  set2 : ElemsM w m2 (fun _ => none) 0
  ne : m1 ≠ m2
  l1 : m1 < b
  l2 : m2 < b
  w1 : W1.heap.size ≤ m1
  w2 : W1.heap.size ≤ m2
  since : Below W1.heap.size W1 w
section
variable {n b m1 m2 : Nat} {s l l' : List UInt8} {W1 w w' : World}
theorem NewS.step (h : NewS n s W1 b m1 m2 w l) (h' : DR (docC n b s ⟨#[]⟩ (.slice none 0 0) (.slice none 0 0) m1 m2) w w' l') : NewS n s W1 b m1 m2 w' l' := by
  have hk : ∀ q, q < w.heap.size → q ≠ b → w'.heap[q]? = w.heap[q]? := fun q h1 h2 => h'.since.block q h1 h2
  have h1 := h.l1
  have h2 := h.l2
  have h3 : b < w.heap.size := h.rd.rd.lt
  exact ⟨h'.start, h.set1.of_block (hk m1 (by omega) (by omega)), h.set2.of_block (hk m2 (by omega) (by omega)), h.ne, h.l1, h.l2, h.w1, h.w2,
    h.since.trans (h'.since.below h.since.size (fun q hq => by have hq2 : q = b := hq; have := h.w1; omega))⟩
theorem new_start (a : Nat) (w : World) (hE : DE n w) (hn : n ≤ w.heap.size) (hs : s.length ≤ 100000) (ha : a ≤ s.length) :
    NewS n s w (w.heap.size + 2) w.heap.size (w.heap.size + 1) (newW w s (a : Int)) (s.drop a) := by
  have z1 : (w.alloc (.map #[] 0)).heap.size = w.heap.size + 1 := Deep.nblk_alloc _ _
  have z2 : ((w.alloc (.map #[] 0)).alloc (.map #[] 0)).heap.size = w.heap.size + 2 := by rw [Deep.nblk_alloc, z1]
  have b3 : ∀ W : World, ∀ o, Below W.heap.size W (W.alloc o) := fun W o => (Below.refl _ _).alloc (Nat.le_refl _) o
  have hb : Below w.heap.size w (newW w s (a : Int)) := (((Below.refl w.heap.size w).alloc (Nat.le_refl _) _).alloc (by rw [z1]; omega) _).alloc (by rw [z2]; omega) _
  have hr := World.rowIs_alloc ((w.alloc (.map #[] 0)).alloc (.map #[] 0)) #[.string (bytes s), .int .i64 (a : Int), .string ⟨#[]⟩, .slice none 0 0, .slice none 0 0, .map (some w.heap.size), .map (some (w.heap.size + 1))] 57 ((docC n (w.heap.size + 2) s ⟨#[]⟩ (.slice none 0 0) (.slice none 0 0) w.heap.size (w.heap.size + 1)).v (s.drop a)) (by
    intro i hi
    rcases (show i = 0 ∨ i = 1 ∨ i = 2 ∨ i = 3 ∨ i = 4 ∨ i = 5 ∨ i = 6 by have : i < 7 := hi; omega) with rfl | rfl | rfl | rfl | rfl | rfl | rfl
    case inr.inl =>
      show some (Value.int .i64 (a : Int)) = some (Value.int .i64 ((s.length - (s.drop a).length : Nat) : Int))
      rw [List.length_drop, show s.length - (s.length - a) = a by omega]
    all_goals rfl)
  rw [z2] at hr
  have m1' := (NamesM.made w).of_block ((b3 (w.alloc (.map #[] 0)) (.map #[] 0)).block w.heap.size (by rw [z1]; omega))
  have hb3 : Below ((w.alloc (.map #[] 0)).alloc (.map #[] 0)).heap.size ((w.alloc (.map #[] 0)).alloc (.map #[] 0)) (newW w s (a : Int)) := b3 _ _
  have m1'' := m1'.of_block (hb3.block w.heap.size (by rw [z2]; omega))
  have m2' := ElemsM.made (w.alloc (.map #[] 0))
  rw [z1] at m2'
  have m2'' := m2'.of_block (hb3.block (w.heap.size + 1) (by rw [z2]; omega))
  exact ⟨⟨hE.stay (hb.mono hn), by show n ≤ w.heap.size + 2; omega, hr, by show 2 ≤ 7; decide, hr.lt, Turns.refl _ _, hs, List.drop_suffix _ _⟩, m1'', m2'', by omega, by omega, by omega, Nat.le_refl _, by omega, hb⟩
theorem new_any (a : Nat) (w : World) (hE : DE n w) (hn : n ≤ w.heap.size) (hs : s.length ≤ 100000) (ha : a ≤ s.length) :
    Calls Tryz.prog 15 #[.string (bytes s), .int .i64 (a : Int)] w fun e w' => ∃ b m1 m2, e = .returned (.pointer (some ⟨b, 0, none⟩)) ∧ NewS n s w b m1 m2 w' (s.drop a) := by
  refine (new_d s (a : Int) w).mono ?_
  rintro e w' ⟨rfl, rfl⟩
  exact ⟨_, _, _, rfl, new_start a w hE hn hs ha⟩
def topK (n b m1 m2 : Nat) (s : List UInt8) (w : World) : Dk := ⟨n, b, m1, m2, s, w.heap.size + 1, w.alloc (.cells #[.pointer (some ⟨b, 0, none⟩)] 49)⟩
theorem NewS.whole (I : Ign) (hn : n ≤ W1.heap.size) (h : NewS n s W1 b m1 m2 w l) : Calls Tryz.prog 17 #[.pointer (some ⟨b, 0, none⟩)] w fun e w' => ∃ k : Dk, k.b = b ∧ k.s = s ∧ PcG k W1 (wholeD l) e w' := by
  have h1 := h.l1
  have h2 := h.l2
  have h3 : b < w.heap.size := h.rd.rd.lt
  have hb := (Below.refl w.heap.size w).alloc (Nat.le_refl _) (.cells #[.pointer (some ⟨b, 0, none⟩)] 49)
  have := whole_d (k := topK n b m1 m2 s w) (w := w) (W0 := W1) (l := l) I hn (cell_one_new _ _ _ 0 _ rfl) h3 (Nat.lt_succ_self _) (DocAt.start' (h.rd.alloc _).start (h.set1.of_block (hb.block m1 (by omega))) (h.set2.of_block (hb.block m2 (by omega))) h.ne h.l1 h.l2 h.w1 h.w2 (h.since.trans (hb.mono h.since.size)) (fun _ _ _ => rfl) (show b < w.heap.size + 1 by omega) (by show w.heap.size + 1 ≤ (w.alloc _).heap.size; rw [Deep.nblk_alloc]; exact Nat.le_refl _))
  exact this.mono fun e w' hg => ⟨topK n b m1 m2 s w, rfl, rfl, hg⟩
/-- a document type has been read: where its parts lie -/
theorem decls_at {k : Dk} {H : Nat} {d : DeclD} {r : List UInt8} {s1 s2 : Value} {g : List UInt8 → Option Nat} (h : DocAt k W1 w r (bytes d.name) d.ents d.atts (PE d.ents) (PT d.atts) s1 s2 g) (hH : H < W1.heap.size) (v0 v1 v2 : Value) :
    DeclsAt (((w.setCell ⟨H, 0, none⟩ v0).setCell ⟨H, 1, none⟩ v1).setCell ⟨H, 2, none⟩ v2).heap.size (((w.setCell ⟨H, 0, none⟩ v0).setCell ⟨H, 1, none⟩ v1).setCell ⟨H, 2, none⟩ v2) (.agg #[.string (bytes d.name), s1, s2]) d := by
  have h1 := h.low1
  have h2 := h.lt1
  exact ⟨s1, s2, rfl, owns_ents (owns_keep h.own1 fun q hq => set3_block (by have := h.row1 q hq; omega) _ _ _), owns_attd (owns_keep h.own2 fun q hq => set3_block (by have := h.row2 q hq; omega) _ _ _)⟩
theorem below_set3 {B H : Nat} (h : Below B w w') (hH : B ≤ H) (v0 v1 v2 : Value) : Below B w (((w'.setCell ⟨H, 0, none⟩ v0).setCell ⟨H, 1, none⟩ v1).setCell ⟨H, 2, none⟩ v2) :=
  ((h.setCell (p := ⟨H, 0, none⟩) hH v0).setCell (p := ⟨H, 1, none⟩) hH v1).setCell (p := ⟨H, 2, none⟩) hH v2
end
end Go.Proofs.YtmecigainilocaaGreatDoor

namespace Go.Proofs.YtmecigainilocaaGreatDoor
open Go.RowKit

section
variable {s : List UInt8} {W1 w : World}
theorem dcG_bad {a : Nat} {c : Int} {w w' : World} (h : docT s (a : Int) = (decl0, (a : Int), c)) (hb : Below w.heap.size w w') : DcG s (a : Int) w (.returned (.tuple #[.agg #[.string ⟨#[]⟩, .slice none 0 0, .slice none 0 0], .int .i64 (a : Int), .int .i64 c])) w' := dcG_no h hb
theorem dcG_yes {a : Nat} {z : Int} {d : DeclD} {v : Value} {w w' : World} (h : docT s (a : Int) = (d, z, 0)) (hd : DeclsAt w'.heap.size w' v d) (hb : Below w.heap.size w w') : DcG s (a : Int) w (.returned (.tuple #[v, .int .i64 z, .int .i64 0])) w' := by
  unfold DcG
  rw [h]
  exact ⟨v, rfl, hd, hb⟩
theorem docT_in (s : List UInt8) (a : Nat) (ha : a ≤ s.length) : docT s (a : Int) = match markL doctypeW (s.drop a) with
    | none => (decl0, (a : Int), 6)
    | some l => match wholeD l with
      | none => (decl0, (a : Int), 2)
      | some (d, r) => (d, (s.length - r.length : Nat), 0) := by
  unfold docT
  rw [if_neg (by omega)]
  rfl
set_option maxHeartbeats 8000000 in
set_option maxRecDepth 100000 in
theorem doc_in (I : Ign) (n : Nat) (s : List UInt8) (a : Nat) (w : World) (hE : DE n w) (hn : n ≤ w.heap.size) (hs : s.length ≤ 100000) (ha : a ≤ s.length) : Calls Tryz.prog 9 #[.string (bytes s), .int .i64 (a : Int)] w (DcG s (a : Int) w) := by
  have hsz : (bytes s).size = s.length := bytes_len s
  have HZ := Lib.hid (zeroD_row w)
  have HBZ : Hid (Below w.heap.size w (w.alloc (.cells #[.string ⟨#[]⟩, .slice none 0 0, .slice none 0 0] 27))) := Lib.hid ((Below.refl _ _).alloc (Nat.le_refl _) _)
  have hW1s : (w.alloc (.cells #[.string ⟨#[]⟩, .slice none 0 0, .slice none 0 0] 27)).heap.size = w.heap.size + 1 := Deep.nblk_alloc _ _
  have HWS := Lib.hid hW1s
  have CN := Lib.hid (new_any (n := n) a (w.alloc (.cells #[.string ⟨#[]⟩, .slice none 0 0, .slice none 0 0] 27)) (hE.stay (HBZ.out.mono hn)) (by rw [hW1s]; omega) hs ha)
  have HT := Lib.hid (docT_in s a ha)
  have q1 : (a : Int) ≤ ((bytes s).size : Int) := by rw [hsz]; omega
  have q2 : (a : Int) ≤ (s.length : Int) := by omega
  generalize s.drop a = l at *
  -- what lies in the result's box, later
  have HK : Hid (∀ w', Below (w.alloc (.cells #[.string ⟨#[]⟩, .slice none 0 0, .slice none 0 0] 27)).heap.size (w.alloc (.cells #[.string ⟨#[]⟩, .slice none 0 0, .slice none 0 0] 27)) w' → w'.rowIs w.heap.size 27 3 zero3 ∧ Below w.heap.size w w') := Lib.hid (fun w' hb =>
    ⟨HZ.out.of_block (hb.block _ (by rw [hW1s]; omega)), HBZ.out.trans (hb.mono (by rw [hW1s]; omega))⟩)
  clear hE hW1s ha
  go_enter Tryz.func9, Tryz.ntmps9
  go_wp2_with fail
  refine CN.out.mono ?_
  rintro e w2 ⟨b, m1, m2, rfl, h2⟩
  clear CN
  generalize hWW : w.alloc (.cells #[.string ⟨#[]⟩, .slice none 0 0, .slice none 0 0] 27) = W1 at *
  cases hm : swB doctypeW l with
  | false =>
    have CT := Lib.hid (take_n doctypeW h2.rd (by decide) hm)
    have HN : Hid (docT s (a : Int) = (decl0, (a : Int), 6)) := Lib.hid (by rw [HT.out, mark_none hm])
    have H2 := Lib.hid h2
    clear hm HT h2
    go_wp2_with fail
    refine CT.out.mono ?_
    rintro e w3 ⟨rfl, h3⟩
    obtain ⟨hr, hb⟩ := HK.out w3 (H2.out.step h3).since
    have HR := Lib.hid hr
    have HB := Lib.hid hb
    have f0 := hr.frozen 0
    have f1 := hr.frozen 1
    have f2 := hr.frozen 2
    have c0 := hr.cell (i := 0) (by decide)
    have c1 := hr.cell (i := 1) (by decide)
    have c2 := hr.cell (i := 2) (by decide)
    clear hr hb CT h3
    go_wp2
    have hs3 := store3 HR.out (.string ⟨#[]⟩) (.slice none 0 0) (.slice none 0 0)
    have d0 : World.cell? _ ⟨w.heap.size, 0, none⟩ = some (.string ⟨#[]⟩) := hs3.cell (i := 0) (by decide)
    have d1 : World.cell? _ ⟨w.heap.size, 1, none⟩ = some (.slice none 0 0) := hs3.cell (i := 1) (by decide)
    have d2 : World.cell? _ ⟨w.heap.size, 2, none⟩ = some (.slice none 0 0) := hs3.cell (i := 2) (by decide)
    refine bodyPost_ret (by simp [results, Tryz.results9, d0, d1, d2, go_sem]; try rfl) rfl ?_
    exact dcG_bad HN.out (below_set3 HB.out (Nat.le_refl _) _ _ _)
  | true =>
    have CT := Lib.hid (take_y doctypeW h2.rd (by decide) hm)
    have HN : Hid (docT s (a : Int) = match wholeD (l.drop 9) with | none => (decl0, (a : Int), 2) | some (d, r) => (d, (s.length - r.length : Nat), 0)) := Lib.hid (by rw [HT.out, mark_some hm]; rfl)
    have H2 := Lib.hid h2
    clear hm HT h2
    go_wp2_with fail
    refine CT.out.mono ?_
    rintro e w3 ⟨rfl, h3⟩
    have h3' := H2.out.step h3
    have CW := Lib.hid (h3'.whole I (by have := HWS.out; omega))
    clear CT h3 h3' H2
    go_wp2_with fail
    refine CW.out.mono ?_
    rintro e w4 ⟨k, hkb, hks, (⟨hx, rfl, hb⟩ | ⟨d, r, hx, rfl, h4⟩)⟩
    · have HN2 : Hid (docT s (a : Int) = (decl0, (a : Int), 2)) := Lib.hid (by rw [HN.out, show wholeD (l.drop 9) = none from hx])
      obtain ⟨hr, hb⟩ := HK.out w4 hb
      have HR := Lib.hid hr
      have HB := Lib.hid hb
      have f0 := hr.frozen 0
      have f1 := hr.frozen 1
      have f2 := hr.frozen 2
      have c0 := hr.cell (i := 0) (by decide)
      have c1 := hr.cell (i := 1) (by decide)
      have c2 := hr.cell (i := 2) (by decide)
      clear hr hb CW hx HN hkb hks
      go_wp2
      have hs3 := store3 HR.out (.string ⟨#[]⟩) (.slice none 0 0) (.slice none 0 0)
      have d0 : World.cell? _ ⟨w.heap.size, 0, none⟩ = some (.string ⟨#[]⟩) := hs3.cell (i := 0) (by decide)
      have d1 : World.cell? _ ⟨w.heap.size, 1, none⟩ = some (.slice none 0 0) := hs3.cell (i := 1) (by decide)
      have d2 : World.cell? _ ⟨w.heap.size, 2, none⟩ = some (.slice none 0 0) := hs3.cell (i := 2) (by decide)
      refine bodyPost_ret (by simp [results, Tryz.results9, d0, d1, d2, go_sem]; try rfl) rfl ?_
      exact dcG_bad HN2.out (below_set3 HB.out (Nat.le_refl _) _ _ _)
    · have HN2 : Hid (docT s (a : Int) = (d, ((s.length - r.length : Nat) : Int), 0)) := Lib.hid (by rw [HN.out, show wholeD (l.drop 9) = some (d, r) from hx])
      obtain ⟨s1, s2, g, h4, _⟩ := h4
      obtain ⟨hr, hb⟩ := HK.out w4 h4.since
      have HR := Lib.hid hr
      have HB := Lib.hid hb
      have HD := Lib.hid h4
      obtain ⟨sa, sc, rfl⟩ := owns_slice h4.own1
      obtain ⟨ta, tc, rfl⟩ := owns_slice h4.own2
      have f0 := hr.frozen 0
      have f1 := hr.frozen 1
      have f2 := hr.frozen 2
      have c0 := hr.cell (i := 0) (by decide)
      have c1 := hr.cell (i := 1) (by decide)
      have c2 := hr.cell (i := 2) (by decide)
      have b1 : w4.cell? ⟨b, 1, none⟩ = some (.int .i64 ((s.length - r.length : Nat) : Int)) := by have := h4.rd.c1; rw [show (k.c (bytes d.name) (.slice sa d.ents.length sc) (.slice ta d.atts.length tc)).at r = s.length - r.length by show k.s.length - r.length = _; rw [hks]] at this; rw [← hkb]; exact this
      have b2 : w4.cell? ⟨b, 2, none⟩ = some (.string (bytes d.name)) := by rw [← hkb]; exact h4.rd.rd.cell (i := 2) (show 2 < 7 by decide)
      have b3 : w4.cell? ⟨b, 3, none⟩ = some (.slice sa d.ents.length sc) := by rw [← hkb]; exact h4.c1.1
      have b4 : w4.cell? ⟨b, 4, none⟩ = some (.slice ta d.atts.length tc) := by rw [← hkb]; exact h4.c1.2.1
      have hbH : b ≠ w.heap.size := by have h8 := h4.low1; have h9 := h4.lt1; have := HWS.out; omega
      have HHW : Hid (w.heap.size < W1.heap.size) := Lib.hid (by have := HWS.out; omega)
      have hbH2 : w.heap.size ≠ b := fun e => hbH e.symm
      clear hr hb CW hx HN hks h4 HWS HK hWW HZ HBZ
      generalize s.length - r.length = z at *
      go_wp2
      go_region
      all_goals
        (go_wp2
         have hs3 := store3 HR.out (.string (bytes d.name)) (.slice sa d.ents.length sc) (.slice ta d.atts.length tc)
         have d0 : World.cell? _ ⟨w.heap.size, 0, none⟩ = some (.string (bytes d.name)) := hs3.cell (i := 0) (by decide)
         have d1 : World.cell? _ ⟨w.heap.size, 1, none⟩ = some (.slice sa d.ents.length sc) := hs3.cell (i := 1) (by decide)
         have d2 : World.cell? _ ⟨w.heap.size, 2, none⟩ = some (.slice ta d.atts.length tc) := hs3.cell (i := 2) (by decide)
         refine bodyPost_ret (by simp [results, Tryz.results9, d0, d1, d2, go_sem]; try rfl) rfl ?_
         exact dcG_yes HN2.out (decls_at HD.out HHW.out _ _ _) (below_set3 HB.out (Nat.le_refl _) _ _ _).drew)
end
end Go.Proofs.YtmecigainilocaaGreatDoor

namespace Go.Proofs.YtmecigainilocaaGreatDoor
open Go.RowKit

theorem doc_any (I : Ign) (n : Nat) (s : List UInt8) (k : Int) (w : World) (hE : DE n w) (hn : n ≤ w.heap.size) (hs : s.length ≤ 100000) : Calls Tryz.prog 9 #[.string (bytes s), .int .i64 k] w (DcG s k w) := by
  by_cases h1 : k < 0 ∨ (s.length : Int) < k
  · exact doc_out s k w h1
  · obtain ⟨a, rfl⟩ := Int.eq_ofNat_of_zero_le (show (0 : Int) ≤ k by omega)
    exact doc_in I n s a w hE hn hs (by omega)
theorem decl_said_of (I : Ign) : DeclSaid DE where
  stay := fun _ _ _ h hb => h.stay hb
  xml := fun n s w hE hn hs => xml_any n s w hE hn hs
  lit := fun _ s k w _ _ hs => lit_any s k w hs
  ent := fun n s w hE hn hs => ent_any n s w hE hn hs
  doc := fun n s k w hE hn hs => doc_any I n s k w hE hn hs
/-- PACKAGE decl, AS IT LANDED, GIVES WHAT IS ASKED OF IT. -/
theorem decl_said : DeclSaid DE := decl_said_of ign_any
end Go.Proofs.YtmecigainilocaaGreatDoor
