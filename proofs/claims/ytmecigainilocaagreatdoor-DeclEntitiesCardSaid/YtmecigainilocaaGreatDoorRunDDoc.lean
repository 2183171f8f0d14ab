/-
  THE LANDED PACKAGE decl: the contracts of aside, notation, content, kind, standard, att.
  THE LANDED PACKAGE decl: the contracts of kind, standard, att. Written in part by gen_datt (in NOTES).
  THE LANDED PACKAGE decl: the contracts of ignored and aside.
  THE LANDED PACKAGE decl: the contract of ignored's function: strings.ContainsRune in "<>\"'", at every character.
  THE LANDED PACKAGE decl: what a document type that is being read is (DocAt): its box, its two lists, its sets of names.
-/
import Derived.Test.YtmecigainilocaaGreatDoorRunDXml
import Derived.Test.YtmecigainilocaaGreatDoorRunDEnt
import Derived.Test.YtmecigainilocaaGreatDoorRunDRead
import Derived.Laws.Runes
namespace Go.Proofs.YtmecigainilocaaGreatDoor
open Go.RowKit

section
variable {c : Rd} {w0 w w' : World} {l l' : List UInt8}
theorem DR.set (h : DR c w0 w l) {p : Addr} (hp : w0.heap.size ≤ p.block) (v : Value) : DR c w0 (w.setCell p v) l := by
  have hne : c.b ≠ p.block := by have := h.b0; omega
  have hT : Turns (fun k => k = p.block) w (w.setCell p v) := (Turns.refl (fun k => k = p.block) w).setCell (p := p) (Or.inl rfl) v
  have hB : Below c.n w (w.setCell p v) := hT.below h.n_le (fun k hk => by have := h.nb; have := h.b0; omega)
  exact ⟨h.e.stay hB, h.nb, h.rd.setOther hne v, h.m2, h.b0, h.since.setCell (Or.inr hp) v, h.small, h.suf⟩
/-- perhaps, handed a method of a thing -/
theorem perhapsP_d (f : List UInt8 → Option (List UInt8)) (g : Nat) (v : Value) (eg : ∀ args w, (callFunc g args).run Tryz.prog w = .ok (.enter g args) w) (h : DR c w0 w l) (hp : Calls Tryz.prog g #[v] w (GiveB c w0 (f l))) :
    Calls Tryz.prog 27 #[.pointer (some ⟨c.b, 0, none⟩), .func (.func g) #[v] #[]] w fun e w' => (∃ z, e = .returned (.bool z)) ∧ DR c w0 w' (perL f l) := by
  have c1 := h.c1
  have hs := h.suf
  have HP := Lib.hid hp
  clear h hp
  go_enter Tryz.func27, Tryz.ntmps27
  go_wp2_with fail
  refine HP.out.mono ?_
  rintro e w' (⟨hn, l', rfl, h⟩ | ⟨r, hn, rfl, h⟩)
  · have c2 := h.c1
    have f2 := h.fro 1
    have HH := Lib.hid (h.put hs rfl)
    have HN : Hid (perL f l = l) := Lib.hid (by unfold perL; rw [hn]; rfl)
    clear h hn
    go_wp2
    go_ret
    rw [HN.out]
    exact ⟨⟨_, rfl⟩, HH.out⟩
  · have HH := Lib.hid h
    have HN : Hid (perL f l = r) := Lib.hid (by unfold perL; rw [hn]; rfl)
    clear h hn
    go_wp2
    go_ret
    rw [HN.out]
    exact ⟨⟨_, rfl⟩, HH.out⟩
theorem enter_notation : ∀ args w, (callFunc 100 args).run Tryz.prog w = .ok (.enter 100 args) w := enters_of Tryz.func100 (by kernel_rfl) rfl
set_option maxHeartbeats 1000000 in
theorem notation_d (h : DR c w0 w l) : Calls Tryz.prog 100 #[.pointer (some ⟨c.b, 0, none⟩)] w (GiveB c w0 (ndataL l)) := by
  by_cases hg : gapL l = 0
  · have CS := Lib.hid (space_n h hg)
    have HN : Hid (ndataL l = none) := Lib.hid (by unfold ndataL; rw [spc_none hg]; rfl)
    clear h hg
    go_enter Tryz.func100, Tryz.ntmps100
    go_wp2_with fail
    refine CS.out.mono ?_
    rintro e w1 ⟨rfl, h1⟩
    have CN := Lib.hid (spacedName_d ncBL _ enter_ncname h1 (ncname_s c.n))
    clear CS h1
    go_wp2_with fail
    refine CN.out.mono ?_
    rintro e w2 (⟨_, x, l', rfl, h2⟩ | ⟨nm, r, _, rfl, h2, _⟩)
    all_goals
      (have H2 := Lib.hid h2
       clear CN h2
       go_wp2
       go_ret
       exact giveB_no HN.out H2.out)
  · have CS := Lib.hid (space_y h hg)
    have HN : Hid (ndataL l = (markL ndataW (mayL l)).bind fun m => (spNameL ncBL m).map (·.2)) := Lib.hid (by unfold ndataL; rw [spc_some hg]; rfl)
    clear h hg
    generalize mayL l = q at *
    go_enter Tryz.func100, Tryz.ntmps100
    go_wp2_with fail
    refine CS.out.mono ?_
    rintro e w1 ⟨rfl, h1⟩
    have H1 := Lib.hid h1
    clear CS h1
    cases hm : swB ndataW q with
    | false =>
      have CT := Lib.hid (take_n ndataW H1.out (by decide) hm)
      have HN2 : Hid (ndataL l = none) := Lib.hid (by rw [HN.out, mark_none hm]; rfl)
      clear hm H1 HN
      go_wp2_with fail
      refine CT.out.mono ?_
      rintro e w2 ⟨rfl, h2⟩
      have CN := Lib.hid (spacedName_d ncBL _ enter_ncname h2 (ncname_s c.n))
      clear CT h2
      go_wp2_with fail
      refine CN.out.mono ?_
      rintro e w3 (⟨_, x, l', rfl, h3⟩ | ⟨nm, r, _, rfl, h3, _⟩)
      all_goals
        (have H3 := Lib.hid h3
         clear CN h3
         go_wp2
         go_ret
         exact giveB_no HN2.out H3.out)
    | true =>
      have CT := Lib.hid (take_y ndataW H1.out (by decide) hm)
      have HN2 : Hid (ndataL l = (spNameL ncBL (q.drop 5)).map (·.2)) := Lib.hid (by rw [HN.out, mark_some hm]; rfl)
      clear hm H1 HN
      go_wp2_with fail
      refine CT.out.mono ?_
      rintro e w2 ⟨rfl, h2⟩
      have CN := Lib.hid (spacedName_d ncBL _ enter_ncname h2 (ncname_s c.n))
      clear CT h2
      go_wp2_with fail
      refine CN.out.mono ?_
      rintro e w3 (⟨hn, x, l', rfl, h3⟩ | ⟨nm, r, hn, rfl, h3, _⟩)
      · have HN3 : Hid (ndataL l = none) := Lib.hid (by rw [HN2.out]; show (spNameL ncBL (q.drop ndataW.length)).map _ = none; rw [hn]; rfl)
        have H3 := Lib.hid h3
        clear CN h3 hn HN2
        go_wp2
        go_ret
        exact giveB_no HN3.out H3.out
      · have HN3 : Hid (ndataL l = some r) := Lib.hid (by rw [HN2.out]; show (spNameL ncBL (q.drop ndataW.length)).map _ = _; rw [hn]; rfl)
        have H3 := Lib.hid h3
        clear CN h3 hn HN2
        go_wp2
        go_ret
        exact giveB_yes HN3.out H3.out
/-! ### an entity's text, or where it stands -/
def entF (nm v : ByteArray) (x : Bool) : Nat → Value := fun i => if i = 0 then .string nm else if i = 1 then .string v else .bool x
/-- what content gives: the entity's box holds its text then -/
def ConG (c : Rd) (w0 : World) (eb : Nat) (nm : ByteArray) (l : List UInt8) (e : Ending) (w' : World) : Prop :=
  (contentL l = none ∧ ∃ l', e = .returned (.bool false) ∧ DR c w0 w' l') ∨
  ∃ t x r, contentL l = some ((t, x), r) ∧ e = .returned (.bool true) ∧ DR c w0 w' r ∧ w'.rowIs eb 32 3 (entF nm (bytes t) x)
set_option maxHeartbeats 2000000 in
set_option maxRecDepth 100000 in
theorem content_d (eb : Nat) (nm : ByteArray) (h : DR c w0 w l) (heb : w0.heap.size ≤ eb) (hE : w.rowIs eb 32 3 (entF nm ⟨#[]⟩ false)) :
    Calls Tryz.prog 85 #[.pointer (some ⟨c.b, 0, none⟩), .pointer (some ⟨eb, 0, none⟩)] w (ConG c w0 eb nm l) := by
  have hne : eb ≠ c.b := by have := h.b0; omega
  have HF := Lib.hid (fun w' l' (h' : DR c w w' l') => And.intro (h.from h') (hE.of_block (h'.since.block eb hE.lt hne)))
  have CL := Lib.hid (literal_d h.start)
  have hsh := h.short
  clear h hE
  go_enter Tryz.func85, Tryz.ntmps85
  go_wp2_with fail
  refine CL.out.mono ?_
  rintro e w1 (⟨hn, rfl, h1⟩ | ⟨v, r, hn, rfl, h1, hv, _⟩)
  · -- no literal
    have CE := Lib.hid (external_d h1)
    have HN : Hid (contentL l = (extL l).map fun r => (([], true), perL ndataL r)) := Lib.hid (by unfold contentL; rw [hn])
    clear CL hn h1
    go_wp2_with fail
    refine CE.out.mono ?_
    rintro e w2 (⟨hn, l', rfl, h2⟩ | ⟨r, hn, rfl, h2⟩)
    · have HN2 : Hid (contentL l = none) := Lib.hid (by rw [HN.out, hn]; rfl)
      have H2 := Lib.hid (HF.out _ _ h2).1
      clear CE hn h2 HN
      go_wp2
      go_ret
      exact Or.inl ⟨HN2.out, _, rfl, H2.out⟩
    · have HN2 : Hid (contentL l = some (([], true), perL ndataL r)) := Lib.hid (by rw [HN.out, hn]; rfl)
      obtain ⟨g1, g2⟩ := HF.out _ _ h2
      have f2 := g2.frozen 2
      have k2 := g2.cell (i := 2) (by decide)
      have H3 := Lib.hid (g1.set (p := ⟨eb, 2, none⟩) heb (.bool true))
      have HE3 : Hid ((w2.setCell ⟨eb, 2, none⟩ (.bool true)).rowIs eb 32 3 (entF nm (bytes []) true)) := Lib.hid ((World.rowIs.set g2 2 _).congr fun i hi => by
        rcases (show i = 0 ∨ i = 1 ∨ i = 2 by omega) with rfl | rfl | rfl <;> rfl)
      have CN := Lib.hid (perhapsP_d ndataL _ (.pointer (some ⟨c.b, 0, none⟩)) enter_notation H3.out.start (notation_d H3.out.start))
      clear CE hn h2 HN g1 g2
      go_wp2_with fail
      refine CN.out.mono ?_
      rintro e w4 ⟨⟨z, rfl⟩, h4⟩
      have HE4 := Lib.hid (HE3.out.of_block (h4.since.block eb HE3.out.lt hne))
      have H4 := Lib.hid (H3.out.from h4)
      clear CN h4
      go_wp2
      go_ret
      exact Or.inr ⟨_, _, _, HN2.out, rfl, H4.out, HE4.out⟩
  · have CE := Lib.hid (ent_any c.n v w1 h1.e h1.n_le (by omega))
    have HN : Hid (contentL l = (entL v).map fun t => ((t, false), r)) := Lib.hid (by unfold contentL; rw [hn])
    unfold EntG at CE
    obtain ⟨t, y, hty⟩ : ∃ t y, entT v = (t, y) := ⟨_, _, rfl⟩
    rw [hty] at CE
    have HN2 : Hid ((y = false → contentL l = none) ∧ (y = true → contentL l = some ((t, false), r))) := Lib.hid (by
      unfold entT at hty
      rw [HN.out]
      cases he : entL v with
      | none =>
        rw [he] at hty
        simp only [Prod.mk.injEq] at hty
        obtain ⟨rfl, rfl⟩ := hty
        exact ⟨fun _ => rfl, fun e => by cases e⟩
      | some u =>
        rw [he] at hty
        simp only [Prod.mk.injEq] at hty
        obtain ⟨rfl, rfl⟩ := hty
        exact ⟨fun e => (by cases e), fun _ => rfl⟩)
    have H1 := Lib.hid h1
    clear CL hn h1 hty HN
    go_wp2_with fail
    refine CE.out.mono ?_
    rintro e w2 ⟨rfl, hb⟩
    have h2 := H1.out.other hb
    obtain ⟨g1, g2⟩ := HF.out _ _ h2
    have f1 := g2.frozen 1
    have k1 := g2.cell (i := 1) (by decide)
    have H3 := Lib.hid (g1.set (p := ⟨eb, 1, none⟩) heb (.string (bytes t)))
    have HE3 : Hid ((w2.setCell ⟨eb, 1, none⟩ (.string (bytes t))).rowIs eb 32 3 (entF nm (bytes t) false)) := Lib.hid ((World.rowIs.set g2 1 _).congr fun i hi => by
      rcases (show i = 0 ∨ i = 1 ∨ i = 2 by omega) with rfl | rfl | rfl <;> rfl)
    clear CE hb h2 g1 g2 H1
    cases y with
    | false =>
      go_wp2
      go_ret
      exact Or.inl ⟨HN2.out.1 (by simp), _, rfl, H3.out⟩
    | true =>
      go_wp2
      go_ret
      exact Or.inr ⟨_, _, _, HN2.out.2 (by simp), rfl, H3.out, HE3.out⟩
end
end Go.Proofs.YtmecigainilocaaGreatDoor

namespace Go.Proofs.YtmecigainilocaaGreatDoor
open Go.RowKit

section
variable {c : Rd} {w0 w w' : World} {l l' : List UInt8}
/-- what kind gives -/
def KiG (c : Rd) (w0 : World) (l : List UInt8) (e : Ending) (w' : World) : Prop :=
  (kindL l = none ∧ ∃ k l', e = .returned (.tuple #[.int .i64 (k : Int), .bool false]) ∧ DR c w0 w' l') ∨
  ∃ k r, kindL l = some (k, r) ∧ e = .returned (.tuple #[.int .i64 ((k : Nat) : Int), .bool true]) ∧ DR c w0 w' r
def eqW (x m : List UInt8) : Bool := (bytes x).toList == m
theorem eqW_is (x m : List UInt8) : eqW x m = decide (x = m) := by unfold eqW; rw [Lib.toList_data, bytes_list, Bool.eq_iff_iff]; simp
theorem kiG_no {k : Int} (hd : kindL l = none) (h : DR c w0 w l') : KiG c w0 l (.returned (.tuple #[.int .i64 k, .bool false])) w := Or.inl ⟨hd, k, _, rfl, h⟩
theorem kiG_yes {k : Nat} {r : List UInt8} (hd : kindL l = some (k, r)) (h : DR c w0 w r) : KiG c w0 l (.returned (.tuple #[.int .i64 (k : Int), .bool true])) w := Or.inr ⟨_, _, hd, rfl, h⟩
set_option maxHeartbeats 4000000 in
set_option maxRecDepth 100000 in
theorem kind_word (x : List UInt8) (hx : x ∈ cdataW :: typesW) (k : Nat) (hk : k = if x = cdataW then 1 else 2) (h : Calls Tryz.prog 44 #[.pointer (some ⟨c.b, 0, none⟩)] w fun e w' => e = .returned (.string (bytes x)) ∧ DR c w0 w' l') :
    Calls Tryz.prog 101 #[.pointer (some ⟨c.b, 0, none⟩)] w fun e w' => e = .returned (.tuple #[.int .i64 (k : Int), .bool true]) ∧ DR c w0 w' l' := by
  have CP := Lib.hid h
  clear h
  unfold cdataW typesW at hx
  simp only [List.mem_cons, List.mem_nil_iff, or_false] at hx
  rcases hx with rfl | rfl | rfl | rfl | rfl | rfl | rfl | rfl
  · obtain rfl : k = 1 := hk
    have e0 : ((bytes [67, 68, 65, 84, 65]).toList == [67, 68, 65, 84, 65]) = true := by have := eqW_is [67, 68, 65, 84, 65] [67, 68, 65, 84, 65]; unfold eqW at this; rw [this]; decide
    have e1 : ((bytes [67, 68, 65, 84, 65]).toList == [73, 68]) = false := by have := eqW_is [67, 68, 65, 84, 65] [73, 68]; unfold eqW at this; rw [this]; decide
    have e2 : ((bytes [67, 68, 65, 84, 65]).toList == [73, 68, 82, 69, 70]) = false := by have := eqW_is [67, 68, 65, 84, 65] [73, 68, 82, 69, 70]; unfold eqW at this; rw [this]; decide
    have e3 : ((bytes [67, 68, 65, 84, 65]).toList == [73, 68, 82, 69, 70, 83]) = false := by have := eqW_is [67, 68, 65, 84, 65] [73, 68, 82, 69, 70, 83]; unfold eqW at this; rw [this]; decide
    have e4 : ((bytes [67, 68, 65, 84, 65]).toList == [69, 78, 84, 73, 84, 89]) = false := by have := eqW_is [67, 68, 65, 84, 65] [69, 78, 84, 73, 84, 89]; unfold eqW at this; rw [this]; decide
    have e5 : ((bytes [67, 68, 65, 84, 65]).toList == [69, 78, 84, 73, 84, 73, 69, 83]) = false := by have := eqW_is [67, 68, 65, 84, 65] [69, 78, 84, 73, 84, 73, 69, 83]; unfold eqW at this; rw [this]; decide
    have e6 : ((bytes [67, 68, 65, 84, 65]).toList == [78, 77, 84, 79, 75, 69, 78]) = false := by have := eqW_is [67, 68, 65, 84, 65] [78, 77, 84, 79, 75, 69, 78]; unfold eqW at this; rw [this]; decide
    have e7 : ((bytes [67, 68, 65, 84, 65]).toList == [78, 77, 84, 79, 75, 69, 78, 83]) = false := by have := eqW_is [67, 68, 65, 84, 65] [78, 77, 84, 79, 75, 69, 78, 83]; unfold eqW at this; rw [this]; decide
    have e8 : ((bytes [67, 68, 65, 84, 65]).toList == [78, 79, 84, 65, 84, 73, 79, 78]) = false := by have := eqW_is [67, 68, 65, 84, 65] [78, 79, 84, 65, 84, 73, 79, 78]; unfold eqW at this; rw [this]; decide
    have e9 : ((bytes [67, 68, 65, 84, 65]).toList == []) = false := by have := eqW_is [67, 68, 65, 84, 65] []; unfold eqW at this; rw [this]; decide
    go_enter Tryz.func101, Tryz.ntmps101
    go_wp2_with (go_at_call 44; refine CP.out.mono ?_; rintro e w1 ⟨rfl, h1⟩)
    go_ret2
    exact ⟨rfl, h1⟩
  · obtain rfl : k = 2 := hk
    have e0 : ((bytes [73, 68]).toList == [67, 68, 65, 84, 65]) = false := by have := eqW_is [73, 68] [67, 68, 65, 84, 65]; unfold eqW at this; rw [this]; decide
    have e1 : ((bytes [73, 68]).toList == [73, 68]) = true := by have := eqW_is [73, 68] [73, 68]; unfold eqW at this; rw [this]; decide
    have e2 : ((bytes [73, 68]).toList == [73, 68, 82, 69, 70]) = false := by have := eqW_is [73, 68] [73, 68, 82, 69, 70]; unfold eqW at this; rw [this]; decide
    have e3 : ((bytes [73, 68]).toList == [73, 68, 82, 69, 70, 83]) = false := by have := eqW_is [73, 68] [73, 68, 82, 69, 70, 83]; unfold eqW at this; rw [this]; decide
    have e4 : ((bytes [73, 68]).toList == [69, 78, 84, 73, 84, 89]) = false := by have := eqW_is [73, 68] [69, 78, 84, 73, 84, 89]; unfold eqW at this; rw [this]; decide
    have e5 : ((bytes [73, 68]).toList == [69, 78, 84, 73, 84, 73, 69, 83]) = false := by have := eqW_is [73, 68] [69, 78, 84, 73, 84, 73, 69, 83]; unfold eqW at this; rw [this]; decide
    have e6 : ((bytes [73, 68]).toList == [78, 77, 84, 79, 75, 69, 78]) = false := by have := eqW_is [73, 68] [78, 77, 84, 79, 75, 69, 78]; unfold eqW at this; rw [this]; decide
    have e7 : ((bytes [73, 68]).toList == [78, 77, 84, 79, 75, 69, 78, 83]) = false := by have := eqW_is [73, 68] [78, 77, 84, 79, 75, 69, 78, 83]; unfold eqW at this; rw [this]; decide
    have e8 : ((bytes [73, 68]).toList == [78, 79, 84, 65, 84, 73, 79, 78]) = false := by have := eqW_is [73, 68] [78, 79, 84, 65, 84, 73, 79, 78]; unfold eqW at this; rw [this]; decide
    have e9 : ((bytes [73, 68]).toList == []) = false := by have := eqW_is [73, 68] []; unfold eqW at this; rw [this]; decide
    go_enter Tryz.func101, Tryz.ntmps101
    go_wp2_with (go_at_call 44; refine CP.out.mono ?_; rintro e w1 ⟨rfl, h1⟩)
    go_ret2
    exact ⟨rfl, h1⟩
  · obtain rfl : k = 2 := hk
    have e0 : ((bytes [73, 68, 82, 69, 70]).toList == [67, 68, 65, 84, 65]) = false := by have := eqW_is [73, 68, 82, 69, 70] [67, 68, 65, 84, 65]; unfold eqW at this; rw [this]; decide
    have e1 : ((bytes [73, 68, 82, 69, 70]).toList == [73, 68]) = false := by have := eqW_is [73, 68, 82, 69, 70] [73, 68]; unfold eqW at this; rw [this]; decide
    have e2 : ((bytes [73, 68, 82, 69, 70]).toList == [73, 68, 82, 69, 70]) = true := by have := eqW_is [73, 68, 82, 69, 70] [73, 68, 82, 69, 70]; unfold eqW at this; rw [this]; decide
    have e3 : ((bytes [73, 68, 82, 69, 70]).toList == [73, 68, 82, 69, 70, 83]) = false := by have := eqW_is [73, 68, 82, 69, 70] [73, 68, 82, 69, 70, 83]; unfold eqW at this; rw [this]; decide
    have e4 : ((bytes [73, 68, 82, 69, 70]).toList == [69, 78, 84, 73, 84, 89]) = false := by have := eqW_is [73, 68, 82, 69, 70] [69, 78, 84, 73, 84, 89]; unfold eqW at this; rw [this]; decide
    have e5 : ((bytes [73, 68, 82, 69, 70]).toList == [69, 78, 84, 73, 84, 73, 69, 83]) = false := by have := eqW_is [73, 68, 82, 69, 70] [69, 78, 84, 73, 84, 73, 69, 83]; unfold eqW at this; rw [this]; decide
    have e6 : ((bytes [73, 68, 82, 69, 70]).toList == [78, 77, 84, 79, 75, 69, 78]) = false := by have := eqW_is [73, 68, 82, 69, 70] [78, 77, 84, 79, 75, 69, 78]; unfold eqW at this; rw [this]; decide
    have e7 : ((bytes [73, 68, 82, 69, 70]).toList == [78, 77, 84, 79, 75, 69, 78, 83]) = false := by have := eqW_is [73, 68, 82, 69, 70] [78, 77, 84, 79, 75, 69, 78, 83]; unfold eqW at this; rw [this]; decide
    have e8 : ((bytes [73, 68, 82, 69, 70]).toList == [78, 79, 84, 65, 84, 73, 79, 78]) = false := by have := eqW_is [73, 68, 82, 69, 70] [78, 79, 84, 65, 84, 73, 79, 78]; unfold eqW at this; rw [this]; decide
    have e9 : ((bytes [73, 68, 82, 69, 70]).toList == []) = false := by have := eqW_is [73, 68, 82, 69, 70] []; unfold eqW at this; rw [this]; decide
    go_enter Tryz.func101, Tryz.ntmps101
    go_wp2_with (go_at_call 44; refine CP.out.mono ?_; rintro e w1 ⟨rfl, h1⟩)
    go_ret2
    exact ⟨rfl, h1⟩
  · obtain rfl : k = 2 := hk
    have e0 : ((bytes [73, 68, 82, 69, 70, 83]).toList == [67, 68, 65, 84, 65]) = false := by have := eqW_is [73, 68, 82, 69, 70, 83] [67, 68, 65, 84, 65]; unfold eqW at this; rw [this]; decide
    have e1 : ((bytes [73, 68, 82, 69, 70, 83]).toList == [73, 68]) = false := by have := eqW_is [73, 68, 82, 69, 70, 83] [73, 68]; unfold eqW at this; rw [this]; decide
    have e2 : ((bytes [73, 68, 82, 69, 70, 83]).toList == [73, 68, 82, 69, 70]) = false := by have := eqW_is [73, 68, 82, 69, 70, 83] [73, 68, 82, 69, 70]; unfold eqW at this; rw [this]; decide
    have e3 : ((bytes [73, 68, 82, 69, 70, 83]).toList == [73, 68, 82, 69, 70, 83]) = true := by have := eqW_is [73, 68, 82, 69, 70, 83] [73, 68, 82, 69, 70, 83]; unfold eqW at this; rw [this]; decide
    have e4 : ((bytes [73, 68, 82, 69, 70, 83]).toList == [69, 78, 84, 73, 84, 89]) = false := by have := eqW_is [73, 68, 82, 69, 70, 83] [69, 78, 84, 73, 84, 89]; unfold eqW at this; rw [this]; decide
    have e5 : ((bytes [73, 68, 82, 69, 70, 83]).toList == [69, 78, 84, 73, 84, 73, 69, 83]) = false := by have := eqW_is [73, 68, 82, 69, 70, 83] [69, 78, 84, 73, 84, 73, 69, 83]; unfold eqW at this; rw [this]; decide
    have e6 : ((bytes [73, 68, 82, 69, 70, 83]).toList == [78, 77, 84, 79, 75, 69, 78]) = false := by have := eqW_is [73, 68, 82, 69, 70, 83] [78, 77, 84, 79, 75, 69, 78]; unfold eqW at this; rw [this]; decide
    have e7 : ((bytes [73, 68, 82, 69, 70, 83]).toList == [78, 77, 84, 79, 75, 69, 78, 83]) = false := by have := eqW_is [73, 68, 82, 69, 70, 83] [78, 77, 84, 79, 75, 69, 78, 83]; unfold eqW at this; rw [this]; decide
    have e8 : ((bytes [73, 68, 82, 69, 70, 83]).toList == [78, 79, 84, 65, 84, 73, 79, 78]) = false := by have := eqW_is [73, 68, 82, 69, 70, 83] [78, 79, 84, 65, 84, 73, 79, 78]; unfold eqW at this; rw [this]; decide
    have e9 : ((bytes [73, 68, 82, 69, 70, 83]).toList == []) = false := by have := eqW_is [73, 68, 82, 69, 70, 83] []; unfold eqW at this; rw [this]; decide
    go_enter Tryz.func101, Tryz.ntmps101
    go_wp2_with (go_at_call 44; refine CP.out.mono ?_; rintro e w1 ⟨rfl, h1⟩)
    go_ret2
    exact ⟨rfl, h1⟩
  · obtain rfl : k = 2 := hk
    have e0 : ((bytes [69, 78, 84, 73, 84, 89]).toList == [67, 68, 65, 84, 65]) = false := by have := eqW_is [69, 78, 84, 73, 84, 89] [67, 68, 65, 84, 65]; unfold eqW at this; rw [this]; decide
    have e1 : ((bytes [69, 78, 84, 73, 84, 89]).toList == [73, 68]) = false := by have := eqW_is [69, 78, 84, 73, 84, 89] [73, 68]; unfold eqW at this; rw [this]; decide
    have e2 : ((bytes [69, 78, 84, 73, 84, 89]).toList == [73, 68, 82, 69, 70]) = false := by have := eqW_is [69, 78, 84, 73, 84, 89] [73, 68, 82, 69, 70]; unfold eqW at this; rw [this]; decide
    have e3 : ((bytes [69, 78, 84, 73, 84, 89]).toList == [73, 68, 82, 69, 70, 83]) = false := by have := eqW_is [69, 78, 84, 73, 84, 89] [73, 68, 82, 69, 70, 83]; unfold eqW at this; rw [this]; decide
    have e4 : ((bytes [69, 78, 84, 73, 84, 89]).toList == [69, 78, 84, 73, 84, 89]) = true := by have := eqW_is [69, 78, 84, 73, 84, 89] [69, 78, 84, 73, 84, 89]; unfold eqW at this; rw [this]; decide
    have e5 : ((bytes [69, 78, 84, 73, 84, 89]).toList == [69, 78, 84, 73, 84, 73, 69, 83]) = false := by have := eqW_is [69, 78, 84, 73, 84, 89] [69, 78, 84, 73, 84, 73, 69, 83]; unfold eqW at this; rw [this]; decide
    have e6 : ((bytes [69, 78, 84, 73, 84, 89]).toList == [78, 77, 84, 79, 75, 69, 78]) = false := by have := eqW_is [69, 78, 84, 73, 84, 89] [78, 77, 84, 79, 75, 69, 78]; unfold eqW at this; rw [this]; decide
    have e7 : ((bytes [69, 78, 84, 73, 84, 89]).toList == [78, 77, 84, 79, 75, 69, 78, 83]) = false := by have := eqW_is [69, 78, 84, 73, 84, 89] [78, 77, 84, 79, 75, 69, 78, 83]; unfold eqW at this; rw [this]; decide
    have e8 : ((bytes [69, 78, 84, 73, 84, 89]).toList == [78, 79, 84, 65, 84, 73, 79, 78]) = false := by have := eqW_is [69, 78, 84, 73, 84, 89] [78, 79, 84, 65, 84, 73, 79, 78]; unfold eqW at this; rw [this]; decide
    have e9 : ((bytes [69, 78, 84, 73, 84, 89]).toList == []) = false := by have := eqW_is [69, 78, 84, 73, 84, 89] []; unfold eqW at this; rw [this]; decide
    go_enter Tryz.func101, Tryz.ntmps101
    go_wp2_with (go_at_call 44; refine CP.out.mono ?_; rintro e w1 ⟨rfl, h1⟩)
    go_ret2
    exact ⟨rfl, h1⟩
  · obtain rfl : k = 2 := hk
    have e0 : ((bytes [69, 78, 84, 73, 84, 73, 69, 83]).toList == [67, 68, 65, 84, 65]) = false := by have := eqW_is [69, 78, 84, 73, 84, 73, 69, 83] [67, 68, 65, 84, 65]; unfold eqW at this; rw [this]; decide
    have e1 : ((bytes [69, 78, 84, 73, 84, 73, 69, 83]).toList == [73, 68]) = false := by have := eqW_is [69, 78, 84, 73, 84, 73, 69, 83] [73, 68]; unfold eqW at this; rw [this]; decide
    have e2 : ((bytes [69, 78, 84, 73, 84, 73, 69, 83]).toList == [73, 68, 82, 69, 70]) = false := by have := eqW_is [69, 78, 84, 73, 84, 73, 69, 83] [73, 68, 82, 69, 70]; unfold eqW at this; rw [this]; decide
    have e3 : ((bytes [69, 78, 84, 73, 84, 73, 69, 83]).toList == [73, 68, 82, 69, 70, 83]) = false := by have := eqW_is [69, 78, 84, 73, 84, 73, 69, 83] [73, 68, 82, 69, 70, 83]; unfold eqW at this; rw [this]; decide
    have e4 : ((bytes [69, 78, 84, 73, 84, 73, 69, 83]).toList == [69, 78, 84, 73, 84, 89]) = false := by have := eqW_is [69, 78, 84, 73, 84, 73, 69, 83] [69, 78, 84, 73, 84, 89]; unfold eqW at this; rw [this]; decide
    have e5 : ((bytes [69, 78, 84, 73, 84, 73, 69, 83]).toList == [69, 78, 84, 73, 84, 73, 69, 83]) = true := by have := eqW_is [69, 78, 84, 73, 84, 73, 69, 83] [69, 78, 84, 73, 84, 73, 69, 83]; unfold eqW at this; rw [this]; decide
    have e6 : ((bytes [69, 78, 84, 73, 84, 73, 69, 83]).toList == [78, 77, 84, 79, 75, 69, 78]) = false := by have := eqW_is [69, 78, 84, 73, 84, 73, 69, 83] [78, 77, 84, 79, 75, 69, 78]; unfold eqW at this; rw [this]; decide
    have e7 : ((bytes [69, 78, 84, 73, 84, 73, 69, 83]).toList == [78, 77, 84, 79, 75, 69, 78, 83]) = false := by have := eqW_is [69, 78, 84, 73, 84, 73, 69, 83] [78, 77, 84, 79, 75, 69, 78, 83]; unfold eqW at this; rw [this]; decide
    have e8 : ((bytes [69, 78, 84, 73, 84, 73, 69, 83]).toList == [78, 79, 84, 65, 84, 73, 79, 78]) = false := by have := eqW_is [69, 78, 84, 73, 84, 73, 69, 83] [78, 79, 84, 65, 84, 73, 79, 78]; unfold eqW at this; rw [this]; decide
    have e9 : ((bytes [69, 78, 84, 73, 84, 73, 69, 83]).toList == []) = false := by have := eqW_is [69, 78, 84, 73, 84, 73, 69, 83] []; unfold eqW at this; rw [this]; decide
    go_enter Tryz.func101, Tryz.ntmps101
    go_wp2_with (go_at_call 44; refine CP.out.mono ?_; rintro e w1 ⟨rfl, h1⟩)
    go_ret2
    exact ⟨rfl, h1⟩
  · obtain rfl : k = 2 := hk
    have e0 : ((bytes [78, 77, 84, 79, 75, 69, 78]).toList == [67, 68, 65, 84, 65]) = false := by have := eqW_is [78, 77, 84, 79, 75, 69, 78] [67, 68, 65, 84, 65]; unfold eqW at this; rw [this]; decide
    have e1 : ((bytes [78, 77, 84, 79, 75, 69, 78]).toList == [73, 68]) = false := by have := eqW_is [78, 77, 84, 79, 75, 69, 78] [73, 68]; unfold eqW at this; rw [this]; decide
    have e2 : ((bytes [78, 77, 84, 79, 75, 69, 78]).toList == [73, 68, 82, 69, 70]) = false := by have := eqW_is [78, 77, 84, 79, 75, 69, 78] [73, 68, 82, 69, 70]; unfold eqW at this; rw [this]; decide
    have e3 : ((bytes [78, 77, 84, 79, 75, 69, 78]).toList == [73, 68, 82, 69, 70, 83]) = false := by have := eqW_is [78, 77, 84, 79, 75, 69, 78] [73, 68, 82, 69, 70, 83]; unfold eqW at this; rw [this]; decide
    have e4 : ((bytes [78, 77, 84, 79, 75, 69, 78]).toList == [69, 78, 84, 73, 84, 89]) = false := by have := eqW_is [78, 77, 84, 79, 75, 69, 78] [69, 78, 84, 73, 84, 89]; unfold eqW at this; rw [this]; decide
    have e5 : ((bytes [78, 77, 84, 79, 75, 69, 78]).toList == [69, 78, 84, 73, 84, 73, 69, 83]) = false := by have := eqW_is [78, 77, 84, 79, 75, 69, 78] [69, 78, 84, 73, 84, 73, 69, 83]; unfold eqW at this; rw [this]; decide
    have e6 : ((bytes [78, 77, 84, 79, 75, 69, 78]).toList == [78, 77, 84, 79, 75, 69, 78]) = true := by have := eqW_is [78, 77, 84, 79, 75, 69, 78] [78, 77, 84, 79, 75, 69, 78]; unfold eqW at this; rw [this]; decide
    have e7 : ((bytes [78, 77, 84, 79, 75, 69, 78]).toList == [78, 77, 84, 79, 75, 69, 78, 83]) = false := by have := eqW_is [78, 77, 84, 79, 75, 69, 78] [78, 77, 84, 79, 75, 69, 78, 83]; unfold eqW at this; rw [this]; decide
    have e8 : ((bytes [78, 77, 84, 79, 75, 69, 78]).toList == [78, 79, 84, 65, 84, 73, 79, 78]) = false := by have := eqW_is [78, 77, 84, 79, 75, 69, 78] [78, 79, 84, 65, 84, 73, 79, 78]; unfold eqW at this; rw [this]; decide
    have e9 : ((bytes [78, 77, 84, 79, 75, 69, 78]).toList == []) = false := by have := eqW_is [78, 77, 84, 79, 75, 69, 78] []; unfold eqW at this; rw [this]; decide
    go_enter Tryz.func101, Tryz.ntmps101
    go_wp2_with (go_at_call 44; refine CP.out.mono ?_; rintro e w1 ⟨rfl, h1⟩)
    go_ret2
    exact ⟨rfl, h1⟩
  · obtain rfl : k = 2 := hk
    have e0 : ((bytes [78, 77, 84, 79, 75, 69, 78, 83]).toList == [67, 68, 65, 84, 65]) = false := by have := eqW_is [78, 77, 84, 79, 75, 69, 78, 83] [67, 68, 65, 84, 65]; unfold eqW at this; rw [this]; decide
    have e1 : ((bytes [78, 77, 84, 79, 75, 69, 78, 83]).toList == [73, 68]) = false := by have := eqW_is [78, 77, 84, 79, 75, 69, 78, 83] [73, 68]; unfold eqW at this; rw [this]; decide
    have e2 : ((bytes [78, 77, 84, 79, 75, 69, 78, 83]).toList == [73, 68, 82, 69, 70]) = false := by have := eqW_is [78, 77, 84, 79, 75, 69, 78, 83] [73, 68, 82, 69, 70]; unfold eqW at this; rw [this]; decide
    have e3 : ((bytes [78, 77, 84, 79, 75, 69, 78, 83]).toList == [73, 68, 82, 69, 70, 83]) = false := by have := eqW_is [78, 77, 84, 79, 75, 69, 78, 83] [73, 68, 82, 69, 70, 83]; unfold eqW at this; rw [this]; decide
    have e4 : ((bytes [78, 77, 84, 79, 75, 69, 78, 83]).toList == [69, 78, 84, 73, 84, 89]) = false := by have := eqW_is [78, 77, 84, 79, 75, 69, 78, 83] [69, 78, 84, 73, 84, 89]; unfold eqW at this; rw [this]; decide
    have e5 : ((bytes [78, 77, 84, 79, 75, 69, 78, 83]).toList == [69, 78, 84, 73, 84, 73, 69, 83]) = false := by have := eqW_is [78, 77, 84, 79, 75, 69, 78, 83] [69, 78, 84, 73, 84, 73, 69, 83]; unfold eqW at this; rw [this]; decide
    have e6 : ((bytes [78, 77, 84, 79, 75, 69, 78, 83]).toList == [78, 77, 84, 79, 75, 69, 78]) = false := by have := eqW_is [78, 77, 84, 79, 75, 69, 78, 83] [78, 77, 84, 79, 75, 69, 78]; unfold eqW at this; rw [this]; decide
    have e7 : ((bytes [78, 77, 84, 79, 75, 69, 78, 83]).toList == [78, 77, 84, 79, 75, 69, 78, 83]) = true := by have := eqW_is [78, 77, 84, 79, 75, 69, 78, 83] [78, 77, 84, 79, 75, 69, 78, 83]; unfold eqW at this; rw [this]; decide
    have e8 : ((bytes [78, 77, 84, 79, 75, 69, 78, 83]).toList == [78, 79, 84, 65, 84, 73, 79, 78]) = false := by have := eqW_is [78, 77, 84, 79, 75, 69, 78, 83] [78, 79, 84, 65, 84, 73, 79, 78]; unfold eqW at this; rw [this]; decide
    have e9 : ((bytes [78, 77, 84, 79, 75, 69, 78, 83]).toList == []) = false := by have := eqW_is [78, 77, 84, 79, 75, 69, 78, 83] []; unfold eqW at this; rw [this]; decide
    go_enter Tryz.func101, Tryz.ntmps101
    go_wp2_with (go_at_call 44; refine CP.out.mono ?_; rintro e w1 ⟨rfl, h1⟩)
    go_ret2
    exact ⟨rfl, h1⟩
set_option maxHeartbeats 4000000 in
set_option maxRecDepth 100000 in
theorem kind_d (h : DR c w0 w l) : Calls Tryz.prog 101 #[.pointer (some ⟨c.b, 0, none⟩)] w (KiG c w0 l) := by
  have CP := Lib.hid (parts_d h)
  clear h
  by_cases hw : nameT l ∈ cdataW :: typesW
  · have HN : Hid (kindL l = some (if nameT l = cdataW then 1 else 2, partR l)) := Lib.hid (by
      unfold kindL
      by_cases h1 : nameT l = cdataW
      · rw [if_pos h1, if_pos h1]
      · rw [if_neg h1, if_neg h1, if_pos]
        rcases List.mem_cons.1 hw with h2 | h2
        · exact absurd h2 h1
        · exact h2)
    refine (kind_word (nameT l) hw _ rfl CP.out).mono fun e w' hg => ?_
    exact Or.inr ⟨_, _, HN.out, hg.1, hg.2⟩
  · have hw2 := hw
    unfold cdataW typesW at hw2
    simp only [List.mem_cons, List.mem_nil_iff, or_false, not_or] at hw2
    obtain ⟨h0, h1, h2, h3, h4, h5, h6, h7⟩ := hw2
    have HK : Hid (kindL l = if nameT l = notationW then ((spcL (partR l)).bind listL).map (fun r => (2, r)) else if nameT l = [] then (listL (partR l)).map (fun r => (2, r)) else none) := Lib.hid (by
      unfold kindL
      rw [if_neg (fun e => hw (by rw [e]; exact List.mem_cons_self)), if_neg (fun e => hw (List.mem_cons_of_mem _ e))])
    obtain ⟨x, hx⟩ : ∃ x, nameT l = x := ⟨_, rfl⟩
    rw [hx] at CP HK h0 h1 h2 h3 h4 h5 h6 h7
    clear hx hw
    have e0 : ((bytes x).toList == [67, 68, 65, 84, 65]) = false := by have := eqW_is x [67, 68, 65, 84, 65]; unfold eqW at this; rw [this]; exact decide_eq_false h0
    have e1 : ((bytes x).toList == [73, 68]) = false := by have := eqW_is x [73, 68]; unfold eqW at this; rw [this]; exact decide_eq_false h1
    have e2 : ((bytes x).toList == [73, 68, 82, 69, 70]) = false := by have := eqW_is x [73, 68, 82, 69, 70]; unfold eqW at this; rw [this]; exact decide_eq_false h2
    have e3 : ((bytes x).toList == [73, 68, 82, 69, 70, 83]) = false := by have := eqW_is x [73, 68, 82, 69, 70, 83]; unfold eqW at this; rw [this]; exact decide_eq_false h3
    have e4 : ((bytes x).toList == [69, 78, 84, 73, 84, 89]) = false := by have := eqW_is x [69, 78, 84, 73, 84, 89]; unfold eqW at this; rw [this]; exact decide_eq_false h4
    have e5 : ((bytes x).toList == [69, 78, 84, 73, 84, 73, 69, 83]) = false := by have := eqW_is x [69, 78, 84, 73, 84, 73, 69, 83]; unfold eqW at this; rw [this]; exact decide_eq_false h5
    have e6 : ((bytes x).toList == [78, 77, 84, 79, 75, 69, 78]) = false := by have := eqW_is x [78, 77, 84, 79, 75, 69, 78]; unfold eqW at this; rw [this]; exact decide_eq_false h6
    have e7 : ((bytes x).toList == [78, 77, 84, 79, 75, 69, 78, 83]) = false := by have := eqW_is x [78, 77, 84, 79, 75, 69, 78, 83]; unfold eqW at this; rw [this]; exact decide_eq_false h7
    generalize partR l = q at *
    by_cases h8 : x = notationW
    · subst h8
      have e8 : ((bytes notationW).toList == [78, 79, 84, 65, 84, 73, 79, 78]) = true := by have := eqW_is notationW notationW; unfold eqW at this; exact this.trans (decide_eq_true rfl)
      rw [if_pos rfl] at HK
      clear h0 h1 h2 h3 h4 h5 h6 h7
      go_enter Tryz.func101, Tryz.ntmps101
      go_wp2_with fail
      refine CP.out.mono ?_
      rintro e w1 ⟨rfl, h1⟩
      have H1 := Lib.hid h1
      clear CP h1
      by_cases hg : gapL q = 0
      · have CS := Lib.hid (space_n H1.out hg)
        have HN : Hid (kindL l = none) := Lib.hid (by rw [HK.out, spc_none hg]; rfl)
        clear hg H1 HK
        go_wp2_with fail
        refine CS.out.mono ?_
        rintro e w2 ⟨rfl, h2⟩
        have H2 := Lib.hid h2
        clear CS h2
        go_wp2
        go_ret2
        exact kiG_no HN.out H2.out
      · have CS := Lib.hid (space_y H1.out hg)
        have HN : Hid (kindL l = (listL (mayL q)).map fun r => (2, r)) := Lib.hid (by rw [HK.out, spc_some hg]; rfl)
        clear hg H1 HK
        go_wp2_with fail
        refine CS.out.mono ?_
        rintro e w2 ⟨rfl, h2⟩
        have CL := Lib.hid (list_d h2)
        clear CS h2
        go_wp2_with fail
        refine CL.out.mono ?_
        rintro e w3 (⟨hn, l', rfl, h3⟩ | ⟨r, hn, rfl, h3⟩)
        · have HN2 : Hid (kindL l = none) := Lib.hid (by rw [HN.out, hn]; rfl)
          have H3 := Lib.hid h3
          clear CL hn h3 HN
          go_wp2
          go_ret2
          exact kiG_no HN2.out H3.out
        · have HN2 : Hid (kindL l = some (2, r)) := Lib.hid (by rw [HN.out, hn]; rfl)
          have H3 := Lib.hid h3
          clear CL hn h3 HN
          go_wp2
          go_ret2
          exact kiG_yes HN2.out H3.out
    · have e8 : ((bytes x).toList == [78, 79, 84, 65, 84, 73, 79, 78]) = false := by have := eqW_is x [78, 79, 84, 65, 84, 73, 79, 78]; unfold eqW at this; rw [this]; exact decide_eq_false h8
      rw [if_neg h8] at HK
      by_cases h9 : x = []
      · subst h9
        have e9 : ((bytes []).toList).isEmpty = true := by rw [Lib.toList_data, bytes_list]; rfl
        rw [if_pos rfl] at HK
        clear h0 h1 h2 h3 h4 h5 h6 h7 h8
        go_enter Tryz.func101, Tryz.ntmps101
        go_wp2_with fail
        refine CP.out.mono ?_
        rintro e w1 ⟨rfl, h1⟩
        have CL := Lib.hid (list_d h1)
        clear CP h1
        go_wp2_with fail
        refine CL.out.mono ?_
        rintro e w3 (⟨hn, l', rfl, h3⟩ | ⟨r, hn, rfl, h3⟩)
        · have HN2 : Hid (kindL l = none) := Lib.hid (by rw [HK.out, hn]; rfl)
          have H3 := Lib.hid h3
          clear CL hn h3 HK
          go_wp2
          go_ret2
          exact kiG_no HN2.out H3.out
        · have HN2 : Hid (kindL l = some (2, r)) := Lib.hid (by rw [HK.out, hn]; rfl)
          have H3 := Lib.hid h3
          clear CL hn h3 HK
          go_wp2
          go_ret2
          exact kiG_yes HN2.out H3.out
      · have e9 : ((bytes x).toList).isEmpty = false := by rw [Lib.toList_data, bytes_list]; cases x with | nil => exact absurd rfl h9 | cons a t => rfl
        rw [if_neg h9] at HK
        clear h0 h1 h2 h3 h4 h5 h6 h7 h8 h9
        go_enter Tryz.func101, Tryz.ntmps101
        go_wp2_with fail
        refine CP.out.mono ?_
        rintro e w1 ⟨rfl, h1⟩
        have H1 := Lib.hid h1
        clear CP h1
        go_wp2
        go_ret2
        exact kiG_no HK.out H1.out
/-! ### where nobody writes it -/
def attFn (el nm : ByteArray) (k : Int) (has : Bool) (v : ByteArray) : Nat → Value := fun i => if i = 0 then .string el else if i = 1 then .string nm else if i = 2 then .int .i64 k else if i = 3 then .bool has else .string v
theorem att_set {w : World} {ab : Nat} {el nm v : ByteArray} {k : Int} {has : Bool} (h : w.rowIs ab 39 5 (attFn el nm k has v)) :
    (∀ x, (w.setCell ⟨ab, 1, none⟩ (.string x)).rowIs ab 39 5 (attFn el x k has v)) ∧ (∀ x, (w.setCell ⟨ab, 2, none⟩ (.int .i64 x)).rowIs ab 39 5 (attFn el nm x has v)) ∧
    (∀ x, (w.setCell ⟨ab, 3, none⟩ (.bool x)).rowIs ab 39 5 (attFn el nm k x v)) ∧ (∀ x, (w.setCell ⟨ab, 4, none⟩ (.string x)).rowIs ab 39 5 (attFn el nm k has x)) := by
  refine ⟨fun x => ?_, fun x => ?_, fun x => ?_, fun x => ?_⟩
  · exact (World.rowIs.set h 1 _).congr fun i hi => by
      rcases (show i = 0 ∨ i = 1 ∨ i = 2 ∨ i = 3 ∨ i = 4 by omega) with rfl | rfl | rfl | rfl | rfl <;> rfl
  · exact (World.rowIs.set h 2 _).congr fun i hi => by
      rcases (show i = 0 ∨ i = 1 ∨ i = 2 ∨ i = 3 ∨ i = 4 by omega) with rfl | rfl | rfl | rfl | rfl <;> rfl
  · exact (World.rowIs.set h 3 _).congr fun i hi => by
      rcases (show i = 0 ∨ i = 1 ∨ i = 2 ∨ i = 3 ∨ i = 4 by omega) with rfl | rfl | rfl | rfl | rfl <;> rfl
  · exact (World.rowIs.set h 4 _).congr fun i hi => by
      rcases (show i = 0 ∨ i = 1 ∨ i = 2 ∨ i = 3 ∨ i = 4 by omega) with rfl | rfl | rfl | rfl | rfl <;> rfl
/-- what standard gives: the attribute's box holds it then -/
def StG (c : Rd) (w0 : World) (ab : Nat) (el nm : ByteArray) (k : Int) (l : List UInt8) (e : Ending) (w' : World) : Prop :=
  (standL l = none ∧ ∃ l', e = .returned (.bool false) ∧ DR c w0 w' l') ∨
  ∃ has v r, standL l = some ((has, v), r) ∧ e = .returned (.bool true) ∧ DR c w0 w' r ∧ w'.rowIs ab 39 5 (attFn el nm k has (bytes v))
theorem contains60 (v : List UInt8) (w : World) : Calls Tryz.prog 80 #[.string (bytes v), .string ⟨#[60]⟩] w fun e w' => e = .returned (.bool (v.contains 60)) ∧ w' = w := by
  have c := Tryz.contains_laid (bytes v) 60 w
  have e : decide (0 ≤ Lib.indexByte (bytes v).data.toList 60) = v.contains 60 := by
    rw [Bool.eq_iff_iff, decide_eq_true_iff, List.contains_iff_mem]
    rw [bytes_list]
    constructor
    · intro h
      obtain ⟨o, ho⟩ := Int.eq_ofNat_of_zero_le h
      exact List.mem_iff_getElem?.2 ⟨o, (Lib.indexByte_some ho).1⟩
    · intro h
      obtain ⟨k, hk⟩ := List.mem_iff_getElem?.1 h
      have hge := Lib.indexByte_ge v 60
      have hnn : Lib.indexByte v 60 ≠ -1 := fun e => Lib.indexByte_none e k hk
      omega
  rw [e] at c
  exact c
theorem stG_no {ab : Nat} {el nm : ByteArray} {k : Int} (hd : standL l = none) (h : DR c w0 w l') : StG c w0 ab el nm k l (.returned (.bool false)) w := Or.inl ⟨hd, _, rfl, h⟩
theorem stG_yes {ab : Nat} {el nm : ByteArray} {k : Int} {has : Bool} {v r : List UInt8} (hd : standL l = some ((has, v), r)) (h : DR c w0 w r) (hr : w.rowIs ab 39 5 (attFn el nm k has (bytes v))) : StG c w0 ab el nm k l (.returned (.bool true)) w := Or.inr ⟨_, _, _, hd, rfl, h, hr⟩
/-- the literal of standard, and its end -/
theorem stand_some {v r : List UInt8} {q : List UInt8} (hl : litL q = some (v, r)) (h : standL l = (litL q).bind fun v => if v.1.contains 60 = true then none else some ((true, v.1), v.2)) (b : Bool) (hb : v.contains 60 = b) : standL l = if b = true then none else some ((true, v), r) := by
  rw [h, hl, Option.bind_some, hb]
set_option maxHeartbeats 4000000 in
set_option maxRecDepth 100000 in
theorem standard_d (ab : Nat) (el nm : ByteArray) (k : Int) (h : DR c w0 w l) (hab : w0.heap.size ≤ ab) (hA : w.rowIs ab 39 5 (attFn el nm k false ⟨#[]⟩)) :
    Calls Tryz.prog 102 #[.pointer (some ⟨c.b, 0, none⟩), .pointer (some ⟨ab, 0, none⟩)] w (StG c w0 ab el nm k l) := by
  have hne : ab ≠ c.b := by have := h.b0; omega
  have HF := Lib.hid (fun w' l' (h' : DR c w w' l') => And.intro (h.from h') (hA.of_block (h'.since.block ab hA.lt hne)))
  have H0 := Lib.hid h.start
  clear h hA
  cases hs1 : swB requiredW l with
  | true =>
    have CT := Lib.hid (take_y requiredW H0.out (by decide) hs1)
    have HN : Hid (standL l = some ((false, []), l.drop 9)) := Lib.hid (by unfold standL; rw [if_pos hs1])
    clear hs1 H0
    go_enter Tryz.func102, Tryz.ntmps102
    go_wp2_with fail
    refine CT.out.mono ?_
    rintro e w1 ⟨rfl, h1⟩
    have H1 := Lib.hid (HF.out _ _ h1)
    clear CT h1
    go_wp2
    go_ret
    exact stG_yes HN.out H1.out.1 H1.out.2
  | false =>
    have CT := Lib.hid (take_n requiredW H0.out (by decide) hs1)
    cases hs2 : swB impliedW l with
    | true =>
      have HN : Hid (standL l = some ((false, []), l.drop 8)) := Lib.hid (by unfold standL; rw [if_neg (by rw [hs1]; decide), if_pos hs2])
      clear hs1 H0
      go_enter Tryz.func102, Tryz.ntmps102
      go_wp2_with fail
      refine CT.out.mono ?_
      rintro e w1 ⟨rfl, h1⟩
      have CT2 := Lib.hid (take_y impliedW h1 (by decide) hs2)
      clear CT h1 hs2
      go_wp2_with fail
      refine CT2.out.mono ?_
      rintro e w2 ⟨rfl, h2⟩
      have H2 := Lib.hid (HF.out _ _ h2)
      clear CT2 h2
      go_wp2
      go_ret
      exact stG_yes HN.out H2.out.1 H2.out.2
    | false =>
      have HN : Hid (standL l = (if swB fixedW l = true then spcL (l.drop 6) else some l).bind fun m => (litL m).bind fun v => if v.1.contains 60 = true then none else some ((true, v.1), v.2)) := Lib.hid (by unfold standL; rw [if_neg (by rw [hs1]; decide), if_neg (by rw [hs2]; decide)])
      clear hs1 H0
      go_enter Tryz.func102, Tryz.ntmps102
      go_wp2_with fail
      refine CT.out.mono ?_
      rintro e w1 ⟨rfl, h1⟩
      have CT2 := Lib.hid (take_n impliedW h1 (by decide) hs2)
      clear CT h1 hs2
      go_wp2_with fail
      refine CT2.out.mono ?_
      rintro e w2 ⟨rfl, h2⟩
      have H2 := Lib.hid h2
      clear CT2 h2
      cases hs3 : swB fixedW l with
      | false =>
        have CT3 := Lib.hid (take_n fixedW H2.out (by decide) hs3)
        have HN2 : Hid (standL l = (litL l).bind fun v => if v.1.contains 60 = true then none else some ((true, v.1), v.2)) := Lib.hid (by rw [HN.out, if_neg (by rw [hs3]; decide)]; rfl)
        clear hs3 HN H2
        go_wp2_with fail
        refine CT3.out.mono ?_
        rintro e w3 ⟨rfl, h3⟩
        have CL := Lib.hid (literal_d h3)
        clear CT3 h3
        go_wp2_with fail
        refine CL.out.mono ?_
        rintro e w5 (⟨hn, rfl, h5⟩ | ⟨v, r, hn, rfl, h5, hv, _⟩)
        · have HN9 : Hid (standL l = none) := Lib.hid (by rw [HN2.out, hn]; rfl)
          obtain ⟨g1, g2⟩ := HF.out _ _ h5
          have f3 := g2.frozen 3
          have f4 := g2.frozen 4
          have k3 := g2.cell (i := 3) (by decide)
          have k4 := g2.cell (i := 4) (by decide)
          have g3 := (att_set g2).2.2.2 ⟨#[]⟩
          have g4 := (att_set g3).2.2.1 false
          have f3b := g3.frozen 3
          have k3b := g3.cell (i := 3) (by decide)
          have k3c := g4.cell (i := 3) (by decide)
          have H5 := Lib.hid ((g1.set (p := ⟨ab, 4, none⟩) hab (.string ⟨#[]⟩)).set (p := ⟨ab, 3, none⟩) hab (.bool false))
          replace k3c : World.cell? _ ⟨ab, 3, none⟩ = some (.bool false) := k3c
          clear CL hn h5 g1 g2 g3 g4 HN2
          go_wp2
          go_ret
          exact stG_no HN9.out H5.out
        · obtain ⟨bb, hbb⟩ : ∃ bb, v.contains 60 = bb := ⟨_, rfl⟩
          have HN9 := Lib.hid (stand_some hn HN2.out bb hbb)
          obtain ⟨g1, g2⟩ := HF.out _ _ h5
          have f3 := g2.frozen 3
          have f4 := g2.frozen 4
          have k3 := g2.cell (i := 3) (by decide)
          have k4 := g2.cell (i := 4) (by decide)
          have g3 := (att_set g2).2.2.2 (bytes v)
          have g4 := (att_set g3).2.2.1 true
          have f3b := g3.frozen 3
          have k3b := g3.cell (i := 3) (by decide)
          have k3c := g4.cell (i := 3) (by decide)
          have k4c := g4.cell (i := 4) (by decide)
          replace k3c : World.cell? _ ⟨ab, 3, none⟩ = some (.bool true) := k3c
          replace k4c : World.cell? _ ⟨ab, 4, none⟩ = some (.string (bytes v)) := k4c
          have H5 := Lib.hid (And.intro ((g1.set (p := ⟨ab, 4, none⟩) hab (.string (bytes v))).set (p := ⟨ab, 3, none⟩) hab (.bool true)) g4)
          have CC := Lib.hid (contains60 v ((w5.setCell ⟨ab, 4, none⟩ (.string (bytes v))).setCell ⟨ab, 3, none⟩ (.bool true)))
          rw [hbb] at CC
          clear CL hn h5 g1 g2 g3 g4 HN2 hbb
          go_wp2_with fail
          refine CC.out.mono ?_
          rintro e w6 ⟨rfl, rfl⟩
          cases bb with
          | true =>
            have HN8 : Hid (standL l = none) := Lib.hid (by rw [HN9.out, if_pos rfl])
            clear CC HN9
            go_wp2
            go_ret
            exact stG_no HN8.out H5.out.1
          | false =>
            have HN8 : Hid (standL l = some ((true, v), r)) := Lib.hid (by rw [HN9.out, if_neg (by decide)])
            clear CC HN9
            go_wp2
            go_ret
            exact stG_yes HN8.out H5.out.1 H5.out.2
      | true =>
        have CT3 := Lib.hid (take_y fixedW H2.out (by decide) hs3)
        have HN2 : Hid (standL l = (spcL (l.drop 6)).bind fun m => (litL m).bind fun v => if v.1.contains 60 = true then none else some ((true, v.1), v.2)) := Lib.hid (by rw [HN.out, if_pos hs3])
        clear hs3 HN H2
        go_wp2_with fail
        refine CT3.out.mono ?_
        rintro e w3 ⟨rfl, h3⟩
        replace h3 : DR c w w3 (l.drop 6) := h3
        have H3 := Lib.hid h3
        clear CT3 h3
        by_cases hg : gapL (l.drop 6) = 0
        · have CS := Lib.hid (space_n H3.out hg)
          have HN3 : Hid (standL l = none) := Lib.hid (by rw [HN2.out, spc_none hg]; rfl)
          clear hg H3 HN2
          go_wp2_with fail
          refine CS.out.mono ?_
          rintro e w4 ⟨rfl, h4⟩
          have H4 := Lib.hid (HF.out _ _ h4)
          clear CS h4
          go_wp2
          go_ret
          exact stG_no HN3.out H4.out.1
        · have CS := Lib.hid (space_y H3.out hg)
          have HN3 : Hid (standL l = (litL (mayL (l.drop 6))).bind fun v => if v.1.contains 60 = true then none else some ((true, v.1), v.2)) := Lib.hid (by rw [HN2.out, spc_some hg]; rfl)
          clear hg H3 HN2
          go_wp2_with fail
          refine CS.out.mono ?_
          rintro e w4 ⟨rfl, h4⟩
          have CL := Lib.hid (literal_d h4)
          clear CS h4
          go_wp2_with fail
          refine CL.out.mono ?_
          rintro e w5 (⟨hn, rfl, h5⟩ | ⟨v, r, hn, rfl, h5, hv, _⟩)
          · have HN9 : Hid (standL l = none) := Lib.hid (by rw [HN3.out, hn]; rfl)
            obtain ⟨g1, g2⟩ := HF.out _ _ h5
            have f3 := g2.frozen 3
            have f4 := g2.frozen 4
            have k3 := g2.cell (i := 3) (by decide)
            have k4 := g2.cell (i := 4) (by decide)
            have g3 := (att_set g2).2.2.2 ⟨#[]⟩
            have g4 := (att_set g3).2.2.1 false
            have f3b := g3.frozen 3
            have k3b := g3.cell (i := 3) (by decide)
            have k3c := g4.cell (i := 3) (by decide)
            have H5 := Lib.hid ((g1.set (p := ⟨ab, 4, none⟩) hab (.string ⟨#[]⟩)).set (p := ⟨ab, 3, none⟩) hab (.bool false))
            replace k3c : World.cell? _ ⟨ab, 3, none⟩ = some (.bool false) := k3c
            clear CL hn h5 g1 g2 g3 g4 HN3
            go_wp2
            go_ret
            exact stG_no HN9.out H5.out
          · obtain ⟨bb, hbb⟩ : ∃ bb, v.contains 60 = bb := ⟨_, rfl⟩
            have HN9 := Lib.hid (stand_some hn HN3.out bb hbb)
            obtain ⟨g1, g2⟩ := HF.out _ _ h5
            have f3 := g2.frozen 3
            have f4 := g2.frozen 4
            have k3 := g2.cell (i := 3) (by decide)
            have k4 := g2.cell (i := 4) (by decide)
            have g3 := (att_set g2).2.2.2 (bytes v)
            have g4 := (att_set g3).2.2.1 true
            have f3b := g3.frozen 3
            have k3b := g3.cell (i := 3) (by decide)
            have k3c := g4.cell (i := 3) (by decide)
            have k4c := g4.cell (i := 4) (by decide)
            replace k3c : World.cell? _ ⟨ab, 3, none⟩ = some (.bool true) := k3c
            replace k4c : World.cell? _ ⟨ab, 4, none⟩ = some (.string (bytes v)) := k4c
            have H5 := Lib.hid (And.intro ((g1.set (p := ⟨ab, 4, none⟩) hab (.string (bytes v))).set (p := ⟨ab, 3, none⟩) hab (.bool true)) g4)
            have CC := Lib.hid (contains60 v ((w5.setCell ⟨ab, 4, none⟩ (.string (bytes v))).setCell ⟨ab, 3, none⟩ (.bool true)))
            rw [hbb] at CC
            clear CL hn h5 g1 g2 g3 g4 HN3 hbb
            go_wp2_with fail
            refine CC.out.mono ?_
            rintro e w6 ⟨rfl, rfl⟩
            cases bb with
            | true =>
              have HN8 : Hid (standL l = none) := Lib.hid (by rw [HN9.out, if_pos rfl])
              clear CC HN9
              go_wp2
              go_ret
              exact stG_no HN8.out H5.out.1
            | false =>
              have HN8 : Hid (standL l = some ((true, v), r)) := Lib.hid (by rw [HN9.out, if_neg (by decide)])
              clear CC HN9
              go_wp2
              go_ret
              exact stG_yes HN8.out H5.out.1 H5.out.2
/-! ### one attribute -/
def AtG (c : Rd) (w0 : World) (ab : Nat) (el : List UInt8) (l : List UInt8) (e : Ending) (w' : World) : Prop :=
  (attD el l = none ∧ ∃ l', e = .returned (.bool false) ∧ DR c w0 w' l') ∨
  ∃ a r, attD el l = some (a, r) ∧ e = .returned (.bool true) ∧ DR c w0 w' r ∧ w'.rowIs ab 39 5 (attFn (bytes a.elem) (bytes a.name) (a.type : Int) a.has (bytes a.value))
theorem atG_no {ab : Nat} {el : List UInt8} (hd : attD el l = none) (h : DR c w0 w l') : AtG c w0 ab el l (.returned (.bool false)) w := Or.inl ⟨hd, _, rfl, h⟩
theorem atG_yes {ab : Nat} {el : List UInt8} {a : AttD} {r : List UInt8} (hd : attD el l = some (a, r)) (h : DR c w0 w r) (hr : w.rowIs ab 39 5 (attFn (bytes a.elem) (bytes a.name) (a.type : Int) a.has (bytes a.value))) : AtG c w0 ab el l (.returned (.bool true)) w := Or.inr ⟨_, _, hd, rfl, h, hr⟩
set_option maxHeartbeats 4000000 in
set_option maxRecDepth 100000 in
theorem att_d (ab : Nat) (el : List UInt8) (h : DR c w0 w l) (hab : w0.heap.size ≤ ab) (hA : w.rowIs ab 39 5 (attFn (bytes el) ⟨#[]⟩ 0 false ⟨#[]⟩)) :
    Calls Tryz.prog 88 #[.pointer (some ⟨c.b, 0, none⟩), .pointer (some ⟨ab, 0, none⟩)] w (AtG c w0 ab el l) := by
  have hne : ab ≠ c.b := by have := h.b0; omega
  have CN := Lib.hid (spacedName_d splitB _ enter_qualified h.start (qualified_s c.n))
  have H0 := Lib.hid h
  have HA := Lib.hid hA
  clear h hA
  go_enter Tryz.func88, Tryz.ntmps88
  go_wp2_with fail
  refine CN.out.mono ?_
  rintro e w1 (⟨hn, x, l', rfl, h1⟩ | ⟨nm, r, hn, rfl, h1, _⟩)
  · have HN : Hid (attD el l = none) := Lib.hid (by unfold attD; rw [hn]; rfl)
    have hr := HA.out.of_block (h1.since.block ab HA.out.lt hne)
    have f1 := hr.frozen 1
    have k1 := hr.cell (i := 1) (by decide)
    have H1 := Lib.hid ((H0.out.from h1).set (p := ⟨ab, 1, none⟩) hab (.string x))
    clear CN hn h1 hr
    go_wp2
    go_ret
    exact atG_no HN.out H1.out
  · have HN : Hid (attD el l = (spcL r).bind fun m => (kindL m).bind fun k => (spcL k.2).bind fun m => (standL m).map fun d => (⟨el, nm, k.1, d.1.1, d.1.2⟩, d.2)) := Lib.hid (by unfold attD; rw [hn]; rfl)
    have hr := HA.out.of_block (h1.since.block ab HA.out.lt hne)
    have f1 := hr.frozen 1
    have k1 := hr.cell (i := 1) (by decide)
    have H1 := Lib.hid ((H0.out.from h1).set (p := ⟨ab, 1, none⟩) hab (.string (bytes nm)))
    have HA1 := Lib.hid ((att_set hr).1 (bytes nm))
    clear CN hn h1 hr
    by_cases hg : gapL r = 0
    · have CS := Lib.hid (space_n H1.out hg)
      have HN2 : Hid (attD el l = none) := Lib.hid (by rw [HN.out, spc_none hg]; rfl)
      clear hg HN
      go_wp2_with fail
      refine CS.out.mono ?_
      rintro e w2 ⟨rfl, h2⟩
      have H2 := Lib.hid h2
      clear CS h2
      go_wp2
      go_ret
      exact atG_no HN2.out H2.out
    · have CS := Lib.hid (space_y H1.out.start hg)
      have HN2 : Hid (attD el l = (kindL (mayL r)).bind fun k => (spcL k.2).bind fun m => (standL m).map fun d => (⟨el, nm, k.1, d.1.1, d.1.2⟩, d.2)) := Lib.hid (by rw [HN.out, spc_some hg]; rfl)
      clear hg HN
      go_wp2_with fail
      refine CS.out.mono ?_
      rintro e w2 ⟨rfl, h2⟩
      have H2 := Lib.hid (H1.out.from h2)
      have HA2 := Lib.hid (HA1.out.of_block (h2.since.block ab HA1.out.lt hne))
      have CK := Lib.hid (kind_d H2.out.start)
      clear CS h2 H1 HA1
      generalize mayL r = q at *
      go_wp2_with fail
      refine CK.out.mono ?_
      rintro e w3 (⟨hn, kk, l', rfl, h3⟩ | ⟨kk, r2, hn, rfl, h3⟩)
      · have HN3 : Hid (attD el l = none) := Lib.hid (by rw [HN2.out, hn]; rfl)
        have hr := HA2.out.of_block (h3.since.block ab HA2.out.lt hne)
        have f2 := hr.frozen 2
        have k2 := hr.cell (i := 2) (by decide)
        have H3 := Lib.hid ((H2.out.from h3).set (p := ⟨ab, 2, none⟩) hab (.int .i64 kk))
        clear CK hn h3 hr HN2
        go_wp2
        go_ret
        exact atG_no HN3.out H3.out
      · have HN3 : Hid (attD el l = (spcL r2).bind fun m => (standL m).map fun d => (⟨el, nm, kk, d.1.1, d.1.2⟩, d.2)) := Lib.hid (by rw [HN2.out, hn]; rfl)
        have hr := HA2.out.of_block (h3.since.block ab HA2.out.lt hne)
        have f2 := hr.frozen 2
        have k2 := hr.cell (i := 2) (by decide)
        have H3 := Lib.hid ((H2.out.from h3).set (p := ⟨ab, 2, none⟩) hab (.int .i64 (kk : Int)))
        have HA3 := Lib.hid ((att_set hr).2.1 (kk : Int))
        clear CK hn h3 hr HN2 H2 HA2
        by_cases hg : gapL r2 = 0
        · have CS := Lib.hid (space_n H3.out hg)
          have HN4 : Hid (attD el l = none) := Lib.hid (by rw [HN3.out, spc_none hg]; rfl)
          clear hg HN3
          go_wp2_with fail
          refine CS.out.mono ?_
          rintro e w4 ⟨rfl, h4⟩
          have H4 := Lib.hid h4
          clear CS h4
          go_wp2
          go_ret
          exact atG_no HN4.out H4.out
        · have CS := Lib.hid (space_y H3.out.start hg)
          have HN4 : Hid (attD el l = (standL (mayL r2)).map fun d => (⟨el, nm, kk, d.1.1, d.1.2⟩, d.2)) := Lib.hid (by rw [HN3.out, spc_some hg]; rfl)
          clear hg HN3
          go_wp2_with fail
          refine CS.out.mono ?_
          rintro e w4 ⟨rfl, h4⟩
          have H4 := Lib.hid (H3.out.from h4)
          have HA4 := Lib.hid (HA3.out.of_block (h4.since.block ab HA3.out.lt hne))
          have CD := Lib.hid (standard_d ab (bytes el) (bytes nm) (kk : Int) H4.out hab HA4.out)
          clear CS h4 H3 HA3
          generalize mayL r2 = q2 at *
          go_wp2_with fail
          refine CD.out.mono ?_
          rintro e w5 (⟨hn, l', rfl, h5⟩ | ⟨has, v, r3, hn, rfl, h5, h6⟩)
          · have HN5 : Hid (attD el l = none) := Lib.hid (by rw [HN4.out, hn]; rfl)
            have H5 := Lib.hid h5
            clear CD hn h5 HN4
            go_wp2
            go_ret
            exact atG_no HN5.out H5.out
          · have HN5 : Hid (attD el l = some (⟨el, nm, kk, has, v⟩, r3)) := Lib.hid (by rw [HN4.out, hn]; rfl)
            have H5 := Lib.hid (And.intro h5 h6)
            clear CD hn h5 h6 HN4
            go_wp2
            go_ret
            exact atG_yes HN5.out H5.out.1 H5.out.2
end
end Go.Proofs.YtmecigainilocaaGreatDoor

namespace Go.Proofs.YtmecigainilocaaGreatDoor
open Go.RowKit

/-- what ignored's function tells -/
def ignP (c : Int) : Bool := !((c == 60) || (c == 62) || (c == 34) || (c == 39))
theorem wh_ign (l : List UInt8) : whN ignP l = leadN outU l := by
  have hb : ∀ b : UInt8, outU b = ignP (b.toNat : Int) := fun b => by
    have h60 : b = 60 ↔ b.toNat = 60 := byte_eq (by decide)
    have h62 : b = 62 ↔ b.toNat = 62 := byte_eq (by decide)
    have h34 : b = 34 ↔ b.toNat = 34 := byte_eq (by decide)
    have h39 : b = 39 ↔ b.toNat = 39 := byte_eq (by decide)
    unfold outU ignP
    rw [Bool.eq_iff_iff]
    simp only [decide_eq_true_eq, Bool.not_eq_true', Bool.or_eq_false_iff, beq_eq_false_iff_ne, h60, h62, h34, h39]
    omega
  have hp : ∀ c : Int, 128 ≤ c → ignP c = true := fun c hc => by
    unfold ignP
    simp only [Bool.not_eq_true', Bool.or_eq_false_iff, beq_eq_false_iff_ne]
    omega
  refine wh_lead_in ignP outU (fun b _ => (hb b).symm) hp (fun b h => ?_) _ l (Nat.le_refl _)
  rw [hb]
  exact hp _ (by omega)
theorem enter_ign : ∀ args w, (callFunc 89 args).run Tryz.prog w = .ok (.enter 89 args) w := enters_of Tryz.func89 (by kernel_rfl) rfl
/-- what is still to be shown of ignored's function (RunDRune) -/
def Ign : Prop := PredD 89 ignP
section
variable {c : Rd} {w0 w w' : World} {l l' : List UInt8}
theorem ign_step (f : Nat) (r : List UInt8) : ignF (f + 1) r = if swB [62] (r.drop (leadN outU r)) = true then some ((r.drop (leadN outU r)).drop 1) else (litL (r.drop (leadN outU r))).bind fun v => ignF f v.2 := rfl
set_option maxHeartbeats 2000000 in
set_option maxRecDepth 100000 in
theorem ignored_d (I : Ign) (h : DR c w0 w l) : Calls Tryz.prog 67 #[.pointer (some ⟨c.b, 0, none⟩)] w (GiveB c w0 (ignL l)) := by
  by_cases hg : gapL l = 0
  · have CS := Lib.hid (space_n h hg)
    have HN : Hid (ignL l = none) := Lib.hid (by unfold ignL; rw [spc_none hg]; rfl)
    clear h hg
    go_enter Tryz.func67, Tryz.ntmps67
    go_wp2_with fail
    refine CS.out.mono ?_
    rintro e w1 ⟨rfl, h1⟩
    have H1 := Lib.hid h1
    clear CS h1
    go_wp2
    go_ret
    exact giveB_no HN.out H1.out
  · have CS := Lib.hid (space_y h hg)
    have HN : Hid (ignL l = ignF ((mayL l).length + 1) (mayL l)) := Lib.hid (by unfold ignL; rw [spc_some hg]; rfl)
    clear h hg
    generalize mayL l = q at *
    go_enter Tryz.func67, Tryz.ntmps67
    go_wp2_with fail
    refine CS.out.mono ?_
    rintro e w1 ⟨rfl, h1⟩
    have H1 := Lib.hid h1
    clear CS h1
    go_wp2
    go_loopg [3] (q.length + 1) (fun g _ wr => ∃ r, DR c w0 wr r ∧ ignL l = ignF g r ∧ r.length < g)
    case atStart => exact ⟨q, H1.out, HN.out, Nat.lt_succ_self _⟩
    case round =>
      obtain ⟨r, hd, hi, hlt⟩ := hrel
      cases gk with
      | zero => exfalso; omega
      | succ g =>
        rw [ign_step] at hi
        have HI := Lib.hid hi
        have CW := Lib.hid (while_dB ignP _ enter_ign hd I)
        have hlen : (r.drop (leadN outU r)).length ≤ r.length := by rw [List.length_drop]; omega
        rw [wh_ign] at CW
        clear H1 HN hi hd
        generalize r.drop (leadN outU r) = q2 at *
        go_wp2_with fail
        refine CW.out.mono ?_
        rintro e w2 ⟨rfl, h2⟩
        have H2 := Lib.hid h2
        clear CW h2
        cases hs : swB [62] q2 with
        | true =>
          have CT := Lib.hid (take_y [62] H2.out (by decide) hs)
          have HN : Hid (ignL l = some (q2.drop 1)) := Lib.hid (by rw [HI.out, if_pos hs])
          clear hs H2 HI
          go_wp2_with fail
          refine CT.out.mono ?_
          rintro e w3 ⟨rfl, h3⟩
          have H3 := Lib.hid h3
          clear CT h3
          go_wp2
          go_ret
          exact giveB_yes HN.out H3.out
        | false =>
          have CT := Lib.hid (take_n [62] H2.out (by decide) hs)
          have HN : Hid (ignL l = (litL q2).bind fun v => ignF g v.2) := Lib.hid (by rw [HI.out, if_neg (by rw [hs]; decide)])
          clear hs H2 HI
          go_wp2_with fail
          refine CT.out.mono ?_
          rintro e w3 ⟨rfl, h3⟩
          have CL := Lib.hid (literal_d h3)
          clear CT h3
          go_wp2_with fail
          refine CL.out.mono ?_
          rintro e w4 (⟨hn, rfl, h4⟩ | ⟨v, r2, hn, rfl, h4, _, hr2⟩)
          · have HN2 : Hid (ignL l = none) := Lib.hid (by rw [HN.out, hn]; rfl)
            have H4 := Lib.hid h4
            clear CL hn h4 HN
            go_wp2
            go_ret
            exact giveB_no HN2.out H4.out
          · have HN2 : Hid (ignL l = ignF g r2) := Lib.hid (by rw [HN.out, hn]; rfl)
            have H4 := Lib.hid h4
            clear CL hn h4 HN
            go_wp2
            go_roundg g
            case measure => omega
            case rel => exact ⟨r2, H4.out, HN2.out, by omega⟩
/-! ### a comment or a PI -/
theorem aside_at (h : DR c w0 w l) : ∃ (kd : Nat) (nm tx : ByteArray) (al : List (ByteArray × ByteArray)) (em : Bool) (n : Nat) (k : Int), nextT (bytes c.s) (c.at l : Int) = (⟨kd, nm, tx, al, em⟩, (c.at l : Int) + (n : Int), k) ∧ n ≤ l.length ∧ asideL l = if k = 0 ∧ (kd = 4 ∨ kd = 5) then some (l.drop n) else none := by
  have hat := h.at_le
  have hdr := h.drop
  have hsz : (bytes c.s).size = c.s.length := bytes_len c.s
  generalize c.at l = a at *
  by_cases he : l = []
  · subst he
    refine ⟨0, ⟨#[]⟩, ⟨#[]⟩, [], false, 0, 6, ?_, Nat.le_refl _, rfl⟩
    unfold nextT
    rw [List.length_nil, Nat.add_zero] at hat
    rw [if_neg (by rw [hsz]; omega), if_pos (by rw [hsz, hat])]
    rw [show (a : Int) + ((0 : Nat) : Int) = (a : Int) by omega]
    rfl
  · have hlt : a < c.s.length := by have := List.length_pos_iff.2 he; omega
    cases hn : nextL l with
    | none =>
      refine ⟨0, ⟨#[]⟩, ⟨#[]⟩, [], false, 0, 2, ?_, Nat.zero_le _, ?_⟩
      · rw [nextT_none (bytes c.s) a (by rw [hsz]; exact hlt) (by show nextL (c.s.drop a) = none; rw [hdr]; exact hn), show (a : Int) + ((0 : Nat) : Int) = (a : Int) by omega]
        rfl
      · unfold asideL
        rw [if_neg he, hn]; rfl
    | some z =>
      obtain ⟨⟨kd, nm, tx, al, em⟩, n⟩ := z
      refine ⟨kd, nm, tx, al, em, n, 0, ?_, (next_piece l he _ n hn).le, ?_⟩
      · have := nextT_at (bytes c.s) a (by rw [hsz]; exact hlt) _ n (by show nextL (c.s.drop a) = _; rw [hdr]; exact hn)
        rw [this, Int.natCast_add]
      · unfold asideL
        rw [if_neg he, hn]
        show (if kd = 4 ∨ kd = 5 then _ else none) = _
        simp
theorem DR.store5 {H : Nat} (h : DR c w0 w l) (hH : w0.heap.size ≤ H) (v0 v1 v2 v3 v4 : Value) :
    DR c w0 (((((w.setCell ⟨H, 0, none⟩ v0).setCell ⟨H, 1, none⟩ v1).setCell ⟨H, 2, none⟩ v2).setCell ⟨H, 3, none⟩ v3).setCell ⟨H, 4, none⟩ v4) l :=
  ((((h.set (p := ⟨H, 0, none⟩) hH v0).set (p := ⟨H, 1, none⟩) hH v1).set (p := ⟨H, 2, none⟩) hH v2).set (p := ⟨H, 3, none⟩) hH v3).set (p := ⟨H, 4, none⟩) hH v4
set_option maxHeartbeats 4000000 in
set_option maxRecDepth 100000 in
theorem aside_d (h : DR c w0 w l) : Calls Tryz.prog 68 #[.pointer (some ⟨c.b, 0, none⟩)] w (GiveB c w0 (asideL l)) := by
  obtain ⟨kd, nm, tx, al, em, n, k, hT, hnl, hN⟩ := aside_at h
  have C : ∀ W, DR c w0 W l → Calls Tryz.prog 21 #[.string (bytes c.s), .int .i64 (c.at l : Int)] W _ := fun W hW => next_any c.n (bytes c.s) (c.at l : Int) W hW.e.ke hW.n_le (by rw [bytes_len]; exact h.small)
  unfold NextG at C
  rw [hT] at C
  obtain ⟨az, haz⟩ : ∃ z, al.length = z := ⟨_, rfl⟩
  simp only [haz] at C
  have hS0 := h.drew
  have p1 := h.c0
  have p2 := h.c1
  have HS := Lib.hid h
  have HN := Lib.hid hN
  have hA2 := (h.alloc zeroT).drew
  have hzr := zeroT_row w
  have hws : w.heap.size < (w.alloc zeroT).heap.size := by rw [Deep.nblk_alloc]; omega
  have hwH : w0.heap.size ≤ w.heap.size := h.since.size
  have hA1 := h.alloc zeroT
  clear h hT hN haz
  go_enter Tryz.func68, Tryz.ntmps68
  go_wp2_with fail
  go_region_held3 (fun W => W.cell? ⟨c.b, 0, none⟩ = some (.string (bytes c.s)) ∧ W.cell? ⟨c.b, 1, none⟩ = some (.int .i64 (c.at l : Int)))
    (first | with_reducible exact ⟨(‹DR c w0 _ l›).c0, (‹DR c w0 _ l›).c1⟩ | exact ⟨p1, p2⟩ | with_reducible assumption | exact ⟨(‹DR c w0 _ l›).c0, (‹DR c w0 _ l›).c1⟩)
    (first
      | (go_at_call 21; refine (C _ hA2).mono ?_; rintro o u ⟨sl, rfl, hown, hb⟩; obtain ⟨sa, sc, rfl⟩ := owns_slice hown; have hS2 := hA2.other hb; have hr := hzr.of_block (w' := u) (hb.block w.heap.size hws); have hS5 := hS2.store5 hwH (.int .i64 (kd : Int)) (.string nm) (.string tx) (.slice sa az sc) (.bool em); have f0 := hr.frozen 0; have f1 := hr.frozen 1; have f2 := hr.frozen 2; have f3 := hr.frozen 3; have f4 := hr.frozen 4; have k0 := hr.cell (i := 0) (by decide); have k1 := hr.cell (i := 1) (by decide); have k2 := hr.cell (i := 2) (by decide); have k3 := hr.cell (i := 3) (by decide); have k4 := hr.cell (i := 4) (by decide))
      | (go_at_call 21; refine (C _ hS0).mono ?_; rintro o u ⟨sl, rfl, hown, hb⟩; obtain ⟨sa, sc, rfl⟩ := owns_slice hown; have hS2 := hS0.other hb; have hS3 := hS2.alloc zeroT; have hS6 := hS2.alloc (.cells #[.int .i64 (kd : Int), .string nm, .string tx, .slice sa az sc, .bool em] 65)))
  · obtain ⟨W, hW⟩ : ∃ W, u.alloc (.cells #[.int .i64 (kd : Int), .string nm, .string tx, .slice sa az sc, .bool em] 65) = W := ⟨_, rfl⟩
    have hk : W.cell? ⟨u.heap.size, 0, none⟩ = some (.int .i64 (kd : Int)) := by
      rw [← hW]
      exact (box_tok u (.int .i64 (kd : Int)) (.string nm) (.string tx) (.slice sa az sc) (.bool em) 65 _ (Below.refl _ _)).1
    have hXb : u.heap.size ≠ c.b := by have := hS2.rd.lt; omega
    have hDW : DR c w0 W l := by rw [← hW]; exact hS6
    rw [hW]
    obtain ⟨X, hX⟩ : ∃ X, u.heap.size = X := ⟨_, rfl⟩
    rw [hX] at hk hXb ⊢
    have f9 := hDW.fro 1
    have k9 := hDW.c1
    have hput := hDW.start.put (HS.out.suf_drop n) (k := (c.at l : Int) + (n : Int)) (by rw [HS.out.at_drop hnl]; omega)
    have HP := Lib.hid (hDW.from hput)
    have hk2 := hput.cellOf (p := ⟨X, 0, none⟩) hk hXb
    clear hput hDW hW hX C hS0 p1 p2 hA1 hA2 hzr hws hwH
    clear hS2 hS3 hS6
    by_cases hk0 : k = 0
    · subst hk0
      rcases (show kd = 4 ∨ kd = 5 ∨ (kd ≠ 4 ∧ kd ≠ 5) by omega) with rfl | rfl | ⟨g4, g5⟩
      · have HN2 : Hid (asideL l = some (l.drop n)) := Lib.hid (by rw [HN.out, if_pos (by omega)])
        go_wp2
        go_ret
        exact giveB_yes HN2.out HP.out
      · have HN2 : Hid (asideL l = some (l.drop n)) := Lib.hid (by rw [HN.out, if_pos (by omega)])
        go_wp2
        go_ret
        exact giveB_yes HN2.out HP.out
      · have HN2 : Hid (asideL l = none) := Lib.hid (by rw [HN.out, if_neg (by omega)])
        have e4 : ((kd : Int) == 4) = false := beq_eq_false_iff_ne.2 (by omega)
        have e5 : ((kd : Int) == 5) = false := beq_eq_false_iff_ne.2 (by omega)
        clear g4 g5
        go_wp2
        go_ret
        exact giveB_no HN2.out HP.out
    · have HN2 : Hid (asideL l = none) := Lib.hid (by rw [HN.out, if_neg (by omega)])
      have e0 : (k == 0) = false := beq_eq_false_iff_ne.2 hk0
      clear hk0
      go_wp2
      go_ret
      exact giveB_no HN2.out HP.out
  · obtain ⟨W, hW⟩ : ∃ W, ((((u.setCell ⟨w.heap.size, 0, none⟩ (.int .i64 (kd : Int))).setCell ⟨w.heap.size, 1, none⟩ (.string nm)).setCell ⟨w.heap.size, 2, none⟩ (.string tx)).setCell ⟨w.heap.size, 3, none⟩ (.slice sa az sc)).setCell ⟨w.heap.size, 4, none⟩ (.bool em) = W := ⟨_, rfl⟩
    have hk : W.cell? ⟨w.heap.size, 0, none⟩ = some (.int .i64 (kd : Int)) := by
      rw [← hW]
      exact (store5 hr (.int .i64 (kd : Int)) (.string nm) (.string tx) (.slice sa az sc) (.bool em)).cell (i := 0) (by decide)
    have hXb : w.heap.size ≠ c.b := by have := HS.out.rd.lt; omega
    have hDW : DR c w0 W l := by rw [← hW]; exact hS5
    rw [hW]
    obtain ⟨X, hX⟩ : ∃ X, w.heap.size = X := ⟨_, rfl⟩
    rw [hX] at hk hXb ⊢
    have f9 := hDW.fro 1
    have k9 := hDW.c1
    have hput := hDW.start.put (HS.out.suf_drop n) (k := (c.at l : Int) + (n : Int)) (by rw [HS.out.at_drop hnl]; omega)
    have HP := Lib.hid (hDW.from hput)
    have hk2 := hput.cellOf (p := ⟨X, 0, none⟩) hk hXb
    clear hput hDW hW hX C hS0 p1 p2 hA1 hA2 hzr hws hwH
    clear hS2 hS5 hr f0 f1 f2 f3 f4 k0 k1 k2 k3 k4
    by_cases hk0 : k = 0
    · subst hk0
      rcases (show kd = 4 ∨ kd = 5 ∨ (kd ≠ 4 ∧ kd ≠ 5) by omega) with rfl | rfl | ⟨g4, g5⟩
      · have HN2 : Hid (asideL l = some (l.drop n)) := Lib.hid (by rw [HN.out, if_pos (by omega)])
        go_wp2
        go_ret
        exact giveB_yes HN2.out HP.out
      · have HN2 : Hid (asideL l = some (l.drop n)) := Lib.hid (by rw [HN.out, if_pos (by omega)])
        go_wp2
        go_ret
        exact giveB_yes HN2.out HP.out
      · have HN2 : Hid (asideL l = none) := Lib.hid (by rw [HN.out, if_neg (by omega)])
        have e4 : ((kd : Int) == 4) = false := beq_eq_false_iff_ne.2 (by omega)
        have e5 : ((kd : Int) == 5) = false := beq_eq_false_iff_ne.2 (by omega)
        clear g4 g5
        go_wp2
        go_ret
        exact giveB_no HN2.out HP.out
    · have HN2 : Hid (asideL l = none) := Lib.hid (by rw [HN.out, if_neg (by omega)])
      have e0 : (k == 0) = false := beq_eq_false_iff_ne.2 hk0
      clear hk0
      go_wp2
      go_ret
      exact giveB_no HN2.out HP.out
end
end Go.Proofs.YtmecigainilocaaGreatDoor

namespace Go.Proofs.YtmecigainilocaaGreatDoor
open Go.RowKit

/-- "<>\"'" -/
def four : ByteArray := ⟨#[60, 62, 34, 39]⟩
theorem valid_parts (r : Int) (h0 : 0 ≤ r) : Utf8.valid r = (decide (r < 55296) || (decide (57343 < r) && decide (r ≤ 1114111))) := by
  unfold Utf8.valid
  rw [Bool.eq_iff_iff]
  simp
  omega
set_option maxHeartbeats 2000000 in
set_option maxRecDepth 100000 in
theorem validRune_any (r : Int) (h0 : 0 ≤ r) (w : World) : Calls Tryz.prog 112 #[.int .i32 r] w fun e w' => e = .returned (.bool (Utf8.valid r)) ∧ w' = w := by
  have HV := Lib.hid (valid_parts r h0)
  generalize Utf8.valid r = v at *
  obtain ⟨z1, h1⟩ : ∃ z, decide (r < 55296) = z := ⟨_, rfl⟩
  obtain ⟨z2, h2⟩ : ∃ z, decide (57343 < r) = z := ⟨_, rfl⟩
  obtain ⟨z3, h3⟩ : ∃ z, decide (r ≤ 1114111) = z := ⟨_, rfl⟩
  have h4 : decide ((0 : Int) ≤ r) = true := decide_eq_true h0
  rw [h1, h2, h3] at HV
  clear h0
  cases z1
  all_goals cases z2
  all_goals cases z3
  all_goals
    (go_enter Tryz.func112, Tryz.ntmps112
     go_wp2
     go_ret
     exact ⟨by rw [HV.out]; rfl, rfl⟩)
theorem four_decode (pos : Nat) (hp : pos < 4) : ∃ r : Nat, Utf8.decode four pos = (r, 1) ∧ r < 128 := by
  rcases (show pos = 0 ∨ pos = 1 ∨ pos = 2 ∨ pos = 3 by omega) with rfl | rfl | rfl | rfl
  · exact ⟨60, by decide, by decide⟩
  · exact ⟨62, by decide, by decide⟩
  · exact ⟨34, by decide, by decide⟩
  · exact ⟨39, by decide, by decide⟩
/-- what IndexRune gives of a character that is no byte of the four -/
def NoG (W : World) (e : Ending) (W' : World) : Prop := e = .returned (.int .i64 (-1)) ∧ Below W.heap.size W W'
set_option maxHeartbeats 4000000 in
set_option maxRecDepth 100000 in
theorem index_bad (w : World) : Calls Tryz.prog 103 #[.string four, .int .i32 65533] w (NoG w) := by
  have hsz : four.size = 4 := rfl
  go_enter Tryz.func103, Tryz.ntmps103
  go_wp2
  go_loopw [] (fun wr => ∃ pos : Nat, wr = w.iter four pos ∧ pos ≤ 4) (fun wr => 4 - wr.iterPos w.heap.size)
  case atStart => exact ⟨0, rfl, Nat.zero_le _⟩
  case round =>
    obtain ⟨pos, rfl, hpl⟩ := hrel
    by_cases hlt : pos < 4
    · have hnx : ∀ ty, (Instr.next (.pointer (some ⟨w.heap.size, 0, none⟩)) true ty).run Tryz.prog (w.iter four pos) = _ := fun ty => run_next_any w four pos ty (by rw [hsz]; exact hlt)
      obtain ⟨r, hr, h128⟩ := four_decode pos hlt
      simp only [hr] at hnx
      have e0 : ((r : Int) == 65533) = false := beq_eq_false_iff_ne.2 (by omega)
      clear h128 hr
      go_wp2
      go_roundw
      case rel => exact ⟨pos + 1, rfl, by omega⟩
      case measure =>
        have e1 : ∀ p, (w.iter four p).iterPos w.heap.size = p := fun p => World.iterPos_iter w four p
        simp only [e1]
        omega
    · have hnx : ∀ ty, (Instr.next (.pointer (some ⟨w.heap.size, 0, none⟩)) true ty).run Tryz.prog (w.iter four pos) = _ := fun ty => run_next_end w four pos ty (by rw [hsz]; exact hlt)
      go_wp2
      go_ret
      exact ⟨rfl, iter_below w four pos⟩
/-- at an encoded character: its last byte is none of the four -/
theorem four_small (i : Nat) (h : i < four.size) : (four[i]'h).toNat < 128 := by
  have h4 : i < 4 := h
  rcases (show i = 0 ∨ i = 1 ∨ i = 2 ∨ i = 3 by omega) with rfl | rfl | rfl | rfl
  · show (60 : UInt8).toNat < 128; decide
  · show (62 : UInt8).toNat < 128; decide
  · show (34 : UInt8).toNat < 128; decide
  · show (39 : UInt8).toNat < 128; decide
theorem four_mem (b : UInt8) (hb : b ∈ four.data.toList) : b.toNat < 128 := by
  have : b ∈ [(60 : UInt8), 62, 34, 39] := hb
  simp only [List.mem_cons, List.not_mem_nil, or_false] at this
  rcases this with rfl | rfl | rfl | rfl <;> decide
theorem no_byte (k e : Nat) (b : UInt8) (hb : 128 ≤ b.toNat) : Lib.indexByte ((four.extract k e).data.toList) b = -1 := by
  rw [← Lib.firstIdx_eq]
  exact firstIdx_ascii four k e b four_mem hb
theorem index_call (k e : Nat) (b : UInt8) (hb : 128 ≤ b.toNat) (W : World) : Calls Tryz.prog 111 #[.string (four.extract k e), .int .u8 (b.toNat : Int)] W fun e w' => e = .returned (.int .i64 (-1)) ∧ w' = W := by
  refine (Tryz.indexByte_laid (four.extract k e) (b.toNat : Int) W).mono ?_
  rintro e w' ⟨rfl, rfl⟩
  refine ⟨?_, rfl⟩
  rw [show ((b.toNat : Int).toNat).toUInt8 = b by rw [Int.toNat_natCast]; exact UInt8.ofNat_toNat, no_byte k _ b hb]
set_option maxHeartbeats 4000000 in
set_option maxRecDepth 100000 in
theorem index_enc (r : Int) (h128 : 128 ≤ r) (hne : r ≠ 65533) (w : World) : Calls Tryz.prog 103 #[.string four, .int .i32 r] w (NoG w) := by
  have hsz : four.size = 4 := rfl
  have CV := Lib.hid (validRune_any r (by omega) w)
  have g1 : decide ((0 : Int) ≤ r) = true := decide_eq_true (by omega)
  have g2 : decide (r < 128) = false := decide_eq_false (by omega)
  have g3 : (r == 65533) = false := beq_eq_false_iff_ne.2 hne
  cases hv : Utf8.valid r with
  | false =>
    rw [hv] at CV
    clear hv hne h128
    go_enter Tryz.func103, Tryz.ntmps103
    go_wp2_with fail
    refine CV.out.mono ?_
    rintro e w1 ⟨rfl, rfl⟩
    clear CV
    go_wp2
    go_ret
    exact ⟨rfl, Below.refl _ _⟩
  | true =>
    rw [hv] at CV
    have HE := Lib.hid (encode_facts r hv h128)
    have hcs : ∀ w, (convert 21 9 (.int .i32 r)).run Tryz.prog w = .ok (.string (Utf8.encode r)) w := fun w => run_convert_int_string w _ _ .i32 r (by rw [Tryz.underlying21]; rfl) Tryz.underlying9
    clear hv hne h128
    generalize Utf8.encode r = v at *
    obtain ⟨x1, x2, x3⟩ := HE.out
    obtain ⟨m, hm⟩ : ∃ m, v.size = m + 1 := ⟨v.size - 1, by omega⟩
    have hmv : m < v.size := by omega
    have hm4 : m < four.size := by rw [hsz]; omega
    have HX : Hid (128 ≤ (v[m]'hmv).toNat) := Lib.hid (by
      have := x3 (by omega)
      have e : v.size - 1 = m := by omega
      simp only [e] at this
      exact this)
    clear x3 HE
    go_enter Tryz.func103, Tryz.ntmps103
    go_wp2_with fail
    refine CV.out.mono ?_
    rintro e w1 ⟨rfl, rfl⟩
    clear CV
    go_wp2
    go_step3
    go_wp2
    go_loopw [9, 10] (fun iv fv wr => wr = w1 ∧ iv = .int .i64 (m : Int) ∧ fv = .int .i64 0) (fun _ _ _ => 0)
    case atStart => exact ⟨rfl, rfl, rfl⟩
    case round =>
      obtain ⟨rfl, rfl, rfl⟩ := hrel
      have hm44 : m < 4 := hm4
      have hq : ((((four[m]'hm4).toNat : Nat) : Int) != (((v[m]'hmv).toNat : Nat) : Int)) = true := by
        have h1 := four_small m hm4
        have h2 := HX.out
        simp only [bne_iff_ne, ne_eq]
        omega
      obtain ⟨m1, hm1⟩ : ∃ m1, m + 1 = m1 := ⟨_, rfl⟩
      have CB := Lib.hid (index_call m1 4 (v[m]'hmv) HX.out)
      have hwr : IntKind.i64.wrap ((m : Int) + 1) = (m1 : Int) := by rw [← hm1]; exact wrap_small _ (by omega) (by omega)
      have hle : (m1 : Int) ≤ (four.size : Int) := by rw [hsz]; omega
      have hle4 : (m1 : Int) ≤ 4 := by omega
      have hle0 : (0 : Int) ≤ (m1 : Int) := by omega
      clear hm1
      clear hm x1 x2 hcs
      go_wp2
      go_step3
      go_wp2
      go_quiet (fail)
      go_wp2
      go_quiet ((go_at_call 111; exact (CB.out _).mono (fun _ _ hg => ⟨hg.1, _, hg.2⟩)))
      go_wp2
      go_ret
      exact ⟨rfl, drewN_below wr _⟩
theorem contains_high (r : Nat) (h128 : 128 ≤ r) (w : World) : Calls Tryz.prog 90 #[.string four, .int .i32 (r : Int)] w fun e w' => e = .returned (.bool false) ∧ Below w.heap.size w w' := by
  have C : Calls Tryz.prog 103 #[.string four, .int .i32 (r : Int)] w (NoG w) := by
    by_cases h : r = 65533
    · subst h
      exact index_bad w
    · exact index_enc (r : Int) (by omega) (by omega) w
  have CC := Lib.hid C
  clear C h128
  generalize (r : Int) = x at *
  go_enter Tryz.func90, Tryz.ntmps90
  go_wp2_with fail
  refine CC.out.mono ?_
  rintro e w1 ⟨rfl, hb⟩
  clear CC
  go_wp2
  go_ret
  exact ⟨rfl, hb⟩
theorem four_ascii (r : Nat) (h : r < 128) : (!decide (0 ≤ Lib.indexByte four.data.toList ((r : Int).toNat).toUInt8)) = ignP (r : Int) := by
  have H : ∀ r : Fin 128, (!decide (0 ≤ Lib.indexByte four.data.toList ((r.val : Int).toNat).toUInt8)) = ignP (r.val : Int) := by decide
  exact H ⟨r, h⟩
set_option maxHeartbeats 1000000 in
theorem ign_any : Ign := fun W r _ => by
  have C : Calls Tryz.prog 90 #[.string four, .int .i32 (r : Int)] W fun e w' => e = .returned (.bool (!ignP (r : Int))) ∧ Below W.heap.size W w' := by
    by_cases h : r < 128
    · refine (Tryz.containsRune_laid four (r : Int) W (by omega) (by omega)).mono ?_
      rintro e w' ⟨rfl, rfl⟩
      exact ⟨by rw [← four_ascii r h, Bool.not_not], Below.refl _ _⟩
    · have e0 : ignP (r : Int) = true := by
        unfold ignP
        simp only [Bool.not_eq_true', Bool.or_eq_false_iff, beq_eq_false_iff_ne]
        omega
      rw [e0]
      exact contains_high r (by omega) W
  have CC := Lib.hid C
  clear C
  generalize ignP (r : Int) = z at *
  generalize (r : Int) = x at *
  go_enter Tryz.func89, Tryz.ntmps89
  go_wp2_with fail
  refine CC.out.mono ?_
  rintro e w1 ⟨rfl, hb⟩
  clear CC
  go_wp2
  go_ret
  exact ⟨by simp, hb⟩
end Go.Proofs.YtmecigainilocaaGreatDoor

namespace Go.Proofs.YtmecigainilocaaGreatDoor
open Go.RowKit

def docF (nm : ByteArray) (s1 s2 : Value) (m1 m2 : Nat) : Nat → Value := fun i => if i = 2 then .string nm else if i = 3 then s1 else if i = 4 then s2 else if i = 5 then .map (some m1) else .map (some m2)
def docC (n b : Nat) (s : List UInt8) (nm : ByteArray) (s1 s2 : Value) (m1 m2 : Nat) : Rd := ⟨n, b, 57, 7, docF nm s1 s2 m1 m2, s⟩
def flatE (l : List EntD) : List Value := l.flatMap fun e => [.string (bytes e.name), .string (bytes e.value), .bool e.ext]
def flatT (l : List AttD) : List Value := l.flatMap fun a => [.string (bytes a.elem), .string (bytes a.name), .int .i64 (a.type : Int), .bool a.has, .string (bytes a.value)]
theorem flatE_next (l : List EntD) (e : EntD) : flatE (l ++ [e]) = flatE l ++ [.string (bytes e.name), .string (bytes e.value), .bool e.ext] := by
  unfold flatE; rw [List.flatMap_append]; rfl
theorem flatT_next (l : List AttD) (a : AttD) : flatT (l ++ [a]) = flatT l ++ [.string (bytes a.elem), .string (bytes a.name), .int .i64 (a.type : Int), .bool a.has, .string (bytes a.value)] := by
  unfold flatT; rw [List.flatMap_append]; rfl
/-- what is constant of a document type that is being read -/
structure Dk where
  n : Nat
  b : Nat
  m1 : Nat
  m2 : Nat
  s : List UInt8
  /-- the blocks between b and lo are others', and as they were in V -/
  lo : Nat
  V : World
def Dk.c (k : Dk) (nm : ByteArray) (s1 s2 : Value) : Rd := docC k.n k.b k.s nm s1 s2 k.m1 k.m2
/-- A DOCUMENT TYPE THAT IS BEING READ: l is left; E and A are listed; P1 and P2 tell the names that are kept in its sets; g leads to the sets of elements. -/
structure DocAt (k : Dk) (W0 w : World) (l : List UInt8) (nm : ByteArray) (E : List EntD) (A : List AttD) (P1 : List UInt8 → Bool) (P2 : List UInt8 → List UInt8 → Bool) (s1 s2 : Value) (g : List UInt8 → Option Nat) : Prop where
  rd : DR (k.c nm s1 s2) w w l
  own1 : w.ownsRow k.lo 32 3 s1 E.length (flatE E)
  own2 : w.ownsRow k.lo 39 5 s2 A.length (flatT A)
  set1 : NamesM w k.m1 P1 (200000 - l.length)
  set2 : ElemsM w k.m2 g (200000 - l.length)
  inn : ∀ e q, g e = some q → k.b < q ∧ NamesM w q (P2 e) (200000 - l.length)
  inj : ∀ e1 e2 q, g e1 = some q → g e2 = some q → e1 = e2
  ne : k.m1 ≠ k.m2
  lt1 : k.m1 < k.b
  lt2 : k.m2 < k.b
  low1 : W0.heap.size ≤ k.m1
  low2 : W0.heap.size ≤ k.m2
  since : Below W0.heap.size W0 w
  cnt1 : E.length + l.length ≤ 100000
  cnt2 : A.length + l.length ≤ 100000
  mid : ∀ q, k.b < q → q < k.lo → w.heap[q]? = k.V.heap[q]?
  blo : k.b < k.lo
  lole : k.lo ≤ w.heap.size
  innlo : ∀ e q, g e = some q → k.lo ≤ q
section
variable {k : Dk} {W0 w w' : World} {l l' : List UInt8} {nm : ByteArray} {E : List EntD} {A : List AttD} {P1 : List UInt8 → Bool} {P2 : List UInt8 → List UInt8 → Bool} {s1 s2 : Value} {g : List UInt8 → Option Nat}
theorem DocAt.blt (h : DocAt k W0 w l nm E A P1 P2 s1 s2 g) : k.b < w.heap.size := h.rd.rd.lt
/-- an own row's block is no set, and not the box -/
theorem DocAt.row1 (h : DocAt k W0 w l nm E A P1 P2 s1 s2 g) : ∀ q, s1.ownBlock = some q → k.b < q ∧ q < w.heap.size := fun q hq => by have := owns_block h.own1 q hq; have := h.blo; omega
theorem DocAt.row2 (h : DocAt k W0 w l nm E A P1 P2 s1 s2 g) : ∀ q, s2.ownBlock = some q → k.b < q ∧ q < w.heap.size := fun q hq => by have := owns_block h.own2 q hq; have := h.blo; omega
theorem DocAt.row1lo (h : DocAt k W0 w l nm E A P1 P2 s1 s2 g) : ∀ q, s1.ownBlock = some q → k.lo ≤ q := fun q hq => (owns_block h.own1 q hq).1
theorem DocAt.row2lo (h : DocAt k W0 w l nm E A P1 P2 s1 s2 g) : ∀ q, s2.ownBlock = some q → k.lo ≤ q := fun q hq => (owns_block h.own2 q hq).1
theorem own_cells {B : Nat} {e : TypeId} {z m : Nat} {v : Value} {xs : List Value} (h : w.ownsRow B e z v m xs) : ∀ q, v.ownBlock = some q → ∃ cur, w.heap[q]? = some (.cells cur e (0, 0)) := by
  intro q hq
  rcases h.2 with ⟨rfl, _⟩ | ⟨q', cap, cur, rfl, _, hg, _⟩
  · cases hq
  · simp only [Value.ownBlock, Option.some.injEq] at hq
    subst hq
    exact ⟨cur, hg⟩
theorem names_map {q N : Nat} {P : List UInt8 → Bool} (h : NamesM w q P N) : ∃ es cl, w.heap[q]? = some (.map es cl) := by
  obtain ⟨D, ⟨es, cl, h1, _⟩, _⟩ := h
  exact ⟨es, cl, h1⟩
theorem DocAt.row_set (h : DocAt k W0 w l nm E A P1 P2 s1 s2 g) (v : Value) (hv : v = s1 ∨ v = s2) : ∀ q e r, v.ownBlock = some q → g e = some r → q ≠ r := by
  intro q e r hq hr hqr
  subst hqr
  obtain ⟨es, cl, hm⟩ := names_map (h.inn e q hr).2
  rcases hv with rfl | rfl
  · obtain ⟨cur, hc⟩ := own_cells h.own1 q hq
    rw [hm] at hc; cases hc
  · obtain ⟨cur, hc⟩ := own_cells h.own2 q hq
    rw [hm] at hc; cases hc
theorem DocAt.row_row (h : DocAt k W0 w l nm E A P1 P2 s1 s2 g) : ∀ q, s1.ownBlock = some q → s2.ownBlock = some q → False := by
  intro q h1 h2
  obtain ⟨cur, hc⟩ := own_cells h.own1 q h1
  obtain ⟨cur2, hc2⟩ := own_cells h.own2 q h2
  rw [hc] at hc2
  injection hc2 with hc2
  injection hc2 with _ h3 _
  revert h3
  decide
/-- the reader alone has gone on -/
theorem DocAt.step (h : DocAt k W0 w l nm E A P1 P2 s1 s2 g) (h' : DR (k.c nm s1 s2) w w' l') (hl : l'.length ≤ l.length) : DocAt k W0 w' l' nm E A P1 P2 s1 s2 g := by
  have hb : (k.c nm s1 s2).b = k.b := rfl
  have hk : ∀ q, q < w.heap.size → q ≠ k.b → w'.heap[q]? = w.heap[q]? := fun q h1 h2 => h'.since.block q h1 h2
  have hm1 := h.lt1
  have hm2 := h.lt2
  have hbl := h.blt
  exact ⟨h'.start, owns_keep h.own1 fun q hq => hk q (h.row1 q hq).2 (by have := h.row1 q hq; omega), owns_keep h.own2 fun q hq => hk q (h.row2 q hq).2 (by have := h.row2 q hq; omega),
    (h.set1.of_block (hk k.m1 (by omega) (by omega))).mono (by omega), (h.set2.of_block (hk k.m2 (by omega) (by omega))).mono (by omega),
    fun e q hq => ⟨(h.inn e q hq).1, ((h.inn e q hq).2.of_block (hk q (h.inn e q hq).2.lt (by have := (h.inn e q hq).1; omega))).mono (by omega)⟩, h.inj, h.ne, h.lt1, h.lt2, h.low1, h.low2,
    h.since.trans (h'.since.below h.since.size (fun q hq => by have := h.low1; omega)), by have := h.cnt1; omega, by have := h.cnt2; omega,
    fun q h1 h2 => (hk q (by have := h.lole; omega) (by omega)).trans (h.mid q h1 h2), h.blo, by have := h.lole; have : w.heap.size ≤ w'.heap.size := h'.since.size; omega, h.innlo⟩
theorem DocAt.other (h : DocAt k W0 w l nm E A P1 P2 s1 s2 g) (hb : Below w.heap.size w w') : DocAt k W0 w' l nm E A P1 P2 s1 s2 g := h.step (h.rd.other hb) (Nat.le_refl _)
theorem DocAt.c1 (h : DocAt k W0 w l nm E A P1 P2 s1 s2 g) : w.cell? ⟨k.b, 3, none⟩ = some s1 ∧ w.cell? ⟨k.b, 4, none⟩ = some s2 ∧ w.cell? ⟨k.b, 5, none⟩ = some (.map (some k.m1)) ∧ w.cell? ⟨k.b, 6, none⟩ = some (.map (some k.m2)) :=
  ⟨h.rd.rd.cell (i := 3) (show 3 < 7 by decide), h.rd.rd.cell (i := 4) (show 4 < 7 by decide), h.rd.rd.cell (i := 5) (show 5 < 7 by decide), h.rd.rd.cell (i := 6) (show 6 < 7 by decide)⟩
/-- some other block than the box has turned: what is needed of it -/
theorem DocAt.rdTurn (h : DocAt k W0 w l nm E A P1 P2 s1 s2 g) {F : Nat → Prop} (hT : Turns F w w') (hF : ∀ q, F q → q ≠ k.b ∧ W0.heap.size ≤ q ∧ k.n ≤ q) : DR (k.c nm s1 s2) w' w' l := by
  have hr := h.rd
  refine ⟨hr.e.stay (hT.below (by exact hr.n_le) (fun q hq => (hF q hq).2.2)), hr.nb, hr.rd.of_block (hT.block _ hr.rd.lt (fun hf => (hF _ hf).1 rfl)), hr.m2, by have := hr.rd.lt; have := hT.size; omega, Turns.refl _ _, hr.small, hr.suf⟩
/-- a name was put into the entities' set -/
theorem DocAt.put1 (h : DocAt k W0 w l nm E A P1 P2 s1 s2 g) (hn : k.n ≤ W0.heap.size) {Q : List UInt8 → Bool} {l2 : List UInt8} (hl : l.length < l2.length) (hT : Turns (fun q => q = k.m1) w w') (hM : NamesM w' k.m1 Q (200000 - l2.length + 1)) (hs : l2.length ≤ 100000) : DocAt k W0 w' l nm E A Q P2 s1 s2 g := by
  have hk : ∀ q, q < w.heap.size → q ≠ k.m1 → w'.heap[q]? = w.heap[q]? := fun q h1 h2 => hT.block q h1 h2
  have hm1 := h.lt1
  have hm2 := h.lt2
  have hbl := h.blt
  have hne := h.ne
  have hlow := h.low1
  exact ⟨h.rdTurn hT (fun q hq => by subst hq; exact ⟨by omega, hlow, by omega⟩), owns_keep h.own1 fun q hq => hk q (h.row1 q hq).2 (by have := h.row1 q hq; omega), owns_keep h.own2 fun q hq => hk q (h.row2 q hq).2 (by have := h.row2 q hq; omega),
    hM.mono (by omega), h.set2.of_block (hk k.m2 (by omega) (fun e => hne e.symm)), fun e q hq => ⟨(h.inn e q hq).1, (h.inn e q hq).2.of_block (hk q (h.inn e q hq).2.lt (by have := (h.inn e q hq).1; omega))⟩, h.inj, h.ne, h.lt1, h.lt2, h.low1, h.low2,
    h.since.trans (hT.below h.since.size (fun q hq => by subst hq; exact hlow)), h.cnt1, h.cnt2,
    fun q h1 h2 => (hk q (by have := h.lole; omega) (by omega)).trans (h.mid q h1 h2), h.blo, by have := h.lole; have := hT.size; omega, h.innlo⟩
/-- a name was put into an element's set -/
theorem DocAt.put2 (h : DocAt k W0 w l nm E A P1 P2 s1 s2 g) (hn : k.n ≤ W0.heap.size) {el : List UInt8} {q0 : Nat} (hq0 : g el = some q0) {Q : List UInt8 → Bool} {l2 : List UInt8} (hl : l.length < l2.length) (hT : Turns (fun q => q = q0) w w') (hM : NamesM w' q0 Q (200000 - l2.length + 1)) (hs : l2.length ≤ 100000) :
    DocAt k W0 w' l nm E A P1 (fun e => if e = el then Q else P2 e) s1 s2 g := by
  have hk : ∀ q, q < w.heap.size → q ≠ q0 → w'.heap[q]? = w.heap[q]? := fun q h1 h2 => hT.block q h1 h2
  have hm1 := h.lt1
  have hm2 := h.lt2
  have hbl := h.blt
  have hlow := h.low1
  have hqb := (h.inn el q0 hq0).1
  refine ⟨h.rdTurn hT (fun q hq => by subst hq; exact ⟨by omega, by omega, by omega⟩), owns_keep h.own1 fun q hq => hk q (h.row1 q hq).2 (h.row_set s1 (Or.inl rfl) q el q0 hq hq0), owns_keep h.own2 fun q hq => hk q (h.row2 q hq).2 (h.row_set s2 (Or.inr rfl) q el q0 hq hq0),
    h.set1.of_block (hk k.m1 (by omega) (by omega)), h.set2.of_block (hk k.m2 (by omega) (by omega)), fun e q hq => ⟨(h.inn e q hq).1, ?_⟩, h.inj, h.ne, h.lt1, h.lt2, h.low1, h.low2,
    h.since.trans (hT.below h.since.size (fun q hq => by subst hq; omega)), h.cnt1, h.cnt2,
    fun q h1 h2 => (hk q (by have := h.lole; omega) (by have := h.innlo el q0 hq0; omega)).trans (h.mid q h1 h2), h.blo, by have := h.lole; have := hT.size; omega, h.innlo⟩
  by_cases e1 : e = el
  · subst e1
    rw [hq0] at hq
    injection hq with hq
    subst hq
    rw [if_pos rfl]
    exact hM.mono (by omega)
  · rw [if_neg e1]
    exact (h.inn e q hq).2.of_block (hk q (h.inn e q hq).2.lt (fun e2 => e1 (h.inj e el q hq (by rw [e2]; exact hq0))))
/-- an element's set was made and listed -/
theorem DocAt.fresh (h : DocAt k W0 w l nm E A P1 P2 s1 s2 g) (hn : k.n ≤ W0.heap.size) {el : List UInt8} {q0 : Nat} (hg : g el = none) (hq0 : w.heap.size ≤ q0) {l2 : List UInt8} (hl : l.length < l2.length) (hs : l2.length ≤ 100000) (hT : Turns (fun q => q = k.m2) w w')
    (hM : ElemsM w' k.m2 (fun x => if x = el then some q0 else g x) (200000 - l2.length + 1)) (hN : NamesM w' q0 (fun _ => false) 0) : DocAt k W0 w' l nm E A P1 (fun e => if e = el then fun _ => false else P2 e) s1 s2 (fun x => if x = el then some q0 else g x) := by
  have hk : ∀ q, q < w.heap.size → q ≠ k.m2 → w'.heap[q]? = w.heap[q]? := fun q h1 h2 => hT.block q h1 h2
  have hm1 := h.lt1
  have hm2 := h.lt2
  have hbl := h.blt
  have hlow := h.low2
  have hne := h.ne
  refine ⟨h.rdTurn hT (fun q hq => by subst hq; exact ⟨by omega, hlow, by omega⟩), owns_keep h.own1 fun q hq => hk q (h.row1 q hq).2 (by have := h.row1 q hq; omega), owns_keep h.own2 fun q hq => hk q (h.row2 q hq).2 (by have := h.row2 q hq; omega),
    h.set1.of_block (hk k.m1 (by omega) hne), hM.mono (by omega), fun e q hq => ?_, fun e1 e2 q h1 h2 => ?_, h.ne, h.lt1, h.lt2, h.low1, h.low2,
    h.since.trans (hT.below h.since.size (fun q hq => by subst hq; exact hlow)), h.cnt1, h.cnt2,
    fun q h1 h2 => (hk q (by have := h.lole; omega) (by omega)).trans (h.mid q h1 h2), h.blo, by have := h.lole; have := hT.size; omega, fun e q hq => ?_⟩
  · by_cases e1 : e = el
    · subst e1
      rw [if_pos rfl] at hq ⊢
      injection hq with hq
      subst hq
      exact ⟨by omega, hN.mono (Nat.zero_le _)⟩
    · rw [if_neg e1] at hq ⊢
      exact ⟨(h.inn e q hq).1, (h.inn e q hq).2.of_block (hk q (h.inn e q hq).2.lt (by have := (h.inn e q hq).1; omega))⟩
  · by_cases a1 : e1 = el <;> by_cases a2 : e2 = el
    · rw [a1, a2]
    · rw [if_pos a1] at h1
      rw [if_neg a2] at h2
      injection h1 with h1
      have := (h.inn e2 q h2).2.lt
      omega
    · rw [if_neg a1] at h1
      rw [if_pos a2] at h2
      injection h2 with h2
      have := (h.inn e1 q h1).2.lt
      omega
    · rw [if_neg a1] at h1
      rw [if_neg a2] at h2
      exact h.inj e1 e2 q h1 h2
  · by_cases e1 : e = el
    · rw [if_pos e1] at hq
      injection hq with hq
      have := h.lole
      omega
    · rw [if_neg e1] at hq
      exact h.innlo e q hq
/-- the list of entities has grown -/
theorem DocAt.grew1 (h : DocAt k W0 w l nm E A P1 P2 s1 s2 g) (hn : k.n ≤ W0.heap.size) {v : Value} {E2 : List EntD} (hg : w.grownBy w' s1.ownBlock) (ho : w'.ownsRow k.lo 32 3 v E2.length (flatE E2)) (hc : E2.length + l.length ≤ 100000) :
    DocAt k W0 (w'.setCell ⟨k.b, 3, none⟩ v) l nm E2 A P1 P2 v s2 g := by
  have hk : ∀ q, q < w.heap.size → s1.ownBlock ≠ some q → w'.heap[q]? = w.heap[q]? := fun q h1 h2 => hg.block q h1 (fun e => h2 e.symm)
  have hset : ∀ q, q ≠ k.b → (w'.setCell ⟨k.b, 3, none⟩ v).heap[q]? = w'.heap[q]? := fun q hq => Below.heap_setCell _ _ _ _ hq
  have hm1 := h.lt1
  have hm2 := h.lt2
  have hbl := h.blt
  have hlow := h.low1
  have hr := h.rd
  have hT : Turns (fun q => k.b ≤ q) w w' := (Turns.refl _ w).grown hg (fun q e => Or.inl (by have := h.row1 q e; omega))
  have hrb : w'.rowIs k.b 57 7 ((k.c nm s1 s2).v l) := hr.rd.of_block (hk k.b hbl (fun e => by have := h.row1 _ e; omega))
  have hT2 : Turns (fun q => k.b ≤ q) w (w'.setCell ⟨k.b, 3, none⟩ v) := hT.setCell (p := ⟨k.b, 3, none⟩) (Or.inl (Nat.le_refl _)) v
  refine ⟨⟨hr.e.stay (hT2.below (show k.n ≤ w.heap.size by have := h.since.size; omega) (fun q hq => by have : k.n ≤ W0.heap.size := hn; show k.n ≤ q; omega)), hr.nb, (World.rowIs.set hrb 3 v).congr fun i hi => ?_, hr.m2, by rw [Deep.nblk_setCell]; exact hrb.lt, Turns.refl _ _, hr.small, hr.suf⟩,
    owns_keep ho fun q hq => hset q (by have := (owns_block ho q hq).1; have := h.blo; omega), owns_keep h.own2 fun q hq => (hset q (by have := h.row2 q hq; omega)).trans (hk q (h.row2 q hq).2 (fun e => h.row_row q e hq)),
    h.set1.of_block ((hset k.m1 (by omega)).trans (hk k.m1 (by omega) (fun e => by have := h.row1 _ e; omega))), h.set2.of_block ((hset k.m2 (by omega)).trans (hk k.m2 (by omega) (fun e => by have := h.row1 _ e; omega))),
    fun e q hq => ⟨(h.inn e q hq).1, (h.inn e q hq).2.of_block ((hset q (by have := (h.inn e q hq).1; omega)).trans (hk q (h.inn e q hq).2.lt (fun e2 => h.row_set s1 (Or.inl rfl) q e q e2 hq rfl)))⟩, h.inj, h.ne, h.lt1, h.lt2, h.low1, h.low2,
    h.since.trans (hT2.below h.since.size (fun q hq => by omega)), hc, h.cnt2,
    fun q h1 h2 => ((hset q (by omega)).trans (hk q (by have := h.lole; omega) (fun e => by have := h.row1lo _ e; omega))).trans (h.mid q h1 h2), h.blo, by have := h.lole; have := hT2.size; omega, h.innlo⟩
  show (if i = 3 then v else (k.c nm s1 s2).v l i) = (k.c nm v s2).v l i
  rcases (show i = 0 ∨ i = 1 ∨ i = 2 ∨ i = 3 ∨ i = 4 ∨ i = 5 ∨ i = 6 by have : i < 7 := hi; omega) with rfl | rfl | rfl | rfl | rfl | rfl | rfl <;> rfl
/-- the list of attributes has grown -/
theorem DocAt.grew2 (h : DocAt k W0 w l nm E A P1 P2 s1 s2 g) (hn : k.n ≤ W0.heap.size) {v : Value} {A2 : List AttD} (hg : w.grownBy w' s2.ownBlock) (ho : w'.ownsRow k.lo 39 5 v A2.length (flatT A2)) (hc : A2.length + l.length ≤ 100000) :
    DocAt k W0 (w'.setCell ⟨k.b, 4, none⟩ v) l nm E A2 P1 P2 s1 v g := by
  have hk : ∀ q, q < w.heap.size → s2.ownBlock ≠ some q → w'.heap[q]? = w.heap[q]? := fun q h1 h2 => hg.block q h1 (fun e => h2 e.symm)
  have hset : ∀ q, q ≠ k.b → (w'.setCell ⟨k.b, 4, none⟩ v).heap[q]? = w'.heap[q]? := fun q hq => Below.heap_setCell _ _ _ _ hq
  have hm1 := h.lt1
  have hm2 := h.lt2
  have hbl := h.blt
  have hlow := h.low1
  have hr := h.rd
  have hT : Turns (fun q => k.b ≤ q) w w' := (Turns.refl _ w).grown hg (fun q e => Or.inl (by have := h.row2 q e; omega))
  have hrb : w'.rowIs k.b 57 7 ((k.c nm s1 s2).v l) := hr.rd.of_block (hk k.b hbl (fun e => by have := h.row2 _ e; omega))
  have hT2 : Turns (fun q => k.b ≤ q) w (w'.setCell ⟨k.b, 4, none⟩ v) := hT.setCell (p := ⟨k.b, 4, none⟩) (Or.inl (Nat.le_refl _)) v
  refine ⟨⟨hr.e.stay (hT2.below (show k.n ≤ w.heap.size by have := h.since.size; omega) (fun q hq => by have : k.n ≤ W0.heap.size := hn; show k.n ≤ q; omega)), hr.nb, (World.rowIs.set hrb 4 v).congr fun i hi => ?_, hr.m2, by rw [Deep.nblk_setCell]; exact hrb.lt, Turns.refl _ _, hr.small, hr.suf⟩,
    owns_keep h.own1 fun q hq => (hset q (by have := h.row1 q hq; omega)).trans (hk q (h.row1 q hq).2 (fun e => h.row_row q hq e)), owns_keep ho fun q hq => hset q (by have := (owns_block ho q hq).1; have := h.blo; omega),
    h.set1.of_block ((hset k.m1 (by omega)).trans (hk k.m1 (by omega) (fun e => by have := h.row2 _ e; omega))), h.set2.of_block ((hset k.m2 (by omega)).trans (hk k.m2 (by omega) (fun e => by have := h.row2 _ e; omega))),
    fun e q hq => ⟨(h.inn e q hq).1, (h.inn e q hq).2.of_block ((hset q (by have := (h.inn e q hq).1; omega)).trans (hk q (h.inn e q hq).2.lt (fun e2 => h.row_set s2 (Or.inr rfl) q e q e2 hq rfl)))⟩, h.inj, h.ne, h.lt1, h.lt2, h.low1, h.low2,
    h.since.trans (hT2.below h.since.size (fun q hq => by omega)), h.cnt1, hc,
    fun q h1 h2 => ((hset q (by omega)).trans (hk q (by have := h.lole; omega) (fun e => by have := h.row2lo _ e; omega))).trans (h.mid q h1 h2), h.blo, by have := h.lole; have := hT2.size; omega, h.innlo⟩
  show (if i = 4 then v else (k.c nm s1 s2).v l i) = (k.c nm s1 v).v l i
  rcases (show i = 0 ∨ i = 1 ∨ i = 2 ∨ i = 3 ∨ i = 4 ∨ i = 5 ∨ i = 6 by have : i < 7 := hi; omega) with rfl | rfl | rfl | rfl | rfl | rfl | rfl <;> rfl
end
end Go.Proofs.YtmecigainilocaaGreatDoor
