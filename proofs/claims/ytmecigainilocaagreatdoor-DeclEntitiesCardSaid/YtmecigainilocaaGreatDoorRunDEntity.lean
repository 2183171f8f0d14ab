/-
  THE LANDED PACKAGE decl: the contract of entity (an entity that is declared is listed, if none of its name is).
-/
import Derived.Test.YtmecigainilocaaGreatDoorRunDDoc
import Derived.Test.YtmecigainilocaaGreatDoorRunDRead
import Derived.Deep.AppendLies
import Derived.Deep.RegionLaw
namespace Go.Proofs.YtmecigainilocaaGreatDoor
open Go.RowKit

def PE (E : List EntD) (x : List UInt8) : Bool := E.any fun e => decide (e.name = x)
def PT (A : List AttD) (el x : List UInt8) : Bool := A.any fun a => decide (a.elem = el) && decide (a.name = x)
theorem PE_add (E : List EntD) (e : EntD) (y : List UInt8) : (PE E y || decide (y = e.name)) = PE (addE E e) y := by
  unfold addE
  by_cases h : (E.any fun x => decide (x.name = e.name)) = true
  · rw [if_pos h]
    by_cases hy : y = e.name
    · subst hy
      rw [show PE E e.name = true from h]; rfl
    · rw [decide_eq_false hy, Bool.or_false]
  · rw [if_neg h]
    unfold PE
    rw [List.any_append]
    congr 1
    simp only [List.any_cons, List.any_nil, Bool.or_false]
    rw [Bool.eq_iff_iff]
    simp only [decide_eq_true_eq]
    exact eq_comm
theorem addE_new {E : List EntD} {e : EntD} (h : PE E e.name = false) : addE E e = E ++ [e] := by
  unfold addE
  rw [if_neg (by rw [show (E.any fun x => decide (x.name = e.name)) = PE E e.name from rfl, h]; decide)]
theorem addE_old {E : List EntD} {e : EntD} (h : PE E e.name = true) : addE E e = E := by
  unfold addE
  rw [if_pos (show (E.any fun x => decide (x.name = e.name)) = true from h)]
theorem PT_add (A : List AttD) (a : AttD) (el y : List UInt8) : (if el = a.elem then PT A a.elem y || decide (y = a.name) else PT A el y) = PT (addA A a) el y := by
  unfold addA
  by_cases h : (A.any fun x => decide (x.elem = a.elem) && decide (x.name = a.name)) = true
  · rw [if_pos h]
    by_cases he : el = a.elem
    · rw [if_pos he]
      by_cases hy : y = a.name
      · rw [hy, he, show PT A a.elem a.name = true from h]; rfl
      · rw [decide_eq_false hy, Bool.or_false, he]
    · rw [if_neg he]
  · rw [if_neg h]
    have hap : PT (A ++ [a]) el y = (PT A el y || (decide (a.elem = el) && decide (a.name = y))) := by
      unfold PT
      rw [List.any_append]
      simp only [List.any_cons, List.any_nil, Bool.or_false]
    rw [hap]
    by_cases he : el = a.elem
    · rw [if_pos he, he, decide_eq_true rfl, Bool.true_and]
      congr 1
      rw [Bool.eq_iff_iff]
      simp only [decide_eq_true_eq]
      exact eq_comm
    · rw [if_neg he, decide_eq_false (fun e => he e.symm), Bool.false_and, Bool.or_false]
theorem addA_new {A : List AttD} {a : AttD} (h : PT A a.elem a.name = false) : addA A a = A ++ [a] := by
  unfold addA
  rw [if_neg (by rw [show (A.any fun x => decide (x.elem = a.elem) && decide (x.name = a.name)) = PT A a.elem a.name from rfl, h]; decide)]
theorem addA_old {A : List AttD} {a : AttD} (h : PT A a.elem a.name = true) : addA A a = A := by
  unfold addA
  rw [if_pos (show (A.any fun x => decide (x.elem = a.elem) && decide (x.name = a.name)) = true from h)]
theorem info_ent : (Tryz.prog.info? 32).map (fun i => (i.zero, i.size, i.bytes)) = some (some (.agg #[.string ⟨#[]⟩, .string ⟨#[]⟩, .bool false]), 3, 40) := by kernel_rfl
theorem ent_new (w : World) (x y z : Value) (t : TypeId) : (w.alloc (.cells #[x, y, z] t)).heap[w.heap.size]? = some (.cells #[x, y, z] t (0, 0)) := by
  show (w.heap.push _)[w.heap.size]? = _
  rw [Array.getElem?_push_size]
theorem ent_row (w : World) (nm : ByteArray) : (w.alloc (.cells #[.string nm, .string ⟨#[]⟩, .bool false] 32)).rowIs w.heap.size 32 3 (entF nm ⟨#[]⟩ false) := World.rowIs_alloc w #[.string nm, .string ⟨#[]⟩, .bool false] 32 (entF nm ⟨#[]⟩ false) (by
  intro i hi
  rcases (show i = 0 ∨ i = 1 ∨ i = 2 by have : i < 3 := hi; omega) with rfl | rfl | rfl <;> rfl)
section
variable {k : Dk} {W0 w w' : World} {l l' : List UInt8} {nm : ByteArray} {E : List EntD} {A : List AttD} {P2 : List UInt8 → List UInt8 → Bool} {s1 s2 : Value} {g : List UInt8 → Option Nat}
/-- what entity gives -/
def EnG (k : Dk) (W0 : World) (l : List UInt8) (nm : ByteArray) (E : List EntD) (A : List AttD) (P2 : List UInt8 → List UInt8 → Bool) (s2 : Value) (g : List UInt8 → Option Nat) (e : Ending) (w' : World) : Prop :=
  (entityL l = none ∧ e = .returned (.bool false) ∧ Below W0.heap.size W0 w') ∨
  ∃ x r s1, entityL l = some (x, r) ∧ e = .returned (.bool true) ∧ DocAt k W0 w' r nm (addE E x) A (PE (addE E x)) P2 s1 s2 g ∧ r.length < l.length
theorem DocAt.far (h : DocAt k W0 w l nm E A (PE E) P2 s1 s2 g) (h' : DR (k.c nm s1 s2) w w' l') : Below W0.heap.size W0 w' :=
  h.since.trans (h'.since.below h.since.size (fun q hq => by have h1 := h.low1; have h2 := h.lt1; have h3 : q = k.b := hq; omega))
theorem enG_no (hd : entityL l = none) (h : Below W0.heap.size W0 w) : EnG k W0 l nm E A P2 s2 g (.returned (.bool false)) w := Or.inl ⟨hd, rfl, h⟩
/-- the end of a declaration -/
theorem end_some {x : EntD} {r : List UInt8} (h : swB [62] (mayL r) = true) : (endL11 r).map (fun r => (x, r)) = some (x, (mayL r).drop 1) := by unfold endL11; rw [mark_some h]; rfl
theorem end_none {x : EntD} {r : List UInt8} (h : swB [62] (mayL r) = false) : (endL11 r).map (fun r => (x, r)) = none := by unfold endL11; rw [mark_none h]; rfl
set_option maxHeartbeats 8000000 in
set_option maxRecDepth 100000 in
theorem entity_d (hn : k.n ≤ W0.heap.size) (h : DocAt k W0 w l nm E A (PE E) P2 s1 s2 g) : Calls Tryz.prog 65 #[.pointer (some ⟨k.b, 0, none⟩)] w (EnG k W0 l nm E A P2 s2 g) := by
  obtain ⟨i0, hi, hz⟩ := Option.map_eq_some_iff.1 info_ent
  simp only [Prod.mk.injEq] at hz
  obtain ⟨hz0, hz1, hz2⟩ := hz
  have hsh := h.rd.short
  obtain ⟨sa, sc, rfl⟩ := owns_slice h.own1
  have HD := Lib.hid h
  have HFar := Lib.hid (fun w' l' (h' : DR (k.c nm (.slice sa E.length sc) s2) w w' l') => h.far h')
  have CN := Lib.hid (spacedName_d ncBL _ enter_ncname h.rd (ncname_s k.n))
  clear h
  go_enter Tryz.func65, Tryz.ntmps65
  go_wp2_with fail
  refine CN.out.mono ?_
  rintro e w1 (⟨hx, x, l', rfl, h1⟩ | ⟨en, r, hx, rfl, h1, hnl, hrl⟩)
  · have HN : Hid (entityL l = none) := Lib.hid (by unfold entityL; rw [hx]; rfl)
    have H1 := Lib.hid ((HFar.out _ _ h1).alloc (HFar.out _ _ h1).size (.cells #[.string x, .string ⟨#[]⟩, .bool false] 32))
    clear CN hx h1
    go_wp2
    go_ret
    exact enG_no HN.out H1.out
  · have HN : Hid (entityL l = (spcL r).bind fun m => (contentL m).bind fun c => (endL11 c.2).map fun r => (⟨en, c.1.1, c.1.2⟩, r)) := Lib.hid (by unfold entityL; rw [hx]; rfl)
    have H1 := Lib.hid (h1.alloc (.cells #[.string (bytes en), .string ⟨#[]⟩, .bool false] 32))
    have HX1 := Lib.hid (ent_row w1 (bytes en))
    have hXw : w.heap.size ≤ w1.heap.size := h1.since.size
    have hXb : w1.heap.size ≠ k.b := by have : k.b < w1.heap.size := h1.rd.lt; omega
    clear CN hx h1
    by_cases hg : gapL r = 0
    · have CS := Lib.hid (space_n H1.out hg)
      have HN2 : Hid (entityL l = none) := Lib.hid (by rw [HN.out, spc_none hg]; rfl)
      clear hg HN
      go_wp2_with fail
      refine CS.out.mono ?_
      rintro e w2 ⟨rfl, h2⟩
      have H2 := Lib.hid (HFar.out _ _ h2)
      clear CS h2
      go_wp2
      go_ret
      exact enG_no HN2.out H2.out
    · have CS := Lib.hid (space_y H1.out.start hg)
      have HN2 : Hid (entityL l = (contentL (mayL r)).bind fun c => (endL11 c.2).map fun r => (⟨en, c.1.1, c.1.2⟩, r)) := Lib.hid (by rw [HN.out, spc_some hg]; rfl)
      have hml := may_len r
      clear hg HN
      generalize mayL r = q at *
      go_wp2_with fail
      refine CS.out.mono ?_
      rintro e w2 ⟨rfl, h2⟩
      have H2 := Lib.hid (H1.out.from h2)
      have HX2 := Lib.hid (HX1.out.of_block (h2.since.block w1.heap.size HX1.out.lt hXb))
      have CC := Lib.hid (content_d w1.heap.size (bytes en) H2.out hXw HX2.out)
      clear CS h2 H1 HX1
      go_wp2_with fail
      refine CC.out.mono ?_
      rintro e w3 (⟨hc, l', rfl, h3⟩ | ⟨t, ext, r1, hc, rfl, h3, hx3⟩)
      · have HN3 : Hid (entityL l = none) := Lib.hid (by rw [HN2.out, hc]; rfl)
        have H3 := Lib.hid (HFar.out _ _ h3)
        clear CC hc h3 HN2
        go_wp2
        go_ret
        exact enG_no HN3.out H3.out
      · have HN3 : Hid (entityL l = (endL11 r1).map fun r => (⟨en, t, ext⟩, r)) := Lib.hid (by rw [HN2.out, hc]; rfl)
        have hr1 : r1.length ≤ q.length := content_len hc
        have H3 := Lib.hid (HD.out.step h3 (by omega))
        have hns := HD.out.set1.of_block (h3.since.block k.m1 HD.out.set1.lt (by have h9 := HD.out.lt1; show k.m1 ≠ k.b; omega))
        have CA := Lib.hid (add_m en hns (by omega) (by omega))
        have HX3 := Lib.hid hx3
        have k5 := H3.out.c1.2.2.1
        clear CC hc h3 HN2 hns hx3 H2 HX2
        go_wp2_with fail
        refine CA.out.mono ?_
        rintro e w4 ⟨rfl, hM, hT⟩
        have H4 := Lib.hid (H3.out.put1 hn (l2 := l) (by omega) hT (hM.mono (Nat.le_refl _)) hsh)
        have HX4 := Lib.hid (HX3.out.of_block (hT.block w1.heap.size HX3.out.lt (fun e => by have h8 := HD.out.lt1; have h9 := HD.out.blt; have e2 : w1.heap.size = k.m1 := e; omega)))
        clear CA hM hT H3 HX3 k5
        cases hpe : PE E en with
        | true =>
          have hae : addE E (⟨en, t, ext⟩ : EntD) = E := addE_old (e := ⟨en, t, ext⟩) hpe
          have HE : Hid (DocAt k W0 w4 r1 nm (addE E ⟨en, t, ext⟩) A (PE (addE E ⟨en, t, ext⟩)) P2 (.slice sa E.length sc) s2 g) := Lib.hid (by
            have h9 := H4.out
            rw [show (fun y => PE E y || decide (y = en)) = PE (addE E ⟨en, t, ext⟩) from funext fun y => PE_add E ⟨en, t, ext⟩ y, ] at h9
            rw [hae] at h9 ⊢
            exact h9)
          clear H4 HX4 hae hpe
          generalize Value.slice sa E.length sc = s9 at HE
          have CS := Lib.hid (space_may HE.out.rd)
          go_wp2_with fail
          refine CS.out.mono ?_
          rintro e w7 ⟨⟨z7, rfl⟩, h7⟩
          have hm7 := may_len r1
          have H7 := Lib.hid (HE.out.step h7 (by omega))
          clear CS h7
          cases hs : swB [62] (mayL r1) with
          | false =>
            have CT := Lib.hid (take_n [62] H7.out.rd (by decide) hs)
            have HN9 : Hid (entityL l = none) := Lib.hid (by rw [HN3.out, end_none hs])
            clear hs HN3
            go_wp2_with fail
            refine CT.out.mono ?_
            rintro e w8 ⟨rfl, h8⟩
            have H8 := Lib.hid (H7.out.far h8)
            clear CT h8
            go_wp2
            go_ret
            exact enG_no HN9.out H8.out
          | true =>
            have CT := Lib.hid (take_y [62] H7.out.rd (by decide) hs)
            have HN9 : Hid (entityL l = some (⟨en, t, ext⟩, (mayL r1).drop 1)) := Lib.hid (by rw [HN3.out, end_some hs])
            have hdl : ((mayL r1).drop 1).length ≤ (mayL r1).length := by rw [List.length_drop]; omega
            clear hs HN3
            go_wp2_with fail
            refine CT.out.mono ?_
            rintro e w8 ⟨rfl, h8⟩
            have H8 := Lib.hid (H7.out.step h8 hdl)
            clear CT h8
            go_wp2
            go_ret
            exact Or.inr ⟨_, _, _, HN9.out, rfl, H8.out, by show ((mayL r1).drop 1).length < l.length; omega⟩
        | false =>
          have hE2 : addE E (⟨en, t, ext⟩ : EntD) = E ++ [⟨en, t, ext⟩] := addE_new (e := ⟨en, t, ext⟩) hpe
          have hd4 := H4.out.other ((Below.refl _ _).drew)
          have hd5 := hd4.other ((Below.refl w4.drew.heap.size w4.drew).alloc (Nat.le_refl _) (.cells #[.string (bytes en), .string (bytes t), .bool ext] 32))
          have hx0 := HX4.out.cell (i := 0) (by decide)
          have hx1 := HX4.out.cell (i := 1) (by decide)
          have hx2 := HX4.out.cell (i := 2) (by decide)
          replace hx0 : w4.cell? ⟨w1.heap.size, 0, none⟩ = some (.string (bytes en)) := hx0
          replace hx1 : w4.cell? ⟨w1.heap.size, 1, none⟩ = some (.string (bytes t)) := hx1
          replace hx2 : w4.cell? ⟨w1.heap.size, 2, none⟩ = some (.bool ext) := hx2
          have c3 := H4.out.c1.1
          have hcn := H4.out.cnt1
          have hbl := And.intro H4.out.blt H4.out.lole
          have hbox := hd5.rd.rd
          have HROW := Lib.hid hd5.row1
          go_wp2_with fail
          go_region_law (refine step_append_lies _ (by rfl) _ _ 24 (by rfl) k.lo 32 i0 (.agg #[.string ⟨#[]⟩, .string ⟨#[]⟩, .bool false]) 3 40 Tryz.underlying24 hi hz0 hz1 hz2 rfl (by decide) _ _ _ (by rfl) (hd4.own1.alloc _) ⟨w4.heap.size, 0, none⟩ 1 1 [.string (bytes en), .string (bytes t), .bool ext] (by rfl) rfl (World.news_of_block (ent_new _ _ _ _ _)) (by intro u hu; simp at hu; rcases hu with rfl | rfl | rfl <;> rfl) (by decide) (by unfold maxLen; omega) (by omega) (by simp; omega) (w4.heap.size + 1) (by simp) ?_; intro g2 cap2 w6 hown6 hgr6 hat6 hlt6; have hp6 := hbox.of_block (hgr6.block k.b hbox.lt (fun e => by have := HROW.out k.b e.symm; omega)); have hc6 : w6.cell? ⟨k.b, 3, none⟩ = some (.slice sa E.length sc) := hp6.cell (i := 3) (show 3 < 7 by decide); have hf6 : w6.frozen? ⟨k.b, 3, none⟩ = false := hp6.frozen 3)
          all_goals
            have HE := Lib.hid (hd5.grew1 hn (E2 := E ++ [⟨en, t, ext⟩]) hgr6 (by rw [flatE_next, List.length_append]; exact hown6) (by rw [List.length_append]; show E.length + 1 + r1.length ≤ 100000; have := HD.out.cnt1; omega))
            rw [show (fun y => PE E y || decide (y = en)) = PE (addE E ⟨en, t, ext⟩) from funext fun y => PE_add E ⟨en, t, ext⟩ y, ← hE2] at HE
            clear hE2 hd4 hd5 hx0 hx1 hx2 c3 hcn hbl hbox HROW hown6 hgr6 hat6 hlt6 hp6 hc6 hf6 H4 HX4 hpe
            generalize w6.setCell ⟨k.b, 3, none⟩ (.slice (some ⟨g2, 0, none⟩) (E.length + 1) cap2) = W9 at HE ⊢
            generalize (Value.slice (some ⟨g2, 0, none⟩) (E.length + 1) cap2) = s9 at HE
            have CS := Lib.hid (space_may HE.out.rd)
            go_wp2_with fail
            refine CS.out.mono ?_
            rintro e w7 ⟨⟨z7, rfl⟩, h7⟩
            have hm7 := may_len r1
            have H7 := Lib.hid (HE.out.step h7 (by omega))
            clear CS h7
            cases hs : swB [62] (mayL r1) with
            | false =>
              have CT := Lib.hid (take_n [62] H7.out.rd (by decide) hs)
              have HN9 : Hid (entityL l = none) := Lib.hid (by rw [HN3.out, end_none hs])
              clear hs HN3
              go_wp2_with fail
              refine CT.out.mono ?_
              rintro e w8 ⟨rfl, h8⟩
              have H8 := Lib.hid (H7.out.far h8)
              clear CT h8
              go_wp2
              go_ret
              exact enG_no HN9.out H8.out
            | true =>
              have CT := Lib.hid (take_y [62] H7.out.rd (by decide) hs)
              have HN9 : Hid (entityL l = some (⟨en, t, ext⟩, (mayL r1).drop 1)) := Lib.hid (by rw [HN3.out, end_some hs])
              have hdl : ((mayL r1).drop 1).length ≤ (mayL r1).length := by rw [List.length_drop]; omega
              clear hs HN3
              go_wp2_with fail
              refine CT.out.mono ?_
              rintro e w8 ⟨rfl, h8⟩
              have H8 := Lib.hid (H7.out.step h8 hdl)
              clear CT h8
              go_wp2
              go_ret
              exact Or.inr ⟨_, _, _, HN9.out, rfl, H8.out, by show ((mayL r1).drop 1).length < l.length; omega⟩
end
end Go.Proofs.YtmecigainilocaaGreatDoor
