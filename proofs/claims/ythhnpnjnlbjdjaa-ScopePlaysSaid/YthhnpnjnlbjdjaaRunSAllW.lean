/-
  THE LANDED PACKAGE scope: All, walked.
-/
import Derived.Test.YthhnpnjnlbjdjaaRunSAll
namespace Go.Proofs.Ythhnpnjnlbjdjaa
open Go.RowKit

set_option maxHeartbeats 2000000 in
set_option maxRecDepth 100000 in
theorem rall_any (F : Nat → Prop) (v : Value) (S : List (List Bd)) (w : World) (hN : NiceS S) (h : IsSc F w v S) :
    Calls Try.prog 11 #[v] w fun e w' => ∃ sl F', e = .returned sl ∧ IsSc F' w' v S ∧ (∀ k, F' k → F k ∨ (w.heap.size ≤ k ∧ k < w'.heap.size)) ∧ Turns F w w' ∧ AtsAt (fun k => ¬ F' k ∧ w.heap.size ≤ k) w' sl ((allS S).map declA) := by
  obtain ⟨sb, T, VN, vl, rfl, rfl, h14⟩ := isSc_open h
  have C := Lib.hid (rbound_any h14)
  have HN := Lib.hid hN
  have HNL := Lib.hid hN.names
  obtain ⟨P, hP⟩ : ∃ P : Ending → World → Prop, (fun e w' => ∃ sl F', e = .returned sl ∧ IsSc F' w' (.pointer (some ⟨sb, 0, none⟩)) (era T) ∧ (∀ k, F' k → F k ∨ (w.heap.size ≤ k ∧ k < w'.heap.size)) ∧ Turns F w w' ∧ AtsAt (fun k => ¬ F' k ∧ w.heap.size ≤ k) w' sl ((allS (era T)).map declA)) = P := ⟨_, rfl⟩
  rw [hP]
  have HP := Lib.hid hP
  obtain ⟨ia, hi1, hz0, hz1, hz2⟩ := info_open info_at
  clear h h14 hN hP
  go_enter Try.func11, Try.ntmps11
  go_wp2_with fail
  refine C.out.mono ?_
  rintro e w1 ⟨mb, b0, F1, rfl, hf, hsub, hsup, hturn⟩
  have HF := Lib.hid hf
  have HW := Lib.hid (show Went F F1 w w1 from ⟨hsub, hsup, hturn⟩)
  clear hsub hsup hturn C
  obtain ⟨D, hown, hD⟩ := hf.map
  have hsz := size_names hown fun p => (hD p).2
  have hprm := keys_perm hown fun p => (hD p).2
  have CK := Lib.hid (mapsKeys_any (some mb) w1)
  have CS := Lib.hid (sortedKeys_any mb _ D ptrE w1 hown (by rw [hsz]; have := HNL.out; unfold maxLen; omega) (by rw [hsz]; have := HNL.out; omega))
  clear hf hown hD hsz
  go_wp2_with fail
  refine CK.out.mono ?_
  rintro e w2 ⟨rfl, rfl⟩
  go_wp2_with fail
  refine CS.out.mono ?_
  rintro e w2 ⟨vs, ss, rfl, hperm, hrow, _, hb⟩
  have hss : ss.mergeSort (fun x y => decide (x ≤ y)) = allN (era T) := (mergeSort_of_perm (hperm.trans hprm.symm)).trans (names_sorted _)
  have hsl : ss.length = (allN (era T)).length := by rw [← hss, List.length_mergeSort]
  rw [hss, hsl] at hrow
  have hb0 := (Below.refl w1.heap.size w1).alloc (Nat.le_refl _) (.cells #[.map (some mb)] 52)
  have HB := Lib.hid (hb0.trans (hb.mono hb0.size))
  have HRow := Lib.hid hrow
  obtain ⟨qa, qc, rfl⟩ := own_slice hrow
  clear hperm hrow hb hss hsl hb0 hprm CK CS
  go_wp2
  go_loopw [3, 16] (fun lv iv wr => ∃ i : Nat, i ≤ (allN (era T)).length ∧ iv = .int .i64 i ∧ Below w2.heap.size w2 wr ∧ Hid (wr.ownsRow w2.heap.size 35 4 lv (toldB (era T) i).length (flatA (toldB (era T) i)))) (fun _ iv _ => (allN (era T)).length - (intOf iv).toNat)
  case atStart => exact ⟨0, Nat.zero_le _, rfl, Below.refl _ _, Lib.hid (World.ownsRow_nil _ _ _ _)⟩
  case round =>
    obtain ⟨i, hi, rfl, hbe, HO⟩ := hrel
    have HBE := Lib.hid hbe
    clear hbe
    obtain ⟨al, cl, rfl⟩ := own_slice HO.out
    have hiw : i ≤ 1099511627777 := Nat.le_trans hi HNL.out
    by_cases hlt : i < (allN (era T)).length
    · obtain ⟨p, hp⟩ : ∃ p, (allN (era T))[i] = p := ⟨_, rfl⟩
      have HTN := Lib.hid (told_next (era T) i hlt p hp)
      have hmem : p ∈ allN (era T) := by rw [← hp]; exact List.getElem_mem hlt
      obtain ⟨ga, ca, y, e1, hca, hy, hcy⟩ := own_cell HRow.out hlt
      injection e1 with e1 _ e3
      subst e1; subst e3
      have hyp : y = .string (bytes p) := by
        rw [List.getElem?_map, List.getElem?_eq_getElem hlt, hp] at hy
        injection hy with hy
        exact hy.symm
      subst hyp
      have hcr : wr.cell? ⟨ga, i, none⟩ = some (.string (bytes p)) := (HBE.out.cell (p := ⟨ga, i, none⟩) (HRow.out.lt ga rfl).2).trans hcy
      cases hh : headB b0 T p with
      | none => exact absurd (uri_none hh) ((mem_allN p (era T)).1 hmem)
      | some x =>
        obtain ⟨b, k, u⟩ := x
        have hl := uri_some hh
        have hnice := HN.out.look hl
        have hfr := HF.out.below (HB.out.trans (HBE.out.mono HB.out.size))
        have hlook := hfr.map.look1 p hnice.2.2
        have e1 : hdB b0 T p = some b := by unfold hdB; rw [hh]; rfl
        rw [e1] at hlook
        have hlook' : (Instr.lookup 52 (.map (some mb)) (.string (bytes p)) false).run Try.prog wr = .ok (.pointer (some ⟨b, 0, none⟩)) wr := hlook
        obtain ⟨nxt, hbd⟩ := hfr.bs.head hh
        obtain ⟨f1, f2, f3, f4, M⟩ := bond_mets (p, u)
        have d0 : wr.cell? ⟨b, 0, none⟩ = some (.iface (bondT (p, u)) (bondA (p, u))) := hbd.row.cell (i := 0) (by decide)
        have m1 := M.mto
        have m2 := M.eto
        have m3 := M.mdecl
        have m4 := M.edecl
        have CT := Lib.hid M.to
        have CD := Lib.hid M.decl
        have HBL := Lib.hid hbd.row.lt
        have HHL := Lib.hid hl
        have i1 : (0 : Int) ≤ (i : Int) := by omega
        have i2 : (i : Int) < ((allN (era T)).length : Int) := by omega
        have HTL := Lib.hid (told_len (era T) i)
        clear hlook hfr hbd e1 hh hnice hl M hy hcy hca hmem hp
        generalize bondT (p, u) = bt at *
        generalize bondA (p, u) = ba at *
        go_wp2_with fail
        refine (CT.out _).mono ?_
        rintro e w3 ⟨rfl, hb3⟩
        have HB3 := Lib.hid hb3
        have d3 : w3.cell? ⟨b, 0, none⟩ = some (.iface bt ba) := (hb3.cell (p := ⟨b, 0, none⟩) HBL.out).trans d0
        clear hb3 hlook' hcr
        by_cases hu : u = []
        · have ce := semp_t hu
          have HX : Hid (toldB (era T) (i + 1) = toldB (era T) i) := Lib.hid (by
            rw [HTN.out]
            unfold boundB
            rw [HHL.out, hu]
            simp)
          have HO3 : Hid (w3.ownsRow w2.heap.size 35 4 (.slice al (toldB (era T) i).length cl) (toldB (era T) i).length (flatA (toldB (era T) i))) := Lib.hid (ownsRow_block HO.out fun g hg => HB3.out.block g (HO.out.lt g hg).2)
          have HE3 := Lib.hid (HBE.out.trans (HB3.out.mono HBE.out.size))
          clear hu
          go_wp2
          go_roundw
          case rel => exact ⟨i + 1, by omega, by go_num, HE3.out, by rw [HX.out]; exact HO3⟩
          case measure => simp [intOf]; omega
        · have ce := semp_f hu
          have HX : Hid (toldB (era T) (i + 1) = toldB (era T) i ++ [declA (p, u)]) := Lib.hid (by
            rw [HTN.out]
            unfold boundB
            rw [HHL.out]
            simp [hu])
          clear hu
          go_wp2_with fail
          refine (CD.out _).mono ?_
          rintro e w4 ⟨rfl, hb4⟩
          have HB4 := Lib.hid (HB3.out.trans (hb4.mono HB3.out.size))
          clear hb4 d3 d0
          obtain ⟨A, hA⟩ : ∃ A, declA (p, u) = A := ⟨_, rfl⟩
          rw [hA] at HX ⊢
          clear hA
          have own5 : w4.ownsRow w2.heap.size 35 4 (.slice al (toldB (era T) i).length cl) (toldB (era T) i).length (flatA (toldB (era T) i)) := ownsRow_block HO.out fun g hg => HB4.out.block g (HO.out.lt g hg).2
          have hsz4 : w2.heap.size ≤ w4.heap.size := by have := HBE.out.size; have := HB4.out.size; omega
          have h5 : Below w4.heap.size w4 (w4.alloc (.cells #[.string (bytes A.pre), .string (bytes A.loc), .string (bytes A.uri), .string (bytes A.val)] 35)) := (Below.refl _ _).alloc (Nat.le_refl _) _
          have s5 : (w4.alloc (.cells #[.string (bytes A.pre), .string (bytes A.loc), .string (bytes A.uri), .string (bytes A.val)] 35)).heap.size = w4.heap.size + 1 := by show (w4.heap.push _).size = _; rw [Array.size_push]
          go_wp2_with (at_builtin; refine wpList_append_lies _ rfl _ _ 26 rfl w2.heap.size 35 ia (.agg #[.string ⟨#[]⟩, .string ⟨#[]⟩, .string ⟨#[]⟩, .string ⟨#[]⟩]) 4 64 Try.underlying26 hi1 hz0 hz1 hz2 rfl (by decide) _ _ _ rfl (own5.alloc _) ⟨w4.heap.size, 0, none⟩ 1 1 [.string (bytes A.pre), .string (bytes A.loc), .string (bytes A.uri), .string (bytes A.val)] rfl rfl (cells_four _ _ _ _ _ _ _ rfl) (by intro u hu; simp at hu; rcases hu with rfl | rfl | rfl | rfl <;> rfl) (by decide) (by have := HTL.out; have := HNL.out; unfold maxLen; omega) (by have := HTL.out; have := HNL.out; omega) (by rw [s5]; omega) (w4.heap.size + 1) s5 ?_; intro g2 cap2 w6 hown6 hgr6 hat6 hlt6)
          have HO6 : Hid (w6.ownsRow w2.heap.size 35 4 (.slice (some ⟨g2, 0, none⟩) ((toldB (era T) i).length + 1) cap2) ((toldB (era T) i).length + 1) (flatA (toldB (era T) i) ++ [.string (bytes A.pre), .string (bytes A.loc), .string (bytes A.uri), .string (bytes A.val)])) := Lib.hid hown6
          have HE6 : Hid (Below w2.heap.size w2 w6) := Lib.hid (by
            have h1 : Turns (fun k => w2.heap.size ≤ k) w2 (w4.alloc (.cells #[.string (bytes A.pre), .string (bytes A.loc), .string (bytes A.uri), .string (bytes A.val)] 35)) := Turns.of_below ((HBE.out.trans (HB4.out.mono HBE.out.size)).trans (h5.mono (by omega)))
            exact (h1.grown hgr6 (fun k hk => Or.inl (own5.lt k hk).1)).below (Nat.le_refl _) fun k hk => hk)
          clear hown6 hgr6 hat6 hlt6 own5 h5 s5
          go_wp2
          go_roundw
          case rel => exact ⟨i + 1, by omega, by go_num, HE6.out, by rw [HX.out, List.length_append, flatA_snoc]; exact HO6⟩
          case measure => simp [intOf]; omega
    · obtain rfl : i = (allN (era T)).length := by omega
      have g1 : decide ((allN (era T)).length < (allN (era T)).length) = false := decide_eq_false (by omega)
      have HO2 := HO.out
      have HT := Lib.hid (told_all (era T))
      have HFR := Lib.hid (HF.out.below (HB.out.trans (HBE.out.mono HB.out.size)))
      have HWR := Lib.hid (HW.out.below (HB.out.trans (HBE.out.mono HB.out.size)))
      clear HO2
      go_wp2
      rw [← HP.out]
      have ho := HO.out
      rw [told_all] at ho
      rw [told_all]
      refine ⟨_, F1, rfl, isSc_some (Or.inr ⟨mb, b0, HFR.out⟩), HWR.out.sub, HWR.out.turns, ats_of_own ho fun k hk _ => ⟨fun hf => ?_, ?_⟩⟩
      · have h1 := HF.out.sc.inF k hf
        have h2 := HB.out.size
        omega
      · have h2 := HB.out.size
        have h3 := HW.out.turns.size
        omega
end Go.Proofs.Ythhnpnjnlbjdjaa
