/-
  THE CONTRACT OF brackenref10.Scope.Push.
-/
import Derived.Test.YthhnpnjnlbjdjaaRfPush
import Derived.Deep.QuietTactic
import Derived.BigQuiet
namespace Go.Proofs.Ythhnpnjnlbjdjaa
open Go.RowKit

theorem drop_cons14 (l : List At4) (i : Nat) (h : i < l.length) : l.drop i = at4I l i :: l.drop (i + 1) := by
  rw [List.drop_eq_getElem_cons h]
  unfold at4I
  rw [List.getD_eq_getElem?_getD, List.getElem?_eq_getElem h]
  rfl
theorem cells_one14 (w : World) (a : Value) (t : TypeId) (n : Nat) (hn : w.heap.size = n) : ∀ j u, [a][j]? = some u → (w.alloc (.cells #[a] t)).cell? ((⟨n, 0, none⟩ : Addr).add j) = some u := by
  subst hn
  intro j u hu
  have e : (⟨w.heap.size, 0, none⟩ : Addr).add j = ⟨w.heap.size, j, none⟩ := by unfold Addr.add; split <;> simp_all
  rw [e]
  rw [cell_of_row _ _ j _ _ (0, 0) (heap_alloc_new w _)]
  rw [← hu]
  simp
theorem own_mono14 {w : World} {b b' : Nat} {t : TypeId} {n sz : Nat} {v : Value} {xs : List Value} (h : w.ownsRow b t sz v n xs) (hb : b' ≤ b) : w.ownsRow b' t sz v n xs :=
  ⟨h.1, h.2.imp id (fun ⟨g, cap, cur, e, hg, r⟩ => ⟨g, cap, cur, e, Nat.le_trans hb hg, r⟩)⟩
set_option maxHeartbeats 4000000 in
set_option maxRecDepth 100000 in
theorem rfpush_any {G : Nat → Prop} {w : World} {rb : Nat} {S : List (List Bd)} (hfew : S.length < 1048576) (h : RfIs G w rb S) {l : List At4} (hl8 : l.length ≤ 8) (hgood : ∀ a ∈ l, GoodA a) {GL : Nat → Prop} {sl : Value} (ha : AtsAt GL w sl l) :
    Calls Try.prog 16 #[.pointer (some ⟨rb, 0, none⟩), sl] w fun e w' => e = .returned (.int .i64 (pushE l)) ∧ RfIs (fun k => G k ∨ (w.heap.size ≤ k ∧ k < w'.heap.size)) w' rb (pushS S l) ∧ Turns (fun k => k = rb) w w' := by
  obtain ⟨sv, xs, h⟩ := h
  obtain ⟨sa, sc, rfl⟩ := ha.slice
  have H := Lib.hid h
  have HA := Lib.hid ha
  have HG := Lib.hid hgood
  obtain ⟨ia, hi1, hz0, hz1, hz2⟩ := info_open14 info_at
  have c0 : w.cell? ⟨rb, 0, none⟩ = some sv := h.box.cell (i := 0) (by decide)
  have hrl := h.box.lt
  have HC := Lib.hid (fun V (hb : Below w.heap.size w V) => show V.cell? ⟨rb, 0, none⟩ = some sv from (hb.cell (p := ⟨rb, 0, none⟩) hrl).trans c0)
  have HBACK : Hid (∀ V, Below w.heap.size w V → RfIs (fun k => G k ∨ (w.heap.size ≤ k ∧ k < V.heap.size)) V rb S ∧ Turns (fun k => k = rb) w V) := Lib.hid (fun V hb => ⟨⟨sv, xs, h.keep hb.size fun k hk hlt => ⟨hb.block k hlt, Or.inl hk⟩⟩, Turns.of_below hb⟩)
  clear h ha hgood c0 hrl
  go_enter Try.func16, Try.ntmps16
  go_wp2
  go_loopw [5, 6] (fun mv iv wr => ∃ (i : Nat) (lv : List Bd), i ≤ l.length ∧ lv.length ≤ i ∧ iv = .int .i64 i ∧ Below w.heap.size w wr ∧ Hid (bindsL [] l = bindsL lv (l.drop i)) ∧ Hid (wr.ownsRow w.heap.size 35 4 mv lv.length (flatA (lv.map declA)))) (fun _ iv _ => l.length - (intOf iv).toNat)
  case atStart => exact ⟨0, [], Nat.zero_le _, Nat.zero_le _, rfl, Below.refl _ _, Lib.hid rfl, Lib.hid (World.ownsRow_nil _ _ _ _)⟩
  case round =>
    obtain ⟨i, lv, hi, hli, rfl, hbe, HBI, HO⟩ := hrel
    obtain ⟨ma, mc, rfl⟩ := own_slice14 HO.out
    by_cases hlt : i < l.length
    · have hdr := drop_cons14 l i hlt
      have hgd : GoodA (at4I l i) := HG.out _ (by
        have h1 : at4I l i ∈ l.drop i := by rw [hdr]; simp
        exact List.mem_of_mem_drop h1)
      obtain ⟨ab, ao, rfl, _, _, hal, hc⟩ := HA.out.cell (by omega)
      obtain ⟨d0, d1, d2, d3⟩ := hc i hlt
      have HD := Lib.hid (fun V (hb : Below w.heap.size w V) (o : Nat) => hb.cell (p := ⟨ab, o, none⟩) hal)
      have HB := Lib.hid hbe
      have CD := Lib.hid (fun V => rdeclares_any (at4I l i) V)
      have HB2 : Hid (bindsL [] l = bindsL lv (at4I l i :: l.drop (i + 1))) := Lib.hid (by rw [HBI.out, hdr])
      have k1 : (0 : Int) ≤ (i : Int) := by omega
      have k2 : (i : Int) < (l.length : Int) := by omega
      clear hc hal hdr hbe
      generalize at4I l i = A at *
      have HM := Lib.hid (fun V (hb : Below w.heap.size w V) => show V.cell? ⟨ab, ao + i * 4, none⟩ = some (.string (bytes A.pre)) ∧ V.cell? ⟨ab, ao + i * 4 + 1, none⟩ = some (.string (bytes A.loc)) ∧ V.cell? ⟨ab, ao + i * 4 + 2, none⟩ = some (.string (bytes A.uri)) ∧ V.cell? ⟨ab, ao + i * 4 + 3, none⟩ = some (.string (bytes A.val)) from ⟨(HD.out V hb _).trans d0, (HD.out V hb _).trans d1, (HD.out V hb _).trans d2, (HD.out V hb _).trans d3⟩)
      clear d0 d1 d2 d3 HD
      obtain ⟨d0, d1, d2, d3⟩ := HM.out _ HB.out
      cases hdA : declB A with
      | none =>
        have hP : dcP A = [] := by unfold dcP; rw [hdA]
        have hI : dcI A = false := by unfold dcI; rw [hdA]; rfl
        rw [hP, hI] at CD
        have HN : Hid (bindsL [] l = bindsL lv (l.drop (i + 1))) := Lib.hid (HB2.out.trans (bindsL_some (addB_noR hdA)))
        clear hP hI hdA
        go_wp2_with fail
        refine (CD.out _).mono ?_
        rintro e w3 ⟨rfl, hb3⟩
        have HB3 := Lib.hid (HB.out.trans (hb3.mono HB.out.size))
        have HO3 : Hid (w3.ownsRow w.heap.size 35 4 (.slice ma lv.length mc) lv.length (flatA (lv.map declA))) := Lib.hid (ownsRow_block14 HO.out fun g hg => hb3.block g (HO.out.lt g hg).2)
        clear hb3 CD d0 d1 d2 d3
        go_wp2
        go_roundw
        case rel => exact ⟨i + 1, lv, by omega, by omega, by go_num, HB3.out, HN, HO3⟩
        case measure => simp [intOf]; omega
      | some b =>
        obtain ⟨q, u⟩ := b
        have hA : A = declA (q, u) := hgd _ hdA
        have hP : dcP A = q := by unfold dcP; rw [hdA]
        have hI : dcI A = true := by unfold dcI; rw [hdA]; rfl
        have hAV : A.val = u := by rw [hA, declA_val]
        rw [hP, hI] at CD
        have HDA := Lib.hid hdA
        have HAA := Lib.hid hA
        obtain ⟨b1, b2, d, b3, b4, b5, e1, e2, e3, e4, e5, e6, hcase⟩ := push_case q u
        have f1 : ((bytes q).toList == [120, 109, 108, 110, 115]) = b1 := (s14eq q xmlnsN).trans e1
        have f2 : ((bytes q).toList == [120, 109, 108]) = b2 := (s14eq q xmlN).trans e2
        have f3 : (bytes A.pre).toList.isEmpty = d := by rw [s14e, hA, declA_pre]; exact e3
        have f4 : ((bytes A.val).toList == [104, 116, 116, 112, 58, 47, 47, 119, 119, 119, 46, 119, 51, 46, 111, 114, 103, 47, 88, 77, 76, 47, 49, 57, 57, 56, 47, 110, 97, 109, 101, 115, 112, 97, 99, 101]) = b3 := by rw [hAV]; exact (s14eq u xmlU).trans e4
        have f5 : ((bytes A.val).toList == [104, 116, 116, 112, 58, 47, 47, 119, 119, 119, 46, 119, 51, 46, 111, 114, 103, 47, 50, 48, 48, 48, 47, 120, 109, 108, 110, 115, 47]) = b4 := by rw [hAV]; exact (s14eq u xmlnsU).trans e5
        have f6 : (bytes A.val).toList.isEmpty = b5 := by rw [hAV, s14e]; exact e6
        clear e1 e2 e3 e4 e5 e6 hP hI hAV hA hdA hgd
        rcases hcase with ⟨hmay, hcase⟩ | ⟨hmay, hcase⟩
        · have HES : Hid (pushE l = 2 ∧ ∀ S, pushS S l = S) := Lib.hid (bindsL_none HB2.out (addB_bad HDA.out hmay))
          clear hmay HDA HAA
          rcases hcase with ⟨rfl, rfl⟩ | ⟨rfl, rfl, rfl, rfl⟩ | ⟨rfl, rfl, rfl, rfl⟩ | ⟨rfl, rfl, rfl, rfl⟩ | ⟨rfl, rfl, rfl, rfl, rfl⟩ | ⟨rfl, rfl, rfl, rfl, rfl⟩ | ⟨rfl, rfl, rfl, rfl, rfl, rfl⟩
          all_goals
            go_wp2_with fail
            refine (CD.out _).mono ?_
            rintro e w3 ⟨rfl, hb3⟩
            have HB3 := Lib.hid (HB.out.trans (hb3.mono HB.out.size))
            obtain ⟨g0, g1, g2, g3⟩ := HM.out _ HB3.out
            clear hb3 CD d0 d1 d2 d3
            go_wp2
            go_ret
            rw [HES.out.1, HES.out.2 S]
            exact ⟨rfl, HBACK.out _ HB3.out⟩
        · rcases hcase with ⟨rfl, rfl, rfl, rfl, rfl, rfl⟩ | ⟨rfl, rfl, rfl, rfl, rfl, rfl⟩ | ⟨rfl, rfl, rfl, rfl, rfl⟩
          all_goals
            go_wp2_with fail
            refine (CD.out _).mono ?_
            rintro e w3 ⟨rfl, hb3⟩
            have HB3 := Lib.hid (HB.out.trans (hb3.mono HB.out.size))
            have HO3 : Hid (w3.ownsRow w.heap.size 35 4 (.slice ma lv.length mc) lv.length (flatA (lv.map declA))) := Lib.hid (ownsRow_block14 HO.out fun g hg => hb3.block g (HO.out.lt g hg).2)
            obtain ⟨g0, g1, g2, g3⟩ := HM.out _ HB3.out
            have HMAY := Lib.hid hmay
            clear hb3 CD d0 d1 d2 d3 hmay
            go_wp2
            clear f1 f2 f3 f4 f5
            go_loopw [11] (fun kv wr => ∃ k x : Nat, k ≤ lv.length ∧ kv = .int .i64 k ∧ Hid (inLv lv q = inLv (lv.drop k) q) ∧ wr = w3.drewN x) (fun kv _ => lv.length - (intOf kv).toNat)
            case atStart => exact ⟨0, 0, Nat.zero_le _, rfl, Lib.hid rfl, rfl⟩
            case round =>
              obtain ⟨k, x, hk, rfl, HIN, hwr⟩ := hrel
              have HWR := Lib.hid hwr
              have HBR : Hid (Below w.heap.size w wr) := Lib.hid (by rw [hwr]; exact ⟨HB3.out.os, HB3.out.tape, HB3.out.output, HB3.out.size, HB3.out.block⟩)
              have HOR : Hid (wr.ownsRow w.heap.size 35 4 (.slice ma lv.length mc) lv.length (flatA (lv.map declA))) := Lib.hid (by rw [hwr]; exact HO3.out)
              obtain ⟨r0, r1, r2, r3⟩ := HM.out _ HBR.out
              clear hwr g0 g1 g2 g3
              by_cases hkl : k < lv.length
              · obtain ⟨c, hcc⟩ : ∃ c, lv[k]? = some c := ⟨_, List.getElem?_eq_getElem hkl⟩
                have HST := Lib.hid (inLv_step lv k c q hcc)
                have ho : wr.ownsRow w.heap.size 35 4 (.slice ma lv.length mc) (lv.map declA).length (flatA (lv.map declA)) := by rw [List.length_map]; exact HOR.out
                obtain ⟨mb, mo, rfl, hmm, _, _, hmc⟩ := (ats_of_own ho (G := fun _ => True) (fun _ _ _ => trivial)).cell (by rw [List.length_map]; omega)
                obtain ⟨m0, m1, m2, m3⟩ := hmc k (by rw [List.length_map]; exact hkl)
                rw [at4_decl _ _ _ hcc] at m0 m1
                have hlk := declA_like (q, u) c
                rw [← HAA.out] at hlk
                dsimp only at hlk
                have j1 := s14q (declA c).pre A.pre
                have j2 := s14q (declA c).loc A.loc
                generalize decide ((declA c).pre = A.pre) = x1 at hlk j1
                generalize decide ((declA c).loc = A.loc) = x2 at hlk j2
                generalize declA c = C at m0 m1 j1 j2
                have n1 : (0 : Int) ≤ (k : Int) := by omega
                have n2 : (k : Int) < (lv.length : Int) := by omega
                clear ho hmc hcc hmm m2 m3
                cases x1 with
                | false =>
                  have hcq : ¬ c.1 = q := of_decide_eq_false hlk.symm
                  have HN2 : Hid (inLv lv q = inLv (lv.drop (k + 1)) q) := Lib.hid (by rw [HIN.out, HST.out, if_neg hcq])
                  clear hlk hcq j2
                  go_wp2
                  go_quiet (fail)
                  go_wp2
                  go_roundw
                  case rel => exact ⟨k + 1, x + nq, by omega, by go_num, HN2, by rw [HWR.out]; show World.drewN _ _ = _; unfold World.drewN; simp [Nat.add_assoc]⟩
                  case measure => simp [intOf]; omega
                | true =>
                  cases x2 with
                  | false =>
                    have hcq : ¬ c.1 = q := of_decide_eq_false hlk.symm
                    have HN2 : Hid (inLv lv q = inLv (lv.drop (k + 1)) q) := Lib.hid (by rw [HIN.out, HST.out, if_neg hcq])
                    clear hlk hcq
                    go_wp2
                    go_quiet (fail)
                    go_wp2
                    go_roundw
                    case rel => exact ⟨k + 1, x + nq, by omega, by go_num, HN2, by rw [HWR.out]; show World.drewN _ _ = _; unfold World.drewN; simp [Nat.add_assoc]⟩
                    case measure => simp [intOf]; omega
                  | true =>
                    have hcq : c.1 = q := of_decide_eq_true hlk.symm
                    have HES : Hid (pushE l = 2 ∧ ∀ S, pushS S l = S) := Lib.hid (bindsL_none HB2.out (addB_two HDA.out (u := c.2) (by show inLv lv q = _; rw [HIN.out, HST.out, if_pos hcq])))
                    clear hlk hcq
                    go_wp2
                    go_quiet (fail)
                    go_wp2
                    go_ret
                    rw [HES.out.1, HES.out.2 S]
                    exact ⟨rfl, HBACK.out _ ⟨HBR.out.os, HBR.out.tape, HBR.out.output, HBR.out.size, HBR.out.block⟩⟩
              · obtain rfl : k = lv.length := by omega
                have n0 : decide (lv.length < lv.length) = false := decide_eq_false (by omega)
                have HN : Hid (bindsL [] l = bindsL (lv ++ [(q, u)]) (l.drop (i + 1))) := Lib.hid (HB2.out.trans (bindsL_some (addB_new HDA.out HMAY.out (by show inLv lv q = none; rw [HIN.out, List.drop_length]; rfl))))
                have s5 : (wr.alloc (.cells #[.string (bytes A.pre), .string (bytes A.loc), .string (bytes A.uri), .string (bytes A.val)] 35)).heap.size = wr.heap.size + 1 := dsize1 _ _
                have own5 := HOR.out
                have hwz := HBR.out.size
                go_wp2_with (at_builtin; refine wpList_append_lies _ rfl _ _ 26 rfl w.heap.size 35 ia (.agg #[.string ⟨#[]⟩, .string ⟨#[]⟩, .string ⟨#[]⟩, .string ⟨#[]⟩]) 4 64 Try.underlying26 hi1 hz0 hz1 hz2 rfl (by decide) _ _ _ rfl (own5.alloc _) ⟨wr.heap.size, 0, none⟩ 1 1 [.string (bytes A.pre), .string (bytes A.loc), .string (bytes A.uri), .string (bytes A.val)] rfl rfl (cells_four _ _ _ _ _ _ _ rfl) (by intro u hu; simp at hu; rcases hu with rfl | rfl | rfl | rfl <;> rfl) (by decide) (by unfold maxLen; omega) (by omega) (by rw [s5]; omega) (wr.heap.size + 1) s5 ?_; intro g2 cap2 w6 hown6 hgr6 hat6 hlt6)
                have HO6 : Hid (w6.ownsRow w.heap.size 35 4 (.slice (some ⟨g2, 0, none⟩) (lv.length + 1) cap2) (lv ++ [(q, u)]).length (flatA ((lv ++ [(q, u)]).map declA))) := Lib.hid (by
                  have e : flatA ((lv ++ [(q, u)]).map declA) = flatA (lv.map declA) ++ [.string (bytes A.pre), .string (bytes A.loc), .string (bytes A.uri), .string (bytes A.val)] := by
                    rw [List.map_append, HAA.out]
                    exact flatA_snoc _ _
                  rw [e, List.length_append]
                  exact hown6)
                have HB6 : Hid (Below w.heap.size w w6) := Lib.hid ((((Turns.of_below HBR.out).alloc (.cells #[.string (bytes A.pre), .string (bytes A.loc), .string (bytes A.uri), .string (bytes A.val)] 35)).grown (F := fun k => w.heap.size ≤ k) hgr6 (fun k hk => Or.inl (own5.lt k hk).1)).below (Nat.le_refl _) fun k hk => hk)
                clear hown6 hgr6 hat6 hlt6 own5 s5
                go_wp2
                go_roundw
                case rel => exact ⟨i + 1, lv ++ [(q, u)], by omega, by simp; omega, by go_num, HB6.out, HN, HO6⟩
                case measure => simp [intOf]; omega
    · obtain rfl : i = l.length := by omega
      have n0 : decide (l.length < l.length) = false := decide_eq_false (by omega)
      have HES : Hid (pushE l = 0 ∧ pushS S l = lv :: S) := Lib.hid (by
        have e : bindsL [] l = some lv := by rw [HBI.out, List.drop_length]; rfl
        unfold pushE pushS; rw [e]; exact ⟨rfl, rfl⟩)
      have HB := Lib.hid hbe
      have hwz := hbe.size
      have HXL := Lib.hid H.out.lvs.len
      have hxl : xs.length ≤ 1048576 := by rw [HXL.out]; omega
      have HONE := Lib.hid H.out.lvs.one
      have hb1 := (Below.refl wr.heap.size wr).alloc (Nat.le_refl _) (.cells #[] 26)
      have HB1 := Lib.hid (hbe.trans (hb1.mono hwz))
      have c1 := HC.out _ HB1.out
      have HSRC := Lib.hid (H.out.below HB1.out).source
      have HO1 := Lib.hid (World.ownsRow_lit (base := wr.heap.size) (e := 26) (size := 1) wr #[] 0 (Nat.le_refl _) (by decide) rfl)
      obtain ⟨lo, lc, hsv⟩ := H.out.slice
      clear hbe hb1
      obtain ⟨lo, lc, rfl⟩ := hsv
      have own1 := HO1.out
      have src1 := HSRC.out
      have one1 := HONE.out
      have s1 : (wr.alloc (.cells #[] 26)).heap.size = wr.heap.size + 1 := dsize1 _ _
      have HBA := Lib.hid ((Below.refl wr.heap.size wr).alloc (Nat.le_refl _) (.cells #[] 26))
      obtain ⟨ib, hj1, hy0, hy1, hy2⟩ := info_open14 info_lv
      go_wp2_with (first
        | (at_builtin; refine wpList_append_lv rfl _ _ rfl wr.heap.size _ rfl own1 _ xs rfl src1 one1 hxl (by rw [s1]; omega) (by intro q hq; injection hq with hq; exact Nat.le_of_eq hq) ?_; clear own1 src1; intro v4 w4 own4 hb4)
        | (at_builtin; refine wpList_append_lies _ rfl _ _ 41 rfl wr.heap.size 26 ib (.slice none 0 0) 1 24 Try.underlying41 hj1 hy0 hy1 hy2 rfl (by decide) _ _ _ rfl (own4.alloc _) ⟨w4.heap.size, 0, none⟩ 1 1 [.slice ma lv.length mc] rfl rfl (cells_one14 _ _ _ _ rfl) (by intro u hu; simp at hu; subst hu; rfl) (by decide) (by unfold maxLen; omega) (by omega) (by rw [dsize1]; have := hb4.size; omega) (w4.heap.size + 1) (dsize1 _ _) ?_
           intro g2 cap2 w6 hown6 hgr6 hat6 hlt6
           have HO6 := Lib.hid hown6
           have HBW : Hid (Below wr.heap.size wr w6) := Lib.hid ((((HBA.out.trans hb4).alloc (by have := hb4.size; omega) _)).grown hgr6 (by rw [dsize1]; have := hb4.size; omega) (fun q hq => (own4.lt q hq).1))
           have HB6 : Hid (Below w.heap.size w w6) := Lib.hid (HB.out.trans (HBW.out.mono hwz))
           have c6 := HC.out _ HB6.out
           have f6 := (H.out.below HB6.out).box.frozen 0
           clear hown6 hgr6 hat6 hlt6 own4 hb4))
      have HE : Hid (RfIs (fun k => G k ∨ (w.heap.size ≤ k ∧ k < (w6.setCell ⟨rb, 0, none⟩ (.slice (some ⟨g2, 0, none⟩) (xs.length + 1) cap2)).heap.size)) (w6.setCell ⟨rb, 0, none⟩ (.slice (some ⟨g2, 0, none⟩) (xs.length + 1) cap2)) rb (lv :: S) ∧ Turns (fun k => k = rb) w (w6.setCell ⟨rb, 0, none⟩ (.slice (some ⟨g2, 0, none⟩) (xs.length + 1) cap2))) := Lib.hid (by
        have ho : wr.ownsRow w.heap.size 35 4 (.slice ma lv.length mc) (lv.map declA).length (flatA (lv.map declA)) := by rw [List.length_map]; exact HO.out
        exact RfAt.pushed H.out HB6.out (own_mono14 HO6.out hwz) ((ats_of_own ho (G := fun k => w.heap.size ≤ k) (fun k hk _ => hk)).keep HBW.out.size fun k hk hl => ⟨HBW.out.block k hl, hk⟩))
      clear c6 f6
      go_ret
      rw [HES.out.1, HES.out.2]
      exact ⟨rfl, HE.out⟩
end Go.Proofs.Ythhnpnjnlbjdjaa
