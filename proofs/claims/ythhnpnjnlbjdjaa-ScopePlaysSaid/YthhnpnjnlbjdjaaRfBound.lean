/-
  THE CONTRACT OF brackenref10.Scope.Bound.
-/
import Derived.Test.YthhnpnjnlbjdjaaRfNam
namespace Go.Proofs.Ythhnpnjnlbjdjaa
open Go.RowKit

theorem one_cell14 {w : World} {b : Nat} {a : Value} (h : w.cell? ⟨b, 0, none⟩ = some a) : ∀ j u, [a][j]? = some u → w.cell? ((⟨b, 0, none⟩ : Addr).add j) = some u := by
  intro j u hu
  have hj := (List.getElem?_eq_some_iff.1 hu).1
  obtain rfl : j = 0 := by simp at hj; exact hj
  have e : a = u := by simpa using hu
  subst e
  rw [Go.WideShapes.add_plain]
  exact h
set_option maxHeartbeats 4000000 in
set_option maxRecDepth 100000 in
theorem rfbound_any {G : Nat → Prop} {w : World} {rb : Nat} {S : List (List Bd)} (hN : NiceS S) (hS : S.length ≤ 25) (hsm : ∀ lv ∈ S, lv.length ≤ 8) (h : RfIs G w rb S) :
    Calls Try.prog 23 #[.pointer (some ⟨rb, 0, none⟩)] w fun e w' => ∃ sl, e = .returned sl ∧ AtsAt (fun k => w.heap.size ≤ k) w' sl ((allS S).map declA) ∧ Below w.heap.size w w' := by
  obtain ⟨sv, xs, h⟩ := h
  obtain ⟨oa, cap, rfl⟩ := h.slice
  have H := Lib.hid h
  have HN := Lib.hid hN
  have HSM := Lib.hid hsm
  have c0 : w.cell? ⟨rb, 0, none⟩ = some (.slice oa S.length cap) := h.box.cell (i := 0) (by decide)
  have hrl := h.box.lt
  have HC := Lib.hid (fun V (hb : Below w.heap.size w V) => show V.cell? ⟨rb, 0, none⟩ = some (.slice oa S.length cap) from (hb.cell (p := ⟨rb, 0, none⟩) hrl).trans c0)
  have HB0 := Lib.hid ((Below.refl w.heap.size w).alloc (Nat.le_refl _) (.cells #[.string ⟨#[120, 109, 108]⟩] 9))
  have HO0 : Hid (NamesV (w.alloc (.cells #[.string ⟨#[120, 109, 108]⟩] 9)) w.heap.size (.slice (some ⟨w.heap.size, 0, none⟩) 1 1) [xmlN]) := Lib.hid (World.ownsRow_lit (base := w.heap.size) (e := 9) (size := 1) w #[.string ⟨#[120, 109, 108]⟩] 1 (Nat.le_refl _) (by decide) rfl)
  clear h c0 hrl hN hsm
  go_enter Try.func23, Try.ntmps23
  go_wp2_with fail
  go_loopw [3, 4] (fun nv iv wr => ∃ (pre rest : List (List Bd)) (L : List Nm), Hid (S = pre ++ rest) ∧ rest.length ≤ S.length ∧ iv = .int .i64 rest.length ∧ Below w.heap.size w wr ∧ Hid (allN rest = L) ∧ 0 < L.length ∧ L.length ≤ 1 + 8 * rest.length ∧ Hid (NamesV wr w.heap.size nv L)) (fun _ iv _ => S.length - (intOf iv).toNat)
  case atStart => exact ⟨S, [], [xmlN], Lib.hid (by simp), Nat.zero_le _, rfl, HB0.out, Lib.hid rfl, by decide, by decide, HO0⟩
  case round =>
    obtain ⟨pre, rest, L, HS, hrs, rfl, hbe, HL, hL0, hL1, HO⟩ := hrel
    have HB := Lib.hid hbe
    have c0 := HC.out _ hbe
    clear hbe
    rcases List.eq_nil_or_concat pre with rfl | ⟨pre', lv, rfl⟩
    · have hSR : S = rest := by have := HS.out; simpa using this
      subst hSR
      have n0 : decide (S.length < S.length) = false := decide_eq_false (by omega)
      have HR := Lib.hid (fun V (hb : Below w.heap.size w V) => show RfIs G V rb S from ⟨_, _, H.out.below hb⟩)
      obtain ⟨g, gc, rfl, hg1, hg2, hgc, hgm, hcell⟩ := own_form14 HO.out hL0
      have HCE := Lib.hid hcell
      obtain ⟨ia, hi1, hz0, hz1, hz2⟩ := info_open14 info_at
      have hwz := HB.out.size
      clear hcell HO hrs
      go_wp2
      clear n0 c0
      rename World => wn
      go_loopw [11, 12] (fun ov iv wb => ∃ i : Nat, i ≤ L.length ∧ iv = .int .i64 i ∧ Hid (Below wn.heap.size wn wb) ∧ Hid (wb.ownsRow wn.heap.size 35 4 ov (outN S (L.take i)).length (flatA ((outN S (L.take i)).map declA)))) (fun _ iv _ => L.length - (intOf iv).toNat)
      case atStart => exact ⟨0, Nat.zero_le _, rfl, Lib.hid (Below.refl _ _), Lib.hid (World.ownsRow_nil _ _ _ _)⟩
      case round =>
        obtain ⟨i, hi, rfl, HBn, HOut⟩ := hrel
        obtain ⟨oa', oc', rfl⟩ := own_slice14 HOut.out
        by_cases hil : i < L.length
        · obtain ⟨x, hx⟩ : ∃ x, L[i]? = some x := ⟨_, List.getElem?_eq_getElem hil⟩
          have HCX := Lib.hid (fun V (hb : Below wn.heap.size wn V) => show V.cell? ⟨g, i, none⟩ = some (.string (bytes x)) from (hb.cell (p := ⟨g, i, none⟩) hg2).trans (HCE.out i _ (strV_at L i x hx)))
          have e0 := HCX.out _ HBn.out
          have HST := Lib.hid (outN_take S L i x hx)
          have HBw : Hid (Below w.heap.size w wr) := Lib.hid (HB.out.trans (HBn.out.mono hwz))
          have CU := Lib.hid (rfuri_any HN.out (HR.out _ HBw.out) x)
          have hol : (outN S (L.take i)).length ≤ i := Nat.le_trans (outN_len _ _) (by rw [List.length_take]; omega)
          have i1 : (0 : Int) ≤ (i : Int) := by omega
          have i2 : (i : Int) < (L.length : Int) := by omega
          clear hx
          generalize uriS S x = u at CU HST
          generalize isS S x = b at CU
          generalize outN S (L.take i) = M at HST HOut hol
          go_wp2_with fail
          refine CU.out.mono ?_
          rintro e w3 ⟨rfl, hb3⟩
          have HB3 : Hid (Below wn.heap.size wn w3) := Lib.hid (HBn.out.trans (hb3.mono HBn.out.size))
          have own5 := ownsRow_block14 HOut.out fun g hg => hb3.block g (HOut.out.lt g hg).2
          have e3 := HCX.out _ HB3.out
          clear hb3 CU e0
          have s5 : ∀ o, (w3.alloc o).heap.size = w3.heap.size + 1 := fun o => dsize1 _ _
          have hw3 := HB3.out.size
          by_cases hu : u = []
          · have cu : (bytes u).toList.isEmpty = true := s14et hu
            have HX : Hid (outN S (L.take (i + 1)) = M) := Lib.hid (by rw [HST.out, if_pos hu, List.append_nil])
            have HO5 : Hid (w3.ownsRow wn.heap.size 35 4 (.slice oa' M.length oc') (outN S (L.take (i + 1))).length (flatA ((outN S (L.take (i + 1))).map declA))) := Lib.hid (by rw [HX.out]; exact own5)
            clear hu own5 s5
            go_wp2
            go_roundw
            case rel => exact ⟨i + 1, by omega, by go_num, HB3, HO5⟩
            case measure => simp [intOf]; omega
          · have cu : (bytes u).toList.isEmpty = false := s14ef hu
            have HX : Hid (outN S (L.take (i + 1)) = M ++ [(x, u)]) := Lib.hid (by rw [HST.out, if_neg hu])
            clear hu
            by_cases hx0 : x = []
            · have cx : (bytes x).toList.isEmpty = true := s14et hx0
              have HDA : Hid (declA (x, u) = ⟨[], xmlnsN, xmlnsU, u⟩) := Lib.hid (by subst hx0; rfl)
              clear hx0
              go_wp2_with (at_builtin; refine wpList_append_lies _ rfl _ _ 26 rfl wn.heap.size 35 ia (.agg #[.string ⟨#[]⟩, .string ⟨#[]⟩, .string ⟨#[]⟩, .string ⟨#[]⟩]) 4 64 Try.underlying26 hi1 hz0 hz1 hz2 rfl (by decide) _ _ _ rfl (own5.alloc _) ⟨w3.heap.size, 0, none⟩ 1 1 [.string ⟨#[]⟩, .string ⟨#[120, 109, 108, 110, 115]⟩, .string ⟨#[104, 116, 116, 112, 58, 47, 47, 119, 119, 119, 46, 119, 51, 46, 111, 114, 103, 47, 50, 48, 48, 48, 47, 120, 109, 108, 110, 115, 47]⟩, .string (bytes u)] rfl rfl (cells_four _ _ _ _ _ _ _ rfl) (by intro u hu; simp at hu; rcases hu with rfl | rfl | rfl | rfl <;> rfl) (by decide) (by unfold maxLen; omega) (by omega) (by rw [s5]; omega) (w3.heap.size + 1) (s5 _) ?_; intro g2 cap2 w6 hown6 hgr6 hat6 hlt6)
              have HO6 : Hid (w6.ownsRow wn.heap.size 35 4 (.slice (some ⟨g2, 0, none⟩) (M.length + 1) cap2) (outN S (L.take (i + 1))).length (flatA ((outN S (L.take (i + 1))).map declA))) := Lib.hid (by
                rw [HX.out, List.length_append, List.map_append]
                show w6.ownsRow _ _ _ _ _ (flatA (List.map declA M ++ [declA (x, u)]))
                rw [flatA_snoc, HDA.out]
                exact hown6)
              have HB6 : Hid (Below wn.heap.size wn w6) := Lib.hid ((HB3.out.alloc HB3.out.size _).grown hgr6 (by rw [s5]; have := HB3.out.size; omega) (fun q hq => (own5.lt q hq).1))
              clear hown6 hgr6 hat6 hlt6 own5 s5
              go_wp2
              go_roundw
              case rel => exact ⟨i + 1, by omega, by go_num, HB6, HO6⟩
              case measure => simp [intOf]; omega
            · have cx : (bytes x).toList.isEmpty = false := s14ef hx0
              have HDA : Hid (declA (x, u) = ⟨xmlnsN, x, xmlnsU, u⟩) := Lib.hid (by unfold declA; rw [if_neg hx0])
              clear hx0
              go_wp2_with (at_builtin; refine wpList_append_lies _ rfl _ _ 26 rfl wn.heap.size 35 ia (.agg #[.string ⟨#[]⟩, .string ⟨#[]⟩, .string ⟨#[]⟩, .string ⟨#[]⟩]) 4 64 Try.underlying26 hi1 hz0 hz1 hz2 rfl (by decide) _ _ _ rfl (own5.alloc _) ⟨w3.heap.size, 0, none⟩ 1 1 [.string ⟨#[120, 109, 108, 110, 115]⟩, .string (bytes x), .string ⟨#[104, 116, 116, 112, 58, 47, 47, 119, 119, 119, 46, 119, 51, 46, 111, 114, 103, 47, 50, 48, 48, 48, 47, 120, 109, 108, 110, 115, 47]⟩, .string (bytes u)] rfl rfl (cells_four _ _ _ _ _ _ _ rfl) (by intro u hu; simp at hu; rcases hu with rfl | rfl | rfl | rfl <;> rfl) (by decide) (by unfold maxLen; omega) (by omega) (by rw [s5]; omega) (w3.heap.size + 1) (s5 _) ?_; intro g2 cap2 w6 hown6 hgr6 hat6 hlt6)
              have HO6 : Hid (w6.ownsRow wn.heap.size 35 4 (.slice (some ⟨g2, 0, none⟩) (M.length + 1) cap2) (outN S (L.take (i + 1))).length (flatA ((outN S (L.take (i + 1))).map declA))) := Lib.hid (by
                rw [HX.out, List.length_append, List.map_append]
                show w6.ownsRow _ _ _ _ _ (flatA (List.map declA M ++ [declA (x, u)]))
                rw [flatA_snoc, HDA.out]
                exact hown6)
              have HB6 : Hid (Below wn.heap.size wn w6) := Lib.hid ((HB3.out.alloc HB3.out.size _).grown hgr6 (by rw [s5]; have := HB3.out.size; omega) (fun q hq => (own5.lt q hq).1))
              clear hown6 hgr6 hat6 hlt6 own5 s5
              go_wp2
              go_roundw
              case rel => exact ⟨i + 1, by omega, by go_num, HB6, HO6⟩
              case measure => simp [intOf]; omega
        · obtain rfl : i = L.length := by omega
          have g0 : decide (L.length < L.length) = false := decide_eq_false (by omega)
          have HE : Hid (AtsAt (fun k => w.heap.size ≤ k) wr (.slice oa' (outN S (L.take L.length)).length oc') ((allS S).map declA) ∧ Below w.heap.size w wr) := Lib.hid (by
            refine ⟨?_, HB.out.trans (HBn.out.mono hwz)⟩
            have e : allS S = outN S (L.take L.length) := by rw [List.take_length, ← HL.out]; rfl
            rw [e]
            refine ats_of_own (base := wn.heap.size) ?_ fun k hk _ => by omega
            rw [List.length_map]
            exact HOut.out)
          generalize outN S (L.take L.length) = M at HE HOut
          go_wp2
          go_ret
          exact ⟨_, rfl, HE.out⟩
    · have HS2 : Hid (S = pre' ++ lv :: rest) := Lib.hid (by rw [HS.out]; simp)
      have hrS : rest.length < S.length := by rw [HS2.out]; simp; omega
      have i1 : (0 : Int) ≤ (rest.length : Int) := by omega
      have i2 : (rest.length : Int) < (S.length : Int) := by omega
      have hlv : lv.length ≤ 8 := HSM.out lv (by rw [HS2.out]; simp)
      obtain ⟨ob, oo, rfl, hob, sw, hsw, hat⟩ := H.out.at HS2.out
      obtain ⟨sa, sc, rfl⟩ := hat.slice
      have hlm : (lv.map declA).length = lv.length := List.length_map _
      rw [hlm] at hsw
      have HO1 := Lib.hid (fun V (hb : Below w.heap.size w V) => show V.cell? ⟨ob, oo + rest.length, none⟩ = some (.slice sa lv.length sc) from (hb.cell (p := ⟨ob, oo + rest.length, none⟩) hob).trans hsw)
      have HA := Lib.hid hat
      have HLM := Lib.hid hlm
      clear hsw hat hob hlm
      go_wp2_with fail
      go_loopw [3, 5] (fun nv kv wr => ∃ (k : Nat) (L : List Nm), k ≤ lv.length ∧ kv = .int .i64 k ∧ Below w.heap.size w wr ∧ Hid (allN (lv :: rest) = insAll (lv.drop k) L) ∧ Hid (L.Pairwise (· < ·)) ∧ 0 < L.length ∧ L.length ≤ 1 + 8 * rest.length + k ∧ Hid (NamesV wr w.heap.size nv L)) (fun _ kv _ => lv.length - (intOf kv).toNat)
      case atStart => exact ⟨0, L, Nat.zero_le _, rfl, HB.out, Lib.hid (by rw [← HL.out]; rfl), Lib.hid (by rw [← HL.out]; exact sorted_allN rest), hL0, by omega, HO⟩
      case round =>
        clear HO HL hL0 hL1 c0 HB
        obtain ⟨k, L, hk, rfl, hbe, HL, HP, hL0, hL1, HO⟩ := hrel
        have HB := Lib.hid hbe
        have c0 := HC.out _ hbe
        have c1 := HO1.out _ hbe
        clear hbe
        by_cases hlt : k < lv.length
        · obtain ⟨b, hb⟩ : ∃ b, lv[k]? = some b := ⟨_, List.getElem?_eq_getElem hlt⟩
          have HST := Lib.hid (HL.out.trans (insAll_drop lv k b hb L))
          obtain ⟨ab, ao, rfl, _, _, hal, hc⟩ := HA.out.cell (by rw [HLM.out]; omega)
          obtain ⟨d0, d1, d2, d3⟩ := hc k (by rw [HLM.out]; exact hlt)
          rw [at4_decl _ _ _ hb] at d0 d1 d2 d3
          have CD := fun V => rdeclares_any (declA b) V
          simp only [dcP_declA, dcI_declA] at CD
          have HD := Lib.hid (fun V (hb : Below w.heap.size w V) (o : Nat) => hb.cell (p := ⟨ab, o, none⟩) hal)
          replace d0 := (HD.out _ HB.out _).trans d0
          replace d1 := (HD.out _ HB.out _).trans d1
          replace d2 := (HD.out _ HB.out _).trans d2
          replace d3 := (HD.out _ HB.out _).trans d3
          generalize declA b = A at CD d0 d1 d2 d3
          obtain ⟨p, u⟩ := b
          have CD := Lib.hid CD
          have k1 : (0 : Int) ≤ (k : Int) := by omega
          have k2 : (k : Int) < (lv.length : Int) := by omega
          clear hb hc hal
          dsimp only at CD HST
          go_wp2_with fail
          refine (CD.out _).mono ?_
          rintro e w3 ⟨rfl, hb3⟩
          have HB3 := Lib.hid (HB.out.trans (hb3.mono HB.out.size))
          have HO3 := Lib.hid (names_below HO.out hb3)
          clear hb3 CD d0 d1 d2 d3 c0 c1 HO
          obtain ⟨g, gc, rfl, hg1, hg2, hgc, hgm, hcell⟩ := own_form14 HO3.out hL0
          have HCE := Lib.hid hcell
          clear hcell
          go_wp2
          go_loopw [8, 9, 10] (fun av tv jv wr => ∃ (j n : Nat) (t : Bool), j ≤ L.length ∧ n ≤ j ∧ jv = .int .i64 j ∧ av = .int .i64 n ∧ tv = .bool t ∧ Hid (PosL p L j n) ∧ Hid (decide (p ∈ L.take j) = t) ∧ wr = w3) (fun _ _ jv _ => L.length - (intOf jv).toNat)
          case atStart => exact ⟨0, 0, false, Nat.zero_le _, Nat.zero_le _, rfl, rfl, rfl, Lib.hid (PosL.zero p L), Lib.hid rfl, rfl⟩
          case round =>
            obtain ⟨j, n, t, hj, hnj, rfl, rfl, rfl, HPO, HT, rfl⟩ := hrel
            by_cases hjl : j < L.length
            · obtain ⟨x, hx⟩ : ∃ x, L[j]? = some x := ⟨_, List.getElem?_eq_getElem hjl⟩
              have e0 := HCE.out j _ (strV_at L j x hx)
              have j1 : (0 : Int) ≤ (j : Int) := by omega
              have j2 : (j : Int) < (L.length : Int) := by omega
              have HTS : Hid (decide (p ∈ L.take (j + 1)) = (t || decide (x = p))) := Lib.hid (by
                rw [List.take_add_one, hx, ← HT.out]
                by_cases h1 : p ∈ L.take j <;> by_cases h2 : p = x
                · simp [h2]
                · simp [h1]
                · simp [h2]
                · simp [h1, h2, Ne.symm h2])
              have q1 := s14l x p
              have q2 := s14q x p
              by_cases hxp : x < p
              · have HPN := Lib.hid (HPO.out.less HP.out hx hxp)
                rw [decide_eq_true hxp] at q1
                clear hx hxp
                generalize decide (x = p) = m at q2 HTS
                cases t
                all_goals
                  go_wp2
                  go_roundw
                  case rel => exact ⟨j + 1, j + 1, _, by omega, by omega, by go_num, by go_num, rfl, HPN, HTS, by first | trivial | rfl⟩
                  case measure => simp [intOf]; omega
              · have HPN := Lib.hid (HPO.out.more hx hxp)
                rw [decide_eq_false hxp] at q1
                clear hx hxp
                generalize decide (x = p) = m at q2 HTS
                cases t
                all_goals
                  go_wp2
                  go_roundw
                  case rel => exact ⟨j + 1, n, _, by omega, by omega, by go_num, rfl, rfl, HPN, HTS, by first | trivial | rfl⟩
                  case measure => simp [intOf]; omega
            · obtain rfl : j = L.length := by omega
              have g0 : decide (L.length < L.length) = false := decide_eq_false (by omega)
              rw [List.take_length] at HT
              cases t with
              | true =>
                have hm : p ∈ L := of_decide_eq_true HT.out
                have HNX : Hid (allN (lv :: rest) = insAll (lv.drop (k + 1)) L) := Lib.hid (by rw [HST.out, insN_mem p L HP.out hm])
                clear hm
                go_wp2
                go_roundw
                case rel => exact ⟨k + 1, L, by omega, by go_num, HB3.out, HNX, HP, hL0, by omega, HO3⟩
                case measure => simp [intOf]; omega
              | false =>
                have hm : p ∉ L := of_decide_eq_false HT.out
                have HEQ := Lib.hid (insN_pos1 p L n HPO.out hm)
                have HPX := Lib.hid (sorted_insN p L HP.out)
                have hIL := insN_lenR p L
                generalize insN p L = M at HST HEQ HPX hIL
                clear hm
                go_wp2_with fail
                have own3 := HO3.out
                have n1 : (0 : Int) ≤ (n : Int) := by omega
                have n2 : (n : Int) ≤ (gc : Int) := by omega
                have n3 : (n : Int) ≤ (L.length : Int) := by omega
                have HOA : Hid ((wr.alloc (.cells #[] 9)).drew.ownsRow wr.heap.size 9 1 (.slice (some ⟨wr.heap.size, 0, none⟩) 0 0) 0 []) := Lib.hid (World.ownsRow_lit (base := wr.heap.size) (e := 9) (size := 1) wr #[] 0 (Nat.le_refl _) (by decide) rfl)
                have HBA : Hid (Below wr.heap.size wr (wr.alloc (.cells #[] 9)).drew) := Lib.hid ((Below.refl wr.heap.size wr).alloc (Nat.le_refl _) (.cells #[] 9)).drew
                have HOB : Hid (((wr.alloc (.cells #[] 9)).alloc (.cells #[.string (bytes p)] 9)).drew.ownsRow wr.heap.size 9 1 (.slice (some ⟨wr.heap.size, 0, none⟩) 0 0) 0 []) := Lib.hid (World.ownsRow.alloc HOA.out (.cells #[.string (bytes p)] 9))
                have HBB : Hid (Below wr.heap.size wr ((wr.alloc (.cells #[] 9)).alloc (.cells #[.string (bytes p)] 9)).drew) := Lib.hid (((Below.refl wr.heap.size wr).alloc (Nat.le_refl _) (.cells #[] 9)).alloc (by rw [dsize1]; omega) (.cells #[.string (bytes p)] 9)).drew
                have HOC : Hid (((wr.alloc (.cells #[.string (bytes p)] 9)).alloc (.cells #[] 9)).drew.ownsRow wr.heap.size 9 1 (.slice (some ⟨wr.heap.size + 1, 0, none⟩) 0 0) 0 []) := Lib.hid (by
                  have h := World.ownsRow_lit (base := wr.heap.size) (e := 9) (size := 1) (wr.alloc (.cells #[.string (bytes p)] 9)) #[] 0 (by rw [dsize1]; omega) (by decide) rfl
                  rw [dsize1] at h
                  exact h)
                have HBC : Hid (Below wr.heap.size wr ((wr.alloc (.cells #[.string (bytes p)] 9)).alloc (.cells #[] 9)).drew) := Lib.hid (((Below.refl wr.heap.size wr).alloc (Nat.le_refl _) (.cells #[.string (bytes p)] 9)).alloc (by rw [dsize1]; omega) (.cells #[] 9)).drew
                have hz1 : (wr.alloc (.cells #[] 9)).drew.heap.size = wr.heap.size + 1 := dsize1 _ _
                have hz2 : ((wr.alloc (.cells #[] 9)).alloc (.cells #[.string (bytes p)] 9)).drew.heap.size = wr.heap.size + 1 + 1 := dsize2 _ _ _
                have hz3 : ((wr.alloc (.cells #[.string (bytes p)] 9)).alloc (.cells #[] 9)).drew.heap.size = wr.heap.size + 1 + 1 := dsize2 _ _ _
                have HZ := Lib.hid (And.intro hz1 (And.intro hz2 hz3))
                clear hz1 hz2 hz3
                have HT1 := Lib.hid (fun V (hb : Below wr.heap.size wr V) => show ∀ j u, ((strV L).take n)[j]? = some u → V.cell? ((⟨g, 0, none⟩ : Addr).add j) = some u from by
                  intro j u hu
                  rw [Go.WideShapes.add_plain, Nat.zero_add]
                  refine (hb.cell (p := ⟨g, j, none⟩) hg2).trans (HCE.out j u ?_)
                  rw [List.getElem?_take] at hu
                  split at hu
                  · exact hu
                  · cases hu)
                obtain ⟨ad, had, hT2⟩ : ∃ ad : Addr, (if gc = n then some (⟨g, 0, none⟩ : Addr) else some ⟨g, n, none⟩) = some ad ∧ ∀ V, Below wr.heap.size wr V → ∀ j u, ((strV L).drop n)[j]? = some u → V.cell? (ad.add j) = some u := by
                  by_cases hgn : gc = n
                  · refine ⟨⟨g, 0, none⟩, if_pos hgn, fun V hb j u hu => ?_⟩
                    rw [List.getElem?_drop] at hu
                    have := (List.getElem?_eq_some_iff.1 hu).1
                    rw [strV_len] at this
                    omega
                  · refine ⟨⟨g, n, none⟩, if_neg hgn, fun V hb j u hu => ?_⟩
                    rw [Go.WideShapes.add_plain]
                    refine (hb.cell (p := ⟨g, n + j, none⟩) hg2).trans (HCE.out (n + j) u ?_)
                    rw [List.getElem?_drop] at hu
                    exact hu
                have HT2 := Lib.hid hT2
                clear hT2
                have HLT : Hid (((strV L).take n).length = n) := Lib.hid (by rw [List.length_take, strV_len]; omega)
                have HLD : Hid (((strV L).drop n).length = L.length - n) := Lib.hid (by rw [List.length_drop, strV_len])
                have H1T : Hid (∀ u ∈ (strV L).take n, u.oneCell' = true) := Lib.hid (fun u hu => strV_one L u (List.mem_of_mem_take hu))
                have H1D : Hid (∀ u ∈ (strV L).drop n, u.oneCell' = true) := Lib.hid (fun u hu => strV_one L u (List.mem_of_mem_drop hu))
                have hL26 : L.length ≤ 300 := by omega
                go_region_law (first
                  | (refine step_names rfl _ _ rfl wr.heap.size _ 0 [] rfl HOA.out ⟨g, 0, none⟩ n gc ((strV L).take n) rfl HLT.out (HT1.out _ HBA.out) H1T.out (by omega) wr HBA.out (by rw [HZ.out.1]; omega) ?_; intro v4 w4 own4 b4 g4)
                  | (refine step_names rfl _ _ rfl wr.heap.size _ 0 [] rfl HOB.out ⟨g, 0, none⟩ n gc ((strV L).take n) rfl HLT.out (HT1.out _ HBB.out) H1T.out (by omega) wr HBB.out (by rw [HZ.out.2.1]; omega) ?_; intro v4 w4 own4 b4 g4; have c4 : w4.cell? ⟨wr.heap.size + 1, 0, none⟩ = some (.string (bytes p)) := (g4.cell_far ⟨wr.heap.size + 1, 0, none⟩ (by rw [HZ.out.2.1]; show wr.heap.size + 1 < _; omega) (by intro e; injection e with e; simp at e)).trans (dnew _ _ _ _ _ _ (dsize1 _ _) rfl))
                  | (refine step_names rfl _ _ rfl wr.heap.size _ 0 [] rfl HOC.out ⟨g, 0, none⟩ n gc ((strV L).take n) rfl HLT.out (HT1.out _ HBC.out) H1T.out (by omega) wr HBC.out (by rw [HZ.out.2.2]; omega) ?_; intro v4 w4 own4 b4 g4; have c4 : w4.cell? ⟨wr.heap.size, 0, none⟩ = some (.string (bytes p)) := (g4.cell_far ⟨wr.heap.size, 0, none⟩ (by rw [HZ.out.2.2]; show wr.heap.size < _; omega) (by intro e; injection e with e; simp at e)).trans (dkeep1 (dnew _ _ _ _ _ _ rfl rfl)))
                  | (refine step_names rfl _ _ rfl wr.heap.size _ _ _ rfl (own4.alloc _) ⟨w4.heap.size, 0, none⟩ 1 1 [.string (bytes p)] rfl rfl (cells_one14 _ _ _ _ rfl) (by intro u hu; simp at hu; subst hu; rfl) (by omega) wr (b4.alloc b4.size _) (by rw [dsize1]; have := b4.size; omega) ?_; intro v5 w5 own5 b5 g5)
                  | (refine step_names rfl _ _ rfl wr.heap.size _ _ _ rfl own4 ⟨_, 0, none⟩ 1 1 [.string (bytes p)] rfl rfl (one_cell14 c4) (by intro u hu; simp at hu; subst hu; rfl) (by omega) wr b4 b4.size ?_; intro v5 w5 own5 b5 g5)
                  | (refine step_names rfl _ _ rfl wr.heap.size _ _ _ rfl own5 ad (L.length - n) (gc - n) ((strV L).drop n) rfl HLD.out (HT2.out _ b5) H1D.out (by omega) wr b5 b5.size ?_; intro v6 w6 own6 b6 g6))
                all_goals
                  have HB6 : Hid (Below w.heap.size w w6) := Lib.hid (HB3.out.trans (b6.mono HB3.out.size))
                  have HO6 : Hid (NamesV w6 w.heap.size v6 M) := Lib.hid (by
                    have h := own_mono14 own6 HB3.out.size
                    rw [List.nil_append, Nat.zero_add, ← HEQ.out.1, ← HEQ.out.2] at h
                    exact h)
                  have hML := HEQ.out.2
                  clear own4 own5 own6 b4 b5 b6 g4 g5 g6 own3 had
                  go_wp2
                  go_roundw
                  case rel => exact ⟨k + 1, M, by omega, by go_num, HB6.out, HST, HPX, by omega, by omega, HO6⟩
                  case measure => simp [intOf]; omega
        · obtain rfl : k = lv.length := by omega
          have g0 : decide (lv.length < lv.length) = false := decide_eq_false (by omega)
          have HE : Hid (allN (lv :: rest) = L) := Lib.hid (by rw [HL.out, List.drop_length]; rfl)
          go_wp2
          go_roundw
          case rel => exact ⟨pre', lv :: rest, L, HS2, by simp; omega, by go_num, HB.out, HE, hL0, by simp; omega, HO⟩
          case measure => simp [intOf]; omega
end Go.Proofs.Ythhnpnjnlbjdjaa
