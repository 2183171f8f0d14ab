/-
  LAW ScopeAll.
-/
import Derived.Test.YthhnpnjnlbjdjaaRfDecl
import Derived.Test.YthhnpnjnlbjdjaaScRules
namespace Go.Proofs.Ythhnpnjnlbjdjaa
open Go.RowKit

theorem rdecls4 (v : Value) (zs : List Int) (W : World) (hz : IntsV W v zs) :
    Calls Try.prog 10 #[v, .int .i64 4] W fun e w' => ∃ sl, e = .returned sl ∧ Below W.heap.size W w' ∧ AtsAt (fun k => W.heap.size ≤ k) w' sl (declsZ zs 4) := rdecls_any v zs 4 (by decide) W hz
theorem at4I_map (l : List Bd) (i : Nat) (b : Bd) (h : l[i]? = some b) : at4I (l.map declA) i = declA b := by
  unfold at4I
  rw [List.getD_eq_getElem?_getD, List.getElem?_map, h]
  rfl
theorem names7_at (i : Nat) (hi : i < 7) : (#[Value.string ⟨#[]⟩, .string ⟨#[112]⟩, .string ⟨#[113]⟩, .string ⟨#[97]⟩, .string ⟨#[98]⟩, .string ⟨#[114]⟩, .string ⟨#[120, 109, 108]⟩] : Array Value)[i]? = some (.string (bytes (names7.getD i []))) := by
  rcases (show i = 0 ∨ i = 1 ∨ i = 2 ∨ i = 3 ∨ i = 4 ∨ i = 5 ∨ i = 6 by omega) with rfl | rfl | rfl | rfl | rfl | rfl | rfl <;> rfl
set_option maxHeartbeats 4000000 in
set_option maxRecDepth 100000 in
theorem all_any {Is : (Nat → Prop) → World → Value → List (List Bd) → Prop} (R : ScSaid Is) (v : Value) (W : World) (hv : OpsArg W v) :
    Calls Try.prog 3 #[v] W fun e w' => e = .returned (.bool true) ∧ Below W.heap.size W w' := by
  obtain ⟨va, vc, ops, rfl, hol, hops⟩ := hv
  have HOPS := Lib.hid hops
  have CT := Lib.hid (fun V => told14_any R V)
  clear hops
  go_enter Try.func3, Try.ntmps3
  go_wp2_with fail
  refine (snewAt (w0 := W) R (Below.refl _ _)).mono ?_
  rintro e w1 ⟨q, rfl, h⟩
  have H := Lib.hid h
  clear h
  go_wp2
  go_loopw [4] (fun iv wr => ∃ (i : Nat) (S : List (List Bd)), i ≤ ops.length ∧ i ≤ 6 ∧ S.length ≤ i ∧ iv = .int .i64 i ∧ Hid (NamesD S ∧ SAt Is W (.pointer (some q)) (fun _ => False) W S wr)) (fun iv _ => 6 - (intOf iv).toNat)
  case atStart => exact ⟨0, [], Nat.zero_le _, Nat.zero_le _, Nat.zero_le _, rfl, Lib.hid ⟨namesD_nil, H.out⟩⟩
  case round =>
    obtain ⟨i, S, hi, hi6, hSi, rfl, HR⟩ := hrel
    by_cases hlt : i < ops.length ∧ i < 6
    · obtain ⟨hlt1, hlt2⟩ := hlt
      obtain ⟨ob, oo, rfl, hbl, hcells⟩ := HOPS.out.resolve_left (fun e => by rw [e] at hlt1; simp at hlt1)
      obtain ⟨_, lv, hc1, hints⟩ := hcells i hlt1
      have c1 : wr.cell? ⟨ob, oo + i * 2 + 1, none⟩ = some lv := (HR.out.2.since.cell (p := ⟨ob, oo + i * 2 + 1, none⟩) hbl).trans hc1
      have HI := Lib.hid (hints.below HR.out.2.since)
      have j1 : (0 : Int) ≤ (i : Int) := by omega
      have j2 : (i : Int) < (ops.length : Int) := by omega
      have j3 : (i : Int) < 6 := by omega
      clear hcells hc1 hints
      go_wp2_with fail
      refine (rdecls4 lv _ _ HI.out).mono ?_
      rintro e w3 ⟨sl, rfl, hb3, hats⟩
      have CP := Lib.hid (spushAt R _ sl (by omega) (by have := declsZ_few (op14I ops i).2 4 (by decide); omega) (declsZ_fit _ _) HR.out.2 hb3 hats)
      have HN := Lib.hid (HR.out.1.push (op14I ops i).2 4)
      have hl1 := push_len S (declsZ (op14I ops i).2 4)
      clear hb3 hats c1
      generalize pushE (declsZ (op14I ops i).2 4) = pe at CP
      generalize pushS S (declsZ (op14I ops i).2 4) = S' at CP HN hl1
      go_wp2_with fail
      refine CP.out.mono ?_
      rintro e w4 ⟨rfl, hs4⟩
      have H4 := Lib.hid (show NamesD S' ∧ SAt Is W (.pointer (some q)) (fun _ => False) W S' w4 from ⟨HN.out, hs4⟩)
      clear hs4 CP
      go_wp2
      go_roundw
      case rel => exact ⟨i + 1, S', by omega, by omega, by omega, by go_num, H4⟩
      case measure => simp [intOf]; omega
    · have hex : (decide (i < ops.length) = false) ∨ (i < ops.length ∧ i = 6) := by
        by_cases h : i < ops.length
        · exact Or.inr ⟨h, by omega⟩
        · exact Or.inl (decide_eq_false h)
      clear hlt
      rcases hex with hex | ⟨hex, rfl⟩
      all_goals
        (try have hex3 : ((6 : Nat) : Int) < (ops.length : Int) := by omega)
        have CA := Lib.hid (sallAt R HR.out.2)
        go_wp2_with fail
        refine CA.out.mono ?_
        rintro e w2 ⟨sl, rfl, K, h2, ha, _⟩
        have H2 := Lib.hid h2
        have HA := Lib.hid ha
        obtain ⟨sa, sc, rfl⟩ := ha.slice
        have hl7 := all_len HR.out.1
        have hlm : ((allS S).map declA).length = (allS S).length := List.length_map _
        rw [hlm]
        clear h2 ha CA
        go_wp2
        go_loopw [6] (fun jv wb => ∃ j : Nat, j ≤ (allS S).length ∧ jv = .int .i64 j ∧ Hid (SAt Is W (.pointer (some q)) K w2 S wb)) (fun jv _ => (allS S).length - (intOf jv).toNat)
        case atStart => exact ⟨0, Nat.zero_le _, rfl, H2⟩
        case round =>
          obtain ⟨j, hj, rfl, HB⟩ := hrel
          have hj7 : j ≤ 7 := by omega
          by_cases hlj : j < (allS S).length
          · obtain ⟨⟨p, u⟩, hb⟩ : ∃ b, (allS S)[j]? = some b := ⟨_, List.getElem?_eq_getElem hlj⟩
            have hm : (p, u) ∈ allS S := List.mem_of_getElem? hb
            obtain ⟨hU, hI, hu⟩ := uri_all hm
            obtain ⟨_, hul, hpl⟩ := HR.out.2.nice.look (mem_allS.1 hm).1
            have hx := HB.out.ats HA.out
            obtain ⟨ab, ao, rfl, _, _, _, hc⟩ := hx.cell (by rw [hlm]; omega)
            obtain ⟨c0, c1, c2, c3⟩ := hc j (by rw [hlm]; exact hlj)
            rw [at4I_map _ _ _ hb] at c0 c1 c2 c3
            rw [declA_val] at c3
            have HC := Lib.hid (fun V (hs : SAt Is W (.pointer (some q)) K w2 S V) => show V.cell? ⟨ab, ao + j * 4 + 3, none⟩ = some (.string (bytes u)) from by
              obtain ⟨b', o', e1, _, _, _, hc'⟩ := (hs.ats HA.out).cell (by rw [hlm]; omega)
              injection e1 with e1
              injection e1 with e1 e2 _
              subst e1; subst e2
              have h9 := (hc' j (by rw [hlm]; exact hlj)).2.2.2
              rw [at4I_map _ _ _ hb, declA_val] at h9
              exact h9)
            have CD := fun V => rdeclares_any (declA (p, u)) V
            simp only [dcP_declA, dcI_declA, declA_val] at CD
            generalize declA (p, u) = A at CD c0 c1 c2
            have CD := Lib.hid CD
            have cu : (bytes u).toList.isEmpty = false := s14ef hu
            have cq : ((bytes u).toList == (bytes u).toList) = true := bytesL_eq u
            have k1 : (0 : Int) ≤ (j : Int) := by omega
            have k2 : (j : Int) < ((allS S).length : Int) := by omega
            have HM := Lib.hid hm
            clear hb hx hc hm hu hl7
            go_wp2_with fail
            refine (CD.out _).mono ?_
            rintro e w3 ⟨rfl, hb3⟩
            have H3 := Lib.hid (HB.out.other R hb3)
            have CU := Lib.hid (suriAt R p hpl H3.out)
            rw [hU, hI] at CU
            clear hb3 c0 c1 c2 c3 hU hI CD
            go_wp2_with fail
            refine CU.out.mono ?_
            rintro e w4 ⟨rfl, hs4⟩
            have H4 := Lib.hid hs4
            have c4 := HC.out w4 hs4
            have CP := Lib.hid (sprefAt R u hul hs4)
            clear hs4 CU
            by_cases hp : p = []
            · have ce : (bytes p).toList.isEmpty = true := s14et hp
              generalize prefS S u = Q at CP
              generalize prefE S u = E at CP
              clear hp
              go_wp2_with fail
              refine CP.out.mono ?_
              rintro e w5 ⟨rfl, hs5⟩
              have H5 := Lib.hid hs5
              clear hs5 CP
              go_wp2
              go_roundw
              case rel => exact ⟨j + 1, by omega, by go_num, H5⟩
              case measure => simp [intOf]; omega
            · have ce : (bytes p).toList.isEmpty = false := s14ef hp
              obtain ⟨hE, hQ⟩ := pref_le HM.out hp
              rw [hE] at CP
              generalize prefS S u = Q at CP hQ
              obtain ⟨L, M, hL, hM, hLM⟩ : ∃ L M : Bool, Op.bytesLess (bytes Q).toList (bytes p).toList = L ∧ ((bytes Q).toList == (bytes p).toList) = M ∧ ((L = true ∧ M = false) ∨ (L = false ∧ M = true)) := by
                refine ⟨_, _, s14l Q p, s14q Q p, ?_⟩
                by_cases e : Q = p
                · subst e
                  exact Or.inr ⟨decide_eq_false (nm_lt_irrefl _), decide_eq_true rfl⟩
                · exact Or.inl ⟨decide_eq_true (nm_tri _ _ (fun h => e h.symm) hQ), decide_eq_false e⟩
              clear hp hE hQ
              rcases hLM with ⟨rfl, rfl⟩ | ⟨rfl, rfl⟩
              all_goals
                go_wp2_with fail
                refine CP.out.mono ?_
                rintro e w5 ⟨rfl, hs5⟩
                have H5 := Lib.hid hs5
                clear hs5 CP
                go_wp2
                go_roundw
                case rel => exact ⟨j + 1, by omega, by go_num, H5⟩
                case measure => simp [intOf]; omega
          · obtain rfl : j = (allS S).length := by omega
            have g1 : decide ((allS S).length < (allS S).length) = false := decide_eq_false (by omega)
            have hbn := (Below.refl wr.heap.size wr).alloc (Nat.le_refl _) (.cells #[Value.string ⟨#[]⟩, .string ⟨#[112]⟩, .string ⟨#[113]⟩, .string ⟨#[97]⟩, .string ⟨#[98]⟩, .string ⟨#[114]⟩, .string ⟨#[120, 109, 108]⟩] 9)
            have HBN := Lib.hid (HB.out.more R hbn)
            have hnb : ∀ x, x < 7 → (wr.alloc (.cells #[Value.string ⟨#[]⟩, .string ⟨#[112]⟩, .string ⟨#[113]⟩, .string ⟨#[97]⟩, .string ⟨#[98]⟩, .string ⟨#[114]⟩, .string ⟨#[120, 109, 108]⟩] 9)).cell? ⟨wr.heap.size, x, none⟩ = some (.string (bytes (names7.getD x []))) := fun x hx => dnew _ _ _ _ _ _ rfl (names7_at x hx)
            have hnl := dsize1 wr (.cells #[Value.string ⟨#[]⟩, .string ⟨#[112]⟩, .string ⟨#[113]⟩, .string ⟨#[97]⟩, .string ⟨#[98]⟩, .string ⟨#[114]⟩, .string ⟨#[120, 109, 108]⟩] 9)
            go_wp2_with fail
            obtain ⟨wn, hwn⟩ : ∃ wn, wr.alloc (.cells #[Value.string ⟨#[]⟩, .string ⟨#[112]⟩, .string ⟨#[113]⟩, .string ⟨#[97]⟩, .string ⟨#[98]⟩, .string ⟨#[114]⟩, .string ⟨#[120, 109, 108]⟩] 9) = wn := ⟨_, rfl⟩
            rw [hwn] at HBN hnb hnl ⊢
            clear hbn hwn
            have HK := Lib.hid (fun V (hs : SAt Is W (.pointer (some q)) (fun k => K k ∨ (wr.heap.size ≤ k ∧ k < wn.heap.size)) wn S V) (x : Nat) (hx : x < 7) => show V.cell? ⟨wr.heap.size, x, none⟩ = some (.string (bytes (names7.getD x []))) from (World.cell?_of_block (a := ⟨wr.heap.size, x, none⟩) (hs.keepK wr.heap.size (Or.inr ⟨Nat.le_refl _, by omega⟩))).trans (hnb x hx))
            have HS := Lib.hid HR.out.1
            clear hnb hnl g1
            generalize wr.heap.size = nb at HK HBN ⊢
            go_loopw [14, 15] (fun nv iv wc => ∃ i : Nat, i ≤ 7 ∧ nv = .int .i64 (cntS S i) ∧ iv = .int .i64 i ∧ Hid (SAt Is W (.pointer (some q)) (fun k => K k ∨ (nb ≤ k ∧ k < wn.heap.size)) wn S wc)) (fun _ iv _ => 7 - (intOf iv).toNat)
            case atStart => exact ⟨0, by omega, rfl, rfl, HBN⟩
            case round =>
              obtain ⟨i', hi', rfl, rfl, HL⟩ := hrel
              have hcl := cntS_le S i'
              by_cases hl7 : i' < 7
              · have k1 : (0 : Int) ≤ (i' : Int) := by omega
                have k2 : (i' : Int) < 7 := by omega
                have hcs := cntS_succ S i' hl7
                have hpl := names7_len i'
                have c1 := HK.out _ HL.out i' hl7
                have HI := Lib.hid (fun h => hasS_is (S := S) (p := names7.getD i' []) h)
                have hh : hasS S (names7.getD i' []) = decide (uriS S (names7.getD i' []) ≠ []) := rfl
                generalize names7.getD i' [] = p at hcs hpl c1 HI hh
                have CU := Lib.hid (suriAt R p hpl HL.out)
                generalize uriS S p = u at CU hh
                cases hhs : hasS S p with
                | true =>
                  rw [HI.out hhs] at CU
                  rw [if_pos hhs] at hcs
                  have cu : (bytes u).toList.isEmpty = false := s14ef (of_decide_eq_true (hh.symm.trans hhs))
                  clear hh hhs
                  go_wp2_with fail
                  refine CU.out.mono ?_
                  rintro e w5 ⟨rfl, hs5⟩
                  have H5 := Lib.hid hs5
                  clear hs5 CU
                  go_wp2
                  go_roundw
                  case rel => exact ⟨i' + 1, by omega, by rw [hcs]; go_num, by go_num, H5⟩
                  case measure => simp [intOf]; omega
                | false =>
                  rw [if_neg (by rw [hhs]; decide)] at hcs
                  have hu : u = [] := Decidable.byContradiction fun h => by
                    have := hh.symm.trans hhs
                    rw [decide_eq_true h] at this
                    cases this
                  have cu : (bytes u).toList.isEmpty = true := s14et hu
                  clear hh hhs hu
                  generalize isS S p = b at CU
                  cases b
                  all_goals
                    go_wp2_with fail
                    refine CU.out.mono ?_
                    rintro e w5 ⟨rfl, hs5⟩
                    have H5 := Lib.hid hs5
                    clear hs5 CU
                    go_wp2
                    go_roundw
                    case rel => exact ⟨i' + 1, by omega, by rw [hcs]; rfl, by go_num, H5⟩
                    case measure => simp [intOf]; omega
              · obtain rfl : i' = 7 := by omega
                rw [cntS_all HS.out]
                go_wp2_with fail
                refine (CT.out _).mono ?_
                rintro e w5 ⟨rfl, hb5⟩
                have HE := Lib.hid (HL.out.since.trans (hb5.mono HL.out.since.size))
                clear hb5
                go_wp2
                go_ret
                exact ⟨rfl, HE.out⟩
end Go.Proofs.Ythhnpnjnlbjdjaa
