/-
  THE LANDED PACKAGE scope: Push, walked.
-/
import Derived.Test.YthhnpnjnlbjdjaaRunSPush
namespace Go.Proofs.Ythhnpnjnlbjdjaa
open Go.RowKit

theorem nice_at {S : List (List Bd)} {l : List At4} {lv : List Bd} {i : Nat} (hN : NiceS S) (hfew : S.length < 1048576) (hl : l.length ≤ 1048576) (hi : i ≤ l.length) (hfit : ∀ a ∈ l, FitA a) (h : bindsL [] (l.take i) = some lv) : NiceS (lv :: S) ∧ lv.length ≤ i := by
  obtain ⟨h1, h2⟩ := niceL_nil.binds (fun a ha => hfit a (List.mem_of_mem_take ha)) h
  rw [List.length_take, List.length_nil] at h2
  exact ⟨hN.cons hfew (by omega) h1.may h1.apart h1.sizes, by omega⟩
theorem at4_mem {l : List At4} {i : Nat} (h : i < l.length) : at4I l i ∈ l ∧ l.take (i + 1) = l.take i ++ [at4I l i] := by
  have e : at4I l i = l[i] := by unfold at4I; rw [List.getD_eq_getElem?_getD, List.getElem?_eq_getElem h]; rfl
  rw [e]
  exact ⟨List.getElem_mem h, List.take_succ_eq_append_getElem h⟩
theorem addB_none {lv : List Bd} {a : At4} (h : declB a = none) : addB lv a = some lv := by unfold addB; rw [h]
theorem addB_yes {lv : List Bd} {a : At4} {b : Bd} (h : declB a = some b) (hc : mayB b = true ∧ inLv lv b.1 = none) : addB lv a = some (lv ++ [b]) := by unfold addB; rw [h]; exact if_pos hc
theorem addB_no {lv : List Bd} {a : At4} {b : Bd} (h : declB a = some b) (hc : ¬ (mayB b = true ∧ inLv lv b.1 = none)) : addB lv a = none := by unfold addB; rw [h]; exact if_neg hc
set_option maxHeartbeats 2000000 in
set_option maxRecDepth 100000 in
theorem rpush_any (F : Nat → Prop) (v : Value) (S : List (List Bd)) (l : List At4) (sl : Value) (w : World) (hN : NiceS S) (hfew : S.length < 1048576) (hl : l.length ≤ 1048576) (hfit : ∀ a ∈ l, FitA a) (h : IsSc F w v S) (ha : AtsAt (fun k => ¬ F k) w sl l) :
    Calls Try.prog 9 #[v, sl] w (GaveS IsSc F v (pushS S l) (.int .i64 (pushE l)) w) := by
  obtain ⟨sb, T, VN, vl, rfl, rfl, h14⟩ := isSc_open h
  obtain ⟨vm, b0, hp⟩ := h14.parts
  obtain ⟨sa, sc, rfl⟩ := ha.slice
  obtain ⟨a, cap, rfl⟩ := own_slice hp.sc.lev
  have hT : T.length < 1048576 := by rw [era_len] at hfew; exact hfew
  have c0 : w.cell? ⟨sb, 0, none⟩ = some (.slice a T.length cap) := hp.sc.box.cell (i := 0) (by decide)
  obtain ⟨i1, hi1, hz0, hz1, hz2⟩ := info_open info_sl
  obtain ⟨S', hS'⟩ : ∃ S', pushS (era T) l = S' := ⟨_, rfl⟩
  obtain ⟨rc, hrc⟩ : ∃ rc, pushE l = rc := ⟨_, rfl⟩
  rw [hS', hrc]
  have HS := Lib.hid hS'
  have HC := Lib.hid hrc
  have HP := Lib.hid hp
  have HA := Lib.hid ha
  have HN := Lib.hid hN
  have HFIT := Lib.hid hfit
  have own5 : w.ownsRow 0 74 1 (.slice a T.length cap) T.length VN.reverse := hp.sc.lev
  have h5 : Below w.heap.size w (w.alloc (.cells #[.slice none 0 0] 74)) := (Below.refl _ _).alloc (Nat.le_refl _) _
  have s5 : (w.alloc (.cells #[.slice none 0 0] 74)).heap.size = w.heap.size + 1 := by show (w.heap.push _).size = _; rw [Array.size_push]
  have hsb : (Value.slice a T.length cap).ownBlock ≠ some sb := fun e => row_own_ne hp.sc.box hp.sc.lev (by decide) sb e rfl
  have hsbl := hp.sc.box.lt
  clear hS' hrc hp ha hN hfit h h14 hfew
  go_enter Try.func9, Try.ntmps9
  go_wp2_with (at_builtin; refine wpList_append_lies _ rfl _ _ 51 rfl 0 74 i1 (.slice none 0 0) 1 24 Try.underlying51 hi1 hz0 hz1 hz2 rfl (by decide) _ _ _ rfl (own5.alloc _) ⟨w.heap.size, 0, none⟩ 1 1 [.slice none 0 0] rfl rfl (cell_one_s _ _ _ _ rfl) (by intro u hu; simp at hu; subst hu; rfl) (by decide) (by unfold maxLen; omega) (by omega) (Nat.zero_le _) (w.heap.size + 1) s5 ?_; intro g2 cap2 w6 hown6 hgr6 hat6 hlt6; have k6 : w6.cell? ⟨sb, 0, none⟩ = some (.slice a T.length cap) := hgr6.cell (h5.cell (p := ⟨sb, 0, none⟩) hsbl ▸ c0) (fun e => hsb e.symm); have fz6 : w6.frozen? ⟨sb, 0, none⟩ = false := (World.frozen?_of_block ((hgr6.block sb (by rw [s5]; omega) (fun e => hsb e.symm)).trans (h5.block sb hsbl))).trans (HP.out.sc.box.frozen 0))
  have HSN : Hid (Since F w (.pointer (some ⟨sb, 0, none⟩)) ([] :: era T) (w6.setCell ⟨sb, 0, none⟩ (.slice (some ⟨g2, 0, none⟩) (T.length + 1) cap2))) := Lib.hid (isSc_level HP.out rfl h5 hown6 hgr6 (hat6.imp id fun e => by omega))
  obtain ⟨W7, hW7⟩ : ∃ W7, w6.setCell ⟨sb, 0, none⟩ (.slice (some ⟨g2, 0, none⟩) (T.length + 1) cap2) = W7 := ⟨_, rfl⟩
  rw [hW7] at HSN ⊢
  clear hW7 hown6 hgr6 hat6 hlt6 k6 fz6 own5 h5 s5 hsb c0 hi1 hz0 hz1 hz2
  have HT : Hid ((era T).length < 1048576) := Lib.hid (by rw [era_len]; exact hT)
  go_loopw [22] (fun iv wr => ∃ (i : Nat) (lv : List Bd), i ≤ l.length ∧ iv = .int .i64 i ∧ Hid (bindsL [] (l.take i) = some lv) ∧ Hid (Since F w (.pointer (some ⟨sb, 0, none⟩)) (lv :: era T) wr)) (fun iv _ => l.length - (intOf iv).toNat)
  case atStart => exact ⟨0, [], Nat.zero_le _, rfl, Lib.hid rfl, HSN⟩
  case round =>
    obtain ⟨i, lv, hi, rfl, HBL, HSI⟩ := hrel
    by_cases hlt : i < l.length
    · obtain ⟨ab, aoff, rfl, _, hnF, hbl, hcells⟩ := HA.out.cell (by omega)
      obtain ⟨x, hx⟩ : ∃ x, at4I l i = x := ⟨_, rfl⟩
      have hmem := at4_mem hlt
      rw [hx] at hmem
      have hc := hcells i hlt
      rw [hx] at hc
      have HC4 : Hid (∀ W, Turns F w W → W.cell? ⟨ab, aoff + i * 4, none⟩ = some (.string (bytes x.pre)) ∧ W.cell? ⟨ab, aoff + i * 4 + 1, none⟩ = some (.string (bytes x.loc)) ∧ W.cell? ⟨ab, aoff + i * 4 + 2, none⟩ = some (.string (bytes x.uri)) ∧ W.cell? ⟨ab, aoff + i * 4 + 3, none⟩ = some (.string (bytes x.val))) := Lib.hid (by
        intro W hW
        have e : ∀ o, W.cell? ⟨ab, o, none⟩ = w.cell? ⟨ab, o, none⟩ := fun o => World.cell?_of_block (hW.block ab hbl hnF)
        rw [e, e, e, e]
        exact hc)
      have HM := Lib.hid hmem
      have HNI := Lib.hid (nice_at HN.out HT.out hl hi HFIT.out HBL.out)
      clear hc hcells hnF hbl hmem hx
      have hc4 : wr.cell? ⟨ab, aoff + i * 4, none⟩ = some (.string (bytes x.pre)) ∧ wr.cell? ⟨ab, aoff + i * 4 + 1, none⟩ = some (.string (bytes x.loc)) ∧ wr.cell? ⟨ab, aoff + i * 4 + 2, none⟩ = some (.string (bytes x.uri)) ∧ wr.cell? ⟨ab, aoff + i * 4 + 3, none⟩ = some (.string (bytes x.val)) := by
        obtain ⟨F', _, _, ht⟩ := HSI.out
        exact HC4.out wr ht
      obtain ⟨c1, c2, c3, c4⟩ := hc4
      have i1 : (0 : Int) ≤ (i : Int) := by omega
      have i2 : (i : Int) < (l.length : Int) := by omega
      have CD := Lib.hid (fun W => rdeclared_any x W (HFIT.out x HM.out.1))
      have hb7 := (Below.refl wr.heap.size wr).alloc (Nat.le_refl _) (.cells #[.string (bytes x.pre), .string (bytes x.loc), .string (bytes x.uri), .string (bytes x.val)] 35)
      have HB7 := Lib.hid hb7
      clear hb7
      cases hd : declB x with
      | none =>
        rw [hd] at CD
        have HBN : Hid (bindsL [] (l.take (i + 1)) = some lv) := Lib.hid (by rw [HM.out.2, bindsL_snoc, HBL.out]; exact addB_none hd)
        clear hd
        go_wp2_with fail
        refine (CD.out _).mono ?_
        rintro e w2 ⟨rfl, hb2⟩
        have HS2 := Lib.hid (HSI.out.other (HB7.out.trans (hb2.mono HB7.out.size)))
        clear hb2 CD
        dsimp only [declV]
        go_wp2
        go_roundw
        case rel => exact ⟨i + 1, lv, by omega, by go_num, HBN, HS2⟩
        case measure => simp [intOf]; omega
      | some b =>
        rw [hd] at CD
        have HD := Lib.hid hd
        clear hd
        go_wp2_with fail
        refine (CD.out _).mono ?_
        rintro e w2 ⟨rfl, hb2⟩
        have HS2 := Lib.hid (HSI.out.other (HB7.out.trans (hb2.mono HB7.out.size)))
        clear hb2 CD
        obtain ⟨F2, his2, hsub2, ht2⟩ := HS2.out
        have CB := Lib.hid (rbind_any b his2 HNI.out.1 (declB_fit (HFIT.out x HM.out.1) HD.out).1 (by have := HNI.out.2; omega))
        have HX2 := Lib.hid (show (∀ k, F2 k → F k ∨ (w.heap.size ≤ k ∧ k < w2.heap.size)) ∧ Turns F w w2 from ⟨hsub2, ht2⟩)
        clear his2 hsub2 ht2
        dsimp only [declV]
        by_cases hok : mayB b = true ∧ inLv lv b.1 = none
        · rw [if_pos hok, decide_eq_true hok] at CB
          have HBN : Hid (bindsL [] (l.take (i + 1)) = some (lv ++ [b])) := Lib.hid (by rw [HM.out.2, bindsL_snoc, HBL.out]; exact addB_yes HD.out hok)
          clear hok
          go_wp2_with fail
          refine CB.out.mono ?_
          intro e w3 hg
          obtain ⟨rfl, hs3⟩ := Since.gave HX2.out.1 HX2.out.2 hg
          have HS3 := Lib.hid hs3
          clear hs3 hg CB
          go_wp2
          go_roundw
          case rel => exact ⟨i + 1, lv ++ [b], by omega, by go_num, HBN, HS3⟩
          case measure => simp [intOf]; omega
        · rw [if_neg hok, decide_eq_false hok] at CB
          have HBN : Hid (bindsL [] l = none) := Lib.hid (by
            have h1 : bindsL [] (l.take (i + 1)) = none := by rw [HM.out.2, bindsL_snoc, HBL.out]; exact addB_no HD.out hok
            have h2 := bindsL_stop _ (l.drop (i + 1)) _ h1
            rwa [List.take_append_drop] at h2)
          clear hok
          go_wp2_with fail
          refine CB.out.mono ?_
          intro e w3 hg
          obtain ⟨rfl, hs3⟩ := Since.gave HX2.out.1 HX2.out.2 hg
          obtain ⟨F3, his3, hsub3, ht3⟩ := hs3
          have CP := Lib.hid (rpop_any F3 _ _ w3 HNI.out.1 his3)
          clear hg CB his3
          go_wp2_with fail
          refine CP.out.mono ?_
          intro e w4 hg
          obtain ⟨rfl, hs4⟩ := Since.gave hsub3 ht3 hg
          have HS4 := Lib.hid hs4
          clear hs4 hg CP hsub3 ht3
          have HE := Lib.hid (show S' = era T by rw [← HS.out]; unfold pushS; rw [HBN.out])
          have HR := Lib.hid (show rc = 2 by rw [← HC.out]; exact if_pos HBN.out)
          go_wp2
          go_ret
          rw [HE.out, HR.out]
          exact HS4.out.gaveS _
    · obtain rfl : i = l.length := by omega
      have hbn := HBL.out
      rw [List.take_length] at hbn
      have HE := Lib.hid (show S' = lv :: era T by rw [← HS.out]; unfold pushS; rw [hbn])
      have HR := Lib.hid (show rc = 0 by rw [← HC.out]; exact if_neg (by rw [hbn]; simp))
      have g1 : decide (l.length < l.length) = false := decide_eq_false (by omega)
      clear hbn
      go_wp2
      go_ret
      rw [HE.out, HR.out]
      exact HSI.out.gaveS _
end Go.Proofs.Ythhnpnjnlbjdjaa
