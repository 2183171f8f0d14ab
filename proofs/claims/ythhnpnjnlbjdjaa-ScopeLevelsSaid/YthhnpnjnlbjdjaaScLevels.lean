/-
  LAW ScopeLevels.
-/
import Derived.Test.YthhnpnjnlbjdjaaScOps
import Derived.Test.YthhnpnjnlbjdjaaScRules
namespace Go.Proofs.Ythhnpnjnlbjdjaa
open Go.RowKit

def noneN : Nm := [110, 111, 110, 101]
/-- what the law writes down of a name -/
def txtS (S : List (List Bd)) (p : Nm) : Nm := if isS S p = true then uriS S p else noneN
def wasL (p : Nm) : List (List Bd) → List Nm
  | [] => []
  | _ :: r => wasL p r ++ [txtS r p]
theorem wasL_len (p : Nm) : ∀ S, (wasL p S).length = S.length
  | [] => rfl
  | _ :: r => by unfold wasL; rw [List.length_append, wasL_len p r]; rfl
/-- texts as cells -/
def strsV (l : List Nm) : List Value := l.map fun s => .string (bytes s)
theorem strsV_at (p : Nm) (lv : List Bd) (r : List (List Bd)) (l : List Nm) : (strsV (wasL p (lv :: r) ++ l))[r.length]? = some (.string (bytes (txtS r p))) := by
  unfold strsV wasL
  rw [List.getElem?_map, List.append_assoc, List.getElem?_append_right (by rw [wasL_len]; exact Nat.le_refl _), wasL_len, Nat.sub_self]
  rfl
theorem names5 (x : Nat) (hx : x < 5) : ∃ p : Nm, p.length ≤ 8388608 ∧ ([Value.string ⟨#[]⟩, .string ⟨#[112]⟩, .string ⟨#[113]⟩, .string ⟨#[97]⟩, .string ⟨#[98]⟩][x]'hx) = .string (bytes p) := by
  rcases (show x = 0 ∨ x = 1 ∨ x = 2 ∨ x = 3 ∨ x = 4 by omega) with rfl | rfl | rfl | rfl | rfl
  · exact ⟨[], by decide, rfl⟩
  · exact ⟨[112], by decide, rfl⟩
  · exact ⟨[113], by decide, rfl⟩
  · exact ⟨[97], by decide, rfl⟩
  · exact ⟨[98], by decide, rfl⟩
theorem info_st : (Try.prog.info? 9).map (fun i => (i.zero, i.size, i.bytes)) = some (some (.string ⟨#[]⟩), 1, 16) := by kernel_rfl
theorem cell_one14 (w : World) (x : Value) (t : TypeId) (n : Nat) (hn : w.heap.size = n) : ∀ j u, [x][j]? = some u → (w.alloc (.cells #[x] t)).cell? ((⟨n, 0, none⟩ : Addr).add j) = some u := by
  subst hn
  intro j u hu
  cases j with
  | zero =>
    simp at hu
    subst hu
    have e : (⟨w.heap.size, 0, none⟩ : Addr).add 0 = ⟨w.heap.size, 0, none⟩ := by unfold Addr.add; split <;> simp_all
    rw [e]
    exact cell_of_row _ _ 0 _ _ (0, 0) (heap_alloc_new w _)
  | succ j => simp at hu
theorem own_cell14 {w : World} {base : Nat} {t : TypeId} {n : Nat} {v : Value} {xs : List Value} (h : w.ownsRow base t 1 v n xs) {i : Nat} (hi : i < n) : ∃ g cap x, v = .slice (some ⟨g, 0, none⟩) n cap ∧ n ≤ cap ∧ xs[i]? = some x ∧ w.cell? ⟨g, i, none⟩ = some x := by
  have hl : xs.length = n := by have := h.1; omega
  rcases h.2 with ⟨_, rfl⟩ | ⟨g, cap, cur, rfl, _, _, hc, _⟩
  · omega
  · have hx : xs[i]? = some (xs[i]'(by omega)) := List.getElem?_eq_getElem (by omega)
    have hcell := h.cells (g := g) rfl i _ hx
    have hadd : (⟨g, 0, none⟩ : Addr).add i = ⟨g, i, none⟩ := by unfold Addr.add; split <;> simp_all
    rw [hadd] at hcell
    exact ⟨g, cap, _, rfl, hc, hx, hcell⟩
theorem rdecls3 (v : Value) (zs : List Int) (W : World) (hz : IntsV W v zs) :
    Calls Try.prog 10 #[v, .int .i64 3] W fun e w' => ∃ sl, e = .returned sl ∧ Below W.heap.size W w' ∧ AtsAt (fun k => W.heap.size ≤ k) w' sl (declsZ zs 3) := rdecls_any v zs 3 (by decide) W hz
theorem push_bad {l : List At4} (h : bindsL [] l = none) (S : List (List Bd)) : pushE l = 2 ∧ pushS S l = S := by
  unfold pushE pushS
  rw [h]
  exact ⟨rfl, rfl⟩
theorem push_good {l : List At4} {lv : List Bd} (h : bindsL [] l = some lv) (S : List (List Bd)) : pushE l = 0 ∧ pushS S l = lv :: S := by
  unfold pushE pushS
  rw [h]
  exact ⟨rfl, rfl⟩
set_option maxHeartbeats 4000000 in
set_option maxRecDepth 100000 in
theorem levels_any {Is : (Nat → Prop) → World → Value → List (List Bd) → Prop} (R : ScSaid Is) (v : Value) (which : Int) (W : World) (hv : OpsArg W v) :
    Calls Try.prog 5 #[v, .int .i64 which] W fun e w' => e = .returned (.bool true) ∧ Below W.heap.size W w' := by
  obtain ⟨va, vc, ops, rfl, hol, hops⟩ := hv
  obtain ⟨u0, x, h1, h2a, hx, h3, _⟩ := wrap_mod which 5 (by decide) (by decide)
  have h2 : Int.tmod (u0 : Int) 5 = (x : Int) := h2a
  clear h2a
  obtain ⟨p, hpl, hpx⟩ := names5 x hx
  have HP := Lib.hid hpl
  have HOPS := Lib.hid hops
  have CT := Lib.hid (fun V => told14_any R V)
  obtain ⟨ia, hi1, hz0, hz1, hz2⟩ := info_open14 info_st
  have j4 : (0 : Int) ≤ (x : Int) := by omega
  have j5 : (x : Int) < 5 := by omega
  clear hpl hops
  go_enter Try.func5, Try.ntmps5
  go_wp2_with fail
  refine (snewAt (w0 := W) R (Below.refl _ _)).mono ?_
  rintro e w1 ⟨q, rfl, h⟩
  have H := Lib.hid (h.other R ((Below.refl w1.heap.size w1).alloc (Nat.le_refl _) (.cells #[.string ⟨#[]⟩, .string ⟨#[112]⟩, .string ⟨#[113]⟩, .string ⟨#[97]⟩, .string ⟨#[98]⟩] 9)))
  clear h
  go_wp2
  clear h1 h2 h3 hpx j4 j5 hx
  go_loopw [7, 8, 9] (fun sv nv iv wr => ∃ (i n : Nat) (S : List (List Bd)), i ≤ ops.length ∧ i ≤ 8 ∧ n ≤ i ∧ S.length ≤ i ∧ iv = .int .i64 i ∧ nv = .int .i64 n ∧ Hid (wr.ownsRow W.heap.size 9 1 sv S.length (strsV (wasL p S)) ∧ SAt Is W (.pointer (some q)) (fun k => sv.ownBlock = some k) wr S wr)) (fun _ _ iv _ => 8 - (intOf iv).toNat)
  case atStart => exact ⟨0, 0, [], Nat.zero_le _, Nat.zero_le _, Nat.zero_le _, Nat.zero_le _, rfl, rfl, Lib.hid ⟨World.ownsRow_nil _ _ _ _, H.out.mine R (fun _ hk => hk.elim) (Turns.refl _ _) _ (fun k hk => by cases hk) (fun k hk => by cases hk)⟩⟩
  case round =>
    obtain ⟨i, n, S, hi, hi8, hni, hSi, rfl, rfl, HR⟩ := hrel
    obtain ⟨al, cl, rfl⟩ := own_slice14 HR.out.1
    by_cases hlt : i < ops.length ∧ i < 8
    · obtain ⟨hlt1, hlt2⟩ := hlt
      obtain ⟨ob, oo, rfl, hbl, hcells⟩ := HOPS.out.resolve_left (fun e => by rw [e] at hlt1; simp at hlt1)
      obtain ⟨_, lv, hc1, hints⟩ := hcells i hlt1
      have HC := Lib.hid (fun V (hb : Below W.heap.size W V) => show V.cell? ⟨ob, oo + i * 2 + 1, none⟩ = some lv from (hb.cell (p := ⟨ob, oo + i * 2 + 1, none⟩) hbl).trans hc1)
      have HI := Lib.hid hints
      have j1 : (0 : Int) ≤ (i : Int) := by omega
      have j2 : (i : Int) < (ops.length : Int) := by omega
      clear hcells hc1 hints
      have j3 : (i : Int) < 8 := by omega
      have CU := Lib.hid (suriAt R p HP.out HR.out.2)
      cases hbb : isS S p with
      | true =>
        obtain ⟨X, hX⟩ : ∃ X, uriS S p = X := ⟨_, rfl⟩
        rw [hbb, hX] at CU
        have HTX := Lib.hid (show txtS S p = X by unfold txtS; rw [hbb, ← hX]; rfl)
        clear hbb hX
        go_wp2_with fail
        refine CU.out.mono ?_
        rintro e w2 ⟨rfl, hs2⟩
        have H2 := Lib.hid hs2
        have c2 := HC.out w2 hs2.since
        have HI2 := Lib.hid (HI.out.below hs2.since)
        clear hs2 CU
        go_wp2_with fail
        refine (rdecls3 lv _ _ HI2.out).mono ?_
        rintro e w3 ⟨sl, rfl, hb3, hats⟩
        have CP := Lib.hid (spushAt R _ sl (by omega) (by have := declsZ_few (op14I ops i).2 3 (by decide); omega) (declsZ_fit _ _) H2.out hb3 hats)
        clear hb3 hats
        cases hbl2 : bindsL [] (declsZ (op14I ops i).2 3) with
        | none =>
          obtain ⟨he, hs⟩ := push_bad hbl2 S
          rw [he, hs] at CP
          clear he hs hbl2
          go_wp2_with fail
          refine CP.out.mono ?_
          rintro e w4 ⟨rfl, hs4⟩
          have HN : Hid (w4.ownsRow W.heap.size 9 1 (.slice al S.length cl) S.length (strsV (wasL p S)) ∧ SAt Is W (.pointer (some q)) (fun k => (Value.slice al S.length cl).ownBlock = some k) w4 S w4) := Lib.hid ⟨ownsRow_block14 HR.out.1 fun g hg => hs4.keepK g hg, hs4.again R fun k hk => (HR.out.1.lt k hk).1⟩
          clear hs4 CP
          go_wp2
          go_roundw
          case rel => exact ⟨i + 1, n, S, by omega, by omega, by omega, by omega, by go_num, rfl, HN⟩
          case measure => simp [intOf]; omega
        | some lvS =>
          obtain ⟨he, hs⟩ := push_good hbl2 S
          rw [he, hs] at CP
          clear he hs hbl2
          go_wp2_with fail
          refine CP.out.mono ?_
          rintro e w4 ⟨rfl, hs4⟩
          have H4 := Lib.hid hs4
          have own5 : w4.ownsRow W.heap.size 9 1 (.slice al S.length cl) S.length (strsV (wasL p S)) := ownsRow_block14 HR.out.1 fun g hg => hs4.keepK g hg
          have hW4 : W.heap.size ≤ w4.heap.size := hs4.since.size
          have s5 : (w4.alloc (.cells #[.string (bytes X)] 9)).heap.size = w4.heap.size + 1 := dsize1 _ _
          clear hs4 CP
          go_wp2_with (at_builtin; refine wpList_append_lies _ rfl _ _ 37 rfl W.heap.size 9 ia (.string ⟨#[]⟩) 1 16 Try.underlying37 hi1 hz0 hz1 hz2 rfl (by decide) _ _ _ rfl (own5.alloc _) ⟨w4.heap.size, 0, none⟩ 1 1 [.string (bytes X)] rfl rfl (cell_one14 _ _ _ _ rfl) (by intro u hu; simp at hu; subst hu; rfl) (by decide) (by unfold maxLen; omega) (by omega) (by rw [s5]; omega) (w4.heap.size + 1) s5 ?_; intro g2 cap2 w6 hown6 hgr6 hat6 hlt6)
          have HN : Hid (w6.ownsRow W.heap.size 9 1 (.slice (some ⟨g2, 0, none⟩) (S.length + 1) cap2) (lvS :: S).length (strsV (wasL p (lvS :: S))) ∧ SAt Is W (.pointer (some q)) (fun k => (Value.slice (some ⟨g2, 0, none⟩) (S.length + 1) cap2).ownBlock = some k) w6 (lvS :: S) w6) := Lib.hid (by
            refine ⟨?_, H4.out.mine R (fun k hk => (HR.out.1.lt k hk).1) ((Turns.of_below ((Below.refl w4.heap.size w4).alloc (Nat.le_refl _) (.cells #[.string (bytes X)] 9))).grown hgr6 fun k hk => Or.inl hk) _ (fun k hk => ?_) fun k hk => ?_⟩
            · have e : strsV (wasL p (lvS :: S)) = strsV (wasL p S) ++ [.string (bytes X)] := by
                unfold strsV
                rw [show wasL p (lvS :: S) = wasL p S ++ [txtS S p] from rfl, List.map_append, HTX.out]
                rfl
              rw [e]
              exact hown6
            · injection hk with hk
              subst hk
              exact hat6.imp id fun e => by show w4.heap.size ≤ g2; rw [e]; exact Nat.le_succ _
            · injection hk with hk
              rw [← hk]
              exact hlt6)
          clear hown6 hgr6 hat6 hlt6 own5 s5
          go_wp2
          go_roundw
          case rel => exact ⟨i + 1, n + 1, lvS :: S, by omega, by omega, by omega, by simp; omega, by go_num, by go_num, HN⟩
          case measure => simp [intOf]; omega
      | false =>
        rw [hbb] at CU
        have HTX := Lib.hid (show txtS S p = noneN by unfold txtS; rw [hbb]; rfl)
        clear hbb
        go_wp2_with fail
        refine CU.out.mono ?_
        rintro e w2 ⟨rfl, hs2⟩
        have H2 := Lib.hid hs2
        have c2 := HC.out w2 hs2.since
        have HI2 := Lib.hid (HI.out.below hs2.since)
        clear hs2 CU
        go_wp2_with fail
        refine (rdecls3 lv _ _ HI2.out).mono ?_
        rintro e w3 ⟨sl, rfl, hb3, hats⟩
        have CP := Lib.hid (spushAt R _ sl (by omega) (by have := declsZ_few (op14I ops i).2 3 (by decide); omega) (declsZ_fit _ _) H2.out hb3 hats)
        clear hb3 hats
        cases hbl2 : bindsL [] (declsZ (op14I ops i).2 3) with
        | none =>
          obtain ⟨he, hs⟩ := push_bad hbl2 S
          rw [he, hs] at CP
          clear he hs hbl2
          go_wp2_with fail
          refine CP.out.mono ?_
          rintro e w4 ⟨rfl, hs4⟩
          have HN : Hid (w4.ownsRow W.heap.size 9 1 (.slice al S.length cl) S.length (strsV (wasL p S)) ∧ SAt Is W (.pointer (some q)) (fun k => (Value.slice al S.length cl).ownBlock = some k) w4 S w4) := Lib.hid ⟨ownsRow_block14 HR.out.1 fun g hg => hs4.keepK g hg, hs4.again R fun k hk => (HR.out.1.lt k hk).1⟩
          clear hs4 CP
          go_wp2
          go_roundw
          case rel => exact ⟨i + 1, n, S, by omega, by omega, by omega, by omega, by go_num, rfl, HN⟩
          case measure => simp [intOf]; omega
        | some lvS =>
          obtain ⟨he, hs⟩ := push_good hbl2 S
          rw [he, hs] at CP
          clear he hs hbl2
          go_wp2_with fail
          refine CP.out.mono ?_
          rintro e w4 ⟨rfl, hs4⟩
          have H4 := Lib.hid hs4
          have own5 : w4.ownsRow W.heap.size 9 1 (.slice al S.length cl) S.length (strsV (wasL p S)) := ownsRow_block14 HR.out.1 fun g hg => hs4.keepK g hg
          have hW4 : W.heap.size ≤ w4.heap.size := hs4.since.size
          have s5 : (w4.alloc (.cells #[.string ⟨#[110, 111, 110, 101]⟩] 9)).heap.size = w4.heap.size + 1 := dsize1 _ _
          clear hs4 CP
          go_wp2_with (at_builtin; refine wpList_append_lies _ rfl _ _ 37 rfl W.heap.size 9 ia (.string ⟨#[]⟩) 1 16 Try.underlying37 hi1 hz0 hz1 hz2 rfl (by decide) _ _ _ rfl (own5.alloc _) ⟨w4.heap.size, 0, none⟩ 1 1 [.string ⟨#[110, 111, 110, 101]⟩] rfl rfl (cell_one14 _ _ _ _ rfl) (by intro u hu; simp at hu; subst hu; rfl) (by decide) (by unfold maxLen; omega) (by omega) (by rw [s5]; omega) (w4.heap.size + 1) s5 ?_; intro g2 cap2 w6 hown6 hgr6 hat6 hlt6)
          have HN : Hid (w6.ownsRow W.heap.size 9 1 (.slice (some ⟨g2, 0, none⟩) (S.length + 1) cap2) (lvS :: S).length (strsV (wasL p (lvS :: S))) ∧ SAt Is W (.pointer (some q)) (fun k => (Value.slice (some ⟨g2, 0, none⟩) (S.length + 1) cap2).ownBlock = some k) w6 (lvS :: S) w6) := Lib.hid (by
            refine ⟨?_, H4.out.mine R (fun k hk => (HR.out.1.lt k hk).1) ((Turns.of_below ((Below.refl w4.heap.size w4).alloc (Nat.le_refl _) (.cells #[.string ⟨#[110, 111, 110, 101]⟩] 9))).grown hgr6 fun k hk => Or.inl hk) _ (fun k hk => ?_) fun k hk => ?_⟩
            · have e : strsV (wasL p (lvS :: S)) = strsV (wasL p S) ++ [.string ⟨#[110, 111, 110, 101]⟩] := by
                unfold strsV
                rw [show wasL p (lvS :: S) = wasL p S ++ [txtS S p] from rfl, List.map_append, HTX.out]
                rfl
              rw [e]
              exact hown6
            · injection hk with hk
              subst hk
              exact hat6.imp id fun e => by show w4.heap.size ≤ g2; rw [e]; exact Nat.le_succ _
            · injection hk with hk
              rw [← hk]
              exact hlt6)
          clear hown6 hgr6 hat6 hlt6 own5 s5
          go_wp2
          go_roundw
          case rel => exact ⟨i + 1, n + 1, lvS :: S, by omega, by omega, by omega, by simp; omega, by go_num, by go_num, HN⟩
          case measure => simp [intOf]; omega
    · have hS8 : S.length ≤ 8 := by omega
      have hex : (decide (i < ops.length) = false) ∨ (i < ops.length ∧ i = 8) := by
        by_cases h : i < ops.length
        · exact Or.inr ⟨h, by omega⟩
        · exact Or.inl (decide_eq_false h)
      clear hlt
      have HWL := Lib.hid HR.out.1
      have HSA := Lib.hid HR.out.2
      rcases hex with hex | ⟨hex, rfl⟩
      all_goals
        (try have hex3 : ((8 : Nat) : Int) < (ops.length : Int) := by omega)
        go_wp2
        go_loopw [12] (fun jv wb => ∃ (S' : List (List Bd)) (rest : List Nm), S'.length ≤ 8 ∧ jv = .int .i64 ((S'.length : Int) - 1) ∧ Hid (wasL p S = wasL p S' ++ rest) ∧ Hid (SAt Is W (.pointer (some q)) (fun k => (Value.slice al S.length cl).ownBlock = some k) wr S' wb)) (fun jv _ => (intOf jv + 1).toNat)
        case atStart => exact ⟨S, [], hS8, by go_num, Lib.hid (List.append_nil _).symm, HSA⟩
        case round =>
          obtain ⟨S', rest, hl8, rfl, HRE, HSB⟩ := hrel
          cases S' with
          | nil =>
            have g1 : ((([] : List (List Bd)).length : Int) - 1) = -1 := rfl
            rw [g1]
            go_wp2_with fail
            refine (CT.out _).mono ?_
            rintro e w5 ⟨rfl, hb5⟩
            have H5 := Lib.hid (HSB.out.other R hb5)
            clear hb5
            go_wp2_with fail
            refine (sdepthB R 0 rfl H5.out).mono ?_
            rintro e w6 ⟨rfl, h6⟩
            have H6 := Lib.hid h6
            clear h6
            go_wp2_with fail
            refine (sallAt R H6.out).mono ?_
            rintro e w7 ⟨sl, rfl, K', h7, ha, _⟩
            have e1 : (allS []).map declA = [⟨xmlnsN, xmlN, xmlnsU, xmlU⟩] := by kernel_rfl
            rw [e1] at ha
            obtain ⟨sa, sc, rfl⟩ := ha.slice
            have HE := Lib.hid h7.since
            clear h7 ha e1
            go_wp2
            go_ret
            exact ⟨rfl, HE.out⟩
          | cons lv r =>
            have g1 : (((lv :: r).length : Int) - 1) = (r.length : Int) := by simp
            rw [g1]
            have hl : r.length < S.length := by
              have h1 := congrArg List.length HRE.out
              rw [List.length_append, wasL_len, wasL_len, List.length_cons] at h1
              omega
            obtain ⟨ga, ca, y, e1, _, hy, hcy⟩ := own_cell14 HWL.out hl
            injection e1 with e1 _ e3
            subst e1; subst e3
            have hyt : y = .string (bytes (txtS r p)) := by
              rw [HRE.out, strsV_at] at hy
              injection hy with hy
              exact hy.symm
            subst hyt
            have HCY := Lib.hid hcy
            have HRE2 : Hid (wasL p S = wasL p r ++ txtS r p :: rest) := Lib.hid (by rw [HRE.out]; show (wasL p r ++ [txtS r p]) ++ rest = _; rw [List.append_assoc]; rfl)
            have i1 : (0 : Int) ≤ (r.length : Int) := by omega
            have i2 : (r.length : Int) < (S.length : Int) := by omega
            have i3 : (r.length : Int) ≤ 8 := by simp at hl8; omega
            clear hy hcy g1
            go_wp2_with fail
            refine (sdepthB R ((r.length : Int) + 1) (by simp) HSB.out).mono ?_
            rintro e w5 ⟨rfl, h5⟩
            have H5 := Lib.hid h5
            clear h5
            go_wp2_with fail
            refine (spopB R r true rfl rfl H5.out).mono ?_
            rintro e w6 ⟨rfl, h6⟩
            have H6 := Lib.hid h6
            clear h6
            have CU := Lib.hid (suriAt R p HP.out H6.out)
            cases hbb : isS r p with
            | true =>
              obtain ⟨X, hX⟩ : ∃ X, uriS r p = X := ⟨_, rfl⟩
              rw [hbb, hX] at CU
              have HTX := Lib.hid (show txtS r p = X by unfold txtS; rw [hbb, ← hX]; rfl)
              clear hbb hX
              go_wp2_with fail
              refine CU.out.mono ?_
              rintro e w7 ⟨rfl, h7⟩
              have HN := Lib.hid h7
              have c7 : w7.cell? ⟨ga, r.length, none⟩ = some (.string (bytes X)) := by
                rw [← HTX.out, ← HCY.out]
                exact World.cell?_of_block (h7.keepK ga rfl)
              clear h7 CU
              go_wp2
              go_roundw
              case rel => exact ⟨r, txtS r p :: rest, by simp at hl8; omega, by go_num, HRE2, HN⟩
              case measure => simp [intOf] <;> omega
            | false =>
              rw [hbb] at CU
              have HTX := Lib.hid (show txtS r p = noneN by unfold txtS; rw [hbb]; rfl)
              clear hbb
              go_wp2_with fail
              refine CU.out.mono ?_
              rintro e w7 ⟨rfl, h7⟩
              have HN := Lib.hid h7
              have c7 : w7.cell? ⟨ga, r.length, none⟩ = some (.string ⟨#[110, 111, 110, 101]⟩) := by
                have c8 := HCY.out
                rw [HTX.out] at c8
                exact (World.cell?_of_block (h7.keepK ga rfl)).trans c8
              clear h7 CU
              go_wp2
              go_roundw
              case rel => exact ⟨r, txtS r p :: rest, by simp at hl8; omega, by go_num, HRE2, HN⟩
              case measure => simp [intOf] <;> omega
end Go.Proofs.Ythhnpnjnlbjdjaa
