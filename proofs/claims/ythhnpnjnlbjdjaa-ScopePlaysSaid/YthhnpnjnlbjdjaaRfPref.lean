/-
  THE CONTRACT OF brackenref10.Scope.Prefix.
-/
import Derived.Test.YthhnpnjnlbjdjaaRfBound
namespace Go.Proofs.Ythhnpnjnlbjdjaa
open Go.RowKit

theorem insAll_lenR : ∀ (lv : List Bd) (l : List Nm), (insAll lv l).length ≤ l.length + lv.length
  | [], l => by simp [insAll]
  | b :: r, l => by
    have h1 := insAll_lenR r (insN b.1 l)
    have h2 := insN_lenR b.1 l
    unfold insAll
    simp only [List.length_cons]
    omega
theorem allN_lenR : ∀ (S : List (List Bd)), (∀ lv ∈ S, lv.length ≤ 8) → (allN S).length ≤ 1 + 8 * S.length
  | [], _ => by simp [allN]
  | lv :: r, h => by
    have h1 := allN_lenR r fun l hl => h l (List.mem_cons_of_mem _ hl)
    have h2 := insAll_lenR lv (allN r)
    have h3 := h lv (by simp)
    unfold allN
    simp only [List.length_cons]
    omega
theorem allS_few {S : List (List Bd)} (hS : S.length ≤ 25) (h : ∀ lv ∈ S, lv.length ≤ 8) : (allS S).length ≤ 201 := by
  have h1 := allN_lenR S h
  have h2 := outN_len S (allN S)
  have e : allS S = outN S (allN S) := rfl
  rw [e]
  omega
theorem findP_step (u : Nm) (l : List Bd) (k : Nat) (b : Bd) (h : l[k]? = some b) : findP u (l.drop k) = if b.1 ≠ [] ∧ b.2 = u then some b.1 else findP u (l.drop (k + 1)) := by
  obtain ⟨hk, e⟩ := List.getElem?_eq_some_iff.1 h
  rw [List.drop_eq_getElem_cons hk, e]
  rfl
set_option maxHeartbeats 4000000 in
set_option maxRecDepth 100000 in
theorem rfpref_any {G : Nat → Prop} {w : World} {rb : Nat} {S : List (List Bd)} (hN : NiceS S) (hS : S.length ≤ 25) (hsm : ∀ lv ∈ S, lv.length ≤ 8) (h : RfIs G w rb S) (u : Nm) :
    Calls Try.prog 20 #[.pointer (some ⟨rb, 0, none⟩), .string (bytes u)] w fun e w' => e = .returned (.tuple #[.string (bytes (prefS S u)), .bool (prefE S u)]) ∧ Below w.heap.size w w' := by
  have CB := Lib.hid (rfbound_any hN hS hsm h)
  have hfew := allS_few hS hsm
  obtain ⟨X, hX⟩ : ∃ X, prefS S u = X := ⟨_, rfl⟩
  obtain ⟨E, hE⟩ : ∃ E, prefE S u = E := ⟨_, rfl⟩
  rw [hX, hE]
  have HX : Hid ((findP u (allS S)).getD [] = X ∧ (findP u (allS S)).isSome = E) := Lib.hid ⟨hX, hE⟩
  have HNE := Lib.hid (fun (b : Bd) (hb : b ∈ allS S) => show b.2 ≠ [] from (mem_allS.1 hb).2)
  clear hX hE hN hsm h
  generalize allS S = l at *
  go_enter Try.func20, Try.ntmps20
  go_wp2_with fail
  refine CB.out.mono ?_
  rintro e w1 ⟨sl, rfl, ha, hb⟩
  obtain ⟨sa, sc, rfl⟩ := ha.slice
  have HA := Lib.hid ha
  have HB := Lib.hid hb
  have hlm : (l.map declA).length = l.length := List.length_map _
  rw [hlm]
  have HLM := Lib.hid hlm
  clear ha hb hlm CB
  go_wp2
  go_loopw [7] (fun iv wr => ∃ i : Nat, i ≤ l.length ∧ iv = .int .i64 i ∧ Hid (findP u l = findP u (l.drop i)) ∧ wr = w1) (fun iv _ => l.length - (intOf iv).toNat)
  case atStart => exact ⟨0, Nat.zero_le _, rfl, Lib.hid rfl, rfl⟩
  case round =>
    obtain ⟨i, hi, rfl, HF, rfl⟩ := hrel
    by_cases hlt : i < l.length
    · obtain ⟨b, hb⟩ : ∃ b, l[i]? = some b := ⟨_, List.getElem?_eq_getElem hlt⟩
      have HST := Lib.hid (findP_step u l i b hb)
      have hne := HNE.out b (List.mem_of_getElem? hb)
      obtain ⟨ab, ao, rfl, _, _, _, hc⟩ := HA.out.cell (by rw [HLM.out]; omega)
      obtain ⟨d0, d1, d2, d3⟩ := hc i (by rw [HLM.out]; exact hlt)
      rw [at4_decl _ _ _ hb] at d0 d1 d2 d3
      rw [declA_val] at d3
      have k1 : (0 : Int) ≤ (i : Int) := by omega
      have k2 : (i : Int) < (l.length : Int) := by omega
      have e0 : (bytes (declA b).pre).toList.isEmpty = decide (b.1 = []) := by rw [s14e, declA_pre]
      obtain ⟨p, v⟩ := b
      dsimp only at e0 hne d3 HST
      have hloc : p ≠ [] → (declA (p, v)).loc = p := fun h => by unfold declA; rw [if_neg h]
      clear hb hc d2
      generalize (declA (p, v)).pre = P at e0 d0
      generalize (declA (p, v)).loc = Q at hloc d1
      by_cases hp : p = []
      · rw [decide_eq_true hp] at e0
        have HN : Hid (findP u l = findP u (l.drop (i + 1))) := Lib.hid (by rw [HF.out, HST.out, if_neg (fun h => h.1 hp)])
        clear hp hloc hne
        go_wp2
        go_roundw
        case rel => exact ⟨i + 1, by omega, by go_num, HN, by first | trivial | rfl⟩
        case measure => simp [intOf]; omega
      · rw [decide_eq_false hp] at e0
        have q1 := s14q v u
        by_cases hv : v = u
        · rw [decide_eq_true hv] at q1
          have cu : (bytes u).toList.isEmpty = false := s14ef (by rw [← hv]; exact hne)
          have HR : Hid (bytes Q = bytes X ∧ true = E) := Lib.hid (by
            have e : findP u l = some p := by rw [HF.out, HST.out, if_pos ⟨hp, hv⟩]
            rw [← HX.out.1, ← HX.out.2, e, hloc hp]
            exact ⟨rfl, rfl⟩)
          clear hp hloc hne hv
          go_wp2
          go_returns
          rw [← HR.out.1, HR.out.2]
          exact ⟨rfl, HB.out⟩
        · rw [decide_eq_false hv] at q1
          have HN : Hid (findP u l = findP u (l.drop (i + 1))) := Lib.hid (by rw [HF.out, HST.out, if_neg (fun h => hv h.2)])
          clear hp hloc hne hv
          go_wp2
          go_roundw
          case rel => exact ⟨i + 1, by omega, by go_num, HN, by first | trivial | rfl⟩
          case measure => simp [intOf]; omega
    · obtain rfl : i = l.length := by omega
      have g0 : decide (l.length < l.length) = false := decide_eq_false (by omega)
      have HR : Hid (X = [] ∧ E = false) := Lib.hid (by
        have e : findP u l = none := by rw [HF.out, List.drop_length]; rfl
        rw [← HX.out.1, ← HX.out.2, e]
        exact ⟨rfl, rfl⟩)
      go_wp2
      go_returns
      rw [HR.out.1, HR.out.2]
      exact ⟨rfl, HB.out⟩
end Go.Proofs.Ythhnpnjnlbjdjaa
