/-
  THE CONTRACT OF brackenref10.Scope.URI.
-/
import Derived.Test.YthhnpnjnlbjdjaaRfMem
namespace Go.Proofs.Ythhnpnjnlbjdjaa
open Go.RowKit

theorem inLv_step (lv : List Bd) (k : Nat) (b : Bd) (p : Nm) (h : lv[k]? = some b) : inLv (lv.drop k) p = if b.1 = p then some b.2 else inLv (lv.drop (k + 1)) p := by
  obtain ⟨hk, e⟩ := List.getElem?_eq_some_iff.1 h
  rw [List.drop_eq_getElem_cons hk, e]
  rfl
theorem lookS_step (lv : List Bd) (r : List (List Bd)) (p : Nm) : lookS (lv :: r) p = match inLv lv p with | some u => some u | none => lookS r p := rfl
set_option maxHeartbeats 2000000 in
set_option maxRecDepth 100000 in
theorem rfuri_any {G : Nat → Prop} {w : World} {rb : Nat} {S : List (List Bd)} (hN : NiceS S) (h : RfIs G w rb S) (p : Nm) :
    Calls Try.prog 19 #[.pointer (some ⟨rb, 0, none⟩), .string (bytes p)] w fun e w' => e = .returned (.tuple #[.string (bytes (uriS S p)), .bool (isS S p)]) ∧ Below w.heap.size w w' := by
  obtain ⟨sv, xs, h⟩ := h
  have hfew := hN.few
  obtain ⟨U, hU⟩ : ∃ U, uriS S p = U := ⟨_, rfl⟩
  obtain ⟨I, hI⟩ : ∃ I, isS S p = I := ⟨_, rfl⟩
  rw [hU, hI]
  by_cases hx : p = xmlN
  · have c1 : ((bytes p).toList == [120, 109, 108]) = true := s14t hx
    have HE : Hid (U = xmlU ∧ I = true) := Lib.hid (by
      subst hx
      rw [← hU, ← hI]
      unfold uriS isS
      rw [lookS_xml hN]
      exact ⟨rfl, rfl⟩)
    clear hx hU hI hfew hN h
    go_enter Try.func19, Try.ntmps19
    go_wp2
    go_returns
    rw [HE.out.1, HE.out.2]
    exact ⟨rfl, Below.refl _ _⟩
  · have c1 : ((bytes p).toList == [120, 109, 108]) = false := s14f hx
    obtain ⟨oa, cap, rfl⟩ := h.slice
    have H := Lib.hid h
    have HN := Lib.hid hN
    have HX := Lib.hid hx
    have HU := Lib.hid hU
    have HI := Lib.hid hI
    have c0 : w.cell? ⟨rb, 0, none⟩ = some (.slice oa S.length cap) := h.box.cell (i := 0) (by decide)
    have hrl := h.box.lt
    have HC := Lib.hid (fun V (hb : Below w.heap.size w V) => show V.cell? ⟨rb, 0, none⟩ = some (.slice oa S.length cap) from (hb.cell (p := ⟨rb, 0, none⟩) hrl).trans c0)
    clear hx hU hI hN h hrl
    go_enter Try.func19, Try.ntmps19
    go_wp2
    clear c0 c1
    go_loopw [6] (fun iv wr => ∃ pre rest : List (List Bd), Hid (S = pre ++ rest) ∧ iv = .int .i64 ((rest.length : Int) - 1) ∧ Hid (lookS S p = lookS rest p) ∧ Below w.heap.size w wr) (fun iv _ => (intOf iv + 1).toNat)
    case atStart => exact ⟨[], S, Lib.hid rfl, by go_num, Lib.hid rfl, Below.refl _ _⟩
    case round =>
      obtain ⟨pre, rest, HS, rfl, HL, hbe⟩ := hrel
      have HB := Lib.hid hbe
      clear hbe
      cases rest with
      | nil =>
        have g1 : ((([] : List (List Bd)).length : Int) - 1) = -1 := rfl
        rw [g1]
        have hl : lookS S p = none := by rw [HL.out]; unfold lookS; rw [if_neg HX.out]
        have HE : Hid (U = [] ∧ I = decide (p = [])) := Lib.hid (by
          rw [← HU.out, ← HI.out]
          unfold uriS isS
          rw [hl]
          exact ⟨rfl, rfl⟩)
        clear hl g1
        by_cases hp : p = []
        · have ce : (bytes p).toList.isEmpty = true := s14et hp
          have HD : Hid (true = I) := Lib.hid (by rw [HE.out.2]; exact (decide_eq_true hp).symm)
          clear hp
          go_wp2
          go_returns
          rw [HE.out.1, ← HD.out]
          exact ⟨rfl, HB.out⟩
        · have ce : (bytes p).toList.isEmpty = false := s14ef hp
          have HD : Hid (false = I) := Lib.hid (by rw [HE.out.2]; exact (decide_eq_false hp).symm)
          clear hp
          go_wp2
          go_returns
          rw [HE.out.1, ← HD.out]
          exact ⟨rfl, HB.out⟩
      | cons lv r =>
        have g1 : (((lv :: r).length : Int) - 1) = (r.length : Int) := by simp
        have hrS : r.length < S.length := by rw [HS.out]; simp; omega
        have i1 : (0 : Int) ≤ (r.length : Int) := by omega
        have i2 : (r.length : Int) < (S.length : Int) := by omega
        have i3 : ¬ ((r.length : Int) < 0) := by omega
        rw [g1]
        obtain ⟨ob, oo, rfl, hob, sw, hsw, hat⟩ := H.out.at HS.out
        have hlv : lv.length ≤ 1048576 := HN.out.small lv (by rw [HS.out]; simp)
        obtain ⟨sa, sc, rfl⟩ := hat.slice
        have hlm : (lv.map declA).length = lv.length := List.length_map _
        rw [hlm] at hsw
        have HO := Lib.hid (fun V (hb : Below w.heap.size w V) => show V.cell? ⟨ob, oo + r.length, none⟩ = some (.slice sa lv.length sc) from (hb.cell (p := ⟨ob, oo + r.length, none⟩) hob).trans hsw)
        have HA := Lib.hid hat
        clear hsw hat hob
        go_wp2
        go_loopw [7] (fun kv wr => ∃ k : Nat, k ≤ lv.length ∧ kv = .int .i64 k ∧ Hid (inLv lv p = inLv (lv.drop k) p) ∧ Below w.heap.size w wr) (fun kv _ => lv.length - (intOf kv).toNat)
        case atStart => exact ⟨0, Nat.zero_le _, rfl, Lib.hid rfl, HB.out⟩
        case round =>
          obtain ⟨k, hk, rfl, HIN, hb2⟩ := hrel
          have c0 := HC.out _ hb2
          have c1 := HO.out _ hb2
          have HB2 := Lib.hid hb2
          clear hb2
          by_cases hlt : k < lv.length
          · obtain ⟨b, hb⟩ : ∃ b, lv[k]? = some b := ⟨_, List.getElem?_eq_getElem hlt⟩
            have HST := Lib.hid (inLv_step lv k b p hb)
            obtain ⟨ab, ao, rfl, _, _, hal, hc⟩ := HA.out.cell (by rw [hlm]; omega)
            obtain ⟨d0, d1, d2, d3⟩ := hc k (by rw [hlm]; exact hlt)
            rw [at4_decl _ _ _ hb] at d0 d1 d2 d3
            rw [declA_val] at d3
            have CD := fun V => rdeclares_any (declA b) V
            simp only [dcP_declA, dcI_declA, declA_val] at CD
            obtain ⟨q, u⟩ := b
            generalize declA (q, u) = A at CD d0 d1 d2
            have CD := Lib.hid CD
            have HD := Lib.hid (fun V (hb : Below w.heap.size w V) (o : Nat) => hb.cell (p := ⟨ab, o, none⟩) hal)
            replace d0 := (HD.out _ HB2.out _).trans d0
            replace d1 := (HD.out _ HB2.out _).trans d1
            replace d2 := (HD.out _ HB2.out _).trans d2
            have e3 := (HD.out _ HB2.out _).trans d3
            have D3 := Lib.hid d3
            have k1 : (0 : Int) ≤ (k : Int) := by omega
            have k2 : (k : Int) < (lv.length : Int) := by omega
            clear hb hc hal d3
            dsimp only at CD HST
            go_wp2_with fail
            refine (CD.out _).mono ?_
            rintro e w3 ⟨rfl, hb3⟩
            have HB3 := Lib.hid (HB2.out.trans (hb3.mono HB2.out.size))
            have c2 := HC.out _ HB3.out
            have c3 := HO.out _ HB3.out
            have e4 := (HD.out _ HB3.out _).trans D3.out
            clear hb3 CD
            by_cases hqp : q = p
            · have cq : ((bytes q).toList == (bytes p).toList) = true := by rw [s14q]; exact decide_eq_true hqp
              have HE : Hid (U = u ∧ I = true) := Lib.hid (by
                have hl : lookS S p = some u := by
                  rw [HL.out, lookS_step, HIN.out, HST.out, if_pos hqp]
                rw [← HU.out, ← HI.out]
                unfold uriS isS
                rw [hl]
                exact ⟨rfl, rfl⟩)
              clear hqp
              go_wp2
              go_returns
              rw [HE.out.1, HE.out.2]
              exact ⟨rfl, HB3.out⟩
            · have cq : ((bytes q).toList == (bytes p).toList) = false := by rw [s14q]; exact decide_eq_false hqp
              have HN2 : Hid (inLv lv p = inLv (lv.drop (k + 1)) p) := Lib.hid (by rw [HIN.out, HST.out, if_neg hqp])
              clear hqp
              go_wp2
              go_roundw
              case rel => exact ⟨k + 1, by omega, by go_num, HN2, HB3.out⟩
              case measure => simp [intOf]; omega
          · obtain rfl : k = lv.length := by omega
            have g2 : decide (lv.length < lv.length) = false := decide_eq_false (by omega)
            have HL2 : Hid (lookS S p = lookS r p) := Lib.hid (by
              rw [HL.out, lookS_step, HIN.out, List.drop_length]
              rfl)
            have HS2 : Hid (S = (pre ++ [lv]) ++ r) := Lib.hid (by rw [HS.out, List.append_assoc]; rfl)
            go_wp2
            go_roundw
            case rel => exact ⟨pre ++ [lv], r, HS2, by go_num, HL2, HB2.out⟩
            case measure => simp [intOf] <;> omega
end Go.Proofs.Ythhnpnjnlbjdjaa
