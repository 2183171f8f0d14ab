/-
  LAYER 8: brackenlaw8.PoolRow, out of PoolSaid: true for any texts. (Written by gen_poolrow.py.)
-/
import Derived.Test.YtibhhndiefhofaaPoolTold
import Derived.Test.YtibhhndiefhofaaStrArg
import Derived.Deep.OwnRows
import Derived.Deep.QuietTactic
import Derived.BigQuiet
namespace Go.Proofs.Ytibhhndiefhofaa
open Go.RowKit

/-- the first i texts, side by side -/
def catTo (ss : List ByteArray) : Nat → ByteArray
  | 0 => ⟨#[]⟩
  | i + 1 => catTo ss i ++ strAt ss i
theorem catTo_size (ss : List ByteArray) : ∀ i, i ≤ ss.length → (catTo ss i).size = bytesTo ss i
  | 0, _ => rfl
  | i + 1, h => by
    rw [bytesTo_next ss i (strAt ss i) (by omega) rfl, ← catTo_size ss i (by omega)]
    exact ByteArray.size_append
theorem sizes_few2 {ss : List ByteArray} {m : Nat} (h : ∀ j, j < ss.length → (strAt ss j).size ≤ m) : bytesN ss ≤ ss.length * m := bytesN_le ss m fun s hs => by
  obtain ⟨j, hj, rfl⟩ := List.mem_iff_getElem.1 hs
  have := h j hj
  simpa [strAt, List.getD, List.getElem?_eq_getElem hj] using this

set_option maxHeartbeats 20000000 in
set_option maxRecDepth 100000 in
theorem poolrow_any {E : World → Prop} {Is : Nat → World → Value → List ByteArray → Prop} (S : PoolSaid E Is) (v : Value) (w : World) (hE : E w) (hv : StrArg w v) :
    Calls Try.prog 6 #[v] w fun e w' => e = .returned (.bool true) ∧ Below w.heap.size w w' := by
  obtain ⟨a, cap, ss, rfl, hr, hl63, hz63⟩ := hv
  have HE := Lib.hid hE
  have HR := Lib.hid hr
  have HZ := Lib.hid hz63
  clear hE hr hz63
  by_cases h40 : 40 < ss.length
  · have g1 : decide (40 < ss.length) = true := decide_eq_true h40
    have g2 : decide ((40 : Int) < (ss.length : Int)) = true := decide_eq_true (by omega)
    go_enter Try.func6, Try.ntmps6
    go_wp2_with fail
    refine (told8_any S w HE.out).mono ?_
    rintro e wz ⟨rfl, hb'⟩
    go_wp2
    go_ret
    exact ⟨rfl, hb'⟩
  have g1 : decide (40 < ss.length) = false := decide_eq_false h40
  have g2 : decide ((40 : Int) < (ss.length : Int)) = false := decide_eq_false (by omega)
  go_enter Try.func6, Try.ntmps6
  go_wp2
  clear g1 g2
  go_loop [3, 4] (fun nv iv => ∃ i m : Nat, i ≤ ss.length ∧ iv = .int .i64 i ∧ nv = .int .i64 m ∧ m ≤ 60 * i ∧ Hid (m = bytesTo ss i) ∧ Hid (∀ j, j < i → (strAt ss j).size ≤ 60)) (fun _ iv => ss.length - (intOf iv).toNat)
  case atStart => exact ⟨0, 0, Nat.zero_le _, rfl, rfl, Nat.zero_le _, Lib.hid rfl, Lib.hid (fun j hj => by omega)⟩
  case round =>
    obtain ⟨i, m, hil, rfl, rfl, hmb, HT, HS⟩ := hrel
    by_cases hlt : i < ss.length
    · obtain ⟨g, off, rfl, hg, hcell0⟩ := HR.out.cell i hlt
      obtain ⟨s, hss⟩ : ∃ s, strAt ss i = s := ⟨_, rfl⟩
      have hcell : w.cell? ⟨g, off + i, none⟩ = some (.string s) := by rw [← hss]; exact hcell0 i hlt
      have hsz63 : s.size ≤ 9223372036854775807 := by rw [← hss]; exact HZ.out i hlt
      have HSS := Lib.hid hss
      clear hcell0 hss
      by_cases h60 : 60 < s.size
      · have g1 : decide (60 < s.size) = true := decide_eq_true h60
        have g2 : decide ((60 : Int) < (s.size : Int)) = true := decide_eq_true (by omega)
        by_cases hi0 : i = 0
        · subst hi0
          rw [Nat.add_zero] at hcell
          go_wp2_with fail
          refine (told8_any S w HE.out).mono ?_
          rintro e wz ⟨rfl, hb'⟩
          go_wp2
          go_ret
          exact ⟨rfl, hb'⟩
        · go_wp2_with fail
          refine (told8_any S w HE.out).mono ?_
          rintro e wz ⟨rfl, hb'⟩
          go_wp2
          go_ret
          exact ⟨rfl, hb'⟩
      · have g1 : decide (60 < s.size) = false := decide_eq_false h60
        have g2 : decide ((60 : Int) < (s.size : Int)) = false := decide_eq_false (by omega)
        have HS2 : Hid (∀ j, j < i + 1 → (strAt ss j).size ≤ 60) := Lib.hid (fun j hj => by
          by_cases e : j = i
          · rw [e, HSS.out]; omega
          · exact HS.out j (by omega))
        have HN : Hid (m + s.size = bytesTo ss (i + 1)) := Lib.hid (by rw [bytesTo_next ss i s hlt HSS.out, HT.out])
        by_cases hi0 : i = 0
        · subst hi0
          rw [Nat.add_zero] at hcell
          go_wp2
          go_round
          case rel => exact ⟨0 + 1, m + s.size, by omega, by go_num, by go_num, by omega, HN, HS2⟩
          case measure => simp [intOf]; omega
        · go_wp2
          go_round
          case rel => exact ⟨i + 1, m + s.size, by omega, by go_num, by go_num, by omega, HN, HS2⟩
          case measure => simp [intOf]; omega
    · have g0 : decide (i < ss.length) = false := decide_eq_false hlt
      have hie : i = ss.length := by omega
      have hn := HT.out
      rw [hie, bytesTo_all] at hn
      have hm24 : m ≤ 2400 := by omega
      have HN := Lib.hid hn.symm
      have hl100 : ss.length ≤ 100000 := by omega
      have HF : Hid (bytesN ss ≤ 8388608) := Lib.hid (by rw [HN.out]; omega)
      have HSZ : Hid (∀ j, j ≤ ss.length → (catTo ss j).size ≤ 2400) := Lib.hid (fun j hj => by
        rw [catTo_size ss j hj]
        have := bytesTo_le ss j
        have := HN.out
        omega)
      have HS0 : Hid (∀ j, j < ss.length → (strAt ss j).size ≤ 60) := Lib.hid (fun j hj => HS.out j (by omega))
      clear hn HT HS
      go_wp2_with fail
      refine (pnewAt S _ HE.out hl100 HF.out HR.out (Below.refl _ _)).mono ?_
      rintro e wa ⟨p, rfl, h, _⟩
      have H := Lib.hid h
      clear h
      go_wp2
      go_loopw [7, 8, 9] (fun sv tv iv wr => ∃ i : Nat, i ≤ ss.length ∧ iv = .int .i64 i ∧ sv = .string (catTo ss i) ∧ tv = .string (catTo ss i) ∧ PAt E Is w.heap.size w (.pointer (some p)) ss wr) (fun _ _ iv _ => ss.length - (intOf iv).toNat)
      case atStart => exact ⟨0, Nat.zero_le _, rfl, rfl, rfl, H.out⟩
      case round =>
        clear hlt g0 hie hil
        obtain ⟨i, hil, rfl, rfl, rfl, hA⟩ := hrel
        replace H := Lib.hid hA
        clear hA
        have hcz := HSZ.out i hil
        by_cases hlt : i < ss.length
        · obtain ⟨g, off, rfl, hg, hcell0⟩ := HR.out.cell i hlt
          have hs60 := HS0.out i hlt
          obtain ⟨s, hss⟩ : ∃ s, strAt ss i = s := ⟨_, rfl⟩
          have HC : Hid (w.cell? ⟨g, off + i, none⟩ = some (.string s)) := Lib.hid (by rw [← hss]; exact hcell0 i hlt)
          have HX := Lib.hid ((getS_at ss i hlt).trans hss)
          have HXE := Lib.hid (getSE_at ss i hlt)
          have HI := Lib.hid (⟨by omega, by omega⟩ : In64 (i : Int))
          have HCT : Hid (catTo ss (i + 1) = catTo ss i ++ s) := Lib.hid (by rw [← hss]; rfl)
          rw [hss] at hs60
          clear hcell0 hss
          generalize catTo ss i = cc at *
          go_wp2_with fail
          refine (pgetAt S (i : Int) s 0 HX.out HXE.out HI.out H.out).mono ?_
          rintro e wz ⟨rfl, hb'⟩
          replace H := Lib.hid (H.out.other S hb')
          clear hb'
          have hcell : wz.cell? ⟨g, off + i, none⟩ = some (.string s) := by rw [H.out.since.cell (p := ⟨g, off + i, none⟩) hg]; exact HC.out
          have hi1 : (i : Int) < (ss.length : Int) := by omega
          have hi2 : (0 : Int) ≤ (i : Int) := by omega
          by_cases hi0 : i = 0
          · subst hi0
            rw [Nat.add_zero] at hcell
            go_wp2
            go_quiet (fail)
            go_wp2
            go_roundw
            case rel => exact ⟨0 + 1, by omega, by go_num, by rw [HCT.out], by rw [HCT.out], H.out.other S ((Below.refl _ _).trans ⟨rfl, rfl, rfl, Nat.le_refl _, fun _ _ => rfl⟩)⟩
            case measure => simp [intOf]; omega
          · go_wp2
            go_quiet (fail)
            go_wp2
            go_roundw
            case rel => exact ⟨i + 1, by omega, by go_num, by rw [HCT.out], by rw [HCT.out], H.out.other S ((Below.refl _ _).trans ⟨rfl, rfl, rfl, Nat.le_refl _, fun _ _ => rfl⟩)⟩
            case measure => simp [intOf]; omega
        · have g0 : decide (i < ss.length) = false := decide_eq_false hlt
          have hie : i = ss.length := by omega
          have HCS : Hid ((catTo ss i).size = m) := Lib.hid (by rw [hie, catTo_size ss _ (Nat.le_refl _), bytesTo_all]; exact HN.out)
          generalize catTo ss i = cc at *
          have hbb : Below wr.heap.size wr (wr.alloc (.cells #[.string cc] 9)) := (Below.refl wr.heap.size wr).alloc (Nat.le_refl _) _
          have HR2 := Lib.hid (strOK_alloc wr #[.string cc] (0, 0) [cc] 1 1 rfl rfl (Nat.le_refl _))
          have HBC : Hid (bytesN [cc] = m) := Lib.hid (by simp only [bytesN, Nat.add_zero]; exact HCS.out)
          replace H := Lib.hid (H.out.other S hbb)
          clear hbb
          go_wp2_with fail
          refine (pnewAt S _ H.out.e (by simp) (by rw [HBC.out]; omega) HR2.out H.out.since).mono ?_
          rintro e wb ⟨q, rfl, hq, hb'⟩
          replace H := Lib.hid (H.out.other S hb')
          have Q := Lib.hid hq
          clear hq hb'
          go_wp2_with fail
          refine (told8_any S _ H.out.e).mono ?_
          rintro e wz ⟨rfl, hb'⟩
          replace H := Lib.hid (H.out.other S hb')
          replace Q := Lib.hid (Q.out.other S hb')
          clear hb'
          go_wp2_with fail
          try simp only [List.append_eq, List.cons_append, List.nil_append] at *
          refine (pbytesAt S m HN.out H.out).mono ?_
          rintro e wz ⟨rfl, hb'⟩
          replace H := Lib.hid (H.out.other S hb')
          replace Q := Lib.hid (Q.out.other S hb')
          clear hb'
          go_wp2_with fail
          try simp only [List.append_eq, List.cons_append, List.nil_append] at *
          refine (pbytesAt S m HBC.out Q.out).mono ?_
          rintro e wz ⟨rfl, hb'⟩
          replace H := Lib.hid (H.out.other S hb')
          replace Q := Lib.hid (Q.out.other S hb')
          clear hb'
          go_wp2
          go_ret
          exact ⟨rfl, H.out.since⟩
end Go.Proofs.Ytibhhndiefhofaa
