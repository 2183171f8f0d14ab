/-
  LAYER 8: brackenlaw8.PoolAsks, out of PoolSaid: true for any texts, any place. (Written by gen_poolasks.py.)
-/
import Derived.Test.YtibhhndiefhofaaPoolTold
import Derived.Test.YtibhhndiefhofaaStrArg
import Derived.Test.YtibhhndiefhofaaRefPool
namespace Go.Proofs.Ytibhhndiefhofaa
open Go.RowKit

theorem sizes_few {ss : List ByteArray} {m : Nat} (h : ∀ j, j < ss.length → (strAt ss j).size ≤ m) : bytesN ss ≤ ss.length * m := bytesN_le ss m fun s hs => by
  obtain ⟨j, hj, rfl⟩ := List.mem_iff_getElem.1 hs
  have := h j hj
  simpa [strAt, List.getD, List.getElem?_eq_getElem hj] using this

set_option maxHeartbeats 20000000 in
set_option maxRecDepth 100000 in
theorem poolasks_any {E : World → Prop} {Is : Nat → World → Value → List ByteArray → Prop} (S : PoolSaid E Is) (v : Value) (k : Int) (w : World) (hE : E w) (hk : In64 k) (hv : StrArg w v) :
    Calls Try.prog 4 #[v, .int .i64 k] w fun e w' => e = .returned (.bool true) ∧ Below w.heap.size w w' := by
  obtain ⟨a, cap, ss, rfl, hr, hl63, hz63⟩ := hv
  have HE := Lib.hid hE
  have HR := Lib.hid hr
  have HK := Lib.hid hk
  have HZ := Lib.hid hz63
  clear hE hr hk hz63
  go_enter Try.func4, Try.ntmps4
  go_wp2
  go_loop [5, 6] (fun nv iv => ∃ (i : Nat) (t : Int), i ≤ ss.length ∧ iv = .int .i64 i ∧ nv = .int .i64 t ∧ Hid (i ≤ 60 → t = bytesTo ss i) ∧ Hid (∀ j, j < i → (strAt ss j).size ≤ 200)) (fun _ iv => ss.length - (intOf iv).toNat)
  case atStart => exact ⟨0, 0, Nat.zero_le _, rfl, rfl, Lib.hid (fun _ => rfl), Lib.hid (fun j hj => by omega)⟩
  case round =>
    obtain ⟨i, t, hil, rfl, rfl, HT, HS⟩ := hrel
    by_cases hlt : i < ss.length
    · obtain ⟨g, off, rfl, hg, hcell0⟩ := HR.out.cell i hlt
      obtain ⟨s, hss⟩ : ∃ s, strAt ss i = s := ⟨_, rfl⟩
      have hcell : w.cell? ⟨g, off + i, none⟩ = some (.string s) := by rw [← hss]; exact hcell0 i hlt
      have hsz63 : s.size ≤ 9223372036854775807 := by rw [← hss]; exact HZ.out i hlt
      have HSS := Lib.hid hss
      clear hcell0 hss
      by_cases h200 : 200 < s.size
      · have g1 : decide (200 < s.size) = true := decide_eq_true h200
        have g2 : decide ((200 : Int) < (s.size : Int)) = true := decide_eq_true (by omega)
        by_cases hi0 : i = 0
        · subst hi0
          rw [Nat.add_zero] at hcell
          go_wp2_with fail
          refine (told8_any S w HE.out).mono ?_
          rintro e wz ⟨rfl, hb'⟩
          go_wp2
          go_ret
          exact ⟨rfl, hb'⟩
        · go_wp2_with fail
          refine (told8_any S w HE.out).mono ?_
          rintro e wz ⟨rfl, hb'⟩
          go_wp2
          go_ret
          exact ⟨rfl, hb'⟩
      · have g1 : decide (200 < s.size) = false := decide_eq_false h200
        have g2 : decide ((200 : Int) < (s.size : Int)) = false := decide_eq_false (by omega)
        have HS2 : Hid (∀ j, j < i + 1 → (strAt ss j).size ≤ 200) := Lib.hid (fun j hj => by
          by_cases e : j = i
          · rw [e, HSS.out]; omega
          · exact HS.out j (by omega))
        by_cases h60 : i < 60
        · obtain ⟨m, hm⟩ : ∃ m : Nat, bytesTo ss i = m := ⟨_, rfl⟩
          have ht := HT.out (by omega)
          rw [hm] at ht
          subst ht
          have hmb : m ≤ 12000 := by
            have h1 := bytesN_le (ss.take i) 200 (fun x hx => by
              obtain ⟨j, hj, rfl⟩ := List.mem_iff_getElem.1 hx
              rw [List.length_take] at hj
              have := HS.out j (by omega)
              simpa [strAt, List.getD, List.getElem?_eq_getElem (show j < ss.length by omega)] using this)
            rw [List.length_take] at h1
            have h2 : min i ss.length * 200 ≤ 60 * 200 := Nat.mul_le_mul_right 200 (by omega)
            unfold bytesTo at hm
            omega
          have HN : Hid (bytesTo ss (i + 1) = m + s.size) := Lib.hid (by rw [bytesTo_next ss i s hlt HSS.out, hm])
          clear hm
          by_cases hi0 : i = 0
          · subst hi0
            rw [Nat.add_zero] at hcell
            go_wp2
            go_round
            case rel => exact ⟨0 + 1, ((m + s.size : Nat) : Int), by omega, by go_num, by first | rfl | go_num, Lib.hid (fun _ => by rw [HN.out]), HS2⟩
            case measure => simp [intOf]; omega
          · go_wp2
            go_round
            case rel => exact ⟨i + 1, ((m + s.size : Nat) : Int), by omega, by go_num, by first | rfl | go_num, Lib.hid (fun _ => by rw [HN.out]), HS2⟩
            case measure => simp [intOf]; omega
        · have hi0 : i ≠ 0 := by omega
          go_wp2
          go_round
          case rel => exact ⟨i + 1, _, by omega, by go_num, rfl, Lib.hid (fun h => by omega), HS2⟩
          case measure => simp [intOf]; omega
    · have g0 : decide (i < ss.length) = false := decide_eq_false hlt
      by_cases h60 : 60 < ss.length
      · have g1 : decide (60 < ss.length) = true := decide_eq_true h60
        have g2 : decide ((60 : Int) < (ss.length : Int)) = true := decide_eq_true (by omega)
        go_wp2_with fail
        refine (told8_any S w HE.out).mono ?_
        rintro e wz ⟨rfl, hb'⟩
        go_wp2
        go_ret
        exact ⟨rfl, hb'⟩
      · have g1 : decide (60 < ss.length) = false := decide_eq_false h60
        have g2 : decide ((60 : Int) < (ss.length : Int)) = false := decide_eq_false (by omega)
        have hie : i = ss.length := by omega
        have ht := HT.out (by omega)
        rw [hie, bytesTo_all] at ht
        have hn12 : bytesN ss ≤ 12000 := by
          have := sizes_few (m := 200) (fun j hj => HS.out j (by omega))
          have h2 : ss.length * 200 ≤ 60 * 200 := Nat.mul_le_mul_right 200 (by omega)
          omega
        obtain ⟨n, hn⟩ : ∃ n, bytesN ss = n := ⟨_, rfl⟩
        have HN := Lib.hid hn
        rw [hn] at ht hn12
        subst ht
        obtain ⟨sz, hsz⟩ : ∃ sz, poolN ss = sz := ⟨_, rfl⟩
        have HSZ := Lib.hid hsz
        have hl100 : ss.length ≤ 100000 := by omega
        have hf : bytesN ss ≤ 8388608 := by omega
        have HF := Lib.hid hf
        clear hn hsz hf
        go_wp2_with fail
        refine (pnewAt S _ HE.out hl100 HF.out HR.out (Below.refl _ _)).mono ?_
        rintro e wa ⟨p, rfl, h, _⟩
        have H := Lib.hid h
        clear h HT HS
        go_wp2_with fail
        refine (plenAt S ss.length rfl H.out).mono ?_
        rintro e wz ⟨rfl, hb'⟩
        replace H := Lib.hid (H.out.other S hb')
        clear hb'
        go_wp2_with fail
        refine (pbytesAt S n HN.out H.out).mono ?_
        rintro e wz ⟨rfl, hb'⟩
        replace H := Lib.hid (H.out.other S hb')
        clear hb'
        go_wp2_with fail
        try simp only [List.append_eq, List.cons_append, List.nil_append] at *
        refine (psizeAt S sz HSZ.out H.out).mono ?_
        rintro e wz ⟨rfl, hb'⟩
        replace H := Lib.hid (H.out.other S hb')
        clear hb'
        go_wp2_with fail
        refine (refPoolSize_any _ _ ss _ hl100 HF.out (HR.out.below H.out.since)).mono ?_
        rw [HSZ.out]
        rintro e wz ⟨rfl, hb'⟩
        replace H := Lib.hid (H.out.other S hb')
        clear hb'
        go_wp2
        go_loopw [9] (fun iv wr => ∃ i : Nat, i ≤ ss.length ∧ iv = .int .i64 i ∧ PAt E Is w.heap.size w (.pointer (some p)) ss wr) (fun iv _ => ss.length - (intOf iv).toNat)
        case atStart => exact ⟨0, Nat.zero_le _, rfl, H.out⟩
        case round =>
          clear hlt g0 hie hil
          obtain ⟨i, hil, rfl, hA⟩ := hrel
          replace H := Lib.hid hA
          clear hA
          by_cases hlt : i < ss.length
          · obtain ⟨g, off, rfl, hg, hcell0⟩ := HR.out.cell i hlt
            obtain ⟨s, hss⟩ : ∃ s, strAt ss i = s := ⟨_, rfl⟩
            have HC : Hid (w.cell? ⟨g, off + i, none⟩ = some (.string s)) := Lib.hid (by rw [← hss]; exact hcell0 i hlt)
            have HX := Lib.hid ((getS_at ss i hlt).trans hss)
            have HXE := Lib.hid (getSE_at ss i hlt)
            have HI := Lib.hid (⟨by omega, by omega⟩ : In64 (i : Int))
            clear hcell0 hss
            go_wp2_with fail
            refine (pgetAt S (i : Int) s 0 HX.out HXE.out HI.out H.out).mono ?_
            rintro e wz ⟨rfl, hb'⟩
            replace H := Lib.hid (H.out.other S hb')
            clear hb'
            have hcell : wz.cell? ⟨g, off + i, none⟩ = some (.string s) := by rw [H.out.since.cell (p := ⟨g, off + i, none⟩) hg]; exact HC.out
            by_cases hi0 : i = 0
            · subst hi0
              rw [Nat.add_zero] at hcell
              go_wp2
              go_roundw
              case rel => exact ⟨0 + 1, by omega, by go_num, H.out⟩
              case measure => simp [intOf]; omega
            · go_wp2
              go_roundw
              case rel => exact ⟨i + 1, by omega, by go_num, H.out⟩
              case measure => simp [intOf]; omega
          · have g0 : decide (i < ss.length) = false := decide_eq_false hlt
            by_cases hin : 0 ≤ k ∧ k < ss.length
            · obtain ⟨x, hx⟩ : ∃ x, getS ss k = x := ⟨_, rfl⟩
              have HX := Lib.hid hx
              have HXE := Lib.hid (getSE_in ss k hin)
              have i1 : decide ((0 : Int) ≤ k) = true := decide_eq_true hin.1
              have i2 : decide (k < (ss.length : Int)) = true := decide_eq_true hin.2
              clear hx
              go_wp2_with fail
              refine (pgetAt S k x 0 HX.out HXE.out HK.out H.out).mono ?_
              rintro e wz ⟨rfl, hb'⟩
              replace H := Lib.hid (H.out.other S hb')
              clear hb'
              go_wp2_with fail
              refine (told8_any S _ H.out.e).mono ?_
              rintro e wz ⟨rfl, hb'⟩
              replace H := Lib.hid (H.out.other S hb')
              clear hb'
              go_wp2
              go_ret
              exact ⟨rfl, H.out.since⟩
            · have HX := Lib.hid (getS_out ss k hin)
              have HXE := Lib.hid (getSE_out ss k hin)
              by_cases h0 : 0 ≤ k
              · have i1 : decide ((0 : Int) ≤ k) = true := decide_eq_true h0
                have i2 : decide (k < (ss.length : Int)) = false := decide_eq_false (by omega)
                go_wp2_with fail
                refine (pgetAt S k _ 4 HX.out HXE.out HK.out H.out).mono ?_
                rintro e wz ⟨rfl, hb'⟩
                replace H := Lib.hid (H.out.other S hb')
                clear hb'
                go_wp2_with fail
                refine (told8_any S _ H.out.e).mono ?_
                rintro e wz ⟨rfl, hb'⟩
                replace H := Lib.hid (H.out.other S hb')
                clear hb'
                go_wp2
                go_ret
                exact ⟨rfl, H.out.since⟩
              · have i1 : decide ((0 : Int) ≤ k) = false := decide_eq_false h0
                go_wp2_with fail
                refine (pgetAt S k _ 4 HX.out HXE.out HK.out H.out).mono ?_
                rintro e wz ⟨rfl, hb'⟩
                replace H := Lib.hid (H.out.other S hb')
                clear hb'
                go_wp2_with fail
                refine (told8_any S _ H.out.e).mono ?_
                rintro e wz ⟨rfl, hb'⟩
                replace H := Lib.hid (H.out.other S hb')
                clear hb'
                go_wp2
                go_ret
                exact ⟨rfl, H.out.since⟩
end Go.Proofs.Ytibhhndiefhofaa
