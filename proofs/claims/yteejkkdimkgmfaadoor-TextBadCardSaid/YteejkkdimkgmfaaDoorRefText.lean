/-
  THE CONTRACT OF brackenref1.Text: it returns what readT of TextLaws says; of what was there before the call nothing turns.
-/
import Derived.Test.YteejkkdimkgmfaaDoorRefEnds
import Derived.Test.YteejkkdimkgmfaaDoorRefValid
namespace Go.Proofs.YteejkkdimkgmfaaDoor
open Go.RowKit

theorem readT_yes (s t : ByteArray) (ht : restT s = t) (hv : validT t = true) : readT s = (endsT t, true) := by
  unfold readT; rw [ht, if_pos hv]
theorem readT_no (s t : ByteArray) (ht : restT s = t) (hv : validT t = false) : readT s = (⟨#[]⟩, false) := by
  unfold readT; rw [ht, hv]; rfl
theorem restT_mark (s : ByteArray) (h : 3 ≤ s.size) (h0 : (s[0]'(by omega)).toNat = 239) (h1 : (s[1]'(by omega)).toNat = 187) (h2 : (s[2]'(by omega)).toNat = 191) : restT s = s.extract 3 s.size := by
  have g : ∀ k, (hk : k < s.size) → s.get! k = s[k]'hk := fun k hk => get_at s k hk
  unfold restT markB
  rw [g 0 (by omega), g 1 (by omega), g 2 (by omega)]
  have e0 : s[0]'(by omega) = 239 := UInt8.toNat_inj.1 h0
  have e1 : s[1]'(by omega) = 187 := UInt8.toNat_inj.1 h1
  have e2 : s[2]'(by omega) = 191 := UInt8.toNat_inj.1 h2
  rw [e0, e1, e2, decide_eq_true h]
  rfl
theorem restT_short (s : ByteArray) (h : ¬ 3 ≤ s.size) : restT s = s := by
  unfold restT markB
  rw [decide_eq_false h]; rfl
theorem restT_none (s : ByteArray) (h : 3 ≤ s.size) (hn : ¬ ((s[0]'(by omega)).toNat = 239 ∧ (s[1]'(by omega)).toNat = 187 ∧ (s[2]'(by omega)).toNat = 191)) : restT s = s := by
  have g : ∀ k, (hk : k < s.size) → s.get! k = s[k]'hk := fun k hk => get_at s k hk
  unfold restT markB
  rw [g 0 (by omega), g 1 (by omega), g 2 (by omega), if_neg]
  intro e
  simp only [Bool.and_eq_true, beq_iff_eq] at e
  exact hn ⟨by rw [e.2.1]; rfl, by rw [e.2.2.1]; rfl, by rw [e.2.2.2]; rfl⟩

/-- the two results of a reading -/
def codeOf (b : Bool) : Int := if b = true then 0 else 2

set_option maxHeartbeats 4000000 in
set_option maxRecDepth 100000 in
theorem refText_any (s : ByteArray) (w : World) (hs : s.size ≤ 4294967296) :
    Calls Tryd.prog 12 #[.string s] w fun e w' => e = .returned (.tuple #[.string (readT s).1, .int .i64 (codeOf (readT s).2)]) ∧ Below w.heap.size w w' := by
  by_cases h3 : 3 ≤ s.size
  · have g3 : decide ((3 : Int) ≤ (s.size : Int)) = true := decide_eq_true (by omega)
    have i0 : 0 < s.size := by omega
    have i1 : 1 < s.size := by omega
    have i2 : 2 < s.size := by omega
    obtain ⟨b0, h0⟩ : ∃ b0, (s[0]'i0).toNat = b0 := ⟨_, rfl⟩
    obtain ⟨b1, h1⟩ : ∃ b1, (s[1]'i1).toNat = b1 := ⟨_, rfl⟩
    obtain ⟨b2, h2⟩ : ∃ b2, (s[2]'i2).toNat = b2 := ⟨_, rfl⟩
    by_cases m : b0 = 239 ∧ b1 = 187 ∧ b2 = 191
    · obtain ⟨rfl, rfl, rfl⟩ := m
      have HT := Lib.hid (restT_mark s h3 h0 h1 h2)
      have zt : (s.extract 3 s.size).size ≤ 4294967296 := by rw [ByteArray.size_extract]; omega
      have HY := Lib.hid (readT_yes s (s.extract 3 s.size) HT.out)
      have HN := Lib.hid (readT_no s (s.extract 3 s.size) HT.out)
      obtain ⟨p, hp⟩ : ∃ p, validT (s.extract 3 s.size) = p := ⟨_, rfl⟩
      have cV := fun w => refValid_any (s.extract 3 s.size) w zt
      have cE := fun w => refEnds_any (s.extract 3 s.size) w zt
      rw [hp] at HY HN cV
      clear hp zt
      cases p
      · have HF := Lib.hid (HN.out rfl)
        clear HY HN cE
        go_enter Tryd.func12, Tryd.ntmps12
        go_wp2_with (go_at_call 13; refine (cV _).mono ?_; rintro e w' ⟨rfl, rfl⟩)
        go_ret2
        exact ⟨by rw [HF.out]; rfl, Below.refl _ _⟩
      · have HF := Lib.hid (HY.out rfl)
        clear HY HN
        go_enter Tryd.func12, Tryd.ntmps12
        go_wp2_with (first | (go_at_call 13; refine (cV _).mono ?_; rintro e w' ⟨rfl, rfl⟩) | (go_at_call 15; refine (cE _).mono ?_; rintro e w1 ⟨rfl, hb⟩))
        go_ret2
        exact ⟨by rw [HF.out]; rfl, hb⟩
    · have HT := Lib.hid (restT_none s h3 (by rw [h0, h1, h2]; exact m))
      have zt := hs
      by_cases m0 : b0 = 239
      · subst m0
        by_cases m1 : b1 = 187
        · subst m1
          have m2 : ¬ b2 = 191 := fun e => m ⟨rfl, rfl, e⟩
          have e2 : ((b2 : Int) == 191) = false := beq_eq_false_iff_ne.2 (by omega)
          have e3 : (b2 == 191) = false := beq_eq_false_iff_ne.2 m2
          clear m m2
          have HY := Lib.hid (readT_yes s s HT.out)
          have HN := Lib.hid (readT_no s s HT.out)
          obtain ⟨p, hp⟩ : ∃ p, validT s = p := ⟨_, rfl⟩
          have cV := fun w => refValid_any s w zt
          have cE := fun w => refEnds_any s w zt
          rw [hp] at HY HN cV
          clear hp zt
          cases p
          · have HF := Lib.hid (HN.out rfl)
            clear HY HN cE
            go_enter Tryd.func12, Tryd.ntmps12
            go_wp2_with (go_at_call 13; refine (cV _).mono ?_; rintro e w' ⟨rfl, rfl⟩)
            go_ret2
            exact ⟨by rw [HF.out]; rfl, Below.refl _ _⟩
          · have HF := Lib.hid (HY.out rfl)
            clear HY HN
            go_enter Tryd.func12, Tryd.ntmps12
            go_wp2_with (first | (go_at_call 13; refine (cV _).mono ?_; rintro e w' ⟨rfl, rfl⟩) | (go_at_call 15; refine (cE _).mono ?_; rintro e w1 ⟨rfl, hb⟩))
            go_ret2
            exact ⟨by rw [HF.out]; rfl, hb⟩
        · have e2 : ((b1 : Int) == 187) = false := beq_eq_false_iff_ne.2 (by omega)
          have e3 : (b1 == 187) = false := beq_eq_false_iff_ne.2 m1
          clear m m1
          have HY := Lib.hid (readT_yes s s HT.out)
          have HN := Lib.hid (readT_no s s HT.out)
          obtain ⟨p, hp⟩ : ∃ p, validT s = p := ⟨_, rfl⟩
          have cV := fun w => refValid_any s w zt
          have cE := fun w => refEnds_any s w zt
          rw [hp] at HY HN cV
          clear hp zt
          cases p
          · have HF := Lib.hid (HN.out rfl)
            clear HY HN cE
            go_enter Tryd.func12, Tryd.ntmps12
            go_wp2_with (go_at_call 13; refine (cV _).mono ?_; rintro e w' ⟨rfl, rfl⟩)
            go_ret2
            exact ⟨by rw [HF.out]; rfl, Below.refl _ _⟩
          · have HF := Lib.hid (HY.out rfl)
            clear HY HN
            go_enter Tryd.func12, Tryd.ntmps12
            go_wp2_with (first | (go_at_call 13; refine (cV _).mono ?_; rintro e w' ⟨rfl, rfl⟩) | (go_at_call 15; refine (cE _).mono ?_; rintro e w1 ⟨rfl, hb⟩))
            go_ret2
            exact ⟨by rw [HF.out]; rfl, hb⟩
      · have e2 : ((b0 : Int) == 239) = false := beq_eq_false_iff_ne.2 (by omega)
        have e3 : (b0 == 239) = false := beq_eq_false_iff_ne.2 m0
        clear m m0
        have HY := Lib.hid (readT_yes s s HT.out)
        have HN := Lib.hid (readT_no s s HT.out)
        obtain ⟨p, hp⟩ : ∃ p, validT s = p := ⟨_, rfl⟩
        have cV := fun w => refValid_any s w zt
        have cE := fun w => refEnds_any s w zt
        rw [hp] at HY HN cV
        clear hp zt
        cases p
        · have HF := Lib.hid (HN.out rfl)
          clear HY HN cE
          go_enter Tryd.func12, Tryd.ntmps12
          go_wp2_with (go_at_call 13; refine (cV _).mono ?_; rintro e w' ⟨rfl, rfl⟩)
          go_ret2
          exact ⟨by rw [HF.out]; rfl, Below.refl _ _⟩
        · have HF := Lib.hid (HY.out rfl)
          clear HY HN
          go_enter Tryd.func12, Tryd.ntmps12
          go_wp2_with (first | (go_at_call 13; refine (cV _).mono ?_; rintro e w' ⟨rfl, rfl⟩) | (go_at_call 15; refine (cE _).mono ?_; rintro e w1 ⟨rfl, hb⟩))
          go_ret2
          exact ⟨by rw [HF.out]; rfl, hb⟩
  · have g3 : decide ((3 : Int) ≤ (s.size : Int)) = false := decide_eq_false (by omega)
    have HT := Lib.hid (restT_short s h3)
    have zt := hs
    clear h3
    have HY := Lib.hid (readT_yes s s HT.out)
    have HN := Lib.hid (readT_no s s HT.out)
    obtain ⟨p, hp⟩ : ∃ p, validT s = p := ⟨_, rfl⟩
    have cV := fun w => refValid_any s w zt
    have cE := fun w => refEnds_any s w zt
    rw [hp] at HY HN cV
    clear hp zt
    cases p
    · have HF := Lib.hid (HN.out rfl)
      clear HY HN cE
      go_enter Tryd.func12, Tryd.ntmps12
      go_wp2_with (go_at_call 13; refine (cV _).mono ?_; rintro e w' ⟨rfl, rfl⟩)
      go_ret2
      exact ⟨by rw [HF.out]; rfl, Below.refl _ _⟩
    · have HF := Lib.hid (HY.out rfl)
      clear HY HN
      go_enter Tryd.func12, Tryd.ntmps12
      go_wp2_with (first | (go_at_call 13; refine (cV _).mono ?_; rintro e w' ⟨rfl, rfl⟩) | (go_at_call 15; refine (cE _).mono ?_; rintro e w1 ⟨rfl, hb⟩))
      go_ret2
      exact ⟨by rw [HF.out]; rfl, hb⟩
end Go.Proofs.YteejkkdimkgmfaaDoor
