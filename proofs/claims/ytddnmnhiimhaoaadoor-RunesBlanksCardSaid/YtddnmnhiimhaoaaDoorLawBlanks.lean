/-
  THE CONTRACT OF brackenlaw1.RunesBlanks: it returns true for every text and every character.
-/
import Derived.Test.YtddnmnhiimhaoaaDoorToldOne
import Derived.Laws.Cover4
namespace Go.Proofs.YtddnmnhiimhaoaaDoor
open Go.RowKit

/-- how many of the first k bytes are spaces -/
def cntS (s : ByteArray) (k : Nat) : Nat := ((s.data.toList.take k).filter spaceU).length
theorem cntS_zero (s : ByteArray) : cntS s 0 = 0 := rfl
theorem cntS_le (s : ByteArray) (k : Nat) : cntS s k ≤ k := by
  unfold cntS
  have h1 := List.length_filter_le spaceU (s.data.toList.take k)
  have h2 : (s.data.toList.take k).length ≤ k := List.length_take_le _ _
  omega
theorem cntS_succ (s : ByteArray) (k : Nat) (h : k < s.size) : cntS s (k + 1) = cntS s k + if spaceB ((s[k]'h).toNat : Int) = true then 1 else 0 := by
  unfold cntS
  rw [List.take_succ_eq_append_getElem (by simpa using h), List.filter_append, List.length_append]
  congr 1
  have e : spaceU (s.data.toList[k]'(by simpa using h)) = spaceB ((s[k]'h).toNat : Int) := rfl
  rw [List.filter_cons, e]
  split <;> rfl
theorem blank_cnt (s : ByteArray) : blankB s = decide (cntS s s.size = s.size) := by
  unfold blankB cntS
  rw [Lib.size_eq, List.take_of_length_le (Nat.le_refl _)]
  rw [Bool.eq_iff_iff, decide_eq_true_eq, List.all_eq_true, List.length_filter_eq_length_iff]
theorem blank_append (x y : ByteArray) : blankB (x ++ y) = (blankB x && blankB y) := by
  unfold blankB
  rw [ByteArray.data_append, Array.toList_append, List.all_append]
theorem blank_encode (r : Int) (h0 : 0 ≤ r) (h1 : r ≤ 1114111) : blankB (Utf8.encode r) = spaceB r := by
  obtain ⟨n, rfl⟩ := Int.eq_ofNat_of_zero_le h0
  by_cases ha : n < 128
  · have e : Utf8.encode (n : Int) = ⟨#[UInt8.ofNat n]⟩ := by
      have hv : Utf8.valid (n : Int) = true := by unfold Utf8.valid; simp; omega
      unfold Utf8.encode
      simp only [hv, if_true, Int.toNat_natCast]
      rw [if_pos ha]
    rw [e]
    unfold blankB spaceU
    simp only [List.all_cons, List.all_nil, Bool.and_true]
    rw [UInt8.toNat_ofNat', Nat.mod_eq_of_lt (by omega)]
  · have e2 : spaceB (n : Int) = false := by
      rw [Bool.eq_false_iff]; intro e; have := space_ascii e; omega
    rw [e2]
    have key : ∀ c : Nat, 128 ≤ c → c < 256 → spaceU (UInt8.ofNat c) = false := fun c h1 h2 => by
      unfold spaceU
      rw [UInt8.toNat_ofNat', Nat.mod_eq_of_lt (by omega), Bool.eq_false_iff]
      intro e; have := space_ascii e; omega
    unfold Utf8.encode
    simp only [Int.toNat_natCast]
    have hc : ∃ c : Nat, (if Utf8.valid (n : Int) = true then n else Utf8.runeError) = c ∧ 128 ≤ c ∧ c ≤ 1114111 := by
      refine ⟨_, rfl, ?_, ?_⟩
      · split
        · omega
        · decide
      · split
        · omega
        · decide
    obtain ⟨c, hc, hc1, hc2⟩ := hc
    rw [hc, if_neg (by omega)]
    unfold blankB
    split
    · simp only [List.all_cons]; rw [key _ (by omega) (by omega)]; rfl
    · split
      · simp only [List.all_cons]; rw [key _ (by omega) (by omega)]; rfl
      · simp only [List.all_cons]; rw [key _ (by omega) (by omega)]; rfl
theorem blank_three (r : Int) (h0 : 0 ≤ r) (h1 : r ≤ 1114111) : blankB (⟨#[32, 10]⟩ ++ Utf8.encode r) = spaceB r := by
  rw [blank_append, blank_encode r h0 h1, show blankB ⟨#[32, 10]⟩ = true by decide, Bool.true_and]

set_option maxHeartbeats 1000000 in
set_option maxRecDepth 100000 in
theorem blanksLong_law (s : ByteArray) (r : Int) (w : World) (h : 30 < s.size ∨ r < 0 ∨ 1114111 < r) (hT : Tabs w) :
    Calls Tryd.prog 8 #[.string s, .int .i32 r] w fun e w' => e = .returned (.bool true) ∧ Below w.heap.size w w' := by
  have cT := told_any w hT
  by_cases h1 : 30 < s.size
  · have g1 : decide ((30 : Int) < (s.size : Int)) = true := decide_eq_true (by omega)
    go_enter Tryd.func8, Tryd.ntmps8
    go_wp2_with (go_at_call 9; refine cT.mono ?_; rintro e w1 ⟨rfl, hb⟩)
    go_ret
    exact ⟨rfl, hb⟩
  · have g1 : decide ((30 : Int) < (s.size : Int)) = false := decide_eq_false (by omega)
    by_cases h2 : r < 0
    · have g2 : decide (r < 0) = true := decide_eq_true h2
      go_enter Tryd.func8, Tryd.ntmps8
      go_wp2_with (go_at_call 9; refine cT.mono ?_; rintro e w1 ⟨rfl, hb⟩)
      go_ret
      exact ⟨rfl, hb⟩
    · have g2 : decide (r < 0) = false := decide_eq_false h2
      have g3 : decide (1114111 < r) = true := decide_eq_true (by omega)
      go_enter Tryd.func8, Tryd.ntmps8
      go_wp2_with (go_at_call 9; refine cT.mono ?_; rintro e w1 ⟨rfl, hb⟩)
      go_ret
      exact ⟨rfl, hb⟩

set_option maxHeartbeats 4000000 in
set_option maxRecDepth 100000 in
theorem blanksShort_law (s : ByteArray) (r : Int) (w : World) (h1 : ¬ 30 < s.size) (h2 : ¬ r < 0) (h3 : ¬ 1114111 < r) (hT : Tabs w) :
    Calls Tryd.prog 8 #[.string s, .int .i32 r] w fun e w' => e = .returned (.bool true) ∧ Below w.heap.size w w' := by
  have HT := Lib.hid hT
  have g1 : decide ((30 : Int) < (s.size : Int)) = false := decide_eq_false (by omega)
  have g2 : decide (r < 0) = false := decide_eq_false h2
  have g3 : decide (1114111 < r) = false := decide_eq_false h3
  have H3 := Lib.hid (blank_three r (by omega) (by omega))
  have hes := encode_size_le r
  have hsz : s.size ≤ 30 := by omega
  clear hT h1 h2 h3
  go_enter Tryd.func8, Tryd.ntmps8
  go_wp2
  go_loop [5, 6] (fun n i => ∃ k : Nat, k ≤ s.size ∧ i = .int .i64 k ∧ n = .int .i64 (cntS s k)) (fun _ i => s.size - (intOf i).toNat)
  case atStart => exact ⟨0, Nat.zero_le _, rfl, rfl⟩
  case round =>
    obtain ⟨k, hk, rfl, rfl⟩ := hrel
    have hcl := cntS_le s k
    by_cases hlt : k < s.size
    · have HS := Lib.hid (cntS_succ s k hlt)
      obtain ⟨c, hc⟩ : ∃ c, (s[k]'hlt).toNat = c := ⟨_, rfl⟩
      rw [hc] at HS
      generalize cntS s k = n at *
      have hcase : (c = 32 ∨ c = 9 ∨ c = 10 ∨ c = 13) ∨ (¬ c = 32 ∧ ¬ c = 9 ∧ ¬ c = 10 ∧ ¬ c = 13) := by omega
      rcases hcase with hc4 | ⟨n1, n2, n3, n4⟩
      · have HS' : Hid (cntS s (k + 1) = n + 1) := by
          rw [HS.out, if_pos]
          · exact rfl
          · rcases hc4 with rfl | rfl | rfl | rfl <;> decide
        clear HS
        rcases hc4 with rfl | rfl | rfl | rfl
        all_goals
          go_wp2
          go_round
          case rel => exact ⟨k + 1, by omega, by go_num, by rw [HS'.out]; go_num⟩
          case measure => simp [intOf]; omega
      · have HS' : Hid (cntS s (k + 1) = n) := by
          rw [HS.out, if_neg]
          · exact rfl
          · intro e; have := space_ascii e; omega
        have a1 : ((c : Int) == 32) = false := beq_eq_false_iff_ne.2 (by omega)
        have a2 : ((c : Int) == 9) = false := beq_eq_false_iff_ne.2 (by omega)
        have a3 : ((c : Int) == 10) = false := beq_eq_false_iff_ne.2 (by omega)
        have a4 : ((c : Int) == 13) = false := beq_eq_false_iff_ne.2 (by omega)
        have b1 : (c == 32) = false := beq_eq_false_iff_ne.2 n1
        have b2 : (c == 9) = false := beq_eq_false_iff_ne.2 n2
        have b3 : (c == 10) = false := beq_eq_false_iff_ne.2 n3
        have b4 : (c == 13) = false := beq_eq_false_iff_ne.2 n4
        clear HS n1 n2 n3 n4
        go_wp2
        go_round
        case rel => exact ⟨k + 1, by omega, by go_num, by rw [HS'.out]⟩
        case measure => simp [intOf]; omega
    · have hks : k = s.size := by omega
      subst hks
      have HB := Lib.hid (blank_cnt s)
      generalize cntS s s.size = n at *
      obtain ⟨p, hp⟩ : ∃ p, decide (n = s.size) = p := ⟨_, rfl⟩
      rw [hp] at HB
      have e1 : ((n : Int) == (s.size : Int)) = p := by rw [← hp, Bool.eq_iff_iff, beq_iff_eq, decide_eq_true_eq]; omega
      have e2 : (n == s.size) = p := by rw [← hp, Bool.eq_iff_iff, beq_iff_eq, decide_eq_true_eq]
      clear hp
      go_wp2_with fail
      refine (told_any _ HT.out).mono ?_
      rintro e w1 ⟨rfl, hb⟩
      go_wp2_with fail
      refine (blank_is s p HB.out _).mono ?_
      rintro e w2 ⟨rfl, hb'⟩
      replace hb := step_below hb hb'
      clear hb'
      go_wp2_with fail
      refine (blank_is _ _ H3.out _).mono ?_
      rintro e w3 ⟨rfl, hb'⟩
      replace hb := step_below hb hb'
      clear hb'
      go_wp2_with fail
      refine (space_is r _ rfl _).mono ?_
      rintro e w' ⟨rfl, rfl⟩
      go_wp2
      go_ret
      exact ⟨rfl, hb⟩

theorem blanks_law (s : ByteArray) (r : Int) (w : World) (hT : Tabs w) :
    Calls Tryd.prog 8 #[.string s, .int .i32 r] w fun e w' => e = .returned (.bool true) ∧ Below w.heap.size w w' := by
  by_cases h1 : 30 < s.size
  · exact blanksLong_law s r w (Or.inl h1) hT
  · by_cases h2 : r < 0
    · exact blanksLong_law s r w (Or.inr (Or.inl h2)) hT
    · by_cases h3 : 1114111 < r
      · exact blanksLong_law s r w (Or.inr (Or.inr h3)) hT
      · exact blanksShort_law s r w h1 h2 h3 hT
end Go.Proofs.YtddnmnhiimhaoaaDoor
