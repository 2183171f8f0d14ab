/-
  THE CONTRACT OF brackenlaw1.RunesSplits: it returns true for every two texts.
-/
import Derived.Test.YtddnmnhiimhaoaaDoorToldOne
import Derived.Test.YtddnmnhiimhaoaaDoorSplitLaws
namespace Go.Proofs.YtddnmnhiimhaoaaDoor
open Go.RowKit

theorem splits_colon (s : ByteArray) (k : Nat) (hc : colonB s = true) (hk : colonAt s = k) (p q : Bool) (hp : ncB (s.extract 0 k) = p) (hq : ncB (s.extract (k + 1) s.size) = q) : splitsB s = (p && q) := by
  unfold splitsB
  rw [hc, hk, hp, hq]; rfl
theorem splits_none (s : ByteArray) (hc : colonB s = false) : splitsB s = false := by
  unfold splitsB
  rw [hc]; rfl

set_option maxHeartbeats 2000000 in
set_option maxRecDepth 100000 in
theorem splits_any (s : ByteArray) (w : World) (hs : s.size ≤ 4294967280) (hT : Tabs w) :
    Calls Tryd.prog 26 #[.string s] w fun e w' => e = .returned (.bool (splitsB s)) ∧ Below w.heap.size w w' := by
  have HT := Lib.hid hT
  clear hT
  go_enter Tryd.func26, Tryd.ntmps26
  go_wp2
  go_loop [3] (fun i => ∃ k : Nat, k ≤ s.size ∧ i = .int .i64 k ∧ NoColon s k) (fun i => s.size - (intOf i).toNat)
  case atStart => exact ⟨0, Nat.zero_le _, rfl, noColon_zero s⟩
  case round =>
    obtain ⟨k, hk, rfl, hn⟩ := hrel
    have HN := Lib.hid hn
    clear hn
    by_cases hlt : k < s.size
    · have HS := Lib.hid (noColon_succ s k hlt HN.out)
      have HC := Lib.hid (colon_at s k hlt HN.out)
      obtain ⟨c, hc⟩ : ∃ c, (s[k]'hlt).toNat = c := ⟨_, rfl⟩
      rw [hc] at HS HC
      by_cases hcc : c = 58
      · subst hcc
        obtain ⟨p, hp⟩ : ∃ p, ncB (s.extract 0 k) = p := ⟨_, rfl⟩
        obtain ⟨q, hq⟩ : ∃ q, ncB (s.extract (k + 1) s.size) = q := ⟨_, rfl⟩
        have HV := Lib.hid (splits_colon s k (HC.out rfl).1 (HC.out rfl).2 p q hp hq)
        have z1 : (s.extract 0 k).size ≤ 4294967280 := by rw [ByteArray.size_extract]; omega
        have z2 : (s.extract (k + 1) s.size).size ≤ 4294967280 := by rw [ByteArray.size_extract]; omega
        have C1 := Lib.hid (nc_is _ p hp z1)
        have C2 := Lib.hid (nc_is _ q hq z2)
        clear HS HC hp hq z1 z2
        go_wp2_with fail
        refine (C1.out _ HT.out).mono ?_
        rintro e w1 ⟨rfl, hb⟩
        cases p
        · go_wp2
          go_ret
          exact ⟨by rw [HV.out]; rfl, hb⟩
        · go_wp2_with fail
          refine (C2.out _ (HT.out.below hb)).mono ?_
          rintro e w2 ⟨rfl, hb'⟩
          replace hb := step_below hb hb'
          clear hb'
          go_wp2
          go_ret
          exact ⟨by rw [HV.out]; rfl, hb⟩
      · have HS' := Lib.hid (HS.out hcc)
        have hc1 : ((c : Int) == 58) = false := beq_eq_false_iff_ne.2 (by omega)
        have hc2 : (c == 58) = false := beq_eq_false_iff_ne.2 hcc
        clear HS HC hcc
        go_wp2
        go_round
        case rel => exact ⟨k + 1, by omega, by go_num, HS'.out⟩
        case measure => simp [intOf]; omega
    · have hks : k = s.size := by omega
      subst hks
      have HV := Lib.hid (splits_none s (colon_none s HN.out))
      go_wp2
      go_ret
      exact ⟨by rw [HV.out]; rfl, Below.refl _ _⟩

theorem splitsIs_any (s : ByteArray) (b : Bool) (h : splitsB s = b) (hs : s.size ≤ 4294967280) (w : World) (hT : Tabs w) :
    Calls Tryd.prog 26 #[.string s] w fun e w' => e = .returned (.bool b) ∧ Below w.heap.size w w' := by
  subst h; exact splits_any s w hs hT

set_option maxHeartbeats 1000000 in
set_option maxRecDepth 100000 in
theorem splitsLong_law (a b : ByteArray) (w : World) (h : 50 < a.size ∨ 50 < b.size) (hT : Tabs w) :
    Calls Tryd.prog 6 #[.string a, .string b] w fun e w' => e = .returned (.bool true) ∧ Below w.heap.size w w' := by
  have cT := told_any w hT
  by_cases h1 : 50 < a.size
  · have g1 : decide ((50 : Int) < (a.size : Int)) = true := decide_eq_true (by omega)
    go_enter Tryd.func6, Tryd.ntmps6
    go_wp2_with (go_at_call 9; refine cT.mono ?_; rintro e w1 ⟨rfl, hb⟩)
    go_ret
    exact ⟨rfl, hb⟩
  · have g1 : decide ((50 : Int) < (a.size : Int)) = false := decide_eq_false (by omega)
    have g2 : decide ((50 : Int) < (b.size : Int)) = true := decide_eq_true (by omega)
    go_enter Tryd.func6, Tryd.ntmps6
    go_wp2_with (go_at_call 9; refine cT.mono ?_; rintro e w1 ⟨rfl, hb⟩)
    go_ret
    exact ⟨rfl, hb⟩

set_option maxHeartbeats 4000000 in
set_option maxRecDepth 100000 in
theorem splitsShort_law (a b : ByteArray) (w : World) (h1 : ¬ 50 < a.size) (h2 : ¬ 50 < b.size) (hT : Tabs w) :
    Calls Tryd.prog 6 #[.string a, .string b] w fun e w' => e = .returned (.bool true) ∧ Below w.heap.size w w' := by
  have HT := Lib.hid hT
  have g1 : decide ((50 : Int) < (a.size : Int)) = false := decide_eq_false (by omega)
  have g2 : decide ((50 : Int) < (b.size : Int)) = false := decide_eq_false (by omega)
  have za : a.size ≤ 4294967280 := by omega
  have zb : b.size ≤ 4294967280 := by omega
  have zt : (joinC a b).size ≤ 4294967280 := by rw [joinC_size]; omega
  have cT := fun w hT => told_any w hT
  obtain ⟨x, hx⟩ : ∃ x, ncB a = x := ⟨_, rfl⟩
  obtain ⟨y, hy⟩ : ∃ y, ncB b = y := ⟨_, rfl⟩
  have C1 := Lib.hid (nc_is a x hx za)
  have C2 := Lib.hid (nc_is b y hy zb)
  have hj := splitV_join a b
  rw [hx, hy] at hj
  obtain ⟨z, hz⟩ : ∃ z, splitsB a = z := ⟨_, rfl⟩
  have C5 := Lib.hid (splitsIs_any a z hz za)
  have hv := splitV_is a
  rw [hx, hz] at hv
  have h1v := splitV_one a
  rw [hx] at h1v
  have hnm := nameB_join a b
  rw [hx, hy] at hnm
  have CN : Hid (x = true → y = true → ∀ w, Tabs w → Calls Tryd.prog 20 #[.string (joinC a b)] w fun e w' => e = .returned (.bool true) ∧ Below w.heap.size w w') := fun p q w hT => name_is _ _ (hnm p q) zt w hT
  have C3 : Hid (∀ w, Tabs w → Calls Tryd.prog 12 #[.string (joinC a b)] w fun e w' => e = .returned (.tuple #[.string (if (x && y) = true then (a, b, true) else (⟨#[]⟩, ⟨#[]⟩, false)).1, .string (if (x && y) = true then (a, b, true) else (⟨#[]⟩, ⟨#[]⟩, false)).2.1, .bool (if (x && y) = true then (a, b, true) else (⟨#[]⟩, ⟨#[]⟩, false)).2.2]) ∧ Below w.heap.size w w') := fun w hT => split_is _ _ hj zt w hT
  obtain ⟨u, hu⟩ : ∃ u, splitV a = u := ⟨_, rfl⟩
  have C4 := Lib.hid (split_is a u hu za)
  rw [hu] at hv h1v
  obtain ⟨u1, u2, u3⟩ := u
  have ej : a ++ ⟨#[58]⟩ ++ b = joinC a b := rfl
  have sa : a.size ≤ 50 := by omega
  have sb : b.size ≤ 50 := by omega
  clear hx hy hj hz hu hnm za zb zt hT h1 h2
  cases x
  · obtain rfl : u3 = z := by simpa using hv
    clear hv h1v CN
    simp only [Bool.false_and, Bool.false_eq_true, if_false] at C3
    go_enter Tryd.func6, Tryd.ntmps6
    go_wp2_with fail
    refine (C1.out _ HT.out).mono ?_
    rintro e w1 ⟨rfl, hb⟩
    go_wp2_with fail
    refine (C2.out _ (HT.out.below hb)).mono ?_
    rintro e v1 ⟨rfl, hb'⟩
    replace hb := step_below hb hb'
    clear hb'
    go_wp2_with fail
    refine (C3.out _ (HT.out.below hb)).mono ?_
    rintro e v2 ⟨rfl, hb'⟩
    replace hb := step_below hb hb'
    clear hb'
    go_wp2_with fail
    refine (C4.out _ (HT.out.below hb)).mono ?_
    rintro e v3 ⟨rfl, hb'⟩
    replace hb := step_below hb hb'
    clear hb'
    go_wp2_with fail
    refine (cT _ (HT.out.below hb)).mono ?_
    rintro e v4 ⟨rfl, hb'⟩
    replace hb := step_below hb hb'
    clear hb'
    go_wp2_with fail
    refine (C5.out _ (HT.out.below hb)).mono ?_
    rintro e v5 ⟨rfl, hb'⟩
    replace hb := step_below hb hb'
    clear hb'
    go_wp2
    go_ret
    exact ⟨rfl, hb⟩
  · have hu := h1v rfl
    simp only [Prod.mk.injEq] at hu
    obtain ⟨rfl, rfl, rfl⟩ := hu
    clear hv h1v C5
    cases y
    · clear CN
      simp only [Bool.and_false, Bool.false_eq_true, if_false] at C3
      go_enter Tryd.func6, Tryd.ntmps6
      go_wp2_with fail
      refine (C1.out _ HT.out).mono ?_
      rintro e w1 ⟨rfl, hb⟩
      go_wp2_with fail
      refine (C2.out _ (HT.out.below hb)).mono ?_
      rintro e v1 ⟨rfl, hb'⟩
      replace hb := step_below hb hb'
      clear hb'
      go_wp2_with fail
      refine (C3.out _ (HT.out.below hb)).mono ?_
      rintro e v2 ⟨rfl, hb'⟩
      replace hb := step_below hb hb'
      clear hb'
      go_wp2_with fail
      refine (C4.out _ (HT.out.below hb)).mono ?_
      rintro e v3 ⟨rfl, hb'⟩
      replace hb := step_below hb hb'
      clear hb'
      go_wp2_with fail
      refine (cT _ (HT.out.below hb)).mono ?_
      rintro e v4 ⟨rfl, hb'⟩
      replace hb := step_below hb hb'
      clear hb'
      go_wp2
      go_ret
      exact ⟨rfl, hb⟩
    · have CM := Lib.hid (CN.out rfl rfl)
      clear CN
      simp only [Bool.and_self, if_true] at C3
      go_enter Tryd.func6, Tryd.ntmps6
      go_wp2_with fail
      refine (C1.out _ HT.out).mono ?_
      rintro e w1 ⟨rfl, hb⟩
      go_wp2_with fail
      refine (C2.out _ (HT.out.below hb)).mono ?_
      rintro e v1 ⟨rfl, hb'⟩
      replace hb := step_below hb hb'
      clear hb'
      go_wp2_with fail
      refine (C3.out _ (HT.out.below hb)).mono ?_
      rintro e v2 ⟨rfl, hb'⟩
      replace hb := step_below hb hb'
      clear hb'
      go_wp2_with fail
      refine (C4.out _ (HT.out.below hb)).mono ?_
      rintro e v3 ⟨rfl, hb'⟩
      replace hb := step_below hb hb'
      clear hb'
      go_wp2_with fail
      refine (cT _ (HT.out.below hb)).mono ?_
      rintro e v4 ⟨rfl, hb'⟩
      replace hb := step_below hb hb'
      clear hb'
      go_wp2_with fail
      refine (CM.out _ (HT.out.below hb)).mono ?_
      rintro e v6 ⟨rfl, hb'⟩
      replace hb := step_below hb hb'
      clear hb'
      go_wp2
      go_ret
      exact ⟨rfl, hb⟩

theorem splits_law (a b : ByteArray) (w : World) (hT : Tabs w) :
    Calls Tryd.prog 6 #[.string a, .string b] w fun e w' => e = .returned (.bool true) ∧ Below w.heap.size w w' := by
  by_cases h1 : 50 < a.size
  · exact splitsLong_law a b w (Or.inl h1) hT
  · by_cases h2 : 50 < b.size
    · exact splitsLong_law a b w (Or.inr h2) hT
    · exact splitsShort_law a b w h1 h2 hT
end Go.Proofs.YtddnmnhiimhaoaaDoor
