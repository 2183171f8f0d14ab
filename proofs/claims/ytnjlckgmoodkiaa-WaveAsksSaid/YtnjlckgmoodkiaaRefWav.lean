/-
  THE CONTRACTS OF brackenref1.Count, Nth, MaySyms, WaveSize. (Written by gen_refwav.py.)
-/
import Derived.Test.YtnjlckgmoodkiaaSymsAt
import Derived.Test.YtnjlckgmoodkiaaWavLaws
import Derived.Test.YtnjlckgmoodkiaaRefWidth
import Derived.Test.YtnjlckgmoodkiaaRefBSize
import Derived.IntWalk
namespace Go.Proofs.Ytnjlckgmoodkiaa
open Go.RowKit

set_option maxHeartbeats 4000000 in
set_option maxRecDepth 100000 in
theorem countSome_any (b off cap : Nat) (xs : List Int) (lo hi s : Int) (w : World) (hx : xs.length ≤ 4294967296) (hlo : lo ≤ 9223372036854775807) (hc : ∀ i, i < xs.length → w.cell? ⟨b, off + i, none⟩ = some (.int .i64 (xs.getD i 0))) :
    Calls Try.prog 15 #[.slice (some ⟨b, off, none⟩) xs.length cap, .int .i64 lo, .int .i64 hi, .int .i64 s] w fun e w' => e = .returned (.int .i64 (countL xs lo hi s)) ∧ w = w' := by
  have HC := Lib.hid hc
  clear hc
  obtain ⟨ans, hans⟩ : ∃ ans : Nat, countL xs lo hi s = ans := ⟨_, rfl⟩
  have hal : ans ≤ xs.length := by rw [← hans]; exact count_leW xs s lo hi
  have HA := Lib.hid hans
  rw [hans]
  clear hans
  obtain ⟨a, ha⟩ : ∃ a : Nat, lo.toNat = a := ⟨_, rfl⟩
  have HLO := Lib.hid ha
  clear ha
  go_enter Try.func15, Try.ntmps15
  go_wp2
  all_goals
    go_loop [9, 10] (fun n i => ∃ j m : Nat, a ≤ j ∧ (j : Int) ≤ 9223372036854775807 ∧ i = .int .i64 j ∧ n = .int .i64 m ∧ m + (((isSym xs s).take hi.toNat).drop j).countP (· == true) = ans) (fun _ i => xs.length - (intOf i).toNat)
    case atStart =>
      have ha := HLO.out
      exact ⟨a, 0, Nat.le_refl _, by omega, by congr 1; omega, rfl, by rw [← HA.out, Nat.zero_add]; unfold countL partW; rw [ha]⟩
    case round =>
      obtain ⟨j, m, hj, hj64, rfl, rfl, hr⟩ := hrel
      have HR := Lib.hid hr
      have hml : m ≤ ans := by omega
      clear hr
      by_cases h1 : (j : Int) < hi
      · by_cases h2 : j < xs.length
        · obtain ⟨x, hxx⟩ : ∃ x, xs.getD j 0 = x := ⟨_, rfl⟩
          have hcell : w.cell? ⟨b, off + j, none⟩ = some (.int .i64 x) := by rw [← hxx]; exact HC.out j h2
          have HS := Lib.hid (partW_next xs s j hi.toNat (by omega) h2)
          rw [hxx] at HS
          clear hxx
          by_cases hxs : x = s
          · subst hxs
            have HF : Hid (m + 1 + (((isSym xs x).take hi.toNat).drop (j + 1)).countP (· == true) = ans) := Lib.hid (by
              have := HR.out
              rw [HS.out, List.countP_cons, if_pos (by simp)] at this
              omega)
            clear HS HR
            by_cases hz : j = 0
            · subst hz
              rw [Nat.add_zero] at hcell
              go_wp2
              go_round
              case rel => exact ⟨0 + 1, m + 1, by omega, by omega, by go_num, by go_num, HF.out⟩
              case measure => simp [intOf]; omega
            · go_wp2
              go_round
              case rel => exact ⟨j + 1, m + 1, by omega, by omega, by go_num, by go_num, HF.out⟩
              case measure => simp [intOf]; omega
          · have HF : Hid (m + (((isSym xs s).take hi.toNat).drop (j + 1)).countP (· == true) = ans) := Lib.hid (by
              have := HR.out
              rw [HS.out, List.countP_cons] at this
              have e : (x == s) = false := beq_eq_false_iff_ne.2 hxs
              rw [e] at this
              simpa using this)
            have x1 : (x == s) = false := beq_eq_false_iff_ne.2 hxs
            clear HS HR hxs
            by_cases hz : j = 0
            · subst hz
              rw [Nat.add_zero] at hcell
              go_wp2
              go_round
              case rel => exact ⟨0 + 1, m, by omega, by omega, by go_num, rfl, HF.out⟩
              case measure => simp [intOf]; omega
            · go_wp2
              go_round
              case rel => exact ⟨j + 1, m, by omega, by omega, by go_num, rfl, HF.out⟩
              case measure => simp [intOf]; omega
        · have HF : Hid (m = ans) := Lib.hid (by
            have := HR.out
            rw [partW_end xs s j hi.toNat (Or.inr (by omega))] at this
            simpa using this)
          have h2' : decide (j < xs.length) = false := decide_eq_false h2
          go_wp2
          go_ret
          exact ⟨by rw [← HF.out]; rfl, rfl⟩
      · have HF : Hid (m = ans) := Lib.hid (by
          have := HR.out
          rw [partW_end xs s j hi.toNat (Or.inl (by omega))] at this
          simpa using this)
        have h1' : decide ((j : Int) < hi) = false := decide_eq_false h1
        go_wp2
        go_ret
        exact ⟨by rw [← HF.out]; rfl, rfl⟩

set_option maxHeartbeats 2000000 in
set_option maxRecDepth 100000 in
theorem countNone_any (p : Option Addr) (cap : Nat) (lo hi s : Int) (w : World) :
    Calls Try.prog 15 #[.slice p 0 cap, .int .i64 lo, .int .i64 hi, .int .i64 s] w fun e w' => e = .returned (.int .i64 0) ∧ w = w' := by
  obtain ⟨a, ha⟩ : ∃ a : Nat, lo.toNat = a := ⟨_, rfl⟩
  have HLO := Lib.hid ha
  clear ha
  by_cases h1 : (a : Int) < hi
  all_goals
    have h1' : decide ((a : Int) < hi) = decide ((a : Int) < hi) := rfl
    go_enter Try.func15, Try.ntmps15
    go_wp2
    all_goals
      go_loop [9, 10] (fun n i => i = .int .i64 a ∧ n = .int .i64 0) (fun _ _ => 0)
      case atStart =>
        have ha := HLO.out
        exact ⟨by congr 1; omega, rfl⟩
      case round =>
        obtain ⟨rfl, rfl⟩ := hrel
        go_wp2
        go_ret
        exact ⟨rfl, rfl⟩
theorem refCount_any (B : Nat) (v : Value) (xs : List Int) (lo hi s : Int) (w : World) (hx : xs.length ≤ 4294967296) (hlo : lo ≤ 9223372036854775807) (hv : SymsAt B w v xs) :
    Calls Try.prog 15 #[v, .int .i64 lo, .int .i64 hi, .int .i64 s] w fun e w' => e = .returned (.int .i64 (countL xs lo hi s)) ∧ w = w' := by
  rcases hv with ⟨a, cap, rfl, rfl⟩ | ⟨b, off, cap, rfl, _, hc⟩
  · rw [show countL [] lo hi s = 0 by have := count_leW [] s lo hi; simpa using this]
    exact countNone_any a cap lo hi s w
  · exact countSome_any b off cap xs lo hi s w hx hlo hc

set_option maxHeartbeats 4000000 in
set_option maxRecDepth 100000 in
theorem nthSome_any (b off cap : Nat) (xs : List Int) (lo hi s t : Int) (w : World) (hx : xs.length ≤ 4294967296) (hlo : lo ≤ 9223372036854775807) (hc : ∀ i, i < xs.length → w.cell? ⟨b, off + i, none⟩ = some (.int .i64 (xs.getD i 0))) :
    Calls Try.prog 18 #[.slice (some ⟨b, off, none⟩) xs.length cap, .int .i64 lo, .int .i64 hi, .int .i64 s, .int .i64 t] w fun e w' => e = .returned (.int .i64 (nthL xs lo hi s t)) ∧ w = w' := by
  have HC := Lib.hid hc
  clear hc
  obtain ⟨ans, hans⟩ : ∃ ans : Int, nthL xs lo hi s t = ans := ⟨_, rfl⟩
  have HA := Lib.hid hans
  rw [hans]
  clear hans
  obtain ⟨a, ha⟩ : ∃ a : Nat, lo.toNat = a := ⟨_, rfl⟩
  have HLO := Lib.hid ha
  clear ha
  go_enter Try.func18, Try.ntmps18
  go_wp2
  all_goals
    go_loop [11, 12] (fun n i => ∃ j m : Nat, a ≤ j ∧ (j : Int) ≤ 9223372036854775807 ∧ m + a ≤ j ∧ i = .int .i64 j ∧ n = .int .i64 m ∧ selFrom true t (((isSym xs s).take hi.toNat).drop j) j m = ans) (fun _ i => xs.length - (intOf i).toNat)
    case atStart =>
      have ha := HLO.out
      exact ⟨a, 0, Nat.le_refl _, by omega, by omega, by congr 1; omega, rfl, by rw [← HA.out]; unfold nthL partW; rw [ha]⟩
    case round =>
      obtain ⟨j, m, hj, hj64, hmj, rfl, rfl, hr⟩ := hrel
      have HR := Lib.hid hr
      clear hr
      by_cases h1 : (j : Int) < hi
      · by_cases h2 : j < xs.length
        · obtain ⟨x, hxx⟩ : ∃ x, xs.getD j 0 = x := ⟨_, rfl⟩
          have hcell : w.cell? ⟨b, off + j, none⟩ = some (.int .i64 x) := by rw [← hxx]; exact HC.out j h2
          have HS : Hid ((if (x == s) = true then (if (m : Int) = t then (j : Int) else selFrom true t (((isSym xs s).take hi.toNat).drop (j + 1)) (j + 1) (m + 1)) else selFrom true t (((isSym xs s).take hi.toNat).drop (j + 1)) (j + 1) m) = ans) := Lib.hid (by
            have := HR.out
            rw [partW_next xs s j hi.toNat (by omega) h2, hxx] at this
            exact this)
          clear hxx HR
          by_cases hxs : x = s
          · subst hxs
            by_cases hm : (m : Int) = t
            · have HF : Hid ((j : Int) = ans) := Lib.hid (by rw [← HS.out, if_pos (beq_self_eq_true x), if_pos hm])
              have m1 : ((m : Int) == t) = true := beq_iff_eq.2 hm
              clear HS hm
              by_cases hz : j = 0
              · subst hz
                rw [Nat.add_zero] at hcell
                go_wp2
                go_ret
                exact ⟨by rw [← HF.out]; rfl, rfl⟩
              · go_wp2
                go_ret
                exact ⟨by rw [← HF.out]; rfl, rfl⟩
            · have HF : Hid (selFrom true t (((isSym xs x).take hi.toNat).drop (j + 1)) (j + 1) (m + 1) = ans) := Lib.hid (by rw [← HS.out, if_pos (beq_self_eq_true x), if_neg hm])
              have m1 : ((m : Int) == t) = false := beq_eq_false_iff_ne.2 hm
              clear HS hm
              by_cases hz : j = 0
              · subst hz
                rw [Nat.add_zero] at hcell
                go_wp2
                go_round
                case rel => exact ⟨0 + 1, m + 1, by omega, by omega, by omega, by go_num, by go_num, HF.out⟩
                case measure => simp [intOf]; omega
              · go_wp2
                go_round
                case rel => exact ⟨j + 1, m + 1, by omega, by omega, by omega, by go_num, by go_num, HF.out⟩
                case measure => simp [intOf]; omega
          · have x1 : (x == s) = false := beq_eq_false_iff_ne.2 hxs
            have HF : Hid (selFrom true t (((isSym xs s).take hi.toNat).drop (j + 1)) (j + 1) m = ans) := Lib.hid (by rw [← HS.out, if_neg (by rw [x1]; decide)])
            clear HS hxs
            by_cases hz : j = 0
            · subst hz
              rw [Nat.add_zero] at hcell
              go_wp2
              go_round
              case rel => exact ⟨0 + 1, m, by omega, by omega, by omega, by go_num, rfl, HF.out⟩
              case measure => simp [intOf]; omega
            · go_wp2
              go_round
              case rel => exact ⟨j + 1, m, by omega, by omega, by omega, by go_num, rfl, HF.out⟩
              case measure => simp [intOf]; omega
        · have HF : Hid ((-1 : Int) = ans) := Lib.hid (by
            rw [← HR.out, partW_end xs s j hi.toNat (Or.inr (by omega))]; exact rfl)
          have h2' : decide (j < xs.length) = false := decide_eq_false h2
          go_wp2
          go_ret
          exact ⟨by rw [← HF.out]; rfl, rfl⟩
      · have HF : Hid ((-1 : Int) = ans) := Lib.hid (by
          rw [← HR.out, partW_end xs s j hi.toNat (Or.inl (by omega))]; exact rfl)
        have h1' : decide ((j : Int) < hi) = false := decide_eq_false h1
        go_wp2
        go_ret
        exact ⟨by rw [← HF.out]; rfl, rfl⟩
set_option maxHeartbeats 2000000 in
set_option maxRecDepth 100000 in
theorem nthNone_any (p : Option Addr) (cap : Nat) (lo hi s t : Int) (w : World) :
    Calls Try.prog 18 #[.slice p 0 cap, .int .i64 lo, .int .i64 hi, .int .i64 s, .int .i64 t] w fun e w' => e = .returned (.int .i64 (-1)) ∧ w = w' := by
  obtain ⟨a, ha⟩ : ∃ a : Nat, lo.toNat = a := ⟨_, rfl⟩
  have HLO := Lib.hid ha
  clear ha
  by_cases h1 : (a : Int) < hi
  all_goals
    go_enter Try.func18, Try.ntmps18
    go_wp2
    all_goals
      go_loop [11, 12] (fun n i => i = .int .i64 a ∧ n = .int .i64 0) (fun _ _ => 0)
      case atStart =>
        have ha := HLO.out
        exact ⟨by congr 1; omega, rfl⟩
      case round =>
        obtain ⟨rfl, rfl⟩ := hrel
        go_wp2
        go_ret
        exact ⟨rfl, rfl⟩
theorem refNth_any (B : Nat) (v : Value) (xs : List Int) (lo hi s t : Int) (w : World) (hx : xs.length ≤ 4294967296) (hlo : lo ≤ 9223372036854775807) (hv : SymsAt B w v xs) :
    Calls Try.prog 18 #[v, .int .i64 lo, .int .i64 hi, .int .i64 s, .int .i64 t] w fun e w' => e = .returned (.int .i64 (nthL xs lo hi s t)) ∧ w = w' := by
  rcases hv with ⟨a, cap, rfl, rfl⟩ | ⟨b, off, cap, rfl, _, hc⟩
  · rw [show nthL [] lo hi s t = -1 by unfold nthL; rw [show partW [] s lo hi = [] from by simp [partW, isSym]]; rfl]
    exact nthNone_any a cap lo hi s t w
  · exact nthSome_any b off cap xs lo hi s t w hx hlo hc

set_option maxHeartbeats 2000000 in
set_option maxRecDepth 100000 in
theorem maySome_anyW (b off cap : Nat) (xs : List Int) (sigma : Int) (w : World) (hx : xs.length ≤ 4294967296) (hc : ∀ i, i < xs.length → w.cell? ⟨b, off + i, none⟩ = some (.int .i64 (xs.getD i 0))) :
    Calls Try.prog 22 #[.slice (some ⟨b, off, none⟩) xs.length cap, .int .i64 sigma] w fun e w' => e = .returned (.bool (maySyms xs sigma)) ∧ w = w' := by
  have HC := Lib.hid hc
  clear hc
  obtain ⟨ans, hans⟩ : ∃ ans : Bool, maySyms xs sigma = ans := ⟨_, rfl⟩
  have HA := Lib.hid hans
  rw [hans]
  clear hans
  go_enter Try.func22, Try.ntmps22
  go_wp2
  go_loop [5] (fun i => ∃ j : Nat, j ≤ xs.length ∧ i = .int .i64 j ∧ maySyms (xs.drop j) sigma = ans) (fun i => xs.length - (intOf i).toNat)
  case atStart => exact ⟨0, Nat.zero_le _, rfl, HA.out⟩
  case round =>
    obtain ⟨j, hj, rfl, hr⟩ := hrel
    have HR := Lib.hid hr
    clear hr
    by_cases h2 : j < xs.length
    · obtain ⟨x, hxx⟩ : ∃ x, xs.getD j 0 = x := ⟨_, rfl⟩
      have hcell : w.cell? ⟨b, off + j, none⟩ = some (.int .i64 x) := by rw [← hxx]; exact HC.out j h2
      have HS := Lib.hid (maySyms_next xs sigma j x h2 hxx)
      clear hxx
      by_cases h0 : x < 0
      · have HF : Hid (false = ans) := Lib.hid (by
          rw [← HR.out, HS.out, decide_eq_false (show ¬ 0 ≤ x by omega)]; simp)
        by_cases hz : j = 0
        · subst hz
          rw [Nat.add_zero] at hcell
          go_wp2
          go_ret
          exact ⟨by rw [← HF.out]; rfl, rfl⟩
        · go_wp2
          go_ret
          exact ⟨by rw [← HF.out]; rfl, rfl⟩
      · by_cases h3 : sigma ≤ x
        · have HF : Hid (false = ans) := Lib.hid (by
            rw [← HR.out, HS.out, decide_eq_false (show ¬ x < sigma by omega)]; simp)
          have g0 : decide (x < 0) = false := decide_eq_false h0
          by_cases hz : j = 0
          · subst hz
            rw [Nat.add_zero] at hcell
            go_wp2
            go_ret
            exact ⟨by rw [← HF.out]; rfl, rfl⟩
          · go_wp2
            go_ret
            exact ⟨by rw [← HF.out]; rfl, rfl⟩
        · have HF : Hid (maySyms (xs.drop (j + 1)) sigma = ans) := Lib.hid (by
            rw [← HR.out, HS.out, decide_eq_true (show 0 ≤ x by omega), decide_eq_true (show x < sigma by omega)]; simp)
          have g0 : decide (x < 0) = false := decide_eq_false h0
          have g1 : decide (sigma ≤ x) = false := decide_eq_false h3
          by_cases hz : j = 0
          · subst hz
            rw [Nat.add_zero] at hcell
            go_wp2
            go_round
            case rel => exact ⟨0 + 1, by omega, by go_num, HF.out⟩
            case measure => simp [intOf]; omega
          · go_wp2
            go_round
            case rel => exact ⟨j + 1, by omega, by go_num, HF.out⟩
            case measure => simp [intOf]; omega
    · have HF : Hid ((decide (1 ≤ sigma) && decide (sigma ≤ 1048576)) = ans) := Lib.hid (by
        rw [← HR.out, List.drop_of_length_le (by omega)]; unfold maySyms; simp)
      obtain rfl : j = xs.length := by omega
      by_cases s1 : 1 ≤ sigma
      · by_cases s2 : sigma ≤ 1048576
        · have HT : Hid (true = ans) := Lib.hid (by rw [← HF.out, decide_eq_true s1, decide_eq_true s2]; rfl)
          clear HF
          go_wp2
          go_ret
          exact ⟨by rw [← HT.out]; rfl, rfl⟩
        · have HT : Hid (false = ans) := Lib.hid (by rw [← HF.out, decide_eq_true s1, decide_eq_false s2]; rfl)
          have g2 : decide (sigma ≤ 1048576) = false := decide_eq_false s2
          clear HF
          go_wp2
          go_ret
          exact ⟨by rw [← HT.out]; rfl, rfl⟩
      · have HT : Hid (false = ans) := Lib.hid (by rw [← HF.out, decide_eq_false s1]; rfl)
        have g1 : decide (1 ≤ sigma) = false := decide_eq_false s1
        clear HF
        go_wp2
        go_ret
        exact ⟨by rw [← HT.out]; rfl, rfl⟩
set_option maxHeartbeats 2000000 in
set_option maxRecDepth 100000 in
theorem mayNone_anyW (p : Option Addr) (cap : Nat) (sigma : Int) (w : World) :
    Calls Try.prog 22 #[.slice p 0 cap, .int .i64 sigma] w fun e w' => e = .returned (.bool (maySyms [] sigma)) ∧ w = w' := by
  have HF : Hid (maySyms [] sigma = (decide (1 ≤ sigma) && decide (sigma ≤ 1048576))) := Lib.hid (by unfold maySyms; simp)
  rw [HF.out]
  by_cases s1 : 1 ≤ sigma
  · by_cases s2 : sigma ≤ 1048576
    · rw [decide_eq_true s1, decide_eq_true s2]
      go_enter Try.func22, Try.ntmps22
      go_wp2
      go_loop [5] (fun i => i = .int .i64 0) (fun _ => 0)
      case atStart => exact rfl
      case round =>
        obtain rfl := hrel
        go_wp2
        go_ret
        exact ⟨rfl, rfl⟩
    · rw [decide_eq_true s1, decide_eq_false s2]
      have g2 : decide (sigma ≤ 1048576) = false := decide_eq_false s2
      go_enter Try.func22, Try.ntmps22
      go_wp2
      go_loop [5] (fun i => i = .int .i64 0) (fun _ => 0)
      case atStart => exact rfl
      case round =>
        obtain rfl := hrel
        go_wp2
        go_ret
        exact ⟨rfl, rfl⟩
  · rw [decide_eq_false s1]
    have g1 : decide (1 ≤ sigma) = false := decide_eq_false s1
    go_enter Try.func22, Try.ntmps22
    go_wp2
    go_loop [5] (fun i => i = .int .i64 0) (fun _ => 0)
    case atStart => exact rfl
    case round =>
      obtain rfl := hrel
      go_wp2
      go_ret
      exact ⟨rfl, rfl⟩
theorem refMay_anyW (B : Nat) (v : Value) (xs : List Int) (sigma : Int) (w : World) (hx : xs.length ≤ 4294967296) (hv : SymsAt B w v xs) :
    Calls Try.prog 22 #[v, .int .i64 sigma] w fun e w' => e = .returned (.bool (maySyms xs sigma)) ∧ w = w' := by
  rcases hv with ⟨a, cap, rfl, rfl⟩ | ⟨b, off, cap, rfl, _, hc⟩
  · exact mayNone_anyW a cap sigma w
  · exact maySome_anyW b off cap xs sigma w hx hc

set_option maxHeartbeats 1000000 in
theorem refWaveSize_any (n : Nat) (sigma : Nat) (w : World) (hn : n ≤ 1048576) (h1 : 1 ≤ sigma) (h2 : sigma ≤ 1048576) :
    Calls Try.prog 12 #[.int .i64 n, .int .i64 sigma] w fun e w' => e = .returned (.int .i64 (waveN n sigma)) ∧ w = w' := by
  obtain ⟨m, rfl⟩ : ∃ m, sigma = m + 1 := ⟨sigma - 1, by omega⟩
  have hw : waveN n ((m + 1 : Nat) : Int) = widthN m * bitsN n := by
    unfold waveN levelsN
    rw [show (((m + 1 : Nat) : Int) - 1).toNat = m by omega]
  have hlw : widthN m ≤ 20 := widthN_le m 20 (by omega)
  have hlb := bitsN_le n
  have hpr : widthN m * bitsN n ≤ 20 * 1398235 := Nat.mul_le_mul hlw (by omega)
  have C1 := Lib.hid (refWidth_any m w (by omega))
  have C2 := Lib.hid (refBitsSize_any n w (by omega))
  have e1 : ((m + 1 : Nat) : Int) - 1 = (m : Int) := by omega
  have e2 : IntKind.u64.wrap (m : Int) = (m : Int) := by simp [IntKind.wrap, IntKind.bits, IntKind.signed]; omega
  rw [hw]
  obtain ⟨pr, hprr⟩ : ∃ pr, widthN m * bitsN n = pr := ⟨_, rfl⟩
  have e3 : ((widthN m : Nat) : Int) * ((bitsN n : Nat) : Int) = (pr : Int) := by rw [← hprr]; rfl
  rw [hprr] at hpr ⊢
  clear hprr hw hlb
  generalize widthN m = y at *
  generalize bitsN n = z at *
  go_enter Try.func12, Try.ntmps12
  go_wp2_with fail
  try rw [e1, e2]
  refine C1.out.mono ?_
  rintro e w' ⟨rfl, rfl⟩
  go_wp2_with fail
  refine C2.out.mono ?_
  rintro e w' ⟨rfl, rfl⟩
  go_wp2
  go_ret
  exact ⟨rfl, rfl⟩
end Go.Proofs.Ytnjlckgmoodkiaa
