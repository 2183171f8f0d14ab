/-
  THE LANDED PACKAGE paren: searches in the row itself.
-/
import Derived.Test.YteecanaibkpmfaaRunPSmall
namespace Go.Proofs.Yteecanaibkpmfaa
open Go.RowKit

theorem Went.box {sb s b : Nat} {w w' : World} {v : Value} {t : TypeId} (h : Went sb s w w') (hb : w.rowIs b t 1 (fun _ => v)) (hne : b ≠ sb) : w'.cell? ⟨b, 0, none⟩ = some v :=
  (hb.of_block (h.apart.block b hb.lt (by omega))).cell (i := 0) Nat.one_pos
theorem sgn_bound (b : Bool) : -1 ≤ sgn b ∧ sgn b ≤ 1 := by cases b <;> simp [sgn]
set_option maxHeartbeats 1000000 in
set_option maxRecDepth 100000 in
theorem rpfirst_any (B T sb s a z : Nat) (v : Value) (xs : List Bool) (e : Int) (w : World) (hx : xs.length ≤ 4194304) (haz : a ≤ z) (hz : z ≤ xs.length) (hs : s ≤ 500000) (hsz : z - a ≤ 128) (hT : T ≤ sb) (hT2 : T ≤ w.heap.size) (hk : KeptIn B T w v xs)
    (hr : w.rowIs sb 3 1 (fun _ => .int .i64 s)) :
    Calls Try.prog 87 #[.agg #[v], .int .i64 a, .int .i64 z, .int .i64 e, .pointer (some ⟨sb, 0, none⟩)] w fun o w' =>
      ∃ r : Nat, o = .returned (.int .i64 r) ∧ FirstP (leastP xs 0) e a z r ∧ ∃ d, d ≤ 3 + (z - a) ∧ Went sb (s + d) w w' := by
  have HW0 := Lib.hid (Went.stay hr ((Below.refl w.heap.size w).alloc (Nat.le_refl _) (.cells #[v] 48)))
  have hsbn : w.heap.size ≠ sb := by have := hr.lt; omega
  have HBX := Lib.hid (new_box w v 48)
  have HKK := Lib.hid hk
  have hwz : T ≤ (w.alloc (.cells #[v] 48)).heap.size := by show T ≤ (w.heap.push _).size; rw [Array.size_push]; omega
  clear hk hr
  generalize hWW : w.alloc (.cells #[v] 48) = W0 at *
  have HWW := Lib.hid hWW
  by_cases haz0 : a = z
  · subst haz0
    have g0 : ((a : Int) == (a : Int)) = true := beq_self_eq_true _
    go_enter Try.func87, Try.ntmps87
    go_wp2
    go_ret
    exact ⟨a, rfl, ⟨Nat.le_refl _, Nat.le_refl _, fun i h1 h2 => by omega, fun h => absurd h (Nat.lt_irrefl _)⟩, 0, by omega, HW0.out⟩
  · have g0 : ((a : Int) == (z : Int)) = false := beq_eq_false_iff_ne.2 (by omega)
    have g1 : (a == z) = false := beq_eq_false_iff_ne.2 haz0
    have hc0 : (w.alloc (.cells #[v] 48)).cell? ⟨w.heap.size, 0, none⟩ = some v := by rw [hWW]; exact HBX.out.cell (i := 0) Nat.one_pos
    clear hWW
    go_enter Try.func87, Try.ntmps87
    go_wp2_with fail
    rw [HWW.out]
    refine (rpexc_any B T sb s v xs a W0 hx (by omega) (by omega) hT hwz (HW0.out.keptIn hT hT2 HKK.out) HW0.out.row).mono ?_
    rintro o w1 ⟨rfl, d0, hd0, hw1⟩
    have H1 := Lib.hid hw1
    obtain ⟨s1, hs1⟩ : ∃ s1, s + d0 = s1 := ⟨_, rfl⟩
    rw [hs1] at H1
    have hsb1 : s1 ≤ 600000 := by omega
    have HS1 := Lib.hid hs1
    clear hw1 hs1
    go_wp2
    go_loopw [11, 12] (fun nv kv wr => ∃ k : Nat, a ≤ k ∧ k ≤ z ∧ nv = .int .i64 (exc xs k) ∧ kv = .int .i64 k ∧ (∀ j, a ≤ j → j < k → e < exc xs (j + 1)) ∧ Went sb (s1 + (k - a)) W0 wr) (fun _ kv _ => z - (intOf kv).toNat)
    case atStart => exact ⟨a, Nat.le_refl _, haz, rfl, rfl, fun j h1 h2 => by omega, by rw [Nat.sub_self]; exact H1.out⟩
    case round =>
      clear hc0
      obtain ⟨k, hak, hkz, rfl, rfl, hno, hw⟩ := hrel
      have HN := Lib.hid hno
      have HW := Lib.hid hw
      clear hno hw
      by_cases hlt : k < z
      · have hc1 := HW.out.box HBX.out hsbn
        have CA := rpat_any B T sb (s1 + (k - a)) v xs k wr hx (by omega) (by omega) hT (by have := HW.out.apart.size; omega) ((HW0.out.trans HW.out).keptIn hT hT2 HKK.out) HW.out.row
        obtain ⟨b, hb⟩ : ∃ b, xs.getD k false = b := ⟨_, rfl⟩
        have hes := exc_succ xs k b (by omega) hb
        have heb := exc_bound xs k
        have hes2 := sgn_bound b
        rw [hb] at CA
        have HES := Lib.hid hes
        clear hes hb
        generalize exc xs k = x at *
        have CA' := Lib.hid CA
        clear CA
        go_wp2_with fail
        refine CA'.out.mono ?_
        rintro o w2 ⟨rfl, hw2⟩
        go_wp2_with fail
        refine (rrise_any b w2).mono ?_
        rintro o w3 ⟨rfl, rfl⟩
        have HW2 := Lib.hid (HW.out.trans hw2)
        clear hw2 hc1
        have ex : x + sgn b = exc xs (k + 1) := HES.out.symm
        obtain ⟨y, hy⟩ : ∃ y, exc xs (k + 1) = y := ⟨_, rfl⟩
        rw [hy] at ex
        have HY := Lib.hid hy
        have HT : Hid (s + (d0 + (k - a + 1)) = s1 + (k - a) + 1) := Lib.hid (by have := HS1.out; omega)
        clear hy
        by_cases hle : y ≤ e
        · have g2 : decide (y ≤ e) = true := decide_eq_true hle
          go_wp2
          go_ret
          exact ⟨k, rfl, ⟨hak, hkz, HN.out, fun _ => by show exc xs (k + 1) ≤ e; rw [HY.out]; exact hle⟩, d0 + (k - a + 1), by omega, by rw [HT.out]; exact HW0.out.trans HW2.out⟩
        · have g2 : decide (y ≤ e) = false := decide_eq_false hle
          go_wp2
          go_roundw
          case rel => exact ⟨k + 1, by omega, by omega, by rw [HY.out], by go_num, fun j h1 h2 => by
            by_cases hj : j < k
            · exact HN.out j h1 hj
            · obtain rfl : j = k := by omega
              rw [HY.out]; omega, by rw [show s1 + (k + 1 - a) = s1 + (k - a) + 1 by omega]; exact HW2.out⟩
          case measure => simp [intOf]; omega
      · have hkz2 : k = z := by omega
        subst hkz2
        go_wp2
        go_ret
        exact ⟨k, rfl, ⟨hak, Nat.le_refl _, HN.out, fun h => absurd h (Nat.lt_irrefl _)⟩, d0 + (k - a), by omega, by have := HS1.out; rw [show s + (d0 + (k - a)) = s1 + (k - a) by omega]; exact HW0.out.trans HW.out⟩
set_option maxHeartbeats 1000000 in
set_option maxRecDepth 100000 in
theorem rplast_any (B T sb s a z : Nat) (v : Value) (xs : List Bool) (e : Int) (w : World) (hx : xs.length ≤ 4194304) (haz : a ≤ z) (hz : z ≤ xs.length) (hs : s ≤ 500000) (hsz : z - a ≤ 128) (hT : T ≤ sb) (hT2 : T ≤ w.heap.size) (hk : KeptIn B T w v xs)
    (hr : w.rowIs sb 3 1 (fun _ => .int .i64 s)) :
    Calls Try.prog 88 #[.agg #[v], .int .i64 a, .int .i64 z, .int .i64 e, .pointer (some ⟨sb, 0, none⟩)] w fun o w' =>
      ∃ r : Nat, o = .returned (.int .i64 ((r : Int) - 1)) ∧ LastP (leastP xs 0) e a z r ∧ ∃ d, d ≤ 3 + (z - a) ∧ Went sb (s + d) w w' := by
  have HW0 := Lib.hid (Went.stay hr ((Below.refl w.heap.size w).alloc (Nat.le_refl _) (.cells #[v] 48)))
  have hsbn : w.heap.size ≠ sb := by have := hr.lt; omega
  have HBX := Lib.hid (new_box w v 48)
  have HKK := Lib.hid hk
  have hwz : T ≤ (w.alloc (.cells #[v] 48)).heap.size := by show T ≤ (w.heap.push _).size; rw [Array.size_push]; omega
  clear hk hr
  generalize hWW : w.alloc (.cells #[v] 48) = W0 at *
  have HWW := Lib.hid hWW
  have hc0 : (w.alloc (.cells #[v] 48)).cell? ⟨w.heap.size, 0, none⟩ = some v := by rw [hWW]; exact HBX.out.cell (i := 0) Nat.one_pos
  clear hWW
  go_enter Try.func88, Try.ntmps88
  go_wp2_with fail
  rw [HWW.out]
  refine (rpexc_any B T sb s v xs z W0 hx (by omega) (by omega) hT hwz (HW0.out.keptIn hT hT2 HKK.out) HW0.out.row).mono ?_
  rintro o w1 ⟨rfl, d0, hd0, hw1⟩
  have H1 := Lib.hid hw1
  obtain ⟨s1, hs1⟩ : ∃ s1, s + d0 = s1 := ⟨_, rfl⟩
  rw [hs1] at H1
  have hsb1 : s1 ≤ 600000 := by omega
  have HS1 := Lib.hid hs1
  clear hw1 hs1
  go_wp2
  go_loopw [11, 12] (fun nv kv wr => ∃ k : Nat, a ≤ k ∧ k ≤ z ∧ nv = .int .i64 (exc xs k) ∧ kv = .int .i64 ((k : Int) - 1) ∧ (∀ j, k ≤ j → j < z → e < exc xs (j + 1)) ∧ Went sb (s1 + (z - k)) W0 wr) (fun _ kv _ => (intOf kv + 1).toNat)
  case atStart => exact ⟨z, haz, Nat.le_refl _, rfl, rfl, fun j h1 h2 => by omega, by rw [Nat.sub_self]; exact H1.out⟩
  case round =>
    clear hc0
    obtain ⟨k, hak, hkz, rfl, rfl, hno, hw⟩ := hrel
    have HN := Lib.hid hno
    have HW := Lib.hid hw
    clear hno hw
    by_cases hlt : a < k
    · obtain ⟨m, rfl⟩ : ∃ m, k = m + 1 := ⟨k - 1, by omega⟩
      have e0 : ((m + 1 : Nat) : Int) - 1 = (m : Int) := by omega
      rw [e0]
      have hc1 := HW.out.box HBX.out hsbn
      have CA := rpat_any B T sb (s1 + (z - (m + 1))) v xs m wr hx (by omega) (by omega) hT (by have := HW.out.apart.size; omega) ((HW0.out.trans HW.out).keptIn hT hT2 HKK.out) HW.out.row
      obtain ⟨b, hb⟩ : ∃ b, xs.getD m false = b := ⟨_, rfl⟩
      have hes := exc_succ xs m b (by omega) hb
      have heb := exc_bound xs (m + 1)
      have hes2 := sgn_bound b
      rw [hb] at CA
      have HES : Hid (exc xs (m + 1) - sgn b = exc xs m) := Lib.hid (by omega)
      obtain ⟨y, hy⟩ : ∃ y, exc xs (m + 1) = y := ⟨_, rfl⟩
      rw [hy] at heb
      have HY := Lib.hid hy
      have HT : Hid (s + (d0 + (z - (m + 1))) = s1 + (z - (m + 1))) := Lib.hid (by have := HS1.out; omega)
      rw [hy]
      clear hes hb hy
      have CA' := Lib.hid CA
      clear CA
      by_cases hle : y ≤ e
      · have g2 : decide (y ≤ e) = true := decide_eq_true hle
        go_wp2
        go_ret
        exact ⟨m + 1, by rw [e0]; rfl, ⟨by omega, hkz, HN.out, fun _ => by show exc xs (m + 1 - 1 + 1) ≤ e; rw [Nat.add_sub_cancel, HY.out]; exact hle⟩, d0 + (z - (m + 1)), by omega, by rw [HT.out]; exact HW0.out.trans HW.out⟩
      · have g2 : decide (y ≤ e) = false := decide_eq_false hle
        have HES' : Hid (y - sgn b = exc xs m) := Lib.hid (by rw [← HY.out]; exact HES.out)
        go_wp2_with fail
        refine CA'.out.mono ?_
        rintro o w2 ⟨rfl, hw2⟩
        go_wp2_with fail
        refine (rrise_any b w2).mono ?_
        rintro o w3 ⟨rfl, rfl⟩
        have HW2 := Lib.hid (HW.out.trans hw2)
        clear hw2 hc1
        go_wp2
        go_roundw
        case rel => exact ⟨m, by omega, by omega, by rw [HES'.out], by first | rfl | go_num, fun j h1 h2 => by
          by_cases hj : m + 1 ≤ j
          · exact HN.out j hj h2
          · obtain rfl : j = m := by omega
            rw [HY.out]; omega, by rw [show s1 + (z - m) = s1 + (z - (m + 1)) + 1 by omega]; exact HW2.out⟩
        case measure => first | (simp [intOf]; done) | (simp [intOf]; omega)
    · have hkz2 : k = a := by omega
      subst hkz2
      have g3 : decide ((k : Int) ≤ (k : Int) - 1) = false := decide_eq_false (by omega)
      go_wp2
      go_ret
      exact ⟨k, rfl, ⟨Nat.le_refl _, hkz, HN.out, fun h => absurd h (Nat.lt_irrefl _)⟩, d0 + (z - k), by omega, by have := HS1.out; rw [show s + (d0 + (z - k)) = s1 + (z - k) by omega]; exact HW0.out.trans HW.out⟩
end Go.Proofs.Yteecanaibkpmfaa
