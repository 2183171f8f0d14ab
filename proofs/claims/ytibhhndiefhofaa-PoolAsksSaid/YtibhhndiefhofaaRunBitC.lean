/-
  THE CONTRACT OF nth OF THE LANDED PACKAGE bits: the place of the j-th one of a word, by halves.
  PLAIN MATHEMATICS FOR Select OF THE LANDED PACKAGE bits: a place by its word.
  THE CONTRACT OF sort.Search WITH THE CLOSURE OF Select OF THE LANDED PACKAGE bits: the first word ahead of which there are more than j.
  THE CONTRACT OF Select OF THE LANDED PACKAGE bits.
-/
import Derived.Test.YtibhhndiefhofaaRunBitA
import Derived.Deep.LoopGhost
namespace Go.Proofs.Ytibhhndiefhofaa
open Go.RowKit

/-- the j-th one of u stands at or above p, below p + 2 h (at p, where h is 0); r of them are left -/
structure Half (u j p h r : Nat) : Prop where
  pow : h = 0 ∨ h = 1 ∨ h = 2 ∨ h = 4 ∨ h = 8 ∨ h = 16 ∨ h = 32
  top : p + 2 * h ≤ 64
  low : p ≤ 63
  left : cnt u p + r = j
  more : j < cnt u (p + 2 * h + (if h = 0 then 1 else 0))
theorem half_start (u j : Nat) (h : j < cnt u 64) : Half u j 0 32 j := ⟨by omega, by omega, by omega, by simp [cnt], h⟩
theorem half_up {u j p h r n : Nat} (H : Half u j p h r) (h0 : h ≠ 0) (hn : cnt u p + n = cnt u (p + h)) (hr : n ≤ r) : Half u j (p + h) (h / 2) (r - n) := by
  obtain ⟨h1, h2, h3, h4, h5⟩ := H
  rw [if_neg h0] at h5
  refine ⟨by omega, by omega, by omega, by omega, ?_⟩
  have e : p + h + 2 * (h / 2) + (if h / 2 = 0 then 1 else 0) = p + 2 * h + 0 := by split <;> omega
  rw [e]
  exact h5
theorem half_down {u j p h r n : Nat} (H : Half u j p h r) (h0 : h ≠ 0) (hn : cnt u p + n = cnt u (p + h)) (hr : r < n) : Half u j p (h / 2) r := by
  obtain ⟨h1, h2, h3, h4, h5⟩ := H
  refine ⟨by omega, by omega, h3, h4, ?_⟩
  have e : p + 2 * (h / 2) + (if h / 2 = 0 then 1 else 0) = p + h := by split <;> omega
  rw [e]
  omega
theorem half_end {u j p r : Nat} (H : Half u j p 0 r) : p ≤ 63 ∧ cnt u p ≤ j ∧ j < cnt u (p + 1) := by
  obtain ⟨h1, h2, h3, h4, h5⟩ := H
  exact ⟨h3, by omega, h5⟩
theorem mask_u64 (x h : Nat) (hx : x < 18446744073709551616) (hh : h < 64) : bits .and .u64 (x : Int) (IntKind.u64.wrap (IntKind.u64.wrap (2 ^ h) - 1)) = ((x % 2 ^ h : Nat) : Int) := by
  have hp : 2 ^ h < 2 ^ 64 := Nat.pow_lt_pow_right (by decide) hh
  have hp0 : 0 < 2 ^ h := Nat.two_pow_pos h
  have e : IntKind.u64.wrap (2 ^ h) = ((2 ^ h : Nat) : Int) := by
    have := shl_u64 1 h
    rw [Nat.one_mul, Nat.mod_eq_of_lt hp, show ((1 : Nat) : Int) = 1 from rfl, Int.one_mul] at this
    exact this
  have e2 : IntKind.u64.wrap (((2 ^ h : Nat) : Int) - 1) = ((2 ^ h - 1 : Nat) : Int) := by
    rw [show ((2 ^ h : Nat) : Int) - 1 = ((2 ^ h - 1 : Nat) : Int) by omega]
    exact wrap_u64_nat _ (by omega)
  rw [e, e2, bits_and_u64_nat x _ hx (by omega), Nat.and_two_pow_sub_one_eq_mod]
/-- where the j-th one stands -/
def NthPost (u j : Nat) (w : World) (e : Ending) (w' : World) : Prop := ∃ p : Nat, e = .returned (.int .i64 p) ∧ p ≤ 63 ∧ cnt u p ≤ j ∧ j < cnt u (p + 1) ∧ ∃ n, w' = w.drewN n

set_option maxHeartbeats 2000000 in
set_option maxRecDepth 100000 in
theorem nth_any (u j : Nat) (w : World) (hu : u < 18446744073709551616) (hj : j < cnt u 64) :
    Calls Try.prog 66 #[.int .u64 u, .int .i64 j] w (NthPost u j w) := by
  have hs := half_start u j hj
  have hj64 : j ≤ 64 := Nat.le_trans (Nat.le_of_lt hj) (cnt_le u 64)
  clear hj
  go_enter Try.func66, Try.ntmps66
  go_wp2
  go_loopw [1, 5, 6] (fun jv pv hv wr => ∃ p h r q : Nat, jv = .int .i64 r ∧ pv = .int .i64 p ∧ hv = .int .i64 h ∧ wr = w.drewN q ∧ Half u j p h r) (fun _ _ hv _ => (intOf hv).toNat)
  case atStart => exact ⟨0, 32, j, 0, rfl, rfl, rfl, rfl, hs⟩
  case round =>
    obtain ⟨p, h, r, q, rfl, rfl, rfl, rfl, H⟩ := hrel
    clear hs
    have hp := H.low
    have htop := H.top
    have hl := H.left
    by_cases h0 : h = 0
    · subst h0
      have he := half_end H
      clear hl htop H
      have HE := Lib.hid he
      clear he
      go_wp2
      go_ret
      exact ⟨p, rfl, HE.out.1, HE.out.2.1, HE.out.2.2, _, rfl⟩
    · have hh : h ≤ 32 := by omega
      have hh1 : 1 ≤ h := by omega
      have hrb : r ≤ 64 := by omega
      have hwin := cnt_window u p h 64 (by omega)
      have HU := Lib.hid fun hr => half_up H h0 hwin hr
      have HD := Lib.hid fun hr => half_down H h0 hwin hr
      have hlt : u / 2 ^ p % 2 ^ h < 18446744073709551616 := Nat.lt_of_le_of_lt (Nat.mod_le _ _) (Nat.lt_of_le_of_lt (Nat.div_le_self _ _) hu)
      have HO := Lib.hid (ones_any (u / 2 ^ p % 2 ^ h) hlt)
      have HM := Lib.hid (mask_u64 (u / 2 ^ p) h (Nat.lt_of_le_of_lt (Nat.div_le_self _ _) hu) (by omega))
      have hn := cnt_le (u / 2 ^ p % 2 ^ h) 64
      clear hl hwin H hlt h0
      have b1 : (0 : Int) ≤ (p : Int) := by omega
      have b2 : (0 : Int) ≤ (h : Int) := by omega
      go_wp2
      go_quiet (fail)
      go_wp2_with fail
      rw [show (u : Int) / 2 ^ p = ((u / 2 ^ p : Nat) : Int) by rw [Int.natCast_ediv, Int.natCast_pow]; rfl, HM.out]
      refine (HO.out _).mono ?_
      clear HO HM
      generalize u / 2 ^ p % 2 ^ h = low at *
      generalize cnt low 64 = n at *
      rintro e w' ⟨rfl, rfl⟩
      by_cases hr : n ≤ r
      · have HU' := Lib.hid (HU.out hr)
        go_wp2
        go_roundw
        case rel => exact ⟨p + h, h / 2, r - n, _, by go_num, by go_num, by go_num, rfl, HU'.out⟩
        case measure => simp [intOf]; omega
      · have HD' := Lib.hid (HD.out (by omega))
        go_wp2
        go_roundw
        case rel => exact ⟨p, h / 2, r, _, rfl, rfl, by go_num, rfl, HD'.out⟩
        case measure => simp [intOf]; omega
end Go.Proofs.Ytibhhndiefhofaa
namespace Go.Proofs.Ytibhhndiefhofaa
open Go.RowKit

/-- word i, all bits turned where noughts are looked for -/
def wordB (xs : List Bool) (i : Nat) (bit : Bool) : Nat := if bit then wordOf xs i else 18446744073709551615 - wordOf xs i
theorem wordB_lt (xs : List Bool) (i : Nat) (bit : Bool) : wordB xs i bit < 18446744073709551616 := by
  have := wordOf_lt xs i
  cases bit
  · show 18446744073709551615 - wordOf xs i < _; omega
  · exact this
theorem rank_wordB (xs : List Bool) (i t : Nat) (bit : Bool) (ht : t ≤ 64) (h : 64 * i + t ≤ xs.length) : rankN xs (64 * i + t) bit = aheadB xs i bit + cnt (wordB xs i bit) t := by
  have h1 := rank_word xs i t ht
  cases bit
  · have h2 := rank_both xs (64 * i + t) h
    have h3 := cnt_not (wordOf xs i) (wordOf_lt xs i) t ht
    have h4 := aheadN_small xs i
    have e : wordB xs i false = 2 ^ 64 - (wordOf xs i + 1) := by
      show 18446744073709551615 - wordOf xs i = 18446744073709551616 - (wordOf xs i + 1)
      omega
    rw [e, show aheadB xs i false = 64 * i - aheadN xs i from rfl]
    rw [show rankN xs (64 * i) true = aheadN xs i from rfl] at h1
    have h5 := cnt_le (wordOf xs i) t
    omega
  · exact h1
theorem aheadB_rank (xs : List Bool) (i : Nat) (bit : Bool) (h : 64 * i ≤ xs.length) : aheadB xs i bit = rankN xs (64 * i) bit := (rank_wordB xs i 0 bit (by omega) h).symm
theorem sel_at (xs : List Bool) (k j : Nat) (bit : Bool) (h1 : rankN xs k bit ≤ j) (h2 : j < rankN xs (k + 1) bit) : selL xs j bit = (k : Int) := by
  by_cases hk : k < xs.length
  · obtain ⟨b, hb⟩ : ∃ b, xs.getD k false = b := ⟨_, rfl⟩
    rw [rankN_succ xs k bit b hk hb] at h2
    by_cases e : b = bit
    · rw [if_pos e] at h2
      rw [show j = rankN xs k bit by omega]
      exact select_rank xs k bit hk (by rw [hb, e])
    · rw [if_neg e] at h2
      omega
  · rw [rankN_all xs (k + 1) bit (by omega), ← rankN_all xs k bit (by omega)] at h2
    omega
theorem words_len (xs : List Bool) (i : Nat) (h : i < nWords xs) : 64 * i < xs.length := by
  unfold nWords begunN at h
  omega
/-- the word that the search finds holds what is looked for -/
theorem word_holds (xs : List Bool) (i j : Nat) (bit : Bool) (hi : i < nWords xs) (hj : j < rankN xs xs.length bit) (hm : i + 1 = nWords xs ∨ j < aheadB xs (i + 1) bit) (ha : aheadB xs i bit ≤ j) : j - aheadB xs i bit < cnt (wordB xs i bit) 64 := by
  have hl := words_len xs i hi
  by_cases h : xs.length ≤ 64 * i + 64
  · have := rank_wordB xs i (xs.length - 64 * i) bit (by omega) (by omega)
    rw [show 64 * i + (xs.length - 64 * i) = xs.length by omega] at this
    have hc := cnt_mono (wordB xs i bit) (show xs.length - 64 * i ≤ 64 by omega)
    omega
  · have h2 : i + 1 ≠ nWords xs := by unfold nWords begunN; omega
    have h3 : j < aheadB xs (i + 1) bit := by
      rcases hm with h | h
      · exact absurd h h2
      · exact h
    rw [aheadB_rank xs (i + 1) bit (by omega), show 64 * (i + 1) = 64 * i + 64 by omega, rank_wordB xs i 64 bit (by omega) (by omega)] at h3
    omega
theorem place_found (xs : List Bool) (i p j : Nat) (bit : Bool) (hi : i < nWords xs) (hj : j < rankN xs xs.length bit) (ha : aheadB xs i bit ≤ j) (hp : p ≤ 63)
    (h1 : cnt (wordB xs i bit) p ≤ j - aheadB xs i bit) (h2 : j - aheadB xs i bit < cnt (wordB xs i bit) (p + 1)) : selL xs j bit = ((64 * i + p : Nat) : Int) := by
  have hl := words_len xs i hi
  by_cases hk : 64 * i + p < xs.length
  · refine sel_at xs (64 * i + p) j bit ?_ ?_
    · rw [rank_wordB xs i p bit (by omega) (by omega)]; omega
    · rw [show 64 * i + p + 1 = 64 * i + (p + 1) by omega, rank_wordB xs i (p + 1) bit (by omega) (by omega)]; omega
  · exfalso
    have := rank_wordB xs i (xs.length - 64 * i) bit (by omega) (by omega)
    rw [show 64 * i + (xs.length - 64 * i) = xs.length by omega] at this
    have hc := cnt_mono (wordB xs i bit) (show xs.length - 64 * i ≤ p by omega)
    omega
theorem place_ex (u j : Nat) : ∀ n, j < cnt u n → ∃ p, p < n ∧ cnt u p ≤ j ∧ j < cnt u (p + 1)
  | 0, h => absurd h (Nat.not_lt_zero _)
  | n + 1, h => by
    by_cases h1 : j < cnt u n
    · obtain ⟨p, hp, h2, h3⟩ := place_ex u j n h1
      exact ⟨p, by omega, h2, h3⟩
    · exact ⟨n, by omega, by omega, h⟩
theorem nth_at (u j p : Nat) (w : World) (hu : u < 18446744073709551616) (hp : p ≤ 63) (h1 : cnt u p ≤ j) (h2 : j < cnt u (p + 1)) :
    Calls Try.prog 66 #[.int .u64 u, .int .i64 j] w fun e w' => e = .returned (.int .i64 p) ∧ ∃ n, w' = w.drewN n := by
  refine (nth_any u j w hu (Nat.lt_of_lt_of_le h2 (cnt_mono u (by omega)))).mono ?_
  rintro e w' ⟨q, rfl, hq, h3, h4, hw⟩
  have e : q = p := by
    by_cases hlt : q < p
    · have := cnt_mono u (show q + 1 ≤ p by omega)
      omega
    · by_cases hgt : p < q
      · have := cnt_mono u (show p + 1 ≤ q by omega)
        omega
      · omega
  rw [e]
  exact ⟨rfl, hw⟩
end Go.Proofs.Ytibhhndiefhofaa
namespace Go.Proofs.Ytibhhndiefhofaa
open Go.RowKit

/-- what the closure reads: the three boxes, and the bits -/
structure SelBox (B c0 c1 c2 : Nat) (W : World) (v : Value) (xs : List Bool) (j : Nat) (bit : Bool) : Prop where
  kept : Kept B W v xs
  b0 : W.cell? ⟨c0, 0, none⟩ = some v
  b1 : W.cell? ⟨c1, 0, none⟩ = some (.bool bit)
  b2 : W.cell? ⟨c2, 0, none⟩ = some (.int .i64 j)
theorem SelBox.drewN {B c0 c1 c2 : Nat} {W : World} {v : Value} {xs : List Bool} {j : Nat} {bit : Bool} (h : SelBox B c0 c1 c2 W v xs j bit) (n : Nat) : SelBox B c0 c1 c2 (W.drewN n) v xs j bit :=
  ⟨kept_drewN h.kept n, h.b0, h.b1, h.b2⟩

set_option maxHeartbeats 2000000 in
set_option maxRecDepth 100000 in
theorem closure_any (B c0 c1 c2 : Nat) (v : Value) (xs : List Bool) (i j : Nat) (bit : Bool) (w : World) (hb : SelBox B c0 c1 c2 w v xs j bit) (hx : xs.length ≤ 4194304) (hi : i < nWords xs) :
    Calls Try.prog 63 #[.int .i64 i, .pointer (some ⟨c0, 0, none⟩), .pointer (some ⟨c1, 0, none⟩), .pointer (some ⟨c2, 0, none⟩)] w fun e w' => e = .returned (.bool (decide (j < aheadB xs i bit))) ∧ ∃ n, w' = w.drewN n := by
  have CA := Lib.hid fun m => ahead_any B v xs i bit (w.drewN m) (kept_drewN hb.kept m) hx hi
  obtain ⟨p, rfl⟩ := kept_ptr B w v xs hb.kept
  have k0 := hb.b0
  have k1 := hb.b1
  have k2 := hb.b2
  clear hb
  generalize aheadB xs i bit = a at *
  go_enter Try.func63, Try.ntmps63
  go_wp2
  go_quiet ((go_at_call 64; exact Calls.quiet_of (CA.out _)))
  go_wp2
  go_ret
  exact ⟨rfl, _, rfl⟩

def FindPost (xs : List Bool) (j : Nat) (bit : Bool) (n : Nat) (w : World) (e : Ending) (w' : World) : Prop :=
  ∃ m : Nat, e = .returned (.int .i64 m) ∧ m ≤ n ∧ (m = 0 ∨ aheadB xs (m - 1) bit ≤ j) ∧ (m = n ∨ j < aheadB xs m bit) ∧ ∃ q, w' = w.drewN q
structure Between (xs : List Bool) (j : Nat) (bit : Bool) (n lo hi : Nat) : Prop where
  low : lo = 0 ∨ aheadB xs (lo - 1) bit ≤ j
  high : hi = n ∨ j < aheadB xs hi bit

set_option maxHeartbeats 4000000 in
set_option maxRecDepth 100000 in
theorem find_any (B c0 c1 c2 : Nat) (v : Value) (xs : List Bool) (j : Nat) (bit : Bool) (w : World) (hb : SelBox B c0 c1 c2 w v xs j bit) (hx : xs.length ≤ 4194304) :
    Calls Try.prog 62 #[.int .i64 (nWords xs), .func (.func 63) #[] #[.pointer (some ⟨c0, 0, none⟩), .pointer (some ⟨c1, 0, none⟩), .pointer (some ⟨c2, 0, none⟩)]] w (FindPost xs j bit (nWords xs) w) := by
  have CC := Lib.hid fun m i (hi : i < nWords xs) => closure_any B c0 c1 c2 v xs i j bit (w.drewN m) (hb.drewN m) hx hi
  have hn : nWords xs ≤ 65536 := by unfold nWords begunN; omega
  clear hb
  generalize nWords xs = n at *
  go_enter Try.func62, Try.ntmps62
  go_wp2
  go_loopg [5, 6] n (fun kx s5 s6 wr => ∃ lo hi q : Nat, s5 = .int .i64 lo ∧ s6 = .int .i64 hi ∧ lo ≤ hi ∧ hi ≤ n ∧ hi - lo ≤ kx ∧ wr = w.drewN q ∧ Between xs j bit n lo hi)
  case atStart => exact ⟨0, n, 0, rfl, rfl, Nat.zero_le _, Nat.le_refl _, by omega, rfl, ⟨Or.inl rfl, Or.inl rfl⟩⟩
  case round =>
    obtain ⟨lo, hi, q, rfl, rfl, hlh, hin, hg, rfl, I⟩ := hrel
    by_cases hlt : lo < hi
    · have hc := CC.out q ((lo + hi) / 2) (by omega)
      rw [show (((lo + hi) / 2 : Nat) : Int) = ((lo : Int) + (hi : Int)) / 2 by omega] at hc
      have I1 := I.low
      have I2 := I.high
      have HI1 := Lib.hid I1
      have HI2 := Lib.hid I2
      clear I1 I2 I
      by_cases hp : j < aheadB xs ((lo + hi) / 2) bit
      · rw [decide_eq_true hp] at hc
        have HP := Lib.hid hp
        have HCC := Lib.hid hc
        clear hp hc
        go_wp2_with fail
        refine HCC.out.mono ?_
        rintro e w' ⟨rfl, m, rfl⟩
        go_wp2
        go_roundg ((lo + hi) / 2 - lo)
        case measure => omega
        case rel => exact ⟨lo, (lo + hi) / 2, _, rfl, by rw [show ((lo : Int) + (hi : Int)) / 2 = (((lo + hi) / 2 : Nat) : Int) by omega], by omega, by omega, Nat.le_refl _, rfl, ⟨HI1.out, Or.inr HP.out⟩⟩
      · rw [decide_eq_false hp] at hc
        have HP := Lib.hid (show aheadB xs ((lo + hi) / 2) bit ≤ j by omega)
        have HCC := Lib.hid hc
        clear hp hc
        go_wp2_with fail
        refine HCC.out.mono ?_
        rintro e w' ⟨rfl, m, rfl⟩
        go_wp2
        go_roundg (hi - ((lo + hi) / 2 + 1))
        case measure => omega
        case rel => exact ⟨(lo + hi) / 2 + 1, hi, _, by rw [show ((lo : Int) + (hi : Int)) / 2 + 1 = (((lo + hi) / 2 + 1 : Nat) : Int) by omega], rfl, by omega, hin, Nat.le_refl _, rfl, ⟨Or.inr HP.out, HI2.out⟩⟩
    · have hz : hi = lo := by omega
      subst hz
      have I1 := Lib.hid I
      clear I
      go_wp2
      go_ret
      exact ⟨_, rfl, hin, I1.out.low, I1.out.high, _, rfl⟩
end Go.Proofs.Ytibhhndiefhofaa
namespace Go.Proofs.Ytibhhndiefhofaa
open Go.RowKit

/-- the world with the three boxes of Select -/
def boxW (w : World) (v : Value) (j : Int) (bit : Bool) : World := ((w.alloc (.cells #[v] 94)).alloc (.cells #[.int .i64 j] 3)).alloc (.cells #[.bool bit] 4)
theorem boxW_below (w : World) (v : Value) (j : Int) (bit : Bool) : Below w.heap.size w (boxW w v j bit) := (((Below.refl _ w).alloc (Nat.le_refl _) _).alloc (by simp) _).alloc (by simp; omega) _
theorem one_new (w : World) (v : Value) (T : TypeId) : (w.alloc (.cells #[v] T)).rowIs w.heap.size T 1 (fun _ => v) := by
  refine World.rowIs_alloc w #[v] T (fun _ => v) ?_
  intro i hi
  obtain rfl : i = 0 := by have : i < 1 := hi; omega
  rfl
theorem boxW_0 (w : World) (v : Value) (j : Int) (bit : Bool) : (boxW w v j bit).cell? ⟨w.heap.size, 0, none⟩ = some v :=
  (((one_new w v 94).alloc _).alloc _).cell (i := 0) (by decide)
theorem boxW_1 (w : World) (v : Value) (j : Int) (bit : Bool) : (boxW w v j bit).cell? ⟨w.heap.size + 1, 0, none⟩ = some (.int .i64 j) := by
  have h := ((one_new (w.alloc (.cells #[v] 94)) (.int .i64 j) 3).alloc (.cells #[.bool bit] 4)).cell (i := 0) (by decide)
  rw [World.size_alloc] at h
  exact h
theorem boxW_2 (w : World) (v : Value) (j : Int) (bit : Bool) : (boxW w v j bit).cell? ⟨w.heap.size + 1 + 1, 0, none⟩ = some (.bool bit) := by
  have h := (one_new ((w.alloc (.cells #[v] 94)).alloc (.cells #[.int .i64 j] 3)) (.bool bit) 4).cell (i := 0) (by decide)
  rw [World.size_alloc, World.size_alloc] at h
  exact h
theorem rlenq_any (B : Nat) (v : Value) (xs : List Bool) (w : World) (hk : Kept B w v xs) :
    Calls Try.prog 52 #[v] w fun e w' => e = .returned (.int .i64 xs.length) ∧ ∃ n, w' = w.drewN n :=
  (rlen_any B v xs w hk).mono (by rintro e w' ⟨rfl, rfl⟩; exact ⟨rfl, 0, rfl⟩)
theorem kept_below {B : Nat} {w w' : World} {v : Value} {xs : List Bool} (h : Kept B w v xs) (hb : Below w.heap.size w w') : Kept B w' v xs := kept_keep B w w' v xs h fun k _ hk => hb.block k hk

set_option maxHeartbeats 2000000 in
set_option maxRecDepth 100000 in
theorem rsel_neg (B : Nat) (v : Value) (xs : List Bool) (j : Int) (bit : Bool) (w : World) (hk : Kept B w v xs) (h0 : j < 0) :
    Calls Try.prog 51 #[v, .int .i64 j, .bool bit] w fun e w' => e = .returned (.int .i64 (-1)) ∧ Below w.heap.size w w' := by
  obtain ⟨p, rfl⟩ := kept_ptr B w v xs hk
  have hb := boxW_below w (.pointer (some p)) j bit
  have hd : decide (j < 0) = true := decide_eq_true h0
  clear hk
  go_enter Try.func51, Try.ntmps51
  go_wp2
  go_quiet (fail)
  go_wp2
  go_ret
  exact ⟨rfl, drewN_below hb _⟩
set_option maxHeartbeats 2000000 in
set_option maxRecDepth 100000 in
theorem rsel_many (B : Nat) (v : Value) (xs : List Bool) (j : Nat) (bit : Bool) (w : World) (hk : Kept B w v xs) (hx : xs.length ≤ 4194304) (hj : rankN xs xs.length bit ≤ j) :
    Calls Try.prog 51 #[v, .int .i64 j, .bool bit] w fun e w' => e = .returned (.int .i64 (-1)) ∧ Below w.heap.size w w' := by
  have hb := boxW_below w v j bit
  have hk2 := kept_below hk hb
  have CL := Lib.hid fun m => rlenq_any B v xs ((boxW w v j bit).drewN m) (kept_drewN hk2 m)
  have CR := Lib.hid fun m => rrank_any B v xs xs.length bit ((boxW w v j bit).drewN m) (kept_drewN hk2 m) hx
  have hr : rankL xs xs.length bit = rankN xs xs.length bit := by unfold rankL; rw [Int.toNat_natCast]
  rw [hr] at CR
  clear hr
  generalize rankN xs xs.length bit = r at *
  obtain ⟨p, rfl⟩ := kept_ptr B w v xs hk
  have k0 := boxW_0 w (.pointer (some p)) j bit
  have k1 := boxW_1 w (.pointer (some p)) j bit
  have k2 := boxW_2 w (.pointer (some p)) j bit
  have hd : decide ((j : Int) < 0) = false := decide_eq_false (by omega)
  clear hk hk2
  go_enter Try.func51, Try.ntmps51
  go_wp2
  rw [show ((w.alloc (.cells #[.pointer (some p)] 94)).alloc (.cells #[.int .i64 (j : Int)] 3)).alloc (.cells #[.bool bit] 4) = boxW w (.pointer (some p)) j bit from rfl]
  generalize boxW w (.pointer (some p)) (j : Int) bit = W at *
  go_quiet (first | (go_at_call 52; exact Calls.quiet_of (CL.out _)) | (go_at_call 53; exact Calls.quiet_of (CR.out _)))
  go_wp2
  go_ret
  exact ⟨rfl, drewN_below hb _⟩
theorem not_u64 (u : Nat) (hu : u < 18446744073709551616) : bits .xor .u64 IntKind.u64.max (u : Int) = ((18446744073709551615 - u : Nat) : Int) := by
  have h := bits_xor_u64_nat 18446744073709551615 u (by omega) hu
  rw [show IntKind.u64.max = ((18446744073709551615 : Nat) : Int) from rfl, h]
  congr 1
  apply Nat.eq_of_testBit_eq
  intro i
  rw [Nat.testBit_xor, show 18446744073709551615 - u = 2 ^ 64 - (u + 1) by omega, Nat.testBit_two_pow_sub_succ hu, show (18446744073709551615 : Nat) = 2 ^ 64 - 1 from rfl, Nat.testBit_two_pow_sub_one]
  by_cases hi : i < 64
  · simp [hi]
  · have : u.testBit i = false := Nat.testBit_lt_two_pow (Nat.lt_of_lt_of_le hu (Nat.pow_le_pow_right (by decide) (by omega) : 2 ^ 64 ≤ 2 ^ i))
    simp [hi, this]
set_option maxHeartbeats 4000000 in
set_option maxRecDepth 100000 in
theorem rsel_in (B : Nat) (v : Value) (xs : List Bool) (j : Nat) (bit : Bool) (w : World) (hk : Kept B w v xs) (hx : xs.length ≤ 4194304) (hj : j < rankN xs xs.length bit) :
    Calls Try.prog 51 #[v, .int .i64 j, .bool bit] w fun e w' => e = .returned (.int .i64 (selL xs j bit)) ∧ Below w.heap.size w w' := by
  have hb := boxW_below w v j bit
  have hk2 := kept_below hk hb
  have CL := Lib.hid fun m => rlenq_any B v xs ((boxW w v j bit).drewN m) (kept_drewN hk2 m)
  have CR := Lib.hid fun m => rrank_any B v xs xs.length bit ((boxW w v j bit).drewN m) (kept_drewN hk2 m) hx
  have hr : rankL xs xs.length bit = rankN xs xs.length bit := by unfold rankL; rw [Int.toNat_natCast]
  rw [hr] at CR
  clear hr
  have hbx : SelBox B w.heap.size (w.heap.size + 1 + 1) (w.heap.size + 1) (boxW w v j bit) v xs j bit := ⟨hk2, boxW_0 w v j bit, boxW_2 w v j bit, boxW_1 w v j bit⟩
  have CF := Lib.hid fun m => find_any B w.heap.size (w.heap.size + 1 + 1) (w.heap.size + 1) v xs j bit ((boxW w v j bit).drewN m) (hbx.drewN m) hx
  have HK := Lib.hid fun m => kept_drewN hk2 m
  have k0 := hbx.b0
  have k1 := hbx.b1
  have k2 := hbx.b2
  obtain ⟨p, q, bw, bb, bi, rfl, _, _, _, _, _, r1, r2, _, _, _⟩ := hk2
  have c1 := r1.cell (i := 1) (by decide)
  have c2 := r2.cell (i := 0) (by decide)
  rw [if_neg (by decide)] at c1
  rw [if_pos rfl] at c2
  have a1 := as_words (.slice (some ⟨bw, 0, none⟩) (nWords xs) (nWords xs))
  have hn : nWords xs ≤ 65536 := by unfold nWords begunN; omega
  have HJ := Lib.hid hj
  have hrb : rankN xs xs.length bit ≤ 4194304 := Nat.le_trans (rankN_le xs _ bit) hx
  have hd : decide ((j : Int) < 0) = false := decide_eq_false (by omega)
  clear hk hbx r1 r2
  generalize hR : rankN xs xs.length bit = r at *
  have HR := Lib.hid hR
  clear hR
  go_enter Try.func51, Try.ntmps51
  go_wp2
  rw [show ((w.alloc (.cells #[.pointer (some ⟨p, 0, none⟩)] 94)).alloc (.cells #[.int .i64 (j : Int)] 3)).alloc (.cells #[.bool bit] 4) = boxW w (.pointer (some ⟨p, 0, none⟩)) j bit from rfl]
  generalize boxW w (.pointer (some ⟨p, 0, none⟩)) (j : Int) bit = W at *
  go_quiet (first | (go_at_call 52; exact Calls.quiet_of (CL.out _)) | (go_at_call 53; exact Calls.quiet_of (CR.out _)))
  go_wp2_with fail
  refine (CF.out _).mono ?_
  rintro e w' ⟨m, rfl, hmn, hm1, hm2, q2, rfl⟩
  have hb2 : Below w.heap.size w ((W.drewN nq).drewN q2) := drewN_below (drewN_below hb _) _
  have K2 := Lib.hid fun n => kept_drewN (kept_drewN (HK.out nq) q2) n
  have l0 : ((W.drewN nq).drewN q2).cell? ⟨w.heap.size, 0, none⟩ = some (.pointer (some ⟨p, 0, none⟩)) := k0
  have l1 : ((W.drewN nq).drewN q2).cell? ⟨w.heap.size + 1 + 1, 0, none⟩ = some (.bool bit) := k1
  have l2 : ((W.drewN nq).drewN q2).cell? ⟨w.heap.size + 1, 0, none⟩ = some (.int .i64 j) := k2
  clear k0 k1 k2 c1 c2 a1 CF CL CR HK hb
  generalize (W.drewN nq).drewN q2 = W2 at *
  have hm0 : m ≠ 0 := by
    intro e
    subst e
    have hr0 := HR.out
    have hl := rankN_le xs xs.length bit
    have hj0 := HJ.out
    rcases hm2 with h | h
    · have : nWords xs ≠ 0 := by unfold nWords begunN; omega
      omega
    · have : aheadB xs 0 bit = 0 := by
        have := aheadN_small xs 0
        cases bit
        · show 64 * 0 - _ = 0; omega
        · show aheadN xs 0 = 0; omega
      omega
  have h1 : aheadB xs (m - 1) bit ≤ j := by
    rcases hm1 with h | h
    · exact absurd h hm0
    · exact h
  have h2 : m - 1 < nWords xs := by omega
  have h3 : m - 1 + 1 = nWords xs ∨ j < aheadB xs (m - 1 + 1) bit := by rw [show m - 1 + 1 = m by omega]; exact hm2
  have h4 := word_holds xs (m - 1) j bit h2 (by rw [HR.out]; exact HJ.out) h3 h1
  obtain ⟨t, ht, h5, h6⟩ := place_ex _ _ _ h4
  have h7 := place_found xs (m - 1) t j bit h2 (by rw [HR.out]; exact HJ.out) h1 (by omega) h5 h6
  have CW := Lib.hid fun n => word_any B _ xs (m - 1) (W2.drewN n) (K2.out n) hx h2
  have CA := Lib.hid fun n => ahead_any B _ xs (m - 1) bit (W2.drewN n) (K2.out n) hx h2
  have CN := Lib.hid fun n => nth_at (wordB xs (m - 1) bit) (j - aheadB xs (m - 1) bit) t (W2.drewN n) (wordB_lt _ _ _) (by omega) h5 h6
  have HM : Hid ((m : Int) - 1 = ((m - 1 : Nat) : Int)) := Lib.hid (by omega)
  have H7 := Lib.hid h7
  clear h7 h4 h5 h6 hm1 hm2 h3
  go_wp2_with fail
  rw [HM.out]
  refine (CW.out 0).mono ?_
  rintro e w' ⟨rfl, rfl⟩
  have HB := Lib.hid (show wordB xs (m - 1) bit = if bit then wordOf xs (m - 1) else 18446744073709551615 - wordOf xs (m - 1) from rfl)
  have hul := wordOf_lt xs (m - 1)
  generalize wordOf xs (m - 1) = u at *
  generalize wordB xs (m - 1) bit = ub at *
  generalize aheadB xs (m - 1) bit = a at *
  generalize m - 1 = i at *
  obtain ⟨d, hd2⟩ : ∃ d, j - a = d := ⟨_, rfl⟩
  rw [hd2] at CN
  have htb : t ≤ 63 := by omega
  have hib : i ≤ 65536 := by omega
  have hjb : j ≤ 4194304 := by have := HJ.out; omega
  have s1 : IntKind.i64.wrap ((i : Int) * 64) = (i : Int) * 64 := IntWalk.i64_in _ (by omega)
  have s2 : IntKind.i64.wrap ((j : Int) - (a : Int)) = (d : Int) := by rw [IntWalk.i64_in _ (by clear s1; omega)]; clear s1; omega
  have s3 : IntKind.i64.wrap ((i : Int) * 64 + (t : Int)) = (i : Int) * 64 + (t : Int) := IntWalk.i64_in _ (by clear s1 s2; omega)
  have H7' : Hid (((64 * i + t : Nat) : Int) = (i : Int) * 64 + (t : Int)) := Lib.hid (by clear s1 s2 s3; omega)
  clear hd2 ht hjb
  cases bit
  · have e := HB.out
    rw [if_neg (by decide)] at e
    subst e
    go_wp2
    rw [not_u64 u hul]
    generalize 18446744073709551615 - u = ub at *
    go_quiet (first | (go_at_call 64; exact Calls.quiet_of (CA.out _)) | (go_at_call 66; exact Calls.quiet_of (CN.out _)))
    go_wp2
    go_ret
    exact ⟨by rw [H7.out, H7'.out]; rfl, drewN_below hb2 _⟩
  · have e := HB.out
    rw [if_pos rfl] at e
    subst e
    go_wp2
    go_quiet (first | (go_at_call 64; exact Calls.quiet_of (CA.out _)) | (go_at_call 66; exact Calls.quiet_of (CN.out _)))
    go_wp2
    go_ret
    exact ⟨by rw [H7.out, H7'.out]; rfl, drewN_below hb2 _⟩
theorem rsel_any (B : Nat) (v : Value) (xs : List Bool) (j : Int) (bit : Bool) (w : World) (hk : Kept B w v xs) (hx : xs.length ≤ 4194304) :
    Calls Try.prog 51 #[v, .int .i64 j, .bool bit] w fun e w' => e = .returned (.int .i64 (selL xs j bit)) ∧ Below w.heap.size w w' := by
  by_cases h0 : j < 0
  · rw [select_neg xs j bit h0]
    exact rsel_neg B v xs j bit w hk h0
  · obtain ⟨k, rfl⟩ := Int.eq_ofNat_of_zero_le (show 0 ≤ j by omega)
    by_cases h1 : k < rankN xs xs.length bit
    · exact rsel_in B v xs k bit w hk hx h1
    · rw [select_many xs k bit (by omega)]
      exact rsel_many B v xs k bit w hk hx (by omega)
end Go.Proofs.Ytibhhndiefhofaa
