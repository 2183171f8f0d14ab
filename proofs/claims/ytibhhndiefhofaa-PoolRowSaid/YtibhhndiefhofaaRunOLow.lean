/-
  THE CONTRACTS OF lowsOf, lows.at, lows.size OF THE LANDED PACKAGE offs.
-/
import Derived.Test.YtibhhndiefhofaaRunOBase
import Derived.Test.YtibhhndiefhofaaRunIntA
import Derived.Handy
namespace Go.Proofs.Ytibhhndiefhofaa
open Go.RowKit

theorem keptz_mono {B B' : Nat} {w : World} {v : Value} {zs : List Nat} (h : KeptZ B w v zs) (hB : B' ≤ B) : KeptZ B' w v zs := by
  obtain ⟨h64, p, rfl, h1, h | h⟩ := h
  · exact ⟨h64, p, rfl, Nat.le_trans hB h1, Or.inl h⟩
  · obtain ⟨h0, q, h2, r1, r2⟩ := h
    exact ⟨h64, p, rfl, Nat.le_trans hB h1, Or.inr ⟨h0, q, Nat.le_trans hB h2, r1, r2⟩⟩
theorem info_u64O : (Try.prog.info? 82).map (fun i => (i.zero, i.size, i.bytes)) = some (some (.int .u64 0), 1, 8) := by kernel_rfl
theorem make_u64O (n : Nat) (h : n ≤ 4294967296) (w : World) :
    (Instr.makeSlice 88 (.int .i64 (n : Int)) (.int .i64 (n : Int))).run Try.prog w = .ok (.slice (some ⟨w.heap.size, 0, none⟩) n n) (w.alloc (.cells (madeCells #[.int .u64 0] n) 82)) :=
  run_make_row' 88 82 (.int .u64 0) 8 Try.underlying88 info_u64O rfl .i64 .i64 n (by omega) (by omega) w
def lowsL (W : Nat) (xs : List Int) : List Nat := xs.map (lowOf W)
theorem mask_i64 (W x : Nat) (hW : W ≤ 23) (hx : x ≤ 8388608) : IntKind.u64.wrap (bits .and .i64 (x : Int) (wrap64 (wrap64 (2 ^ W) - 1))) = ((x % 2 ^ W : Nat) : Int) := by
  have hp : 2 ^ W ≤ 2 ^ 23 := Nat.pow_le_pow_right (by decide) hW
  have hp0 : 0 < 2 ^ W := Nat.two_pow_pos W
  have ep : (2 : Int) ^ W = ((2 ^ W : Nat) : Int) := by rw [Int.natCast_pow]; rfl
  have e1 : wrap64 (wrap64 ((2 : Int) ^ W) - 1) = 2 ^ W - 1 := by
    rw [ep]
    generalize 2 ^ W = p at *
    unfold wrap64
    omega
  rw [e1]
  have h := bits_mask .i64 63 (by decide) (fun n h0 h1 => by rw [IntKind.wrap_i64]; omega) W (by omega) (x : Int) (by omega) (by omega)
  have e : ((x : Int) % 2 ^ W) = ((x % 2 ^ W : Nat) : Int) := by rw [Int.natCast_emod, Int.natCast_pow]; rfl
  rw [e] at h
  rw [h]
  have : x % 2 ^ W ≤ x := Nat.mod_le _ _
  rw [IntKind.wrap_u64]
  omega
theorem lowsL_small (W : Nat) (xs : List Int) (h : W ≤ 23) : ∀ z ∈ lowsL W xs, z ≤ 18446744073709551615 := by
  intro z hz
  obtain ⟨x, _, rfl⟩ := List.mem_map.1 hz
  have h1 : x.toNat % 2 ^ W < 2 ^ W := Nat.mod_lt _ (Nat.two_pow_pos W)
  have h2 : 2 ^ W ≤ 2 ^ 23 := Nat.pow_le_pow_right (by decide) h
  unfold lowOf
  omega
theorem lowsL_length (W : Nat) (xs : List Int) : (lowsL W xs).length = xs.length := List.length_map _
theorem lowsL_at (W : Nat) (xs : List Int) (k : Nat) (h : k < xs.length) : (lowsL W xs).getD k 0 = lowOf W (xs.getD k 0) := by
  simp [lowsL, List.getD, List.getElem?_eq_getElem h]
/-- of the first k places the low bits lie in block b -/
def LowTo (w : World) (b W : Nat) (xs : List Int) (k : Nat) : Prop := w.rowIs b 82 xs.length (fun i => .int .u64 (if i < k then lowOf W (xs.getD i 0) else 0))
theorem LowTo.on {w : World} {b W : Nat} {xs : List Int} {k : Nat} (h : LowTo w b W xs k) (y : Int) (hy : y = (lowOf W (xs.getD k 0) : Int)) : LowTo (w.setCell ⟨b, k, none⟩ (.int .u64 y)) b W xs (k + 1) := by
  subst hy
  refine World.rowIs.congr (World.rowIs.set h k _) fun i _ => ?_
  by_cases e : i = k
  · subst e
    rw [if_pos rfl, if_pos (Nat.lt_succ_self _)]
  · rw [if_neg e]
    by_cases h1 : i < k
    · rw [if_pos h1, if_pos (by omega)]
    · rw [if_neg h1, if_neg (by omega)]

set_option maxHeartbeats 1000000 in
set_option maxRecDepth 100000 in
theorem rlows_any (s : Value) (xs : List Int) (W : Nat) (w : World) (hx : xs.length ≤ 1048576) (hW : W ≤ 23) (hm : ∀ x ∈ xs, 0 ≤ x ∧ x ≤ 8388608) (hs : SymOK w s xs) :
    Calls Try.prog 36 #[s, .int .i64 W] w fun e w' => ∃ v, e = .returned (.agg #[.int .i64 W, v]) ∧ KeptZ w.heap.size w' v (lowsL W xs) ∧ Below w.heap.size w w' := by
  obtain ⟨a, cap, rfl⟩ : ∃ a cap, s = .slice a xs.length cap := by
    obtain ⟨_, a, cap, h, _⟩ := hs
    exact ⟨a, cap, h⟩
  have HC := Lib.hid (fun k hk => SymOK.cell hs k hk)
  have HM := Lib.hid hm
  clear hs hm
  have hbox := World.rowIs_alloc w #[.int .i64 0, .pointer none] 73 (fun i => if i = 0 then .int .i64 0 else .pointer none) (by
    intro i hi
    rcases (show i = 0 ∨ i = 1 by have : i < 2 := hi; omega) with rfl | rfl <;> rfl)
  have hb0 := (Below.refl w.heap.size w).alloc (Nat.le_refl _) (.cells #[.int .i64 0, .pointer none] 73)
  obtain ⟨W0, hW0⟩ : ∃ W0, w.alloc (.cells #[.int .i64 0, .pointer none] 73) = W0 := ⟨_, rfl⟩
  rw [hW0] at hbox hb0
  have hz0 : W0.heap.size = w.heap.size + 1 := by rw [← hW0]; simp
  have hmk := make_u64O xs.length (by omega) W0
  have hrow0 : LowTo (W0.alloc (.cells (madeCells #[.int .u64 0] xs.length) 82)) W0.heap.size W xs 0 := World.rowIs.congr (World.rowIs_made W0 _ _ _) fun i _ => by rw [if_neg (by omega)]
  rw [hz0] at hrow0 hmk
  have hb1 : Below w.heap.size w (W0.alloc (.cells (madeCells #[.int .u64 0] xs.length) 82)) := hb0.alloc hb0.size _
  have hbox1 := hbox.alloc (.cells (madeCells #[.int .u64 0] xs.length) 82)
  have HZ := Lib.hid (lowsL_small W xs hW)
  go_enter Try.func36, Try.ntmps36
  go_wp2
  clear hW0 hmk hb0 hbox
  go_loopw [13] (fun i wr => ∃ k : Nat, k ≤ xs.length ∧ i = .int .i64 k ∧ Below w.heap.size w wr ∧ LowTo wr (w.heap.size + 1) W xs k ∧ wr.rowIs w.heap.size 73 2 (fun i => if i = 0 then .int .i64 0 else .pointer none)) (fun i _ => xs.length - (intOf i).toNat)
  case atStart => exact ⟨0, Nat.zero_le _, rfl, hb1, hrow0, hbox1⟩
  case round =>
    obtain ⟨k, hk, rfl, hbe, hlo, hbo⟩ := hrel
    clear hb1 hrow0 hbox1
    by_cases hlt : k < xs.length
    · obtain ⟨x, hxx⟩ : ∃ x, xs.getD k 0 = x := ⟨_, rfl⟩
      obtain ⟨g, off, rfl, hg, hc⟩ := HC.out k hlt
      have hcell : wr.cell? ⟨g, off + k, none⟩ = some (.int .i64 x) := by rw [hbe.cell (p := ⟨g, off + k, none⟩) hg, ← hxx]; exact hc k hlt
      clear hc
      have hxm := HM.out x (by rw [← hxx]; simp only [List.getD, List.getElem?_eq_getElem hlt, Option.getD_some]; exact List.getElem_mem hlt)
      obtain ⟨y, rfl⟩ : ∃ y : Nat, x = (y : Int) := ⟨x.toNat, by omega⟩
      have hst := hlo.cell (i := k) hlt
      have hfr := World.rowIs.frozen hlo k
      have HV := Lib.hid (mask_i64 W y hW (by omega))
      have HL : Hid ((y % 2 ^ W : Nat) = lowOf W (xs.getD k 0)) := Lib.hid (by rw [hxx]; unfold lowOf; rw [Int.toNat_natCast])
      have HLO := Lib.hid hlo
      have HBO := Lib.hid hbo
      have HBE := Lib.hid hbe
      clear hlo hbo hbe hxx
      go_wp2
      go_roundw
      case rel => exact ⟨k + 1, by omega, by go_num, HBE.out.setCell (by simp) _, HLO.out.on _ (by rw [HV.out, HL.out]), HBO.out.setOther (by simp) _⟩
      case measure => simp [intOf]; omega
    · obtain rfl : k = xs.length := by omega
      have hnum : NumOK wr (.slice (some ⟨w.heap.size + 1, 0, none⟩) xs.length xs.length) (lowsL W xs) := by
        refine ⟨Or.inr ⟨w.heap.size + 1, 0, xs.length, by rw [lowsL_length], World.rowIs.lt hlo, fun i hi => ?_⟩, ⟨_, xs.length, by rw [lowsL_length], by rw [lowsL_length]; omega⟩, HZ.out⟩
        rw [lowsL_length] at hi
        rw [Nat.zero_add, World.rowIs.cell hlo hi, if_pos hi, lowsL_at W xs i hi]
      have C := Lib.hid (rnew_anyZ _ (lowsL W xs) wr (by rw [lowsL_length]; omega) hnum)
      have HBE := Lib.hid hbe
      have hbl := World.rowIs.lt hbo
      have HBO := Lib.hid hbo
      clear hnum hlo hbe hbo
      go_wp2_with fail
      refine C.out.mono ?_
      rintro o w2 ⟨v, rfl, hkz, hbz⟩
      have hbo2 := HBO.out.of_block (hbz.block _ hbl)
      obtain ⟨vb, rfl⟩ := keptz_ptr _ _ _ _ hkz
      have HKZ := Lib.hid hkz
      have HBZ := Lib.hid (HBE.out.trans (hbz.mono (by have := HBE.out.size; omega)))
      have c0 := hbo2.cell (i := 0) (by decide)
      have c1 := hbo2.cell (i := 1) (by decide)
      have f0 := hbo2.frozen 0
      have f1 := hbo2.frozen 1
      have b1 : (w2.setCell ⟨w.heap.size, 0, none⟩ (.int .i64 W)).cell? ⟨w.heap.size, 1, none⟩ = some (.pointer none) := (hbo2.set 0 _).cell (i := 1) (by decide)
      have HB2 := Lib.hid hbo2
      clear hbo2
      have d0 : (w2.setCell ⟨w.heap.size, 0, none⟩ (.int .i64 W)).cell? ⟨w.heap.size, 0, none⟩ = some (.int .i64 W) := (HB2.out.set 0 _).cell (i := 0) (by decide)
      have d1 : ((w2.setCell ⟨w.heap.size, 0, none⟩ (.int .i64 W)).setCell ⟨w.heap.size, 1, none⟩ (.pointer (some vb))).cell? ⟨w.heap.size, 1, none⟩ = some (.pointer (some vb)) := ((HB2.out.set 0 _).set 1 _).cell (i := 1) (by decide)
      go_wp2
      refine bodyPost_ret (by simp [results, Try.results36, d0, d1, go_sem]; try rfl) rfl ?_
      have hwr : w.heap.size < wr.heap.size := hbl
      refine ⟨_, rfl, keptz_mono (keptz_keep _ _ _ _ _ HKZ.out fun k h1 h2 => ?_) (by omega), (HBZ.out.setCell (Nat.le_refl _) _).setCell (Nat.le_refl _) _⟩
      rw [Below.heap_setCell _ _ _ _ (show k ≠ w.heap.size by omega), Below.heap_setCell _ _ _ _ (show k ≠ w.heap.size by omega)]
set_option maxHeartbeats 1000000 in
set_option maxRecDepth 100000 in
/-- THE LOW BITS OF PLACE k. -/
theorem rlat_any (B W : Nat) (v : Value) (zs : List Nat) (k : Nat) (w : World) (hx : zs.length ≤ 1048576) (hlt : k < zs.length) (hz : zs.getD k 0 ≤ 8388608) (hk : KeptZ B w v zs) :
    Calls Try.prog 41 #[.agg #[.int .i64 W, v], .int .i64 k] w fun e w' => e = .returned (.int .i64 (zs.getD k 0)) ∧ Below w.heap.size w w' := by
  obtain ⟨a, rfl⟩ := keptz_ptr _ _ _ _ hk
  have hb0 := (Below.refl w.heap.size w).alloc (Nat.le_refl _) (.cells #[.int .i64 W, .pointer (some a)] 73)
  have hbox := World.rowIs_alloc w #[.int .i64 W, .pointer (some a)] 73 (fun i => if i = 0 then .int .i64 W else .pointer (some a)) (by
    intro i hi
    rcases (show i = 0 ∨ i = 1 by have : i < 2 := hi; omega) with rfl | rfl <;> rfl)
  have c1 := hbox.cell (i := 1) (by show 1 < 2; decide)
  have hk1 : KeptZ B (w.alloc (.cells #[.int .i64 W, .pointer (some a)] 73)) (.pointer (some a)) zs := keptz_keep _ _ _ _ _ hk fun k _ h => hb0.block k h
  have C := Lib.hid (rget_anyZ B _ zs k _ (by omega) ⟨by omega, by omega⟩ hk1)
  rw [getZ_at zs k hlt, getE_at zs k hlt] at C
  have HB := Lib.hid hb0
  generalize zs.getD k 0 = z at *
  have e1 : wrap64 (z : Int) = (z : Int) := by unfold wrap64; omega
  clear hk hk1 hbox hb0
  go_enter Try.func41, Try.ntmps41
  go_wp2_with fail
  refine C.out.mono ?_
  rintro o w2 ⟨rfl, n, rfl⟩
  go_wp2
  go_ret
  exact ⟨ret_i64Z (by omega), drewN_belowZ HB.out n⟩
set_option maxHeartbeats 1000000 in
set_option maxRecDepth 100000 in
theorem rlsize_any (B W : Nat) (v : Value) (zs : List Nat) (w : World) (hx : zs.length ≤ 1048576) (hW : W ≤ 23) (hk : KeptZ B w v zs) :
    Calls Try.prog 94 #[.agg #[.int .i64 W, v]] w fun e w' => e = .returned (.int .i64 (intsN zs.length W)) ∧ Below w.heap.size w w' := by
  obtain ⟨a, rfl⟩ := keptz_ptr _ _ _ _ hk
  have hb0 := (Below.refl w.heap.size w).alloc (Nat.le_refl _) (.cells #[.int .i64 W, .pointer (some a)] 73)
  have hbox := World.rowIs_alloc w #[.int .i64 W, .pointer (some a)] 73 (fun i => if i = 0 then .int .i64 W else .pointer (some a)) (by
    intro i hi
    rcases (show i = 0 ∨ i = 1 by have : i < 2 := hi; omega) with rfl | rfl <;> rfl)
  have hk1 : KeptZ B (w.alloc (.cells #[.int .i64 W, .pointer (some a)] 73)) (.pointer (some a)) zs := keptz_keep _ _ _ _ _ hk fun k _ h => hb0.block k h
  obtain ⟨W0, hW0⟩ : ∃ W0, w.alloc (.cells #[.int .i64 W, .pointer (some a)] 73) = W0 := ⟨_, rfl⟩
  rw [hW0] at hb0 hbox hk1
  have c0 := hbox.cell (i := 0) (by show 0 < 2; decide)
  have c1 := hbox.cell (i := 1) (by show 1 < 2; decide)
  have CL := Lib.hid (fun n => (rlen_anyZ B _ zs (W0.drewN n) (keptz_keep _ _ _ _ _ hk1 fun _ _ _ => rfl)).mono fun e w' (h : e = .returned (.int .i64 zs.length) ∧ W0.drewN n = w') => (⟨h.1, 0, h.2.symm⟩ : e = .returned (.int .i64 zs.length) ∧ ∃ k, w' = (W0.drewN n).drewN k))
  have HB := Lib.hid hb0
  have hmul : zs.length * W ≤ 1048576 * 23 := Nat.mul_le_mul hx hW
  have hans : intsN zs.length W = 64 * begunN (zs.length * W) 64 := rfl
  rw [hans]
  unfold begunN
  clear hk hk1 hbox hb0 hans
  generalize zs.length = n at *
  obtain ⟨m, hm⟩ : ∃ m, n * W = m := ⟨_, rfl⟩
  have e1' : (n : Int) * (W : Int) = (m : Int) := by rw [← hm]; rfl
  rw [hm] at hmul ⊢
  obtain ⟨q, hq⟩ : ∃ q, (m + 64 - 1) / 64 = q := ⟨_, rfl⟩
  rw [hq]
  obtain ⟨m1, hm1⟩ : ∃ m1, m + 64 = m1 := ⟨_, rfl⟩
  obtain ⟨m2, hm2⟩ : ∃ m2, m1 - 1 = m2 := ⟨_, rfl⟩
  obtain ⟨t, ht⟩ : ∃ t, 64 * q = t := ⟨_, rfl⟩
  rw [ht]
  have b0 : m ≤ 8589934592 := by omega
  have b1 : m1 ≤ 8589934592 := by omega
  have b2 : m2 ≤ 8589934592 := by omega
  have b3 : q ≤ 8589934592 := by omega
  have b4 : t ≤ 8589934592 := by omega
  have s2 : (m : Int) + 64 = (m1 : Int) := by omega
  have s3 : (m1 : Int) - 1 = (m2 : Int) := by omega
  have s6 : (q : Int) * 64 = (t : Int) := by omega
  have s4 : (m2 : Int) / 64 = (q : Int) := by omega
  have s0 : (0 : Int) ≤ (m2 : Int) := by omega
  have HF : Hid (((m : Int) + 64 - 1) / 64 * 64 = (t : Int)) := Lib.hid (by omega)
  clear hm hq hm1 hm2 hmul ht
  have e1 : wrap64 ((n : Int) * (W : Int)) = (m : Int) := by rw [e1']; exact wrap_small _ b0
  have e2 : wrap64 ((m : Int) + 64) = (m1 : Int) := by rw [s2]; exact wrap_small _ b1
  have e3 : wrap64 ((m1 : Int) - 1) = (m2 : Int) := by rw [s3]; exact wrap_small _ b2
  have e4 : Int.tdiv (m2 : Int) 64 = (q : Int) := by rw [Int.tdiv_eq_ediv_of_nonneg s0]; exact s4
  have e5 : wrap64 (q : Int) = (q : Int) := wrap_small _ b3
  have e6 : wrap64 ((q : Int) * 64) = (t : Int) := by rw [s6]; exact wrap_small _ b4
  clear s2 s3 s4 s6 e1' s0
  go_enter Try.func94, Try.ntmps94
  go_wp2
  go_quiet (first | (go_at_call 68; exact Calls.quiet_of (CL.out _)))
  go_wp2
  go_ret
  exact ⟨ret_i64Z HF.out, drewN_belowZ HB.out _⟩
end Go.Proofs.Ytibhhndiefhofaa
