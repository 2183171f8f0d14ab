/-
  THE LANDED PACKAGE offs: New, Len, Get, Size.
-/
import Derived.Test.YtibhhndiefhofaaRunOPiece
import Derived.Deep.RegionHeld3
import Derived.KernelRfl
namespace Go.Proofs.Ytibhhndiefhofaa
open Go.RowKit

/-- THE PLACES xs, KEPT IN BLOCKS FROM B ON. -/
def IsO (B : Nat) (w : World) (v : Value) (xs : List Int) : Prop :=
  ∃ (p q : Nat) (pz : Addr) (hv : Value), v = .pointer (some ⟨p, 0, none⟩) ∧ B ≤ p ∧ B ≤ q ∧
    w.rowIs p 80 2 (fun i => if i = 0 then .int .i64 xs.length else .slice (some ⟨q, 0, none⟩) 2 2) ∧
    w.rowIs q 84 2 (fun i => if i = 0 then .iface 73 (.agg #[.int .i64 (lowN xs), .pointer (some pz)]) else .iface 76 hv) ∧
    KeptZ B w (.pointer (some pz)) (lowsL (lowN xs) xs) ∧ HighAt B w hv (highB (lowN xs) xs)
theorem isO_keep (B : Nat) (w w' : World) (v : Value) (xs : List Int) (h : IsO B w v xs) (hk : ∀ k, B ≤ k → k < w.heap.size → w'.heap[k]? = w.heap[k]?) : IsO B w' v xs := by
  obtain ⟨p, q, pz, hv, rfl, h1, h2, r1, r2, h3, h4⟩ := h
  exact ⟨p, q, pz, hv, rfl, h1, h2, r1.of_block (hk _ h1 r1.lt), r2.of_block (hk _ h2 r2.lt), keptz_keep _ _ _ _ _ h3 hk, h4.keep hk⟩
theorem isO_ptr (B : Nat) (w : World) (v : Value) (xs : List Int) (h : IsO B w v xs) : ∃ a, v = .pointer (some a) := by
  obtain ⟨p, _, _, _, rfl, _⟩ := h
  exact ⟨_, rfl⟩
theorem as_lowsO (v : Value) (w : World) : (Instr.typeAssert (.iface 73 v) 84 73 false).run Try.prog w = .ok v w := by kernel_rfl
theorem as_highsO (v : Value) (w : World) : (Instr.typeAssert (.iface 76 v) 84 76 false).run Try.prog w = .ok v w := by kernel_rfl
theorem field_lowsO (x : Int) (a : Value) (w : World) : (Instr.field 73 (.agg #[.int .i64 x, a]) 0).run Try.prog w = .ok (.int .i64 x) w := by kernel_rfl
theorem meth_lowsO (n : Nat) (v : Value) (w : World) : (method (n + 1) 73 v "bracken/offs.size").run Try.prog w = .ok (94, v) w := by kernel_rfl
theorem meth_highsO (n : Nat) (v : Value) (w : World) : (method (n + 1) 76 v "bracken/offs.size").run Try.prog w = .ok (95, v) w := by kernel_rfl

theorem rolenNil_any (w : World) : Calls Try.prog 26 #[.pointer none] w fun e w' => e = .returned (.int .i64 0) ∧ w = w' := by
  go_enter Try.func26, Try.ntmps26
  go_wp2
  go_ret
  exact ⟨rfl, rfl⟩
theorem rolen_any (B : Nat) (v : Value) (xs : List Int) (w : World) (hk : IsO B w v xs) : Calls Try.prog 26 #[v] w fun e w' => e = .returned (.int .i64 xs.length) ∧ w = w' := by
  obtain ⟨p, q, pz, hv, rfl, _, _, r1, _⟩ := hk
  have c1 : w.cell? ⟨p, 0, none⟩ = some (.int .i64 xs.length) := r1.cell (i := 0) (by decide)
  clear r1
  go_enter Try.func26, Try.ntmps26
  go_wp2
  go_ret
  exact ⟨rfl, rfl⟩
set_option maxHeartbeats 1000000 in
set_option maxRecDepth 100000 in
theorem rosize_any (B : Nat) (v : Value) (xs : List Int) (w : World) (hx : xs.length ≤ 1048576) (hm : mayOffs xs = true) (hk : IsO B w v xs) :
    Calls Try.prog 92 #[v] w fun e w' => e = .returned (.int .i64 (offsN xs)) ∧ Below w.heap.size w w' := by
  obtain ⟨p, q, pz, hv, rfl, _, _, r1, r2, h3, h4⟩ := hk
  have c1 : w.cell? ⟨p, 1, none⟩ = some (.slice (some ⟨q, 0, none⟩) 2 2) := r1.cell (i := 1) (by decide)
  have c2 : w.cell? ⟨q, 0, none⟩ = some (.iface 73 (.agg #[.int .i64 (lowN xs), .pointer (some pz)])) := r2.cell (i := 0) (by decide)
  have c3 : w.cell? ⟨q, 1, none⟩ = some (.iface 76 hv) := r2.cell (i := 1) (by decide)
  have hlen := lenH_small hx
  have hlo := low_le hm
  have hsm := offs_small hm (by omega)
  have CZ := Lib.hid (rlsize_any B (lowN xs) (.pointer (some pz)) _ w (by rw [lowsL_length]; exact hx) hlo h3)
  have CH := Lib.hid (fun w' (hb : Below w.heap.size w w') => rhsize_any B hv _ w' (by rw [highB_len]; exact hlen) (h4.keep fun k _ hk => hb.block k hk))
  have hqb := World.block_lt_of_cell? w _ c3
  have hpb := World.block_lt_of_cell? w _ c1
  rw [lowsL_length] at CZ
  rw [highB_len] at CH
  rw [offsN_parts] at hsm ⊢
  have m1 := fun n W => meth_lowsO n (.agg #[.int .i64 (lowN xs), .pointer (some pz)]) W
  obtain ⟨g, hcap, ha, _, _, _, rfl, _⟩ := h4
  have m2 := fun n W => meth_highsO n (.slice (some ⟨g, 0, none⟩) 1 hcap) W
  generalize intsN xs.length (lowN xs) = z1 at *
  generalize bitsN (lenH (lowN xs) xs) = z2 at *
  generalize lowN xs = lw at *
  clear r1 r2 h3 hm hlen hx hlo
  go_enter Try.func92, Try.ntmps92
  go_wp2
  go_loopw [3, 23] (fun x i wr => Below w.heap.size w wr ∧ (x = .int .i64 0 ∧ i = .int .i64 0 ∧ wr = w ∨ x = .int .i64 z1 ∧ i = .int .i64 1 ∨ x = .int .i64 (z1 + z2 : Nat) ∧ i = .int .i64 2)) (fun _ i _ => 2 - (intOf i).toNat)
  case atStart => exact ⟨Below.refl _ _, Or.inl ⟨rfl, rfl, rfl⟩⟩
  case round =>
    obtain ⟨hbe, ⟨rfl, rfl, rfl⟩ | ⟨rfl, rfl⟩ | ⟨rfl, rfl⟩⟩ := hrel
    · go_wp2_with fail
      refine CZ.out.mono ?_
      rintro o w2 ⟨rfl, hb⟩
      go_wp2
      go_roundw
      case rel => exact ⟨hb, Or.inr (Or.inl ⟨by go_num, by go_num⟩)⟩
      case measure => simp [intOf]
    · have d3 := (hbe.cell (p := ⟨q, 1, none⟩) hqb).trans c3
      have CH2 := Lib.hid (CH.out wr hbe)
      go_wp2_with fail
      refine CH2.out.mono ?_
      rintro o w2 ⟨rfl, rfl⟩
      go_wp2
      go_roundw
      case rel => exact ⟨hbe, Or.inr (Or.inr ⟨by go_num, by go_num⟩)⟩
      case measure => simp [intOf]
    · go_wp2
      go_ret
      exact ⟨rfl, hbe⟩
set_option maxHeartbeats 1000000 in
set_option maxRecDepth 100000 in
theorem ronewNo_any (s : Value) (xs : List Int) (w : World) (hx : xs.length ≤ 1048576) (hs : SymOK w s xs) (hm : mayOffs xs = false) :
    Calls Try.prog 25 #[s] w fun e w' => e = .returned (.tuple #[.pointer none, .int .i64 1]) ∧ Below w.heap.size w w' := by
  have CR := Lib.hid (rrise_any s xs w hx hs)
  rw [hm] at CR
  obtain ⟨a, cap, rfl⟩ : ∃ a cap, s = .slice a xs.length cap := by
    obtain ⟨_, a, cap, h, _⟩ := hs
    exact ⟨a, cap, h⟩
  clear hs hm
  go_enter Try.func25, Try.ntmps25
  go_wp2_with fail
  refine CR.out.mono ?_
  rintro e w' ⟨rfl, n, rfl⟩
  go_wp2
  go_ret2
  exact ⟨rfl, drewN_below (Below.refl _ _) n⟩
set_option maxHeartbeats 1000000 in
set_option maxRecDepth 100000 in
theorem ronew_any (s : Value) (xs : List Int) (w : World) (hx : xs.length ≤ 1048576) (hs : SymOK w s xs) (hm : mayOffs xs = true) :
    Calls Try.prog 25 #[s] w fun e w' => ∃ v, e = .returned (.tuple #[v, .int .i64 0]) ∧ IsO w.heap.size w' v xs ∧ Below w.heap.size w w' := by
  have CR := Lib.hid (rrise_any s xs w hx hs)
  rw [hm] at CR
  have CW := Lib.hid (fun n => rlowWidth_any s xs (w.drewN n) hx ⟨hs.1, hs.2⟩ hm)
  have CO := Lib.hid (fun w1 (h : Below w.heap.size w w1) => rlows_any s xs (lowN xs) w1 hx (low_le hm) (may_mem hm) (hs.below h))
  have CH := Lib.hid (fun w1 (h : Below w.heap.size w w1) => rhighs_any s xs (lowN xs) w1 hx (low_le hm) hm (lenH_small hx) (hs.below h))
  obtain ⟨a, cap, rfl⟩ : ∃ a cap, s = .slice a xs.length cap := by
    obtain ⟨_, a, cap, h, _⟩ := hs
    exact ⟨a, cap, h⟩
  clear hs hm
  go_enter Try.func25, Try.ntmps25
  go_wp2_with fail
  refine CR.out.mono ?_
  rintro e w' ⟨rfl, n, rfl⟩
  have hbn : Below w.heap.size w (w.drewN n) := drewN_below (Below.refl _ _) n
  go_wp2_with fail
  refine (CW.out n).mono ?_
  rintro e w' ⟨rfl, rfl⟩
  go_wp2_with fail
  refine (CO.out _ hbn).mono ?_
  rintro e w2 ⟨v, rfl, hkz, hb2⟩
  obtain ⟨pz, rfl⟩ := keptz_ptr _ _ _ _ hkz
  have hbw2 : Below w.heap.size w w2 := hbn.trans (hb2.mono hbn.size)
  go_wp2_with fail
  refine (CH.out w2 hbw2).mono ?_
  rintro e w3 ⟨hv, rfl, hh, hb3⟩
  obtain ⟨g, hcap, ha, C, t, fr, rfl, hr⟩ := hh
  have HH : Hid (HighAt w2.heap.size w3 (.slice (some ⟨g, 0, none⟩) 1 hcap) (highB (lowN xs) xs)) := Lib.hid ⟨g, hcap, ha, C, t, fr, rfl, hr⟩
  have HKZ := Lib.hid hkz
  have HB3 := Lib.hid hb3
  have HBW := Lib.hid (hbw2.trans (hb3.mono hbw2.size))
  clear hr hkz hb3
  go_wp2
  have hz2 := hb2.size
  have hz3 := HB3.out.size
  have hzn : (w.drewN n).heap.size = w.heap.size := rfl
  go_ret2
  have hk3 : KeptZ w.heap.size w3 (.pointer (some pz)) (lowsL (lowN xs) xs) := keptz_keep _ _ _ _ _ HKZ.out fun k _ h2 => HB3.out.block k h2
  have r1 := World.rowIs_alloc w3 #[.iface 73 (.agg #[.int .i64 (lowN xs), .pointer (some pz)]), .iface 76 (.slice (some ⟨g, 0, none⟩) 1 hcap)] 84 (fun i => if i = 0 then .iface 73 (.agg #[.int .i64 (lowN xs), .pointer (some pz)]) else .iface 76 (.slice (some ⟨g, 0, none⟩) 1 hcap)) (by
    intro i hi
    rcases (show i = 0 ∨ i = 1 by have : i < 2 := hi; omega) with rfl | rfl <;> rfl)
  have hb4 := HBW.out.alloc HBW.out.size (.cells #[.iface 73 (.agg #[.int .i64 (lowN xs), .pointer (some pz)]), .iface 76 (.slice (some ⟨g, 0, none⟩) 1 hcap)] 84)
  have hz4 : (w3.alloc (.cells #[.iface 73 (.agg #[.int .i64 (lowN xs), .pointer (some pz)]), .iface 76 (.slice (some ⟨g, 0, none⟩) 1 hcap)] 84)).heap.size = w3.heap.size + 1 := by simp
  have ha4 : ∀ k, k < w3.heap.size → (w3.alloc (.cells #[.iface 73 (.agg #[.int .i64 (lowN xs), .pointer (some pz)]), .iface 76 (.slice (some ⟨g, 0, none⟩) 1 hcap)] 84)).heap[k]? = w3.heap[k]? := fun k h => Below.heap_alloc w3 _ k h
  generalize w3.alloc (.cells #[.iface 73 (.agg #[.int .i64 (lowN xs), .pointer (some pz)]), .iface 76 (.slice (some ⟨g, 0, none⟩) 1 hcap)] 84) = w4 at *
  have r2 := World.rowIs_alloc w4 #[.int .i64 xs.length, .slice (some ⟨w3.heap.size, 0, none⟩) 2 2] 80 (fun i => if i = 0 then .int .i64 xs.length else .slice (some ⟨w3.heap.size, 0, none⟩) 2 2) (by
    intro i hi
    rcases (show i = 0 ∨ i = 1 by have : i < 2 := hi; omega) with rfl | rfl <;> rfl)
  rw [hz4] at r2
  have ha5 : ∀ k, k < w3.heap.size → (w4.alloc (.cells #[.int .i64 xs.length, .slice (some ⟨w3.heap.size, 0, none⟩) 2 2] 80)).heap[k]? = w3.heap[k]? := fun k h => (Below.heap_alloc w4 _ k (by omega)).trans (ha4 k h)
  exact ⟨_, rfl, ⟨w3.heap.size + 1, w3.heap.size, pz, _, rfl, by omega, by omega, r2, r1.alloc _, keptz_keep _ _ _ _ _ hk3 fun k _ h2 => ha5 k h2, (HH.out.mono (by omega)).keep fun k _ h2 => ha5 k h2⟩, hb4.alloc hb4.size _⟩
theorem ret_tuple {a b : Int} (h : a = b) : Ending.returned (.tuple #[.int .i64 a, .int .i64 0]) = .returned (.tuple #[.int .i64 b, .int .i64 0]) := by rw [h]
theorem get_value (U Z W : Nat) (x : Int) (hW : W ≤ 23) (hZ : Z < 2 ^ W) (h : ((U * 2 ^ W + Z : Nat) : Int) = x) (hx : x ≤ 8388608) :
    bits .or .i64 (IntKind.i64.wrap ((U : Int) * 2 ^ min W 64)) (Z : Int) = x := by
  have hp : 2 ^ W ≤ 2 ^ 23 := Nat.pow_le_pow_right (by decide) hW
  have e1 : min W 64 = W := by omega
  have e2 : (U : Int) * 2 ^ W = ((U * 2 ^ W : Nat) : Int) := by rw [Int.natCast_mul, Int.natCast_pow]; rfl
  have hor : 2 ^ W * U + Z = 2 ^ W * U ||| Z := Nat.two_pow_add_eq_or_of_lt hZ U
  rw [Nat.mul_comm (2 ^ W) U] at hor
  rw [e1, e2]
  generalize U * 2 ^ W = V at *
  have e3 : IntKind.i64.wrap (V : Int) = (V : Int) := by rw [IntKind.wrap_i64]; omega
  rw [e3, (bits_nat .i64 63 (by decide) (fun n h0 h1 => by rw [IntKind.wrap_i64]; omega) V Z (by omega) (by omega)).2, ← hor, h]
/-- WHERE Get STANDS behind its first line: the low part lies in a new block. -/
structure GetMid (B g hcap : Nat) (ha : Addr) (xs : List Int) (w : World) (pz : Addr) (W : World) : Prop where
  c0 : W.cell? ⟨w.heap.size, 0, none⟩ = some (.int .i64 (lowN xs))
  c1 : W.cell? ⟨w.heap.size, 1, none⟩ = some (.pointer (some pz))
  kz : KeptZ B W (.pointer (some pz)) (lowsL (lowN xs) xs)
  hi : HighAt B W (.slice (some ⟨g, 0, none⟩) 1 hcap) (highB (lowN xs) xs)
  since : Below w.heap.size w W
section
variable {B g hcap j : Nat} {ha : Addr} {xs : List Int} {w W W' : World} {pz : Addr}
theorem GetMid.other (h : GetMid B g hcap ha xs w pz W) (hb : Below W.heap.size W W') : GetMid B g hcap ha xs w pz W' :=
  ⟨(hb.cell (p := ⟨w.heap.size, 0, none⟩) (World.block_lt_of_cell? W _ h.c0)).trans h.c0, (hb.cell (p := ⟨w.heap.size, 1, none⟩) (World.block_lt_of_cell? W _ h.c1)).trans h.c1,
   keptz_keep _ _ _ _ _ h.kz fun k _ hk => hb.block k hk, h.hi.keep fun k _ hk => hb.block k hk, h.since.trans (hb.mono h.since.size)⟩
theorem GetMid.start (h3 : KeptZ B w (.pointer (some pz)) (lowsL (lowN xs) xs)) (h4 : HighAt B w (.slice (some ⟨g, 0, none⟩) 1 hcap) (highB (lowN xs) xs)) :
    GetMid B g hcap ha xs w pz (w.alloc (.cells #[.int .i64 (lowN xs), .pointer (some pz)] 73)).drew := by
  have hb0 := (Below.refl w.heap.size w).alloc (Nat.le_refl _) (.cells #[.int .i64 (lowN xs), .pointer (some pz)] 73)
  have hbox := World.rowIs_alloc w #[.int .i64 (lowN xs), .pointer (some pz)] 73 (fun i => if i = 0 then .int .i64 (lowN xs) else .pointer (some pz)) (by
    intro i hi
    rcases (show i = 0 ∨ i = 1 by have : i < 2 := hi; omega) with rfl | rfl <;> rfl)
  exact ⟨hbox.cell (i := 0) (by show 0 < 2; decide), hbox.cell (i := 1) (by show 1 < 2; decide), keptz_keep _ _ _ _ _ h3 fun k _ hk => hb0.block k hk, h4.keep fun k _ hk => hb0.block k hk, hb0.drew⟩
theorem GetMid.high (h : GetMid B g hcap ha xs w pz W) (hx : xs.length ≤ 1048576) (hm : mayOffs xs = true) (hj : j < xs.length) :
    Calls Try.prog 40 #[.slice (some ⟨g, 0, none⟩) 1 hcap, .int .i64 j] W fun e W' => e = .returned (.int .i64 (upN (lowN xs) xs j)) ∧ GetMid B g hcap ha xs w pz W' := by
  have hl := lenH_small hx
  have hp := pl_len (W := lowN xs) hm j hj
  refine (rhat_any B j (upN (lowN xs) xs j) _ _ W (by rw [highB_len]; exact hl) (sel_high hm j hj) (by omega) (by unfold plN at hp; omega) h.hi).mono ?_
  rintro o u ⟨rfl, hb⟩
  exact ⟨rfl, h.other hb⟩
theorem GetMid.low (h : GetMid B g hcap ha xs w pz W) (hx : xs.length ≤ 1048576) (hm : mayOffs xs = true) (hj : j < xs.length) :
    Calls Try.prog 41 #[.agg #[.int .i64 (lowN xs), .pointer (some pz)], .int .i64 j] W fun e W' => e = .returned (.int .i64 (lowOf (lowN xs) (xs.getD j 0))) ∧ GetMid B g hcap ha xs w pz W' := by
  have hz : (lowsL (lowN xs) xs).getD j 0 = lowOf (lowN xs) (xs.getD j 0) := lowsL_at _ _ _ hj
  have hxm := may_mem hm (xs.getD j 0) (by simp only [List.getD, List.getElem?_eq_getElem hj, Option.getD_some]; exact List.getElem_mem hj)
  have hle : lowOf (lowN xs) (xs.getD j 0) ≤ (xs.getD j 0).toNat := Nat.mod_le _ _
  refine (rlat_any B (lowN xs) (.pointer (some pz)) (lowsL (lowN xs) xs) j W (by rw [lowsL_length]; exact hx) (by rw [lowsL_length]; exact hj) (by rw [hz]; omega) h.kz).mono ?_
  rintro o u ⟨rfl, hb⟩
  exact ⟨by rw [hz], h.other hb⟩
end
set_option maxHeartbeats 1000000 in
set_option maxRecDepth 100000 in
theorem roget_any (B : Nat) (v : Value) (xs : List Int) (k : Int) (w : World) (hx : xs.length ≤ 1048576) (hm : mayOffs xs = true) (hk64 : In64 k) (hk : IsO B w v xs) :
    Calls Try.prog 30 #[v, .int .i64 k] w fun e w' => e = .returned (.tuple #[.int .i64 (getW xs k), .int .i64 (getWE xs k)]) ∧ Below w.heap.size w w' := by
  have CL := Lib.hid (rolen_any B v xs w hk)
  by_cases h0 : k < 0
  · rw [getW_out xs k (by omega), getWE_out xs k (by omega)]
    clear hk
    go_enter Try.func30, Try.ntmps30
    go_wp2
    go_ret2
    exact ⟨rfl, Below.refl _ _⟩
  · obtain ⟨j, rfl⟩ := Int.eq_ofNat_of_zero_le (show 0 ≤ k by omega)
    by_cases h1 : j < xs.length
    · rw [getW_at xs j h1, getWE_at xs j h1]
      obtain ⟨p, q, pz, hv, rfl, _, _, r1, r2, h3, h4⟩ := hk
      have c1 : w.cell? ⟨p, 1, none⟩ = some (.slice (some ⟨q, 0, none⟩) 2 2) := r1.cell (i := 1) (by decide)
      have c2 : w.cell? ⟨q, 0, none⟩ = some (.iface 73 (.agg #[.int .i64 (lowN xs), .pointer (some pz)])) := r2.cell (i := 0) (by decide)
      have c3 : w.cell? ⟨q, 1, none⟩ = some (.iface 76 hv) := r2.cell (i := 1) (by decide)
      have a1 := fun W => as_lowsO (.agg #[.int .i64 (lowN xs), .pointer (some pz)]) W
      obtain ⟨g, hcap, ha, C, t, fr, rfl, hr⟩ := h4
      have a2 := fun W => as_highsO (.slice (some ⟨g, 0, none⟩) 1 hcap) W
      have hqb := World.block_lt_of_cell? w _ c3
      have hpb := World.block_lt_of_cell? w _ c1
      have g1 : decide (xs.length ≤ j) = false := decide_eq_false (by omega)
      have HM0 : GetMid B g hcap ha xs w pz (w.alloc (.cells #[.int .i64 (lowN xs), .pointer (some pz)] 73)).drew := GetMid.start h3 ⟨g, hcap, ha, C, t, fr, rfl, hr⟩
      clear r1 r2
      go_enter Try.func30, Try.ntmps30
      go_wp2_with fail
      refine CL.out.mono ?_
      rintro e w' ⟨rfl, rfl⟩
      go_wp2
      go_region
      have HM := Lib.hid HM0
      clear HM0 h3 hr c1 c2 c3 a1 a2
      generalize (w.alloc (.cells #[.int .i64 (lowN xs), .pointer (some pz)] 73)).drew = W1 at *
      have hMd := HM.out.other (Below.refl _ _).drew
      go_wp2_with fail
      go_region_held3 (fun W => W.cell? ⟨w.heap.size, 0, none⟩ = some (.int .i64 (lowN xs)) ∧ W.cell? ⟨w.heap.size, 1, none⟩ = some (.pointer (some pz)))
        (first | exact ⟨(‹GetMid B g hcap ha xs w pz _›).c0, (‹GetMid B g hcap ha xs w pz _›).c1⟩ | assumption)
        (first | ((go_at_call 40; refine (GetMid.high (j := j) ‹GetMid B g hcap ha xs w pz _› hx hm h1).mono ?_; rintro o u ⟨rfl, hM2⟩)) | ((go_at_call 41; refine (GetMid.low (j := j) ‹GetMid B g hcap ha xs w pz _› hx hm h1).mono ?_; rintro o u ⟨rfl, hM3⟩)))
      have hxm := may_mem hm (xs.getD j 0) (by simp only [List.getD, List.getElem?_eq_getElem h1, Option.getD_some]; exact List.getElem_mem h1)
      have ex : xs.getD j 0 = xs[j] := by simp [List.getD, List.getElem?_eq_getElem h1]
      have HV := Lib.hid (get_value (upN (lowN xs) xs j) (lowOf (lowN xs) (xs.getD j 0)) (lowN xs) (xs.getD j 0) (low_le hm) (Nat.mod_lt _ (Nat.two_pow_pos _)) (up_low _ _ _ hxm.1) hxm.2)
      rw [ex] at HV
      have HS := Lib.hid (‹GetMid B g hcap ha xs w pz u›).since
      go_wp2
      go_ret2
      exact ⟨(ret_tuple HV.out).trans (by rw [ex]), HS.out⟩
    · rw [getW_out xs j (by omega), getWE_out xs j (by omega)]
      obtain ⟨p, rfl⟩ := isO_ptr B w v xs hk
      clear hk
      have g1 : decide (xs.length ≤ j) = true := decide_eq_true (by omega)
      go_enter Try.func30, Try.ntmps30
      go_wp2_with (refine CL.out.mono ?_; rintro e w' ⟨rfl, rfl⟩)
      go_ret2
      exact ⟨rfl, Below.refl _ _⟩

theorem same_belowO {w : World} {r : Value} {f : FuncId} {args : Array Value} (h : Calls Try.prog f args w fun e w' => e = .returned r ∧ w = w') : Calls Try.prog f args w fun e w' => e = .returned r ∧ Below w.heap.size w w' :=
  h.mono (by rintro e w' ⟨rfl, rfl⟩; exact ⟨rfl, Below.refl _ _⟩)
end Go.Proofs.Ytibhhndiefhofaa
