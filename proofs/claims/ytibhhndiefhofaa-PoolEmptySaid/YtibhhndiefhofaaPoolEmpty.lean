/-
  LAYER 8: brackenlaw8.PoolEmpty, out of PoolSaid: true for any numbers, any text. (Written by gen_poolempty.py.)
-/
import Derived.Test.YtibhhndiefhofaaPoolTold
import Derived.Deep.OwnRows
import Derived.RegionTactic
import Derived.BigRegion
import Derived.IntWalk
namespace Go.Proofs.Ytibhhndiefhofaa
open Go.RowKit

theorem make_strs (n : Nat) (h : n ≤ 4294967296) (w : World) :
    (Instr.makeSlice 22 (.int .i64 (n : Int)) (.int .i64 (n : Int))).run Try.prog w = .ok (.slice (some ⟨w.heap.size, 0, none⟩) n n) (w.alloc (.cells (madeCells #[.string ⟨#[]⟩] n) 9)) :=
  run_make_row' 22 9 (.string ⟨#[]⟩) 16 Try.underlying22 info_str rfl .i64 .i64 n (by omega) (by omega) w
theorem strOK_row {w : World} {b k : Nat} {F : Nat → ByteArray} (h : w.rowIs b 9 k (fun i => .string (F i))) : StrOK w (.slice (some ⟨b, 0, none⟩) k k) ((List.range k).map F) := by
  have hl : ((List.range k).map F).length = k := by simp
  refine ⟨Or.inr ⟨b, 0, k, by rw [hl], h.lt, fun i hi => ?_⟩, _, k, by rw [hl], by rw [hl]; exact Nat.le_refl _⟩
  rw [hl] at hi
  rw [Nat.zero_add, h.cell hi]
  simp [strAt, List.getD, hi]
/-- one text at place x, nothing else -/
def oneText (s : ByteArray) (x i : Nat) : ByteArray := if i = x then s else ⟨#[]⟩
theorem bytes_one (s : ByteArray) (x : Nat) : ∀ k, bytesN ((List.range k).map (oneText s x)) = if x < k then s.size else 0
  | 0 => rfl
  | k + 1 => by
    rw [List.range_succ, List.map_append, bytesN_append, bytes_one s x k]
    simp only [List.map_cons, List.map_nil, bytesN, oneText]
    by_cases h1 : x < k
    · rw [if_pos h1, if_neg (by omega), if_pos (by omega)]
      rfl
    · rw [if_neg h1]
      by_cases h2 : k = x
      · rw [if_pos h2, if_pos (by omega)]; omega
      · rw [if_neg h2, if_neg (by omega)]
        rfl

set_option maxHeartbeats 1000000 in
set_option maxRecDepth 100000 in
theorem poolempty_long {E : World → Prop} {Is : Nat → World → Value → List ByteArray → Prop} (S : PoolSaid E Is) (n0 at0 : Int) (s : ByteArray) (w : World) (hE : E w) (hs : 50 < s.size) (hs2 : s.size ≤ 9223372036854775807) :
    Calls Try.prog 5 #[.int .i64 n0, .int .i64 at0, .string s] w fun e w' => e = .returned (.bool true) ∧ Below w.heap.size w w' := by
  have C := Lib.hid (told8_any S w hE)
  clear hE
  obtain ⟨u1, x1, hk1, hk2, hk3, hk4, hk5⟩ := wrap_mod n0 200 (by decide) (by decide)
  replace hk2 : Int.tmod (u1 : Int) 200 = (x1 : Int) := hk2
  have g1 : decide (50 < s.size) = true := decide_eq_true hs
  have g2 : decide ((50 : Int) < (s.size : Int)) = true := decide_eq_true (by clear hk1 hk2 hk4 hk5; omega)
  go_enter Try.func5, Try.ntmps5
  go_wp2_with fail
  refine C.out.mono ?_
  rintro e w1 ⟨rfl, hb⟩
  go_wp2
  go_ret
  exact ⟨rfl, hb⟩
set_option maxHeartbeats 8000000 in
set_option maxRecDepth 100000 in
theorem poolempty_any {E : World → Prop} {Is : Nat → World → Value → List ByteArray → Prop} (S : PoolSaid E Is) (n0 at0 : Int) (s : ByteArray) (w : World) (hE : E w) (hs : s.size ≤ 50) :
    Calls Try.prog 5 #[.int .i64 n0, .int .i64 at0, .string s] w fun e w' => e = .returned (.bool true) ∧ Below w.heap.size w w' := by
  have HE := Lib.hid hE
  obtain ⟨u1, x1, hk1, hk2, hk3, hk4, hk5⟩ := wrap_mod n0 200 (by decide) (by decide)
  replace hk2 : Int.tmod (u1 : Int) 200 = (x1 : Int) := hk2
  obtain ⟨k, hk⟩ : ∃ k : Nat, 1 + x1 = k := ⟨_, rfl⟩
  have e0 : (1 : Int) + (x1 : Int) = (k : Int) := by clear hk1 hk2 hk4 hk5; omega
  have hk1' : 1 ≤ k := by clear hk1 hk2 hk4 hk5; omega
  have hk200 : k ≤ 200 := by clear hk1 hk2 hk4 hk5; omega
  obtain ⟨u2, x, hc1, hc2, hc3, hcs, hc4, hc5⟩ := wrap_mod2 at0 k (by clear hk1 hk2 hk4 hk5; omega) (by clear hk1 hk2 hk4 hk5; omega)
  have hc6 : ((k : Int) == 0) = false := beq_eq_false_iff_ne.2 (by clear hk1 hk2 hk4 hk5 hc1 hc2 hc3 hc4 hc5; omega)
  have hc7 : (k == 0) = false := beq_eq_false_iff_ne.2 (by clear hk1 hk2 hk4 hk5 hc1 hc2 hc3 hc4 hc5; omega)
  have g1 : decide (50 < s.size) = false := decide_eq_false (by clear hk1 hk2 hk4 hk5 hc1 hc2 hc3 hc4 hc5; omega)
  have g2 : decide ((50 : Int) < (s.size : Int)) = false := decide_eq_false (by clear hk1 hk2 hk4 hk5 hc1 hc2 hc3 hc4 hc5; omega)
  have hmk := make_strs k (by clear hk1 hk2 hk4 hk5 hc1 hc2 hc3 hc4 hc5; omega) w
  have hb0 : Below w.heap.size w (w.alloc (.cells (madeCells #[.string ⟨#[]⟩] k) 9)) := (Below.refl w.heap.size w).alloc (Nat.le_refl _) _
  have hr0 := World.rowIs_made w (.string ⟨#[]⟩) k 9
  obtain ⟨W0, hW0⟩ : ∃ W0, w.alloc (.cells (madeCells #[.string ⟨#[]⟩] k) 9) = W0 := ⟨_, rfl⟩
  rw [hW0] at hmk hb0 hr0
  have hw2 := World.rowIs.frozen hr0 x
  have hw1 := World.rowIs.cell hr0 hcs
  have hr1 : (W0.setCell ⟨w.heap.size, x, none⟩ (.string s)).rowIs w.heap.size 9 k (fun i => .string (oneText s x i)) := by
    refine World.rowIs.congr (hr0.set x (.string s)) fun i _ => ?_
    unfold oneText
    by_cases e : i = x
    · rw [if_pos e, if_pos e]
    · rw [if_neg e, if_neg e]
  have HR1 := Lib.hid hr1
  have HRS := Lib.hid (strOK_row hr1)
  have HB1 := Lib.hid (hb0.setCell (Nat.le_refl _) (.string s) (p := ⟨w.heap.size, x, none⟩))
  have hb1 : (x : Int) < (k : Int) := by clear hk1 hk2 hk4 hk5 hc1 hc2 hc3 hc4 hc5; omega
  have hb2 : (0 : Int) ≤ (x : Int) := by clear hk1 hk2 hk4 hk5 hc1 hc2 hc3 hc4 hc5; omega
  have HBN : Hid (bytesN ((List.range k).map (oneText s x)) = s.size) := Lib.hid (by rw [bytes_one, if_pos hcs])
  have hxl : ((List.range k).map (oneText s x)).length = k := by simp
  have HAT := Lib.hid (fun i (hi : i < k) => show strAt ((List.range k).map (oneText s x)) i = oneText s x i by simp [strAt, List.getD, hi])
  clear hE hk hr1 hb0 hW0 hr0
  go_enter Try.func5, Try.ntmps5
  go_wp2_with fail
  clear hk1 hk2 hk4 hk5 hc1 hc2 hc3 hc4 hc5 hc6 hc7 hmk hw1 hw2
  generalize hss : (List.range k).map (oneText s x) = ss at *
  have HXL := Lib.hid hxl
  clear hxl hss
  obtain ⟨W1, hW1⟩ : ∃ W1, W0.setCell ⟨w.heap.size, x, none⟩ (.string s) = W1 := ⟨_, rfl⟩
  rw [hW1] at HR1 HRS HB1 ⊢
  clear hW1
  have hls : ss.length ≤ 100000 := by rw [HXL.out]; omega
  refine (pnewAt S _ (S.below _ _ HE.out HB1.out) hls (by rw [HBN.out]; omega) HRS.out (Below.refl _ _)).mono ?_
  rintro e wa ⟨p, rfl, h, _⟩
  have H := Lib.hid h
  have HCW : Hid (∀ i, i < k → W1.cell? ⟨w.heap.size, i, none⟩ = some (.string (strAt ss i))) := Lib.hid (fun i hi => by rw [HAT.out i hi]; exact HR1.out.cell hi)
  have hlt1 : w.heap.size < W1.heap.size := HR1.out.lt
  clear h
  go_wp2
  go_loopw [11] (fun iv wr => ∃ i : Nat, i ≤ k ∧ iv = .int .i64 i ∧ PAt E Is W1.heap.size W1 (.pointer (some p)) ss wr) (fun iv _ => k - (intOf iv).toNat)
  case atStart => exact ⟨0, Nat.zero_le _, rfl, H.out⟩
  case round =>
    obtain ⟨i, hil, rfl, hA⟩ := hrel
    replace H := Lib.hid hA
    clear hA
    by_cases hlt : i < k
    · obtain ⟨t, htt⟩ : ∃ t, strAt ss i = t := ⟨_, rfl⟩
      have hc0 := HCW.out i hlt
      rw [htt] at hc0
      have HC := Lib.hid hc0
      have HX := Lib.hid ((getS_at ss i (by rw [HXL.out]; exact hlt)).trans htt)
      have HXE := Lib.hid (getSE_at ss i (by rw [HXL.out]; exact hlt))
      have HI := Lib.hid (⟨by omega, by omega⟩ : In64 (i : Int))
      clear hc0 htt
      go_wp2_with fail
      refine (pgetAt S (i : Int) t 0 HX.out HXE.out HI.out H.out).mono ?_
      rintro e wz ⟨rfl, hb'⟩
      replace H := Lib.hid (H.out.other S hb')
      clear hb'
      have hcell : wz.cell? ⟨w.heap.size, i, none⟩ = some (.string t) := by rw [H.out.since.cell (p := ⟨w.heap.size, i, none⟩) hlt1]; exact HC.out
      go_wp2
      go_roundw
      case rel => exact ⟨i + 1, by omega, by go_num, H.out⟩
      case measure => simp [intOf]; omega
    · have i1 : decide (i < k) = false := decide_eq_false hlt
      go_wp2_with fail
      refine (told8_any S _ H.out.e).mono ?_
      rintro e wz ⟨rfl, hb'⟩
      replace H := Lib.hid (H.out.other S hb')
      clear hb'
      go_wp2_with fail
      refine (plenAt S k HXL.out H.out).mono ?_
      rintro e wz ⟨rfl, hb'⟩
      replace H := Lib.hid (H.out.other S hb')
      clear hb'
      go_wp2_with fail
      try simp only [List.append_eq, List.cons_append, List.nil_append] at *
      refine (pbytesAt S s.size HBN.out H.out).mono ?_
      rintro e wz ⟨rfl, hb'⟩
      replace H := Lib.hid (H.out.other S hb')
      clear hb'
      go_wp2
      go_ret
      exact ⟨rfl, HB1.out.trans (H.out.since.mono HB1.out.size)⟩
theorem poolempty_law {E : World → Prop} {Is : Nat → World → Value → List ByteArray → Prop} (S : PoolSaid E Is) (n0 at0 : Int) (s : ByteArray) (w : World) (hE : E w) (hs : s.size ≤ 9223372036854775807) :
    Calls Try.prog 5 #[.int .i64 n0, .int .i64 at0, .string s] w fun e w' => e = .returned (.bool true) ∧ Below w.heap.size w w' := by
  by_cases h : s.size ≤ 50
  · exact poolempty_any S n0 at0 s w hE h
  · exact poolempty_long S n0 at0 s w hE (by omega) hs
end Go.Proofs.Ytibhhndiefhofaa
