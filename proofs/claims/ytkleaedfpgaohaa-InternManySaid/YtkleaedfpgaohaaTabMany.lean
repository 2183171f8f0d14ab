/-
  LAYER 9: brackenlaw9.InternMany, out of TabSaid: true for any number, any beginning.
-/
import Derived.Test.YtkleaedfpgaohaaTabHash
import Derived.Test.YtkleaedfpgaohaaBitNum
namespace Go.Proofs.Ytkleaedfpgaohaa
open Go.RowKit

/-- a number's name -/
def nameL (i : Nat) : List UInt8 := [UInt8.ofNat (97 + i % 26), UInt8.ofNat (97 + i / 26 % 26), UInt8.ofNat (97 + i / 676)]
def nameB (i : Nat) : ByteArray := ⟨(nameL i).toArray⟩
theorem u8_name (x : Nat) (h : x < 26) : (UInt8.ofNat (97 + x)).toNat = 97 + x := by rw [UInt8.toNat_ofNat']; omega
theorem name_inj (i j : Nat) (hi : i < 676) (hj : j < 676) (h : nameB i = nameB j) : i = j := by
  have h1 : nameL i = nameL j := by
    have := congrArg ByteArray.data h
    exact List.toArray_inj this
  unfold nameL at h1
  injection h1 with a1 h1
  injection h1 with a2 _
  have b1 := congrArg UInt8.toNat a1
  have b2 := congrArg UInt8.toNat a2
  rw [u8_name _ (Nat.mod_lt _ (by decide)), u8_name _ (Nat.mod_lt _ (by decide))] at b1 b2
  omega
/-- the first i texts -/
def many (s : ByteArray) (i : Nat) : List ByteArray := (List.range i).map fun j => s ++ nameB j
theorem many_length (s : ByteArray) (i : Nat) : (many s i).length = i := by simp [many]
theorem many_at (s : ByteArray) (i j : Nat) (h : j < i) : textAt (many s i) j = s ++ nameB j := by simp [many, textAt, List.getD, h]
theorem many_next (s : ByteArray) (i : Nat) : many s (i + 1) = many s i ++ [s ++ nameB i] := by simp [many, List.range_succ]
theorem append_inj (s a b : ByteArray) (h : s ++ a = s ++ b) : a = b := by
  have := congrArg (fun x : ByteArray => x.data.toList) h
  simp only [ByteArray.data_append, Array.toList_append] at this
  exact ByteArray.ext (Array.toList_inj.1 (List.append_cancel_left this))
theorem many_new (s : ByteArray) (i : Nat) (hi : i < 676) (j : Nat) (hj : j < (many s i).length) : textAt (many s i) j ≠ s ++ nameB i := by
  rw [many_length] at hj
  rw [many_at s i j hj]
  intro e
  have := name_inj j i (by omega) hi (append_inj s _ _ e)
  omega
theorem many_mark (s : ByteArray) (i : Nat) (j : Nat) (hj : j < (many s i).length) : textAt (many s i) j ≠ s ++ ⟨#[63]⟩ := by
  rw [many_length] at hj
  rw [many_at s i j hj]
  intro e
  have := congrArg ByteArray.size (append_inj s _ _ e)
  have h1 : (nameB j).size = 3 := rfl
  have h2 : (⟨#[63]⟩ : ByteArray).size = 1 := rfl
  omega
set_option maxHeartbeats 1000000 in
set_option maxRecDepth 100000 in
theorem name_any (i : Nat) (w : World) (hi : i < 676) :
    Calls Try.prog 19 #[.int .i64 i] w fun e w' => e = .returned (.string (nameB i)) ∧ Below w.heap.size w w' := by
  have hn : nameB i = ⟨(nameL i).toArray⟩ := rfl
  have hl : nameL i = [UInt8.ofNat (97 + i % 26), UInt8.ofNat (97 + i / 26 % 26), UInt8.ofNat (97 + i / 676)] := rfl
  have u0 := u8_name (i % 26) (Nat.mod_lt _ (by decide))
  have u1 := u8_name (i / 26 % 26) (Nat.mod_lt _ (by decide))
  have u2 := u8_name (i / 676) (by omega)
  have c0 : ((UInt8.ofNat (97 + i % 26)).toNat : Int) = 97 + (i : Int) % 26 := by rw [u0]; omega
  have c1 : ((UInt8.ofNat (97 + i / 26 % 26)).toNat : Int) = 97 + (i : Int) / 26 % 26 := by rw [u1]; omega
  have c2 : ((UInt8.ofNat (97 + i / 676)).toNat : Int) = 97 + (i : Int) / 676 := by rw [u2]; omega
  rw [hn, hl]
  clear hn hl u0 u1 u2
  generalize UInt8.ofNat (97 + i % 26) = b0 at *
  generalize UInt8.ofNat (97 + i / 26 % 26) = b1 at *
  generalize UInt8.ofNat (97 + i / 676) = b2 at *
  have kc : ∀ W : World, (convert 25 9 (.slice (some ⟨W.heap.size, 0, none⟩) 3 3)).run Try.prog (W.alloc (.cells #[.int .u8 (97 + (i : Int) % 26), .int .u8 (97 + (i : Int) / 26 % 26), .int .u8 (97 + (i : Int) / 676)] 5)) = .ok (.string ⟨[b0, b1, b2].toArray⟩) (W.alloc (.cells #[.int .u8 (97 + (i : Int) % 26), .int .u8 (97 + (i : Int) / 26 % 26), .int .u8 (97 + (i : Int) / 676)] 5)) := fun W => conv_new W _ [b0, b1, b2] 3 rfl (by rw [← c0, ← c1, ← c2]; rfl)
  clear c0 c1 c2
  have HB := Lib.hid ((Below.refl w.heap.size w).alloc (Nat.le_refl _) (.cells #[.int .u8 (97 + (i : Int) % 26), .int .u8 (97 + (i : Int) / 26 % 26), .int .u8 (97 + (i : Int) / 676)] 5))
  go_enter Try.func19, Try.ntmps19
  go_wp2
  go_ret
  exact ⟨rfl, HB.out⟩
set_option maxHeartbeats 8000000 in
set_option maxRecDepth 100000 in
theorem internmany_any {E : Nat → World → Prop} {Is : (Nat → Prop) → World → Value → List ByteArray → List Nat → Int → Prop} (S : TabSaid E Is) (n : Nat) (n0 : Int) (s : ByteArray) (w : World) (hE : E n w) (hn : n ≤ w.heap.size) :
    Calls Try.prog 6 #[.int .i64 n0, .string s] w fun e w' => e = .returned (.bool true) ∧ Below w.heap.size w w' := by
  have HE := Lib.hid hE
  clear hE
  by_cases h10 : 10 < s.size
  · have g1 : decide (10 < s.size) = true := decide_eq_true h10
    have g2 : decide ((10 : Int) < (s.size : Int)) = true := decide_eq_true (by omega)
    go_enter Try.func6, Try.ntmps6
    go_wp2_with fail
    refine (told9_any S n _ HE.out hn).mono ?_
    rintro e wz ⟨rfl, hb⟩
    go_wp2
    go_ret
    exact ⟨rfl, hb⟩
  have hs10 : s.size ≤ 10 := by omega
  obtain ⟨u1, k, hk1, hk2, hk3, hk4, hk5⟩ := wrap_mod n0 501 (by decide) (by decide)
  replace hk2 : Int.tmod (u1 : Int) 501 = (k : Int) := hk2
  have g1 : decide (10 < s.size) = false := decide_eq_false h10
  have g2 : decide ((10 : Int) < (s.size : Int)) = false := decide_eq_false (by clear hk1 hk2 hk4 hk5; omega)
  go_enter Try.func6, Try.ntmps6
  go_wp2_with fail
  refine (tnewAt S HE.out hn (Below.refl _ _)).mono ?_
  rintro e w1 ⟨p, x, rfl, h⟩
  have H := Lib.hid h
  clear h g1 g2 hk1 hk2 hk4 hk5 h10
  go_wp2
  go_loopw [7] (fun iv wr => ∃ (i : Nat) (P : List Nat) (x : Int), i ≤ k ∧ iv = .int .i64 i ∧ Hid (TAt E Is n w (.pointer (some p)) (many s i) P x wr)) (fun iv _ => k - (intOf iv).toNat)
  case atStart => exact ⟨0, _, _, Nat.zero_le _, rfl, H⟩
  case round =>
    clear H
    obtain ⟨i, P, x, hik, rfl, H⟩ := hrel
    by_cases hlt : i < k
    · have CN := Lib.hid (name_any i wr (by omega))
      have HNX := Lib.hid (many_next s i)
      have HNW := Lib.hid (many_new s i (by omega))
      have hnb : (nameB i).size = 3 := rfl
      have hss : (s ++ nameB i).size ≤ 1048576 := by rw [ByteArray.size_append]; omega
      have HSS := Lib.hid hss
      clear hss
      generalize nameB i = nb at *
      go_wp2_with fail
      refine CN.out.mono ?_
      rintro e w2 ⟨rfl, hb⟩
      replace H := Lib.hid (H.out.other S hb)
      clear hb CN
      go_wp2_with fail
      refine (tputNew S (s ++ nb) (by rw [many_length]; omega) HSS.out HNW.out H.out).mono ?_
      rw [many_length]
      rintro e w3 ⟨rfl, P2, y, hy, h⟩
      rw [← HNX.out] at h
      replace H := Lib.hid h
      clear h
      go_wp2_with fail
      try simp only [List.append_eq, List.cons_append, List.nil_append] at *
      refine (tlookedAt S (by rw [many_length]; omega) H.out).mono ?_
      rintro e w4 ⟨rfl, h⟩
      replace H := Lib.hid h
      clear h
      have g3 : decide ((y : Int) < 1) = false := decide_eq_false (by omega)
      have g4 : decide (y < 1) = false := decide_eq_false (by omega)
      go_wp2
      go_roundw
      case rel => exact ⟨i + 1, P2, y, hlt, by go_num, H⟩
      case measure => simp [intOf]; omega
    · obtain rfl : i = k := by omega
      go_wp2
      go_loopw [8] (fun jv wr => ∃ (j : Nat) (x : Int), j ≤ i ∧ jv = .int .i64 j ∧ Hid (TAt E Is n w (.pointer (some p)) (many s i) P x wr)) (fun jv _ => i - (intOf jv).toNat)
      case atStart => exact ⟨0, _, Nat.zero_le _, rfl, H⟩
      case round =>
        clear H
        obtain ⟨j, x, hji, rfl, H⟩ := hrel
        by_cases hlj : j < i
        · have CN := Lib.hid (name_any j wr (by omega))
          have HAT := Lib.hid (many_at s i j hlj)
          have hnb : (nameB j).size = 3 := rfl
          have hss : (s ++ nameB j).size ≤ 1048576 := by rw [ByteArray.size_append]; omega
          have HSS := Lib.hid hss
          clear hss
          generalize nameB j = nb at *
          go_wp2_with fail
          refine CN.out.mono ?_
          rintro e w2 ⟨rfl, hb⟩
          replace H := Lib.hid (H.out.other S hb)
          clear hb CN
          go_wp2_with fail
          refine (tfindOld S (s ++ nb) j (by rw [many_length]; omega) HSS.out (by rw [many_length]; exact hlj) HAT.out H.out).mono ?_
          rw [many_length]
          rintro e w3 ⟨rfl, y, hy, hy2, h⟩
          replace H := Lib.hid h
          clear h
          have g3 : decide ((y : Int) < 1) = false := decide_eq_false (by omega)
          have g4 : decide (y < 1) = false := decide_eq_false (by omega)
          have g5 : decide ((i : Int) < (y : Int)) = false := decide_eq_false (by omega)
          have g6 : decide (i < y) = false := decide_eq_false (by omega)
          go_wp2_with fail
          try simp only [List.append_eq, List.cons_append, List.nil_append] at *
          refine (tlookedAt S (by rw [many_length]; omega) H.out).mono ?_
          rintro e w4 ⟨rfl, h⟩
          replace H := Lib.hid h
          clear h
          go_wp2_with fail
          try simp only [List.append_eq, List.cons_append, List.nil_append] at *
          refine (tlookedAt S (by rw [many_length]; omega) H.out).mono ?_
          rintro e w5 ⟨rfl, h⟩
          replace H := Lib.hid h
          clear h
          go_wp2
          go_roundw
          case rel => exact ⟨j + 1, y, hlj, by go_num, H⟩
          case measure => simp [intOf]; omega
        · have g0 : decide (j < i) = false := decide_eq_false hlj
          have HMK := Lib.hid (many_mark s i)
          have hss : (s ++ (⟨#[63]⟩ : ByteArray)).size ≤ 1048576 := by rw [ByteArray.size_append, show (⟨#[63]⟩ : ByteArray).size = 1 from rfl]; omega
          have CF := Lib.hid (tfindNew S (s ++ ⟨#[63]⟩) (by rw [many_length]; omega) hss HMK.out H.out)
          clear hss
          go_wp2_with fail
          refine CF.out.mono ?_
          rintro e w3 ⟨rfl, y, hy, h⟩
          replace H := Lib.hid h
          clear h
          go_wp2_with fail
          refine (told9_any S n _ H.out.e H.out.n_le).mono ?_
          rintro e wz ⟨rfl, hb'⟩
          replace H := Lib.hid (H.out.other S hb')
          clear hb'
          go_wp2_with fail
          try simp only [List.append_eq, List.cons_append, List.nil_append] at *
          refine (tlenAt S (by rw [many_length]; omega) H.out).mono ?_
          rw [many_length]
          rintro e wz2 ⟨rfl, h⟩
          replace H := Lib.hid h
          clear h
          go_wp2
          go_ret
          exact ⟨rfl, H.out.since⟩
end Go.Proofs.Ytkleaedfpgaohaa
