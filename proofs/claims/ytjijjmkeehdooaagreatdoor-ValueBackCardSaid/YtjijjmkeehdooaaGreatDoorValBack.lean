/-
  LAYER 13: brackenlaw13.ValueBack, out of ValSaid and RefsSaid: true for every text.
-/
import Derived.Test.YtjijjmkeehdooaaGreatDoorValTold
import Derived.Test.YtjijjmkeehdooaaGreatDoorRefValid
import Derived.Test.YtjijjmkeehdooaaGreatDoorTokText
import Derived.IntWalk
import Derived.Deep.QuietTactic
namespace Go.Proofs.YtjijjmkeehdooaaGreatDoor
open Go.RowKit

theorem findL_semi : ∀ (m q : List UInt8), (∀ b ∈ m, b ≠ 59) → findL [59] (m ++ 59 :: q) = some m.length
  | [], q, _ => by
    show findL [59] (59 :: q) = some 0
    unfold findL
    rw [if_pos (by simp [swB])]
  | b :: m, q, h => by
    have hb := h b (List.mem_cons_self ..)
    rw [List.cons_append]
    unfold findL
    rw [if_neg (by simp [swB]; exact fun e => hb e.symm), findL_semi m q (fun c hc => h c (List.mem_cons_of_mem _ hc))]
    rfl
/-- a reference by a name -/
theorem refL_name (m q : List UInt8) (h59 : ∀ b ∈ m, b ≠ 59) (h35 : m.head? ≠ some 35) (hnc : ncL m = true) : refL (38 :: (m ++ 59 :: q)) = some (⟨8, bytes m, ⟨#[]⟩, [], false⟩, m.length + 2) := by
  have hf : findL [59] (38 :: m ++ 59 :: q) = some (38 :: m).length := findL_semi (38 :: m) q (fun b hb => by
    rcases List.mem_cons.1 hb with rfl | hb
    · decide
    · exact h59 b hb)
  have hsw : ¬ swB [38, 35] (38 :: m ++ 59 :: q) = true := by
    cases m with
    | nil => simp [swB]
    | cons b m => simp [swB]; exact fun e => h35 (by rw [← e]; rfl)
  have ht : (38 :: m ++ 59 :: q).take (38 :: m).length = 38 :: m := List.take_left' rfl
  show refL (38 :: m ++ 59 :: q) = _
  unfold refL
  rw [hf, Option.bind_some, if_neg hsw, ht]
  exact if_pos hnc
/-- a reference by a number -/
theorem refL_num (d q : List UInt8) (h59 : ∀ b ∈ d, b ≠ 59) (h0 : d ≠ []) {c : Nat} (hc : refV d = some c) : refL (38 :: 35 :: (d ++ 59 :: q)) = some (⟨7, ⟨#[]⟩, Utf8.encode (c : Int), [], false⟩, d.length + 3) := by
  have hf : findL [59] ((38 :: 35 :: d) ++ 59 :: q) = some (38 :: 35 :: d).length := findL_semi (38 :: 35 :: d) q (fun b hb => by
    rcases List.mem_cons.1 hb with rfl | hb
    · decide
    rcases List.mem_cons.1 hb with rfl | hb
    · decide
    · exact h59 b hb)
  have hsw : swB [38, 35] ((38 :: 35 :: d) ++ 59 :: q) = true := by simp [swB]
  have ht : ((38 :: 35 :: d) ++ 59 :: q).take ((38 :: 35 :: d).length + 1) = (38 :: 35 :: d) ++ [59] := by
    rw [show (38 :: 35 :: d) ++ 59 :: q = ((38 :: 35 :: d) ++ [59]) ++ q by simp]
    exact List.take_left' (by simp)
  have hr : charRefL ((38 :: 35 :: d) ++ [59]) = some c := by
    have hpos := List.length_pos_iff.2 h0
    unfold charRefL
    rw [if_pos ⟨by simp [swB], List.getLast?_concat .., by simp; omega⟩]
    show refV ((d ++ [59]).dropLast) = _
    rw [List.dropLast_concat]
    exact hc
  show refL ((38 :: 35 :: d) ++ 59 :: q) = _
  unfold refL
  rw [hf, Option.bind_some, if_pos hsw, ht, hr]
  rfl
section
variable {rec : RefD → List UInt8 → VRes} {most : Int} {ins : Bool} {r : RefD}
/-- a reference to one of the five -/
theorem LV_five (m q : List UInt8) {c : UInt8} (h59 : ∀ b ∈ m, b ≠ 59) (h35 : m.head? ≠ some 35) (hnc : ncL m = true) (h5 : fiveL m = some c) :
    LV rec most ins r (38 :: (m ++ 59 :: q)) = preV [c] (LV rec most ins r q) := by
  have hs : stepV rec most r (bytes m).data.toList = ([c], 0, r) := by
    show stepV rec most r m = _
    unfold stepV; rw [h5]
  have hd : (38 :: (m ++ 59 :: q)).drop (m.length + 2) = q := by
    rw [show 38 :: (m ++ 59 :: q) = (38 :: m ++ [59]) ++ q by simp]
    exact List.drop_left' (by simp)
  rw [LV_amp, refL_name m q h59 h35 hnc]
  simp only
  rw [if_neg (by decide), hs, hd]
  exact if_neg (fun h => h rfl)
theorem LV_char (d q : List UInt8) {n : Nat} {c : UInt8} (h59 : ∀ b ∈ d, b ≠ 59) (h0 : d ≠ []) (hc : refV d = some n) (he : (Utf8.encode (n : Int)).data.toList = [c]) :
    LV rec most ins r (38 :: 35 :: (d ++ 59 :: q)) = preV [c] (LV rec most ins r q) := by
  have hd : (38 :: 35 :: (d ++ 59 :: q)).drop (d.length + 3) = q := by
    rw [show 38 :: 35 :: (d ++ 59 :: q) = (38 :: 35 :: d ++ [59]) ++ q by simp]
    exact List.drop_left' (by simp)
  rw [LV_amp, refL_num d q h59 h0 hc]
  simp only
  rw [if_pos trivial, hd, he]
theorem LV_escB (b : UInt8) (q : List UInt8) : LV rec most ins r (escB true b ++ q) = preV [b] (LV rec most ins r q) := by
  unfold escB
  by_cases h1 : b = 38
  · subst h1; rw [if_pos rfl]; exact LV_five [97, 109, 112] q (by decide) (by decide) (by kernel_rfl) (by decide)
  rw [if_neg h1]
  by_cases h2 : b = 60
  · subst h2; rw [if_pos rfl]; exact LV_five [108, 116] q (by decide) (by decide) (by kernel_rfl) (by decide)
  rw [if_neg h2, if_neg (fun h => by cases h.2)]
  by_cases h3 : b = 13
  · subst h3; rw [if_pos rfl]; exact LV_char [49, 51] q (n := 13) (by decide) (by decide) (by kernel_rfl) (by kernel_rfl)
  rw [if_neg h3]
  by_cases h4 : b = 34
  · subst h4; rw [if_pos ⟨rfl, rfl⟩]; exact LV_five [113, 117, 111, 116] q (by decide) (by decide) (by kernel_rfl) (by decide)
  rw [if_neg (fun h => h4 h.1)]
  by_cases h5 : b = 9
  · subst h5; rw [if_pos ⟨rfl, rfl⟩]; exact LV_char [57] q (n := 9) (by decide) (by decide) (by kernel_rfl) (by kernel_rfl)
  rw [if_neg (fun h => h5 h.1)]
  by_cases h6 : b = 10
  · subst h6; rw [if_pos ⟨rfl, rfl⟩]; exact LV_char [49, 48] q (n := 10) (by decide) (by decide) (by kernel_rfl) (by kernel_rfl)
  rw [if_neg (fun h => h6 h.1)]
  have hp : plainV ins b = true := by unfold plainV; simp [h1, h2]
  have hs : spB b = b := by
    unfold spB
    by_cases h : spaceU b = true
    · rw [if_pos h]
      have e : b.toNat = 9 ∨ b.toNat = 10 ∨ b.toNat = 13 ∨ b.toNat = 32 := by unfold spaceU spaceB at h; simp at h; omega
      rcases e with e | e | e | e
      · exact absurd (UInt8.toNat_inj.1 (show b.toNat = (9 : UInt8).toNat from e)) h5
      · exact absurd (UInt8.toNat_inj.1 (show b.toNat = (10 : UInt8).toNat from e)) h6
      · exact absurd (UInt8.toNat_inj.1 (show b.toNat = (13 : UInt8).toNat from e)) h3
      · exact (UInt8.toNat_inj.1 (show b.toNat = (32 : UInt8).toNat from e)).symm
    · rw [if_neg h]
  have e := LV_plain (rec := rec) (most := most) (r := r) hp q
  rw [hs] at e
  exact e
theorem LV_esc : ∀ s : List UInt8, LV rec most ins r (escL true s) = (s, 0, r)
  | [] => rfl
  | b :: t => by
    have e : escL true (b :: t) = escB true b ++ escL true t := rfl
    rw [e, LV_escB, LV_esc t, preV_ok]
    rfl
end
theorem escB_few (a : Bool) (b : UInt8) : (escB a b).length ≤ 6 := by 
  unfold escB; repeat' split
  all_goals first | decide | (show 1 ≤ 6; decide)
theorem escL_few (a : Bool) : ∀ s : List UInt8, (escL a s).length ≤ 6 * s.length
  | [] => Nat.le_refl _
  | b :: t => by
    have e : escL a (b :: t) = escB a b ++ escL a t := rfl
    have h1 := escB_few a b
    have h2 := escL_few a t
    rw [e, List.length_append, List.length_cons]
    omega
theorem escB_clean (b c : UInt8) (h : c ∈ escB true b) : c ≠ 60 ∧ c ≠ 34 ∧ c ≠ 9 ∧ c ≠ 10 ∧ c ≠ 13 := by
  unfold escB at h
  by_cases h1 : b = 38
  · rw [if_pos h1] at h; revert c; decide
  rw [if_neg h1] at h
  by_cases h2 : b = 60
  · rw [if_pos h2] at h; revert c; decide
  rw [if_neg h2, if_neg (fun h => by cases h.2)] at h
  by_cases h3 : b = 13
  · rw [if_pos h3] at h; revert c; decide
  rw [if_neg h3] at h
  by_cases h4 : b = 34
  · rw [if_pos ⟨h4, rfl⟩] at h; revert c; decide
  rw [if_neg (fun h => h4 h.1)] at h
  by_cases h5 : b = 9
  · rw [if_pos ⟨h5, rfl⟩] at h; revert c; decide
  rw [if_neg (fun h => h5 h.1)] at h
  by_cases h6 : b = 10
  · rw [if_pos ⟨h6, rfl⟩] at h; revert c; decide
  rw [if_neg (fun h => h6 h.1)] at h
  rw [List.mem_singleton.1 h]
  exact ⟨h2, h4, h5, h6, h3⟩
theorem escL_clean (s : List UInt8) (c : UInt8) (h : c ∈ escL true s) : c ≠ 60 ∧ c ≠ 34 ∧ c ≠ 9 ∧ c ≠ 10 ∧ c ≠ 13 := by
  obtain ⟨b, _, hb⟩ := List.mem_flatMap.1 h
  exact escB_clean b c hb
theorem back_read (s : List UInt8) : readV 0 (ref0 []) (escL true s) 1 0 = (s, 0, ref0 []) := by
  have e : rawV 0 (ref0 []) (escL true s) 0 false = (s, 0, ref0 []) := LV_esc s
  unfold readV
  rw [e]
  rfl
theorem back_short (s : List UInt8) (hs : s.length ≤ 60) : ShortV 0 (ref0 []) (escL true s) 0 := by
  have e : rawV 0 (ref0 []) (escL true s) 0 false = (s, 0, ref0 []) := LV_esc s
  have h := escL_few true s
  exact short_of (l := []) (o := []) (n := 0) (by show 0 ≤ _; decide) (fun e he => by cases he) (by omega) (k := 0) (by show (rawV 0 (ref0 []) (escL true s) 0 false).2.2.n = 0; rw [e]; rfl) (by decide)
set_option maxHeartbeats 8000000 in
set_option maxRecDepth 100000 in
theorem valback_any {E : Nat → World → Prop} {Is : (Nat → Prop) → World → Value → RefD → Prop} (R : RefsSaid Is) (S : ValSaid E Is) (n : Nat) (s : ByteArray) (w : World) (hE : E n w) (hn : n ≤ w.heap.size) :
    Calls Tryz.prog 5 #[.string s] w fun e w' => e = .returned (.bool true) ∧ Below w.heap.size w w' := by
  have HTOLD := Lib.hid (fun W (h : VAt E n w W) => told13_any R S n W h.e h.n_le)
  have HV := Lib.hid (show VAt E n w w from ⟨hE, hn, Below.refl _ _⟩)
  clear hE
  by_cases hs : 60 < s.size
  · have g1 : decide (60 < (s.size : Int)) = true := decide_eq_true (by omega)
    go_enter Tryz.func5, Tryz.ntmps5
    go_wp2_with fail
    refine (HTOLD.out _ HV.out).mono ?_
    rintro e w4 ⟨rfl, hb⟩
    go_wp2
    go_ret
    exact ⟨rfl, hb⟩
  have g1 : decide (60 < (s.size : Int)) = false := decide_eq_false (by omega)
  have C := refValid_any s w (by omega)
  cases hval : validT s with
  | false =>
    rw [hval] at C
    go_enter Tryz.func5, Tryz.ntmps5
    go_wp2_with fail
    refine C.mono ?_
    rintro e w1 ⟨rfl, rfl⟩
    clear C
    go_wp2_with fail
    refine (HTOLD.out _ HV.out).mono ?_
    rintro e w4 ⟨rfl, hb⟩
    go_wp2
    go_ret
    exact ⟨rfl, hb⟩
  | true =>
  rw [hval] at C
  clear hval
  obtain ⟨l, hl⟩ : ∃ l : List UInt8, s.data.toList = l := ⟨_, rfl⟩
  have hs2 : s = bytes l := by rw [← hl]; rfl
  subst hs2
  clear hl
  have hs60 : l.length ≤ 60 := by rw [bytesL_len] at hs; omega
  obtain ⟨t, ht⟩ : ∃ t, escL true l = t := ⟨_, rfl⟩
  have HT := Lib.hid ht
  have HRD := Lib.hid (back_read l)
  have HSH := Lib.hid (back_short l hs60)
  have HCL := Lib.hid (escL_clean l)
  rw [ht] at HRD HSH HCL
  have htl : t.length ≤ 360 := by rw [← ht]; exact Nat.le_trans (escL_few true l) (by omega)
  clear ht
  have e2 : ((bytes t).size : Int) = (t.length : Int) := by rw [bytesL_len]
  go_enter Tryz.func5, Tryz.ntmps5
  go_wp2_with fail
  refine C.mono ?_
  rintro e w1 ⟨rfl, rfl⟩
  clear C
  go_wp2_with fail
  refine (vattrAt S l t _ rfl HT.out (by omega) HV.out).mono ?_
  rintro e w2 ⟨rfl, hv, hb1⟩
  replace HV := Lib.hid hv
  clear hv hb1
  go_wp2
  go_loopw [4] (fun iv wr => wr = w2 ∧ ∃ i : Nat, i ≤ t.length ∧ iv = .int .i64 i) (fun iv _ => t.length - (intOf iv).toNat)
  case atStart => exact ⟨rfl, 0, Nat.zero_le _, rfl⟩
  case round =>
    obtain ⟨rfl, i, hil, rfl⟩ := hrel
    by_cases hlt : i < t.length
    · have g2 : decide ((i : Int) < (t.length : Int)) = true := decide_eq_true (by omega)
      have hi' : i < (bytes t).size := by rw [bytesL_len]; exact hlt
      obtain ⟨h1, h2, h3, h4, h5⟩ := HCL.out (t[i]'hlt) (List.getElem_mem hlt)
      have hx : (bytes t)[i]'hi' = t[i]'hlt := rfl
      obtain ⟨x, hx2⟩ : ∃ x, ((bytes t)[i]'hi').toNat = x := ⟨_, rfl⟩
      have k1 : ((x : Int) == 60) = false := by rw [beq_eq_false_iff_ne]; intro e; exact h1 (UInt8.toNat_inj.1 (show (t[i]'hlt).toNat = 60 by rw [← hx]; omega))
      have k2 : ((x : Int) == 34) = false := by rw [beq_eq_false_iff_ne]; intro e; exact h2 (UInt8.toNat_inj.1 (show (t[i]'hlt).toNat = 34 by rw [← hx]; omega))
      have k3 : ((x : Int) == 9) = false := by rw [beq_eq_false_iff_ne]; intro e; exact h3 (UInt8.toNat_inj.1 (show (t[i]'hlt).toNat = 9 by rw [← hx]; omega))
      have k4 : ((x : Int) == 10) = false := by rw [beq_eq_false_iff_ne]; intro e; exact h4 (UInt8.toNat_inj.1 (show (t[i]'hlt).toNat = 10 by rw [← hx]; omega))
      have k5 : ((x : Int) == 13) = false := by rw [beq_eq_false_iff_ne]; intro e; exact h5 (UInt8.toNat_inj.1 (show (t[i]'hlt).toNat = 13 by rw [← hx]; omega))
      clear hx h1 h2 h3 h4 h5
      go_wp2
      go_roundw
      case rel => exact ⟨by trivial, i + 1, hlt, by go_num⟩
      case measure => simp [intOf]; omega
    · have g2 : decide ((i : Int) < (t.length : Int)) = false := decide_eq_false (by omega)
      go_wp2_with fail
      refine (rnewAt R [] _ _ _ ⟨by decide, fun e he => by cases he⟩ (Or.inl ⟨_, _, rfl, rfl⟩)).mono ?_
      rintro e w3 ⟨p, rfl, h⟩
      have HV3 := Lib.hid (HV.out.other S h.since)
      have HR := Lib.hid h
      clear h
      go_wp2_with fail
      refine (vreadAt S 0 t 1 0 _ _ rfl _ _ HRD.out HSH.out (fits13 _ (by decide) (by decide)) (fits13 _ (by decide) (by decide)) HV3.out HR.out HV.out.since.size).mono ?_
      rintro e w5 ⟨rfl, hv, _, _⟩
      have HV5 := Lib.hid hv
      clear hv
      go_wp2_with fail
      refine (HTOLD.out _ HV5.out).mono ?_
      rintro e w6 ⟨rfl, hb⟩
      have HV6 := Lib.hid (HV5.out.other S hb)
      clear hb
      go_wp2_with fail
      refine (text10_any _ [] 0 (by decide) w6 (symOK_none w6)).mono ?_
      rintro e w7 ⟨tt, rfl, htt, hb⟩
      have e0 : (tt.size : Int) = 0 := by omega
      go_wp2
      go_ret
      exact ⟨rfl, (HV6.out.other S hb).since⟩
end Go.Proofs.YtjijjmkeehdooaaGreatDoor
