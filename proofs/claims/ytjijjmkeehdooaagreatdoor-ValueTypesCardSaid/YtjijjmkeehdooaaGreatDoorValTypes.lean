/-
  LAYER 13: brackenlaw13.ValueTypes, out of ValSaid and RefsSaid: true for every row of words.
-/
import Derived.Test.YtjijjmkeehdooaaGreatDoorValTold
import Derived.Test.YtjijjmkeehdooaaGreatDoorRefNorm
import Derived.Test.YtjijjmkeehdooaaGreatDoorSymArg
import Derived.IntWalk
import Derived.Deep.QuietTactic
namespace Go.Proofs.YtjijjmkeehdooaaGreatDoor
open Go.RowKit

def wT (k : Nat) : List UInt8 := if k = 0 then [97] else if k = 1 then [98, 99] else [100]
def sT (y : Nat) : List UInt8 := if y = 0 then [32] else if y = 1 then [32, 32] else if y = 2 then [9] else [10, 32]
/-- behind some words: what was written, what is read of it -/
structure Words (i : Nat) (s t : List UInt8) : Prop where
  ls : s.length ≤ 4 * i
  lt : t.length ≤ 3 * i
  plain : ∀ b ∈ s, plainV false b = true
  norm : ∀ x, normF [] false (s.map spB ++ x) = normF t false x
theorem words_none : Words 0 [] [] := ⟨Nat.le_refl _, Nat.le_refl _, fun b hb => absurd hb (by simp), fun x => rfl⟩
theorem words_next {i : Nat} {s t : List UInt8} (h : Words i s t) (k y : Nat) : Words (i + 1) (s ++ sT y ++ wT k) (t ++ (if t ≠ [] then [32] else []) ++ wT k) := by
  have hl1 : (sT y).length ≤ 2 := by unfold sT; repeat' split
                                     all_goals decide
  have hl2 : (wT k).length ≤ 2 := by unfold wT; repeat' split
                                     all_goals decide
  have hp1 : ∀ b ∈ sT y, plainV false b = true := by unfold sT; repeat' split
                                                     all_goals decide
  have hp2 : ∀ b ∈ wT k, plainV false b = true := by unfold wT; repeat' split
                                                     all_goals decide
  have hm : ∀ x, normF t false ((sT y).map spB ++ x) = normF t true x := by
    intro x
    unfold sT
    repeat' split
    all_goals rfl
  have hw : ∀ x, normF t true ((wT k).map spB ++ x) = normF (t ++ (if t ≠ [] then [32] else []) ++ wT k) false x := by
    intro x
    by_cases ht : t = []
    · subst ht
      unfold wT
      repeat' split
      all_goals first | rfl | simp_all
    · rw [if_pos ht]
      unfold wT
      have e : ∀ b : UInt8, b ≠ 32 → ∀ q, normF t true (b :: q) = normF (t ++ [32] ++ [b]) false q := by
        intro b hb q
        rw [normF, if_neg hb, if_pos ⟨rfl, ht⟩]
      have s1 : spB 97 = 97 := by decide
      have s2 : spB 98 = 98 := by decide
      have s3 : spB 99 = 99 := by decide
      have s4 : spB 100 = 100 := by decide
      repeat' split
      · rw [List.map_cons, List.map_nil, s1]; exact e _ (by decide) x
      · rw [List.map_cons, List.map_cons, List.map_nil, s2, s3]
        refine (e _ (by decide) (99 :: x)).trans ?_
        rw [normF, if_neg (by decide), if_neg (fun h => by cases h.1), List.append_nil, List.append_assoc (t ++ [32])]
        rfl
      · rw [List.map_cons, List.map_nil, s4]; exact e _ (by decide) x
  refine ⟨?_, ?_, fun b hb => ?_, fun x => ?_⟩
  · rw [List.length_append, List.length_append]; have := h.ls; omega
  · rw [List.length_append, List.length_append]
    have := h.lt
    have e1 : (if t ≠ [] then [32] else [] : List UInt8).length ≤ 1 := by split <;> decide
    omega
  · rcases List.mem_append.1 hb with hb | hb
    · rcases List.mem_append.1 hb with hb | hb
      · exact h.plain b hb
      · exact hp1 b hb
    · exact hp2 b hb
  · rw [List.map_append, List.map_append, List.append_assoc, List.append_assoc, h.norm, hm, hw]
theorem words_raw {i : Nat} {s t : List UInt8} (h : Words i s t) : rawV 0 (ref0 []) (s ++ [32]) 0 false = ((s ++ [32]).map spB, 0, ref0 []) := by
  have e := LV_plains (rec := valD 0 0) (most := 0) (ins := false) (r := ref0 []) (s ++ [32]) [] (fun b hb => by
    rcases List.mem_append.1 hb with hb | hb
    · exact h.plain b hb
    · rw [List.mem_singleton.1 hb]; decide)
  rw [List.append_nil, LV_nil, preV_ok, List.append_nil] at e
  exact e
theorem words_norm {i : Nat} {s t : List UInt8} (h : Words i s t) : normL ((s ++ [32]).map spB) = t := by
  show normF [] false _ = t
  rw [List.map_append, h.norm]
  rfl
theorem words_read1 {i : Nat} {s t : List UInt8} (h : Words i s t) : readV 0 (ref0 []) (s ++ [32]) 1 0 = ((s ++ [32]).map spB, 0, ref0 []) := by
  unfold readV
  rw [words_raw h]
  rfl
theorem words_read2 {i : Nat} {s t : List UInt8} (h : Words i s t) : readV 0 (ref0 []) (s ++ [32]) 2 0 = (t, 0, ref0 []) := by
  unfold readV
  rw [words_raw h]
  show (if (2 : Int) = 2 then normL _ else _, _, _) = _
  rw [if_pos rfl, words_norm h]
theorem words_short {i : Nat} {s t : List UInt8} (h : Words i s t) (hi : i ≤ 10) : ShortV 0 (ref0 []) (s ++ [32]) 0 := by
  have e := words_raw h
  have := h.ls
  exact short_of (l := []) (o := []) (n := 0) (by show 0 ≤ _; decide) (fun e he => by cases he) (by rw [List.length_append]; show _ + 1 ≤ _; omega) (k := 0) (by show (rawV 0 (ref0 []) (s ++ [32]) 0 false).2.2.n = 0; rw [e]; rfl) (by decide)
theorem vreadAtX {E : Nat → World → Prop} {Is : (Nat → Prop) → World → Value → RefD → Prop} {n : Nat} {w0 wr w : World} {v : Value} {r : RefD} (S : ValSaid E Is) (D : Nat) (raw : List UInt8) (x : ByteArray) (hx : bytes raw = x) (kind most : Int) (s : List UInt8) (y : ByteArray) (hy : bytes s = y) (c : Int) (r' : RefD) (hr : readV D r raw kind most = (s, c, r')) (hs : ShortV D r raw most) (hk : FitsR kind) (hm : FitsR most)
    (h : VAt E n w0 w) (hR : RfAt Is wr v r w) (h0 : w0.heap.size ≤ wr.heap.size) :
    Calls Tryz.prog 10 #[v, .string x, .int .i64 kind, .int .i64 most] w fun e w' => e = .returned (.tuple #[.string y, .int .i64 c]) ∧ VAt E n w0 w' ∧ RfAt Is wr v r' w' ∧ Below wr.heap.size w w' := by
  subst hx
  exact vreadAt S D raw kind most s y hy c r' hr hs hk hm h hR h0
theorem wrap_types (a : Int) : ∃ u k a3 y : Nat, IntKind.u64.wrap a = (u : Int) ∧ (Int.tmod (u : Int) 3 = (k : Int) ∧ k < 3) ∧ (IntKind.u64.wrap ((u : Int) / 3) = (a3 : Int) ∧ Int.tmod (a3 : Int) 4 = (y : Int) ∧ y < 4) := by
  obtain ⟨u, k, h1, h2, h3, _, _⟩ := wrap_mod a 3 (by decide) (by decide)
  obtain ⟨a3, y, b1, b2, b3, _, _⟩ := wrap_mod ((u : Int) / 3) 4 (by decide) (by decide)
  exact ⟨u, k, a3, y, h1, ⟨h2, h3⟩, b1, b2, b3⟩
set_option maxHeartbeats 16000000 in
set_option maxRecDepth 100000 in
theorem valtypes_any {E : Nat → World → Prop} {Is : (Nat → Prop) → World → Value → RefD → Prop} (R : RefsSaid Is) (S : ValSaid E Is) (n : Nat) (v : Value) (w : World) (hv : SymArg w v) (hE : E n w) (hn : n ≤ w.heap.size) :
    Calls Tryz.prog 8 #[v] w fun e w' => e = .returned (.bool true) ∧ Below w.heap.size w w' := by
  obtain ⟨a, cap, xs, rfl, hs, _, hmx⟩ := hv
  have HC := Lib.hid (fun k hk => SymOK.cell hs k hk)
  have HTOLD := Lib.hid (fun W (h : VAt E n w W) => told13_any R S n W h.e h.n_le)
  have HV := Lib.hid (show VAt E n w w from ⟨hE, hn, Below.refl _ _⟩)
  clear hE hs
  go_enter Tryz.func8, Tryz.ntmps8
  go_wp2
  go_loopw [3, 4, 5] (fun sv tv iv wr => ∃ (i : Nat) (sl tl : List UInt8), i ≤ xs.length ∧ i ≤ 10 ∧ iv = .int .i64 i ∧ sv = .string (bytes sl) ∧ tv = .string (bytes tl) ∧ Hid (Words i sl tl) ∧ Hid (VAt E n w wr)) (fun _ _ iv _ => xs.length - (intOf iv).toNat)
  case atStart => exact ⟨0, [], [], Nat.zero_le _, Nat.zero_le _, rfl, rfl, rfl, Lib.hid words_none, HV⟩
  case round =>
    obtain ⟨i, sl, tl, hil, hi10, rfl, rfl, rfl, hW, hVr⟩ := hrel
    have HW := Lib.hid hW.out
    have HVr := Lib.hid hVr.out
    have hls := hW.out.ls
    have hlt0 := hW.out.lt
    clear hW hVr
    by_cases hlt : i < xs.length
    · have g1 : decide ((i : Int) < (xs.length : Int)) = true := decide_eq_true (by omega)
      by_cases hm : i < 10
      · have g2 : decide ((i : Int) < 10) = true := decide_eq_true (by omega)
        obtain ⟨z, hz⟩ : ∃ z, xs.getD i 0 = z := ⟨_, rfl⟩
        obtain ⟨g, off, rfl, hg, hc⟩ := HC.out i hlt
        have hcell : wr.cell? ⟨g, off + i, none⟩ = some (.int .i64 z) := by rw [HVr.out.since.cell (p := ⟨g, off + i, none⟩) hg, ← hz]; exact hc i hlt
        obtain ⟨u, k, a3, y, hu, ⟨hk1, hk2⟩, ha3, hy1, hy2⟩ := wrap_types z
        clear hz hc
        have HS := Lib.hid (words_next HW.out k y)
        have hb1 := (Below.refl wr.heap.size wr).alloc (Nat.le_refl _) (.cells #[.string ⟨#[97]⟩, .string ⟨#[98, 99]⟩, .string ⟨#[100]⟩] 9)
        have hb2 := hb1.alloc hb1.size (.cells #[.string ⟨#[32]⟩, .string ⟨#[32, 32]⟩, .string ⟨#[9]⟩, .string ⟨#[10, 32]⟩] 9)
        have HV2 := Lib.hid (HVr.out.other S hb2)
        have hgr : g < wr.heap.size := Nat.lt_of_lt_of_le hg HVr.out.since.size
        have hc1 : (wr.alloc (.cells #[.string ⟨#[97]⟩, .string ⟨#[98, 99]⟩, .string ⟨#[100]⟩] 9)).cell? ⟨g, off + i, none⟩ = some (.int .i64 z) := by rw [hb1.cell (p := ⟨g, off + i, none⟩) hgr]; exact hcell
        have hc2 : ((wr.alloc (.cells #[.string ⟨#[97]⟩, .string ⟨#[98, 99]⟩, .string ⟨#[100]⟩] 9)).alloc (.cells #[.string ⟨#[32]⟩, .string ⟨#[32, 32]⟩, .string ⟨#[9]⟩, .string ⟨#[10, 32]⟩] 9)).cell? ⟨g, off + i, none⟩ = some (.int .i64 z) := by rw [hb2.cell (p := ⟨g, off + i, none⟩) hgr]; exact hcell
        clear hb1 hb2 hcell
        have zS : ∀ q : Nat, q ≤ 10 → (9223372036854775807 < (bytes sl).size + q) = False := fun q hq => eq_false (by rw [bytesL_len]; omega)
        have zS1 := zS 1 (by decide)
        have zS2 := zS 2 (by decide)
        have zS3 : (9223372036854775807 < (bytes sl).size + 1 + 1) = False := zS 2 (by decide)
        have zS4 : (9223372036854775807 < (bytes sl).size + 1 + 2) = False := zS 3 (by decide)
        have zS5 : (9223372036854775807 < (bytes sl).size + 2 + 1) = False := zS 3 (by decide)
        have zS6 : (9223372036854775807 < (bytes sl).size + 2 + 2) = False := zS 4 (by decide)
        have zT : ∀ q : Nat, q ≤ 10 → (9223372036854775807 < (bytes tl).size + q) = False := fun q hq => eq_false (by rw [bytesL_len]; omega)
        have zT1 := zT 1 (by decide)
        have zT2 := zT 2 (by decide)
        have zT3 : (9223372036854775807 < (bytes tl).size + 1 + 1) = False := zT 2 (by decide)
        have zT4 : (9223372036854775807 < (bytes tl).size + 1 + 2) = False := zT 3 (by decide)
        clear zS zT
        by_cases htl : tl = []
        · have g9 : (!(bytes tl).toList.isEmpty) = false := by rw [htl, Lib.toList_data]; rfl
          rw [if_neg (fun h => h htl), List.append_nil] at HS
          clear htl
          rcases (show k = 0 ∨ k = 1 ∨ k = 2 by omega) with rfl | rfl | rfl <;> rcases (show y = 0 ∨ y = 1 ∨ y = 2 ∨ y = 3 by omega) with rfl | rfl | rfl | rfl
          all_goals
            go_wp2
            go_roundw
            case rel => exact ⟨i + 1, _, _, hlt, by omega, by go_num, congrArg Value.string (by rw [← bytes_app, ← bytes_app]; rfl), congrArg Value.string (by rw [← bytes_app]; rfl), HS, HV2⟩
            case measure => simp [intOf]; omega
        · have g9 : (!(bytes tl).toList.isEmpty) = true := by
            rw [Lib.toList_data]
            obtain ⟨c, o, e⟩ := List.exists_cons_of_ne_nil htl
            rw [e]
            rfl
          rw [if_pos htl] at HS
          clear htl
          rcases (show k = 0 ∨ k = 1 ∨ k = 2 by omega) with rfl | rfl | rfl <;> rcases (show y = 0 ∨ y = 1 ∨ y = 2 ∨ y = 3 by omega) with rfl | rfl | rfl | rfl
          all_goals
            go_wp2
            go_roundw
            case rel => exact ⟨i + 1, _, _, hlt, by omega, by go_num, congrArg Value.string (by rw [← bytes_app, ← bytes_app]; rfl), congrArg Value.string (by rw [← bytes_app, ← bytes_app]; rfl), HS, HV2⟩
            case measure => simp [intOf]; omega
      · have g2 : decide ((i : Int) < 10) = false := decide_eq_false (by omega)
        obtain ⟨A, hA⟩ : ∃ A, (sl ++ [32]).map spB = A := ⟨_, rfl⟩
        have HR1 := Lib.hid (words_read1 HW.out)
        have HR2 := Lib.hid (words_read2 HW.out)
        have HSH := Lib.hid (words_short HW.out hi10)
        have HNM := Lib.hid (words_norm HW.out)
        rw [hA] at HR1 HNM
        have hAl : A.length = sl.length + 1 := by rw [← hA, List.length_map, List.length_append]; rfl
        have e1 : ((bytes A).size : Int) = (sl.length : Int) + 1 := by rw [bytesL_len]; omega
        have e2 : ((bytes sl).size : Int) = (sl.length : Int) := by rw [bytesL_len]
        have hA60 : A.length ≤ 60 := by omega
        clear hAl
        have z1 : (9223372036854775807 < (bytes sl).size + 1) = False := eq_false (by rw [bytesL_len]; omega)
        have HB : Hid (bytes (sl ++ [32]) = bytes sl ++ ⟨#[32]⟩) := Lib.hid (bytes_app _ _).symm
        have HRN : Hid (∀ W, Calls Tryz.prog 17 #[.string (bytes A)] W fun e w' => e = .returned (.string (bytes tl)) ∧ W = w') := Lib.hid (fun W => by rw [← HNM.out]; exact rnorm_any A W (by omega))
        clear hA
        go_wp2_with fail
        refine (rnewAt R [] _ _ _ ⟨by decide, fun e he => by cases he⟩ (Or.inl ⟨_, _, rfl, rfl⟩)).mono ?_
        rintro e w3 ⟨p, rfl, h⟩
        have HV3 := Lib.hid (HVr.out.other S h.since)
        have HR := Lib.hid h
        clear h
        go_wp2_with fail
        refine (vreadAtX S 0 (sl ++ [32]) _ HB.out 1 0 _ _ rfl _ _ HR1.out HSH.out (fits13 _ (by decide) (by decide)) (fits13 _ (by decide) (by decide)) HV3.out HR.out HVr.out.since.size).mono ?_
        rintro e w4 ⟨rfl, hv, hr, _⟩
        have HV4 := Lib.hid hv
        have HR4 := Lib.hid hr
        clear hv hr
        go_wp2_with fail
        refine (vreadAtX S 0 (sl ++ [32]) _ HB.out 2 0 _ _ rfl _ _ HR2.out HSH.out (fits13 _ (by decide) (by decide)) (fits13 _ (by decide) (by decide)) HV4.out HR4.out HVr.out.since.size).mono ?_
        rintro e w5 ⟨rfl, hv, _, _⟩
        have HV5 := Lib.hid hv
        clear hv
        go_wp2_with fail
        refine (HTOLD.out _ HV5.out).mono ?_
        rintro e w6 ⟨rfl, hb⟩
        have HV6 := Lib.hid (HV5.out.other S hb)
        clear hb
        go_wp2_with fail
        refine (HRN.out _).mono ?_
        rintro e w7 ⟨rfl, rfl⟩
        go_wp2_with fail
        refine (vnormAt S A tl _ rfl HNM.out (by omega) HV6.out).mono ?_
        rintro e w8 ⟨rfl, hv, _⟩
        have HV8 := Lib.hid hv
        clear hv
        go_wp2
        go_ret
        exact ⟨rfl, HV8.out.since⟩
    · have g1 : decide ((i : Int) < (xs.length : Int)) = false := decide_eq_false (by omega)
      obtain ⟨A, hA⟩ : ∃ A, (sl ++ [32]).map spB = A := ⟨_, rfl⟩
      have HR1 := Lib.hid (words_read1 HW.out)
      have HR2 := Lib.hid (words_read2 HW.out)
      have HSH := Lib.hid (words_short HW.out hi10)
      have HNM := Lib.hid (words_norm HW.out)
      rw [hA] at HR1 HNM
      have hAl : A.length = sl.length + 1 := by rw [← hA, List.length_map, List.length_append]; rfl
      have e1 : ((bytes A).size : Int) = (sl.length : Int) + 1 := by rw [bytesL_len]; omega
      have e2 : ((bytes sl).size : Int) = (sl.length : Int) := by rw [bytesL_len]
      have hA60 : A.length ≤ 60 := by omega
      clear hAl
      have z1 : (9223372036854775807 < (bytes sl).size + 1) = False := eq_false (by rw [bytesL_len]; omega)
      have HB : Hid (bytes (sl ++ [32]) = bytes sl ++ ⟨#[32]⟩) := Lib.hid (bytes_app _ _).symm
      have HRN : Hid (∀ W, Calls Tryz.prog 17 #[.string (bytes A)] W fun e w' => e = .returned (.string (bytes tl)) ∧ W = w') := Lib.hid (fun W => by rw [← HNM.out]; exact rnorm_any A W (by omega))
      clear hA
      go_wp2_with fail
      refine (rnewAt R [] _ _ _ ⟨by decide, fun e he => by cases he⟩ (Or.inl ⟨_, _, rfl, rfl⟩)).mono ?_
      rintro e w3 ⟨p, rfl, h⟩
      have HV3 := Lib.hid (HVr.out.other S h.since)
      have HR := Lib.hid h
      clear h
      go_wp2_with fail
      refine (vreadAtX S 0 (sl ++ [32]) _ HB.out 1 0 _ _ rfl _ _ HR1.out HSH.out (fits13 _ (by decide) (by decide)) (fits13 _ (by decide) (by decide)) HV3.out HR.out HVr.out.since.size).mono ?_
      rintro e w4 ⟨rfl, hv, hr, _⟩
      have HV4 := Lib.hid hv
      have HR4 := Lib.hid hr
      clear hv hr
      go_wp2_with fail
      refine (vreadAtX S 0 (sl ++ [32]) _ HB.out 2 0 _ _ rfl _ _ HR2.out HSH.out (fits13 _ (by decide) (by decide)) (fits13 _ (by decide) (by decide)) HV4.out HR4.out HVr.out.since.size).mono ?_
      rintro e w5 ⟨rfl, hv, _, _⟩
      have HV5 := Lib.hid hv
      clear hv
      go_wp2_with fail
      refine (HTOLD.out _ HV5.out).mono ?_
      rintro e w6 ⟨rfl, hb⟩
      have HV6 := Lib.hid (HV5.out.other S hb)
      clear hb
      go_wp2_with fail
      refine (HRN.out _).mono ?_
      rintro e w7 ⟨rfl, rfl⟩
      go_wp2_with fail
      refine (vnormAt S A tl _ rfl HNM.out (by omega) HV6.out).mono ?_
      rintro e w8 ⟨rfl, hv, _⟩
      have HV8 := Lib.hid hv
      clear hv
      go_wp2
      go_ret
      exact ⟨rfl, HV8.out.since⟩
end Go.Proofs.YtjijjmkeehdooaaGreatDoor
