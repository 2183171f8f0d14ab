/-
  THE LANDED PACKAGE token: the contracts of runes.NCName in lists' words, of Target and CharRef.
-/
import Derived.Test.YtcnomlhlellmiaaDoorRunKFold
namespace Go.Proofs.YtcnomlhlellmiaaDoor
open Go.RowKit

theorem colon_list (l : List UInt8) : colonB (bytes l) = l.contains 58 := by
  unfold colonB
  rw [bytes_list, Bool.eq_iff_iff, decide_eq_true_eq, List.contains_iff_mem]
  constructor
  · intro h
    obtain ⟨o, ho⟩ := Int.eq_ofNat_of_zero_le h
    exact List.mem_iff_getElem?.2 ⟨o, (Lib.indexByte_some ho).1⟩
  · intro h
    obtain ⟨k, hk⟩ := List.mem_iff_getElem?.1 h
    have hge := Lib.indexByte_ge l 58
    have hnn : Lib.indexByte l 58 ≠ -1 := fun e => Lib.indexByte_none e k hk
    omega
theorem nc_list (l : List UInt8) : ncB (bytes l) = ncL l := by
  unfold ncB ncL
  rw [nameB_list, bytes_list, colon_list]
theorem nck_any (n : Nat) (l : List UInt8) (w : World) (hE : KE n w) (hs : l.length ≤ 100000) :
    Calls Tryd.prog 22 #[.string (bytes l)] w fun e w' => e = .returned (.bool (ncL l)) ∧ Below w.heap.size w w' := by
  rw [← nc_list]
  exact nc_any (bytes l) w (by rw [bytes_len]; omega) hE.tabs
theorem target_fold (l : List UInt8) : targetL l = (ncL l && !foldB l) := by
  unfold targetL foldB xml
  by_cases h : l.map lowU = [120, 109, 108]
  · rw [decide_eq_false (by simpa using h), decide_eq_true h]; rfl
  · rw [decide_eq_true h, decide_eq_false h]; rfl
set_option maxHeartbeats 1000000 in
theorem target_any (n : Nat) (l : List UInt8) (w : World) (hE : KE n w) (hn : n ≤ w.heap.size) (hs : l.length ≤ 100000) :
    Calls Tryd.prog 15 #[.string (bytes l)] w fun e w' => e = .returned (.bool (targetL l)) ∧ Below w.heap.size w w' := by
  have hc := nck_any n l w hE hs
  have hf : ∀ W, Below w.heap.size w W → Calls Tryd.prog 23 #[.string (bytes l), .string ⟨#[120, 109, 108]⟩] W fun e w' => e = .returned (.bool (foldB l)) ∧ Below w.heap.size w w' := fun W hb =>
    (fold_any n l W (hE.stay (hb.mono hn)) (Nat.le_trans hn hb.size) hs).mono fun e w' hg => ⟨hg.1, hb.trans (hg.2.mono hb.size)⟩
  rw [target_fold]
  clear hE
  cases h1 : ncL l with
  | false =>
    rw [h1] at hc
    clear h1
    go_enter Tryd.func15, Tryd.ntmps15
    go_wp2_with (go_at_call 22; refine hc.mono ?_; rintro e w1 ⟨rfl, hb1⟩)
    go_ret
    exact ⟨rfl, hb1⟩
  | true =>
    rw [h1] at hc
    cases h2 : foldB l with
    | false =>
      rw [h2] at hf
      clear h1 h2
      go_enter Tryd.func15, Tryd.ntmps15
      go_wp2_with (first | (go_at_call 22; refine hc.mono ?_; rintro e w1 ⟨rfl, hb1⟩) | (go_at_call 23; refine (hf _ hb1).mono ?_; rintro e w2 ⟨rfl, hb2⟩))
      go_ret
      exact ⟨rfl, hb2⟩
    | true =>
      rw [h2] at hf
      clear h1 h2
      go_enter Tryd.func15, Tryd.ntmps15
      go_wp2_with (first | (go_at_call 22; refine hc.mono ?_; rintro e w1 ⟨rfl, hb1⟩) | (go_at_call 23; refine (hf _ hb1).mono ?_; rintro e w2 ⟨rfl, hb2⟩))
      go_ret
      exact ⟨rfl, hb2⟩

/-! ### CharRef -/
theorem suffix_last (t : List UInt8) : Lib.hasSuffix t [59] = decide (t.getLast? = some 59) := by
  unfold Lib.hasSuffix
  rw [Bool.eq_iff_iff, List.isSuffixOf_iff_suffix, decide_eq_true_eq]
  constructor
  · rintro ⟨u, rfl⟩
    rw [List.getLast?_concat]
  · intro h
    obtain ⟨u, hu⟩ := List.getLast?_eq_some_iff.1 h
    exact ⟨u, hu.symm⟩
theorem charRef_no (l : List UInt8) (h : swB [38, 35] l = false) : charRefL l = none := by
  unfold charRefL
  rw [if_neg]
  rintro ⟨h1, _⟩
  rw [h] at h1; cases h1
theorem charRef_open (t : List UInt8) (h : Lib.hasSuffix t [59] = false) : charRefL (38 :: 35 :: t) = none := by
  rw [suffix_last] at h
  have h := of_decide_eq_false h
  unfold charRefL
  rw [if_neg]
  rintro ⟨_, h1, h2⟩
  cases t with
  | nil => simp at h2
  | cons a u => exact h (by rwa [List.getLast?_cons_cons, List.getLast?_cons_cons] at h1)
theorem refV_nil : refV [] = none := rfl
theorem charRef_whole (t : List UInt8) (h : Lib.hasSuffix t [59] = true) : charRefL (38 :: 35 :: t) = refV (t.take (t.length - 1)) := by
  rw [suffix_last, decide_eq_true_eq] at h
  have hd : ((38 :: 35 :: t : List UInt8).drop 2).dropLast = t.take (t.length - 1) := by
    show t.dropLast = _
    rw [List.dropLast_eq_take]
  unfold charRefL
  rw [hd]
  by_cases h1 : t.length = 1
  · rw [if_neg (by rintro ⟨_, _, h2⟩; simp at h2; omega), h1]
    rw [Nat.sub_self, List.take_zero, refV_nil]
  · rw [if_pos]
    cases t with
    | nil => cases h
    | cons a u =>
      refine ⟨(sw_iff _ _).2 ⟨_, rfl⟩, by rw [List.getLast?_cons_cons, List.getLast?_cons_cons]; exact h, ?_⟩
      simp at h1 ⊢
      have : u.length ≠ 0 := fun e => h1 (List.eq_nil_of_length_eq_zero e)
      omega
set_option maxHeartbeats 2000000 in
theorem charRef_any (l : List UInt8) (w : World) (hs : l.length ≤ 100000) :
    Calls Tryd.prog 11 #[.string (bytes l)] w fun e w' => e = .returned (.tuple #[.int .i32 (((charRefL l).getD 0 : Nat) : Int), .bool (charRefL l).isSome]) ∧ Below w.heap.size w w' := by
  cases h : swB [38, 35] l with
  | false =>
    have hv := charRef_no l h
    have c : Calls Tryd.prog 19 #[.string (bytes l), .string ⟨#[38, 35]⟩] w fun e w' => e = .returned (.tuple #[.string (bytes l), .bool false]) ∧ w = w' := by
      have c := Tryd.cutPrefix_laid (bytes l) (bytes [38, 35]) w
      have e1 : Lib.hasPrefix (bytes l).data.toList (bytes [38, 35]).data.toList = false := h
      have e2 : Lib.trimPrefix (bytes l).data.toList (bytes [38, 35]).data.toList = l := by unfold Lib.trimPrefix; rw [e1]; rfl
      rw [e1, e2] at c
      exact c.mono fun _ _ h => ⟨h.1, h.2.symm⟩
    have c2 : ∃ x b, Calls Tryd.prog 20 #[.string (bytes l), .string ⟨#[59]⟩] w fun e w' => e = .returned (.tuple #[.string x, .bool b]) ∧ w = w' :=
      ⟨_, _, (Tryd.cutSuffix_laid (bytes l) (bytes [59]) w (by rw [bytes_len]; omega)).mono fun _ _ h => ⟨h.1, h.2.symm⟩⟩
    obtain ⟨x, b, c2⟩ := c2
    rw [hv]
    clear hv h
    go_enter Tryd.func11, Tryd.ntmps11
    go_wp2_with (first | (go_at_call 19; refine c.mono ?_; rintro e w' ⟨rfl, rfl⟩) | (go_at_call 20; refine c2.mono ?_; rintro e w' ⟨rfl, rfl⟩))
    go_ret2
    exact ⟨rfl, Below.refl _ _⟩
  | true =>
    obtain ⟨t, rfl⟩ := (sw_iff _ _).1 h
    have c : Calls Tryd.prog 19 #[.string (bytes ([38, 35] ++ t)), .string ⟨#[38, 35]⟩] w fun e w' => e = .returned (.tuple #[.string (bytes t), .bool true]) ∧ w = w' := by
      have c := Tryd.cutPrefix_laid (bytes ([38, 35] ++ t)) (bytes [38, 35]) w
      have e1 : Lib.hasPrefix (bytes ([38, 35] ++ t)).data.toList (bytes [38, 35]).data.toList = true := h
      have e2 : Lib.trimPrefix (bytes ([38, 35] ++ t)).data.toList (bytes [38, 35]).data.toList = t := by unfold Lib.trimPrefix; rw [e1]; rfl
      rw [e1, e2] at c
      exact c.mono fun _ _ h => ⟨h.1, h.2.symm⟩
    have ht : t.length ≤ 100000 := by simp at hs; omega
    have c2 := (Tryd.cutSuffix_laid (bytes t) (bytes [59]) w (by rw [bytes_len]; omega)).mono (R' := fun e w' => e = .returned (.tuple #[.string ⟨(Lib.trimSuffix t [59]).toArray⟩, .bool (Lib.hasSuffix t [59])]) ∧ w = w') fun _ _ h => ⟨h.1, h.2.symm⟩
    have hbs : (⟨#[59]⟩ : ByteArray) = bytes [59] := rfl
    generalize hB : bytes ([38, 35] ++ t) = B at c
    clear h
    cases hf : Lib.hasSuffix t [59] with
    | false =>
      have hv : charRefL ([38, 35] ++ t) = none := charRef_open t hf
      rw [hf] at c2
      rw [hv]
      rw [← hbs] at c2
      generalize (⟨(Lib.trimSuffix t [59]).toArray⟩ : ByteArray) = x at c2
      clear hv hf hbs hB
      go_enter Tryd.func11, Tryd.ntmps11
      go_wp2_with (first | (go_at_call 19; refine c.mono ?_; rintro e w' ⟨rfl, rfl⟩) | (go_at_call 20; refine c2.mono ?_; rintro e w' ⟨rfl, rfl⟩))
      go_ret2
      exact ⟨rfl, Below.refl _ _⟩
    | true =>
      have hv : charRefL ([38, 35] ++ t) = refV (t.take (t.length - 1)) := charRef_whole t hf
      have e3 : (⟨(Lib.trimSuffix t [59]).toArray⟩ : ByteArray) = bytes (t.take (t.length - 1)) := by
        unfold Lib.trimSuffix
        rw [hf]
        rfl
      rw [hf, e3] at c2
      rw [← hbs] at c2
      have c3 := numbered_any (t.take (t.length - 1)) w (by rw [List.length_take]; omega)
      unfold NumGives at c3
      rw [hv]
      generalize t.take (t.length - 1) = d at c2 c3
      obtain ⟨vv, hvv⟩ : ∃ vv, (((refV d).getD 0 : Nat) : Int) = vv := ⟨_, rfl⟩
      obtain ⟨bb, hbb⟩ : ∃ bb, (refV d).isSome = bb := ⟨_, rfl⟩
      rw [hvv, hbb] at c3 ⊢
      clear hv hf hbs hB e3 hvv hbb
      go_enter Tryd.func11, Tryd.ntmps11
      go_wp2_with (first | (go_at_call 19; refine c.mono ?_; rintro e w' ⟨rfl, rfl⟩) | (go_at_call 20; refine c2.mono ?_; rintro e w' ⟨rfl, rfl⟩) | (go_at_call 21; refine c3.mono ?_; rintro e w' ⟨rfl, hb⟩))
      go_ret2
      exact ⟨rfl, hb⟩
end Go.Proofs.YtcnomlhlellmiaaDoor
