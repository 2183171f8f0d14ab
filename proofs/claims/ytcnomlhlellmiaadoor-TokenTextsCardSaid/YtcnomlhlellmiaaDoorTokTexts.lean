/-
  LAYER 10: brackenlaw10.TokenTexts, out of TokSaid: true for any text, any number.
-/
import Derived.Test.YtcnomlhlellmiaaDoorTokAside
import Derived.Test.YtcnomlhlellmiaaDoorBitNum
namespace Go.Proofs.YtcnomlhlellmiaaDoor
open Go.RowKit

theorem text_whole (s : ByteArray) (r : Array UInt8) (hs : 0 < s.size) (hp : ∀ j, j < s.size → ∀ b, s.data.toList[j]? = some b → ¬ (b = 60 ∨ b = 38)) (hr : plainN r.toList = 0) (bad : Bool) (hb : bad = anyTo [93, 93, 62] s.data.toList s.size) :
    (bad = false ∧ nextT (s ++ (⟨r⟩ : ByteArray)) 0 = ((⟨1, ⟨#[]⟩, s, [], false⟩ : Tok), (s.size : Int), (0 : Int))) ∨ (bad = true ∧ nextT (s ++ (⟨r⟩ : ByteArray)) 0 = (tok0, 0, 2)) := by
  have hl : s.data.toList.length = s.size := by rw [Array.length_toList]; rfl
  have e0 := nextT_zero (s ++ (⟨r⟩ : ByteArray)) (by rw [ByteArray.size_append]; omega)
  have e1 : (s ++ (⟨r⟩ : ByteArray)).data.toList = s.data.toList ++ r.toList := by rw [ByteArray.data_append, Array.toList_append]
  rw [e1, next_text _ _ (fun e => by rw [e] at hl; simp at hl; omega) (fun b hb => by
    obtain ⟨j, hj⟩ := List.mem_iff_getElem?.1 hb
    refine hp j ?_ b hj
    have := (List.getElem?_eq_some_iff.1 hj).1
    omega) hr] at e0
  cases bad with
  | false =>
    rw [if_pos (any_find (w := [93, 93, 62]) (by decide) (by omega) hb.symm)] at e0
    exact Or.inl ⟨rfl, by rw [e0, bytes_of, hl]⟩
  | true =>
    obtain ⟨j, hj, h2⟩ := any_true hb.symm
    rw [if_neg (fun e => by
      have := find_none.1 e j (by omega)
      rw [h2] at this
      cases this)] at e0
    exact Or.inr ⟨rfl, e0⟩
set_option maxHeartbeats 20000000 in
set_option maxRecDepth 100000 in
theorem toktexts_any {E : Nat → World → Prop} (S : TokSaid E) (n : Nat) (s : ByteArray) (how : Int) (w : World) (hE : E n w) (hn : n ≤ w.heap.size) :
    Calls Tryd.prog 3 #[.string s, .int .i64 how] w fun e w' => e = .returned (.bool true) ∧ Below w.heap.size w w' := by
  have HE := Lib.hid hE
  clear hE
  by_cases h60 : 60 < s.size
  · have g1 : decide (60 < s.size) = true := decide_eq_true h60
    have g2 : decide ((60 : Int) < (s.size : Int)) = true := decide_eq_true (by omega)
    go_enter Tryd.func3, Tryd.ntmps3
    go_wp2_with fail
    refine (told10_any S n w HE.out hn).mono ?_
    rintro e wz ⟨rfl, hb'⟩
    go_wp2
    go_ret
    exact ⟨rfl, hb'⟩
  have g1 : decide (60 < s.size) = false := decide_eq_false h60
  have g2 : decide ((60 : Int) < (s.size : Int)) = false := decide_eq_false (by omega)
  have hs60 : s.size ≤ 60 := by omega
  by_cases h0 : s.size < 1
  · have g3 : decide (s.size < 1) = true := decide_eq_true h0
    have g4 : decide ((s.size : Int) < 1) = true := decide_eq_true (by omega)
    go_enter Tryd.func3, Tryd.ntmps3
    go_wp2_with fail
    refine (told10_any S n w HE.out hn).mono ?_
    rintro e wz ⟨rfl, hb'⟩
    go_wp2
    go_ret
    exact ⟨rfl, hb'⟩
  have g3 : decide (s.size < 1) = false := decide_eq_false h0
  have g4 : decide ((s.size : Int) < 1) = false := decide_eq_false (by omega)
  have h1 : 1 ≤ s.size := by omega
  have hl : s.data.toList.length = s.size := by rw [Array.length_toList]; rfl
  have HL := Lib.hid hl
  clear hl
  go_enter Tryd.func3, Tryd.ntmps3
  go_wp2
  go_loop [5, 6] (fun bv iv => ∃ (i : Nat) (b : Bool), i ≤ s.size ∧ iv = .int .i64 i ∧ bv = .bool b ∧ Hid (b = anyTo [93, 93, 62] s.data.toList i) ∧ Hid (∀ j, j < i → ∀ b, s.data.toList[j]? = some b → ¬ (b = 60 ∨ b = 38))) (fun _ iv => s.size - (intOf iv).toNat)
  case atStart => exact ⟨0, _, Nat.zero_le _, rfl, rfl, Lib.hid rfl, Lib.hid (fun j hj => by omega)⟩
  case round =>
    obtain ⟨i, b, hil, rfl, rfl, HT, HP⟩ := hrel
    by_cases hlt : i < s.size
    · have hbyte : s.data.toList[i]? = some (s[i]'hlt) := by rw [List.getElem?_eq_getElem (by rw [HL.out]; exact hlt)]; rfl
      by_cases h6 : (s[i]'hlt).toNat = 60
      · have g5 : (((s[i]'hlt).toNat : Int) == 60) = true := beq_iff_eq.2 (by omega)
        go_wp2_with fail
        refine (told10_any S n w HE.out hn).mono ?_
        rintro e wz ⟨rfl, hb'⟩
        go_wp2
        go_ret
        exact ⟨rfl, hb'⟩
      have g5 : (((s[i]'hlt).toNat : Int) == 60) = false := beq_eq_false_iff_ne.2 (by omega)
      by_cases h3 : (s[i]'hlt).toNat = 38
      · have g6 : (((s[i]'hlt).toNat : Int) == 38) = true := beq_iff_eq.2 (by omega)
        go_wp2_with fail
        refine (told10_any S n w HE.out hn).mono ?_
        rintro e wz ⟨rfl, hb'⟩
        go_wp2
        go_ret
        exact ⟨rfl, hb'⟩
      have g6 : (((s[i]'hlt).toNat : Int) == 38) = false := beq_eq_false_iff_ne.2 (by omega)
      have HP' : Hid (∀ j, j < i + 1 → ∀ b, s.data.toList[j]? = some b → ¬ (b = 60 ∨ b = 38)) := Lib.hid (fun j hj b hb => by
        by_cases e : j = i
        · subst e
          rw [hbyte] at hb
          injection hb with hb
          subst hb
          rintro (e | e)
          · exact h6 (by rw [e]; rfl)
          · exact h3 (by rw [e]; rfl)
        · exact HP.out j (by omega) b hb)
      clear hbyte
      obtain ⟨x3, hx3⟩ : ∃ x, ((s.extract i (i + 3)).toList == [93, 93, 62]) = x := ⟨_, rfl⟩
      by_cases h2 : i + 2 < s.size
      · have HT' : Hid ((b || x3) = anyTo [93, 93, 62] s.data.toList (i + 1)) := Lib.hid (by rw [any_next, ← HT.out, ← hx3, cut_is s [93, 93, 62] i 3 rfl (by omega)])
        have g7 : decide ((i : Int) + 2 < (s.size : Int)) = true := decide_eq_true (by omega)
        have q3 : (i : Int) ≤ (i : Int) + 3 := by omega
        have q4 : (i : Int) + 3 ≤ (s.size : Int) := by omega
        cases b <;>
          (go_wp2
           go_round
           case rel => exact ⟨i + 1, _, by omega, by go_num, rfl, HT', HP'⟩
           case measure => simp [intOf]; omega)
      · have HT' : Hid (b = anyTo [93, 93, 62] s.data.toList (i + 1)) := Lib.hid (by rw [any_next, ← HT.out, sw_short (by rw [List.length_drop, HL.out]; show s.size - i < 3; omega), Bool.or_false])
        have g7 : decide ((i : Int) + 2 < (s.size : Int)) = false := decide_eq_false (by omega)
        cases b <;>
          (go_wp2
           go_round
           case rel => exact ⟨i + 1, _, by omega, by go_num, rfl, HT', HP'⟩
           case measure => simp [intOf]; omega)
    · obtain rfl : i = s.size := by omega
      have g0 : decide (s.size < s.size) = false := decide_eq_false (by omega)
      obtain ⟨u, x, hk1, hk2, hk3, hk4, hk5⟩ := wrap_mod how 3 (by decide) (by decide)
      replace hk2 : Int.tmod (u : Int) 3 = (x : Int) := hk2
      have H := Lib.hid (show KAt E n w w from ⟨HE.out, hn, Below.refl _ _⟩)
      obtain ⟨r, hr, hrx⟩ : ∃ r : Array UInt8, (x = 0 ∧ r = #[] ∨ x = 1 ∧ r = #[60, 98, 47, 62] ∨ x = 2 ∧ r = #[38, 108, 116, 59]) ∧ plainN r.toList = 0 ∧ r.size ≤ 4 := by
        rcases (show x = 0 ∨ x = 1 ∨ x = 2 by omega) with h | h | h
        · exact ⟨#[], Or.inl ⟨h, rfl⟩, rfl, by decide⟩
        · exact ⟨#[60, 98, 47, 62], Or.inr (Or.inl ⟨h, rfl⟩), rfl, by decide⟩
        · exact ⟨#[38, 108, 116, 59], Or.inr (Or.inr ⟨h, rfl⟩), rfl, by decide⟩
      have HW := Lib.hid (text_whole s r (by omega) HP.out hrx.1 b HT.out)
      have hsz : (s ++ (⟨r⟩ : ByteArray)).size ≤ 100000 := by rw [ByteArray.size_append, show (⟨r⟩ : ByteArray).size = r.size from rfl]; omega
      have C : Hid (∃ (kd : Nat) (nm tx : ByteArray) (al : List (ByteArray × ByteArray)) (em : Bool) (to c : Int), ((b = false ∧ kd = 1 ∧ s = tx ∧ to = s.size ∧ c = 0) ∨ (b = true ∧ kd = 0 ∧ to = 0 ∧ c = 2)) ∧ ∀ W, KAt E n w W → Calls Tryd.prog 9 #[.string (s ++ (⟨r⟩ : ByteArray)), .int .i64 0] W fun e w' => ∃ a cap, e = .returned (.tuple #[.agg #[.int .i64 (kd : Int), .string nm, .string tx, .slice a al.length cap, .bool em], .int .i64 to, .int .i64 c]) ∧ AttsAt w'.heap.size w' (.slice a al.length cap) al ∧ KAt E n w w' ∧ Below W.heap.size W w') := Lib.hid (by
        rcases HW.out with ⟨h1, h2⟩ | ⟨h1, h2⟩
        · exact ⟨_, _, _, _, _, _, _, Or.inl ⟨h1, rfl, rfl, rfl, rfl⟩, fun W h => knextAt S (s ++ (⟨r⟩ : ByteArray)) 0 _ _ 1 _ _ _ _ h2 _ rfl _ rfl hsz (fits10 _) h⟩
        · exact ⟨_, _, _, _, _, _, _, Or.inr ⟨h1, rfl, rfl, rfl⟩, fun W h => knextAt S (s ++ (⟨r⟩ : ByteArray)) 0 _ _ 0 _ _ _ _ h2 _ rfl _ rfl hsz (fits10 _) h⟩)
      clear HW hsz HT HP hrx hk3
      obtain ⟨kd, nm, tx, al, em, to, c, hcase, hc⟩ := C.out
      have HCASE := Lib.hid hcase
      have HC := Lib.hid hc
      clear C hcase hc
      rcases hr with ⟨rfl, rfl⟩ | ⟨rfl, rfl⟩ | ⟨rfl, rfl⟩
      all_goals
        (have H2 := Lib.hid (H.out.other S ((Below.refl _ _).alloc (Nat.le_refl _) (.cells #[.string ⟨#[]⟩, .string ⟨#[60, 98, 47, 62]⟩, .string ⟨#[38, 108, 116, 59]⟩] 9)))
         go_wp2_with fail
         refine (HC.out _ H2.out).mono ?_
         rintro e w1 ⟨a, capt, rfl, _, h, _⟩
         have HX := Lib.hid (box_tok w1 (.int .i64 (kd : Int)) (.string nm) (.string tx) (.slice a al.length capt) (.bool em) 27)
         have H3 := Lib.hid (h.other S ((Below.refl _ _).alloc (Nat.le_refl _) (.cells #[.int .i64 (kd : Int), .string nm, .string tx, .slice a al.length capt, .bool em] 27)))
         clear h H H2 HC
         have hcase := HCASE.out
         clear HCASE
         rcases hcase with ⟨rfl, rfl, rfl, rfl, rfl⟩ | ⟨rfl, rfl, rfl, rfl⟩
         · have jx := str_eq (t := s) rfl
           go_wp2_with fail
           refine (told10_any S n _ H3.out.e H3.out.n_le).mono ?_
           rintro e4 w4 ⟨rfl, hb4⟩
           obtain ⟨k0, _, k2, _⟩ := HX.out w4 hb4
           have HF := Lib.hid (H3.out.since.trans (hb4.mono H3.out.since.size))
           clear hb4
           go_wp2
           go_ret
           exact ⟨rfl, HF.out⟩
         · go_wp2_with fail
           refine (told10_any S n _ H3.out.e H3.out.n_le).mono ?_
           rintro e4 w4 ⟨rfl, hb4⟩
           obtain ⟨k0, _, k2, _⟩ := HX.out w4 hb4
           have HF := Lib.hid (H3.out.since.trans (hb4.mono H3.out.since.size))
           clear hb4
           go_wp2
           go_ret
           exact ⟨rfl, HF.out⟩)
end Go.Proofs.YtcnomlhlellmiaaDoor
