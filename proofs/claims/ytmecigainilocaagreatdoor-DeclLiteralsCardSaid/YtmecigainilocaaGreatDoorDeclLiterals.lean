/-
  THE LAW DeclLiterals, out of what is asked of package decl (DeclSaid): a literal is what stands between two like quotes, to the next one.
-/
import Derived.Test.YtmecigainilocaaGreatDoorDeclTypes
import Derived.Test.YtmecigainilocaaGreatDoorRunDRead
import Derived.Laws.Runes
namespace Go.Proofs.YtmecigainilocaaGreatDoor
open Go.RowKit

/-- k is the first place of q from i on, or the end -/
def AtQ (l : List UInt8) (q : UInt8) (i k : Nat) : Prop := k ≤ l.length ∧ (k < l.length → i ≤ k ∧ l[k]? = some q) ∧ ∀ j, i ≤ j → j < k → l[j]? ≠ some q
section
variable {l : List UInt8} {q : UInt8} {i k : Nat}
theorem atQ_end (l : List UInt8) (q : UInt8) : AtQ l q l.length l.length := ⟨Nat.le_refl _, fun h => absurd h (Nat.lt_irrefl _), fun j h1 h2 => by omega⟩
theorem atQ_here {b : UInt8} (hb : l[i]? = some b) (e : b = q) : AtQ l q i i := by
  subst e
  have := (List.getElem?_eq_some_iff.1 hb).1
  exact ⟨by omega, fun _ => ⟨Nat.le_refl _, hb⟩, fun j h1 h2 => by omega⟩
theorem AtQ.down {b : UInt8} (h : AtQ l q (i + 1) k) (hb : l[i]? = some b) (e : b ≠ q) : AtQ l q i k := by
  obtain ⟨h1, h2, h3⟩ := h
  refine ⟨h1, fun hk => ⟨by have := (h2 hk).1; omega, (h2 hk).2⟩, fun j h4 h5 => ?_⟩
  by_cases e2 : j = i
  · subst e2
    rw [hb]
    intro e3
    exact e (Option.some.inj e3)
  · exact h3 j (by omega) h5
theorem lit_closed (hq : q = 34 ∨ q = 39) (h : AtQ l q 0 k) : litT (120 :: q :: (l ++ [q])) 1 = (l.take k, (k : Int) + 3, true) := by
  obtain ⟨h1, h2, h3⟩ := h
  have e := litT_in (120 :: q :: (l ++ [q])) 1 (by simp)
  rw [show ((1 : Nat) : Int) = 1 by rfl] at e
  rw [e]
  show (match literalL (q :: (l ++ [q])) with | none => _ | some (v, n) => _) = _
  have hl : literalL (q :: (l ++ [q])) = some (((q :: (l ++ [q])).drop 1).take (k + 1 - 1), k + 1 + 1) := by
    refine lit_found hq rfl (by omega) ?_ ?_
    · show (l ++ [q])[k]? = some q
      by_cases hk : k < l.length
      · rw [List.getElem?_append_left hk]; exact (h2 hk).2
      · rw [show k = l.length by omega, List.getElem?_append_right (Nat.le_refl _), Nat.sub_self]; rfl
    · intro j hj1 hj2
      obtain ⟨j, rfl⟩ : ∃ m, j = m + 1 := ⟨j - 1, by omega⟩
      show (l ++ [q])[j]? ≠ some q
      rw [List.getElem?_append_left (by omega)]
      exact h3 j (Nat.zero_le _) (by omega)
  rw [hl]
  show ((l ++ [q]).take (k + 1 - 1), (1 : Int) + ((k + 1 + 1 : Nat) : Int), true) = _
  rw [Nat.add_sub_cancel, List.take_append_of_le_length h1, show (1 : Int) + ((k + 1 + 1 : Nat) : Int) = (k : Int) + 3 by omega]
theorem lit_inner (hq : q = 34 ∨ q = 39) (h : AtQ l q 0 k) (hk : k < l.length) : litT (120 :: q :: l) 1 = (l.take k, (k : Int) + 3, true) := by
  obtain ⟨h1, h2, h3⟩ := h
  have e := litT_in (120 :: q :: l) 1 (by simp)
  rw [show ((1 : Nat) : Int) = 1 by rfl] at e
  rw [e]
  show (match literalL (q :: l) with | none => _ | some (v, n) => _) = _
  have hl : literalL (q :: l) = some (((q :: l).drop 1).take (k + 1 - 1), k + 1 + 1) := by
    refine lit_found hq rfl (by omega) (h2 hk).2 ?_
    intro j hj1 hj2
    obtain ⟨j, rfl⟩ : ∃ m, j = m + 1 := ⟨j - 1, by omega⟩
    exact h3 j (Nat.zero_le _) (by omega)
  rw [hl]
  show (l.take (k + 1 - 1), (1 : Int) + ((k + 1 + 1 : Nat) : Int), true) = _
  rw [Nat.add_sub_cancel, show (1 : Int) + ((k + 1 + 1 : Nat) : Int) = (k : Int) + 3 by omega]
theorem lit_none (h : AtQ l q 0 k) (hk : ¬ k < l.length) : litT (120 :: q :: l) 1 = ([], 1, false) := by
  obtain ⟨h1, h2, h3⟩ := h
  have e := litT_in (120 :: q :: l) 1 (by simp)
  rw [show ((1 : Nat) : Int) = 1 by rfl] at e
  rw [e]
  show (match literalL (q :: l) with | none => _ | some (v, n) => _) = _
  rw [lit_open (q := q) rfl]
  intro j hj1 hj2
  obtain ⟨j, rfl⟩ : ∃ m, j = m + 1 := ⟨j - 1, by omega⟩
  exact h3 j (Nat.zero_le _) (by have : j + 1 < l.length + 1 := hj2; omega)
theorem lit_zero (l : List UInt8) (q : UInt8) : litT (120 :: q :: l) 0 = ([], 0, false) := by
  have e := litT_in (120 :: q :: l) 0 (Nat.zero_le _)
  rw [show ((0 : Nat) : Int) = 0 by rfl] at e
  rw [e]
  rfl
theorem lit_text1 (l : List UInt8) (q : UInt8) : (⟨#[120]⟩ : ByteArray) ++ ⟨#[q]⟩ ++ bytes l ++ ⟨#[q]⟩ = bytes (120 :: q :: (l ++ [q])) := by
  show bytes [120] ++ bytes [q] ++ bytes l ++ bytes [q] = _
  simp only [bytes_app]
  rfl
theorem lit_text2 (l : List UInt8) (q : UInt8) : (⟨#[120]⟩ : ByteArray) ++ ⟨#[q]⟩ ++ bytes l = bytes (120 :: q :: l) := by
  show bytes [120] ++ bytes [q] ++ bytes l = _
  simp only [bytes_app]
  rfl
theorem one_byte (l : List UInt8) (i : Nat) {b : UInt8} (hb : l[i]? = some b) : (bytes l).extract i (i + 1) = bytes [b] := by
  apply ByteArray.ext
  apply Array.ext'
  rw [ByteArray.data_extract, Array.toList_extract, List.extract_eq_take_drop, show i + 1 - i = 1 by omega]
  show (l.drop i).take 1 = [b]
  have hb0 : (l.drop i)[0]? = some b := by rw [List.getElem?_drop, Nat.add_zero]; exact hb
  cases hd : l.drop i with
  | nil => rw [hd] at hb0; cases hb0
  | cons x t =>
    rw [hd] at hb0
    simp only [List.getElem?_cons_zero, Option.some.injEq] at hb0
    rw [hb0]; rfl
end
set_option maxHeartbeats 16000000 in
set_option maxRecDepth 100000 in
theorem declliterals_any {E : Nat → World → Prop} (S : DeclSaid E) (n : Nat) (l : List UInt8) (single : Bool) (w : World) (hE : E n w) (hn : n ≤ w.heap.size) :
    Calls Tryz.prog 6 #[.string (bytes l), .bool single] w fun e w' => e = .returned (.bool true) ∧ Below w.heap.size w w' := by
  have H := Lib.hid (show CAt E n w w from ⟨hE, hn, Below.refl _ _⟩)
  have hsz : (bytes l).size = l.length := bytes_len11 l
  clear hE
  by_cases h60 : 60 < l.length
  · have g : decide (60 < l.length) = true := decide_eq_true h60
    have g2 : decide ((60 : Int) < (l.length : Int)) = true := decide_eq_true (by omega)
    go_enter Tryz.func6, Tryz.ntmps6
    go_wp2_with fail
    refine (told11_any S n _ H.out.e H.out.n_le).mono ?_
    rintro e w2 ⟨rfl, hb⟩
    have HF := Lib.hid hb
    clear hb
    go_wp2
    go_ret
    exact ⟨rfl, HF.out⟩
  · have g : decide (60 < l.length) = false := decide_eq_false h60
    have g2 : decide ((60 : Int) < (l.length : Int)) = false := decide_eq_false (by omega)
    obtain ⟨q, hq⟩ : ∃ q : UInt8, q = if single = true then 39 else 34 := ⟨_, rfl⟩
    have hq2 : q = 34 ∨ q = 39 := by cases single <;> simp at hq <;> simp [hq]
    clear hq2
    cases single
    all_goals
      (simp only [Bool.false_eq_true, if_false, if_true] at hq
       go_enter Tryz.func6, Tryz.ntmps6
       go_wp2
       go_loopg [6, 7] l.length (fun gg av iv wr => wr = w ∧ ∃ k : Nat, av = .int .i64 (k : Int) ∧ iv = .int .i64 ((gg : Int) - 1) ∧ gg ≤ l.length ∧ AtQ l q gg k)
       case atStart => exact ⟨rfl, l.length, rfl, rfl, Nat.le_refl _, atQ_end l q⟩
       case round =>
         obtain ⟨rfl, k, rfl, rfl, hgl, hat⟩ := hrel
         have HA := Lib.hid hat
         clear hat
         cases gk with
         | succ i =>
           rw [show (((i + 1 : Nat) : Int) - 1) = (i : Int) by omega]
           obtain ⟨b, hb⟩ : ∃ b, l[i]? = some b := ⟨l[i]'(by omega), List.getElem?_eq_getElem (by omega)⟩
           have hcut := one_byte l i hb
           have hwr : IntKind.i64.wrap ((i : Int) + 1) = ((i + 1 : Nat) : Int) := wrap_small _ (by omega) (by omega)
           have q1 : ((i + 1 : Nat) : Int) ≤ ((bytes l).size : Int) := by rw [hsz]; omega
           have q2 : ((i + 1 : Nat) : Int) ≤ (l.length : Int) := by omega
           have q3 : (0 : Int) ≤ (i : Int) := by omega
           have q4 : (i : Int) ≤ ((i + 1 : Nat) : Int) := by omega
           obtain ⟨z, hz⟩ : ∃ z, decide (b = q) = z := ⟨_, rfl⟩
           obtain ⟨Z, hZ⟩ : ∃ Z, bytes [b] = Z := ⟨_, rfl⟩
           have hzz : (Z.toList == [q]) = z := by
             rw [← hZ, ← hz, Lib.toList_data, bytes_list, Bool.eq_iff_iff]; simp
           rw [hZ] at hcut
           have HYES : Hid (z = true → AtQ l q i i) := Lib.hid (fun e => atQ_here hb (by rw [e] at hz; exact of_decide_eq_true hz))
           have HNO : Hid (z = false → AtQ l q i k) := Lib.hid (fun e => HA.out.down hb (by rw [e] at hz; exact of_decide_eq_false hz))
           clear hb hz hZ HA
           rw [hq] at hzz
           obtain ⟨i1, hi1⟩ : ∃ i1, i + 1 = i1 := ⟨_, rfl⟩
           rw [hi1] at hwr q1 q2 q4 hcut
           cases z with
           | true =>
             have HY := Lib.hid (HYES.out rfl)
             clear HYES HNO
             go_wp2
             go_roundg i
             case measure => omega
             case rel => exact ⟨rfl, i, rfl, rfl, by omega, HY.out⟩
           | false =>
             have HY := Lib.hid (HNO.out rfl)
             clear HYES HNO
             go_wp2
             go_roundg i
             case measure => omega
             case rel => exact ⟨rfl, k, rfl, rfl, by omega, HY.out⟩
         | zero =>
           rw [show (((0 : Nat) : Int) - 1) = -1 by omega]
           subst hq
           have hkl := HA.out.1
           obtain ⟨V, hV⟩ : ∃ V, bytes (l.take k) = V := ⟨_, rfl⟩
           have hcut : (bytes l).extract 0 k = V := by rw [← hV]; exact bytes_take l k
           have q1 : (k : Int) ≤ ((bytes l).size : Int) := by rw [hsz]; omega
           have q2 : (k : Int) ≤ (l.length : Int) := by omega
           have q3 : (0 : Int) ≤ (k : Int) := by omega
           have q4 : (k : Int) ≤ 60 := by omega
           go_wp2_with fail
           rw [lit_text1]
           refine (clitAt S _ 1 (l.take k) V hV ((k : Int) + 3) true (lit_closed (by decide) HA.out) (by simp only [List.length_cons, List.length_append, List.length_nil]; omega) H.out).mono ?_
           rintro e w1 ⟨rfl, h⟩
           have H1 := Lib.hid h
           clear h
           go_wp2_with fail
           rw [lit_text2]
           by_cases hk : k < l.length
           · have g3 : decide ((k : Int) < (l.length : Int)) = true := decide_eq_true (by omega)
             have g4 : decide (k < l.length) = true := decide_eq_true hk
             refine (clitAt S _ 1 (l.take k) V hV ((k : Int) + 3) true (lit_inner (by decide) HA.out hk) (by simp only [List.length_cons]; omega) H1.out).mono ?_
             rintro e w2 ⟨rfl, h⟩
             have H2 := Lib.hid h
             clear h
             go_wp2_with fail
             rw [lit_text2]
             refine (clitAt S _ 0 [] ⟨#[]⟩ rfl 0 false (lit_zero l _) (by simp only [List.length_cons]; omega) H2.out).mono ?_
             rintro e w3 ⟨rfl, h⟩
             have H3 := Lib.hid h
             clear h
             go_wp2_with fail
             refine (told11_any S n _ H3.out.e H3.out.n_le).mono ?_
             rintro e w4 ⟨rfl, hb⟩
             have HF := Lib.hid (H3.out.since.trans (hb.mono H3.out.since.size))
             clear hb
             go_wp2
             go_ret
             exact ⟨rfl, HF.out⟩
           · have g3 : decide ((k : Int) < (l.length : Int)) = false := decide_eq_false (by omega)
             have g4 : decide (k < l.length) = false := decide_eq_false hk
             refine (clitAt S _ 1 [] ⟨#[]⟩ rfl 1 false (lit_none HA.out hk) (by simp only [List.length_cons]; omega) H1.out).mono ?_
             rintro e w2 ⟨rfl, h⟩
             have H2 := Lib.hid h
             clear h
             go_wp2_with fail
             rw [lit_text2]
             refine (clitAt S _ 0 [] ⟨#[]⟩ rfl 0 false (lit_zero l _) (by simp only [List.length_cons]; omega) H2.out).mono ?_
             rintro e w3 ⟨rfl, h⟩
             have H3 := Lib.hid h
             clear h
             go_wp2_with fail
             refine (told11_any S n _ H3.out.e H3.out.n_le).mono ?_
             rintro e w4 ⟨rfl, hb⟩
             have HF := Lib.hid (H3.out.since.trans (hb.mono H3.out.since.size))
             clear hb
             go_wp2
             go_ret
             exact ⟨rfl, HF.out⟩)
theorem declliterals_str {E : Nat → World → Prop} (S : DeclSaid E) (n : Nat) (s : ByteArray) (single : Bool) (w : World) (hE : E n w) (hn : n ≤ w.heap.size) :
    Calls Tryz.prog 6 #[.string s, .bool single] w fun e w' => e = .returned (.bool true) ∧ Below w.heap.size w w' := by
  have e : s = bytes s.data.toList := by
    apply ByteArray.ext
    show s.data = s.data.toList.toArray
    rw [Array.toArray_toList]
  rw [e]
  exact declliterals_any S n s.data.toList single w hE hn
end Go.Proofs.YtmecigainilocaaGreatDoor
