/-
  PLAIN MATHEMATICS FOR LAYER 13 (attributes' values): how blanks go, and how texts are written, read from the left, piece by piece. No program stands in this text.
-/
import Derived.Test.YtjijjmkeehdooaaGreatDoorValDefs
import Derived.Test.YtjijjmkeehdooaaGreatDoorRuneAt
import Derived.Lib.TrimByte
namespace Go.Proofs.YtjijjmkeehdooaaGreatDoor
open Go Go.Lib

/-- blanks that follow one another are one; p: was the last one a blank? -/
def sqF : Bool → List UInt8 → List UInt8
  | _, [] => []
  | p, b :: t => if b = 32 then (if p = true then sqF true t else 32 :: sqF true t) else b :: sqF false t
theorem trimR_cons (b c : UInt8) (t : List UInt8) : trimRightB (b :: t) c = if trimRightB t c = [] then (if b = c then [] else [b]) else b :: trimRightB t c := by
  unfold trimRightB
  rw [List.reverse_cons, List.dropWhile_append]
  cases h : t.reverse.dropWhile (· == c) with
  | nil =>
    show (List.dropWhile (fun x => x == c) [b]).reverse = (if b = c then [] else [b])
    rw [List.dropWhile_cons]
    by_cases hb : b = c
    · rw [if_pos hb, if_pos (by rw [hb]; exact beq_self_eq_true c)]; rfl
    · rw [if_neg hb, if_neg (fun e => hb (eq_of_beq e))]; rfl
  | cons x y =>
    rw [if_neg (by simp : ¬ (x :: y).isEmpty = true), if_neg (by simp : ¬ (x :: y).reverse = [])]
    simp
/-- what comes behind something that was written; p: a blank stood ahead -/
def gapF (p : Bool) (x : List UInt8) : List UInt8 := if x = [] then [] else (if p = true then [32] else []) ++ sqF p x
theorem gapF_false (x : List UInt8) : gapF false x = sqF false x := by cases x <;> rfl
theorem gapF_true (b : UInt8) (x : List UInt8) : gapF true (b :: x) = 32 :: sqF true (b :: x) := rfl
theorem sq_blank (p : Bool) (t : List UInt8) : sqF p (32 :: t) = (if p = true then [] else [32]) ++ sqF true t := by
  cases p <;> rfl
theorem sq_other {b : UInt8} (hb : b ≠ 32) (p : Bool) (t : List UInt8) : sqF p (b :: t) = b :: sqF false t := by
  rw [sqF, if_neg hb]
theorem gapF_blank (p : Bool) {x : List UInt8} (hx : x ≠ []) : gapF p (32 :: x) = gapF true x := by
  obtain ⟨b, t, rfl⟩ := List.exists_cons_of_ne_nil hx
  cases p <;> rfl
theorem gapF_other {b : UInt8} (hb : b ≠ 32) (p : Bool) (x : List UInt8) : gapF p (b :: x) = (if p = true then [32] else []) ++ [b] ++ sqF false x := by
  cases p
  · rw [gapF_false, sq_other hb]; rfl
  · rw [gapF_true, sq_other hb]; rfl
theorem trimR_blank (t : List UInt8) : trimRightB (32 :: t) 32 = if trimRightB t 32 = [] then [] else 32 :: trimRightB t 32 := by
  rw [trimR_cons, if_pos (rfl : (32 : UInt8) = 32)]
theorem trimR_other {b : UInt8} (hb : b ≠ 32) (t : List UInt8) : trimRightB (b :: t) 32 = b :: trimRightB t 32 := by
  rw [trimR_cons, if_neg hb]
  by_cases h : trimRightB t 32 = []
  · rw [if_pos h, h]
  · rw [if_neg h]
/-- behind something that was written -/
theorem normF_some : ∀ (l out : List UInt8) (p : Bool), out ≠ [] → normF out p l = out ++ gapF p (trimRightB l 32)
  | [], out, p, _ => by
    rw [show trimRightB [] 32 = [] from rfl]
    exact (List.append_nil out).symm
  | b :: t, out, p, h => by
    unfold normF
    by_cases hb : b = 32
    · subst hb
      rw [if_pos rfl, normF_some t out true h, trimR_blank]
      by_cases ht : trimRightB t 32 = []
      · rw [if_pos ht, ht]; rfl
      · rw [if_neg ht, gapF_blank p ht]
    · rw [if_neg hb, normF_some t _ false (by simp), trimR_other hb, gapF_other hb, gapF_false]
      have e : (if p = true ∧ out ≠ [] then [32] else [] : List UInt8) = if p = true then [32] else [] := by
        cases p
        · rfl
        · rw [if_pos ⟨rfl, h⟩, if_pos rfl]
      rw [e]
      simp only [List.append_assoc]
theorem normF_none : ∀ (l : List UInt8) (p : Bool), normF [] p l = sqF false ((trimRightB l 32).dropWhile (· == 32))
  | [], p => rfl
  | b :: t, p => by
    unfold normF
    by_cases hb : b = 32
    · subst hb
      rw [if_pos rfl, normF_none t true, trimR_blank]
      by_cases ht : trimRightB t 32 = []
      · rw [if_pos ht, ht]
      · rw [if_neg ht, List.dropWhile_cons, if_pos (by decide)]
    · have hb2 : ¬ (b == 32) = true := fun e => hb (eq_of_beq e)
      rw [if_neg hb, normF_some t _ false (by simp), trimR_other hb, List.dropWhile_cons, if_neg hb2, sq_other hb, gapF_false, if_neg (fun h => h.2 rfl)]
      rfl
theorem norm_sq (l : List UInt8) : normL l = sqF false (trimB l 32) := normF_none l false
theorem dropWhile_len (c : UInt8) (l : List UInt8) : (l.dropWhile (· == c)).length ≤ l.length := (List.dropWhile_sublist _).length_le
theorem trim_len (l : List UInt8) : (trimB l 32).length ≤ l.length := by
  unfold trimB trimLeftB trimRightB
  have h1 := dropWhile_len 32 l.reverse
  have h2 := dropWhile_len 32 (l.reverse.dropWhile (· == (32 : UInt8))).reverse
  rw [List.length_reverse] at h1 h2
  omega
theorem sq_len : ∀ (p : Bool) (l : List UInt8), (sqF p l).length ≤ l.length
  | _, [] => Nat.le_refl _
  | p, b :: t => by
    have h1 := sq_len true t
    have h2 := sq_len false t
    unfold sqF
    split
    · split
      · rw [List.length_cons]; omega
      · rw [List.length_cons, List.length_cons]; omega
    · rw [List.length_cons, List.length_cons]; omega
/-- one character on: no blank -/
theorem sq_high : ∀ (k : Nat) (p : Bool) (l : List UInt8), (0 < k) → k ≤ l.length → (∀ j b, j < k → l[j]? = some b → b ≠ 32) → sqF p l = l.take k ++ sqF false (l.drop k)
  | 0, _, _, h0, _, _ => by omega
  | k + 1, p, [], _, h1, _ => by rw [List.length_nil] at h1; omega
  | k + 1, p, b :: t, _, h1, h => by
    have hb : b ≠ 32 := h 0 b (by omega) rfl
    have e : sqF p (b :: t) = b :: sqF false t := by simp [sqF, hb]
    rw [e, List.take_succ_cons, List.drop_succ_cons, List.cons_append]
    by_cases hk : k = 0
    · subst hk; simp
    · rw [← sq_high k false t (by omega) (by rw [List.length_cons] at h1; omega) fun j b hj hb => h (j + 1) b (by omega) (by rw [List.getElem?_cons_succ]; exact hb)]
/-- a piece between two places -/
def pieceV (l : List UInt8) (d k : Nat) : List UInt8 := (l.drop d).take (k - d)
theorem piece_self (l : List UInt8) (d : Nat) : pieceV l d d = [] := by unfold pieceV; simp
theorem piece_len (l : List UInt8) (d k : Nat) (hd : d ≤ k) (hk : k ≤ l.length) : (pieceV l d k).length = k - d := by unfold pieceV; rw [List.length_take, List.length_drop]; omega
theorem piece_more (l : List UInt8) (d k j : Nat) (hd : d ≤ k) (hk : k ≤ j) : pieceV l d j = pieceV l d k ++ (l.drop k).take (j - k) := by
  unfold pieceV
  rw [show j - d = (k - d) + (j - k) by omega, List.take_add, List.drop_drop, show d + (k - d) = k by omega]
theorem piece_end (l : List UInt8) (d : Nat) : pieceV l d l.length = l.drop d := by unfold pieceV; rw [← List.length_drop, List.take_length]
theorem drop_at {l : List UInt8} {k : Nat} {b : UInt8} (h : l[k]? = some b) : l.drop k = b :: l.drop (k + 1) := by
  obtain ⟨hk, rfl⟩ := List.getElem?_eq_some_iff.1 h
  exact List.drop_eq_getElem_cons hk

/-- WHERE Norm STANDS: o is written, the pieces from dn on are not, the last character was r -/
structure NormAt (t o : List UInt8) (dn pos : Nat) (r : Int) : Prop where
  le : dn ≤ pos
  lt : pos ≤ t.length
  short : o.length ≤ dn
  out : o ++ pieceV t dn pos ++ sqF (decide (r = 32)) (t.drop pos) = sqF false t
theorem NormAt.start (t : List UInt8) : NormAt t [] 0 0 0 := ⟨Nat.le_refl _, Nat.zero_le _, Nat.le_refl _, by rw [piece_self]; rfl⟩
/-- one character on -/
theorem NormAt.next {t o : List UInt8} {dn pos : Nat} {r : Int} (h : NormAt t o dn pos r) (hp : pos < t.length) (hr : ¬ ((decodeL (t.drop pos)).1 = 32 ∧ r = 32)) : NormAt t o dn (pos + (decodeL (t.drop pos)).2) ((decodeL (t.drop pos)).1 : Int) := by
  obtain ⟨h1, h2, h3⟩ := rune_at t pos hp
  have hle := h.le
  refine ⟨by omega, h2, h.short, ?_⟩
  rw [← h.out, piece_more t dn pos _ hle (by omega), List.append_assoc, List.append_assoc, List.append_assoc, List.append_cancel_left_eq, List.append_cancel_left_eq, show pos + (decodeL (t.drop pos)).2 - pos = (decodeL (t.drop pos)).2 by omega]
  rcases h3 with ⟨b, hb, hbn, hlt, hk⟩ | ⟨hhi, hall⟩
  · by_cases h32 : b = 32
    · have e32 : (decodeL (t.drop pos)).1 = 32 := by rw [← hbn, h32]; rfl
      have hr2 : ¬ r = 32 := fun e => hr ⟨e32, e⟩
      rw [e32, hk, drop_at hb, h32, sq_blank, decide_eq_false hr2, if_neg (by decide), decide_eq_true (by rfl)]
      simp
    · have e32 : ¬ (((decodeL (t.drop pos)).1 : Int) = 32) := by
        rw [← hbn]
        intro e
        exact h32 (UInt8.toNat_inj.1 (by show b.toNat = 32; omega))
      rw [decide_eq_false e32, hk, sq_high 1 (decide (r = 32)) (t.drop pos) (by omega) (by rw [List.length_drop]; omega) (fun j c hj hc => by
        obtain rfl : j = 0 := by omega
        rw [List.getElem?_drop, Nat.add_zero, hb] at hc
        injection hc with hc
        rw [← hc]; exact h32), List.drop_drop]
  · have e32 : ¬ (((decodeL (t.drop pos)).1 : Int) = 32) := by omega
    rw [decide_eq_false e32, sq_high (decodeL (t.drop pos)).2 (decide (r = 32)) (t.drop pos) (by omega) (by rw [List.length_drop]; omega) (fun j c hj hc => by
      rw [List.getElem?_drop] at hc
      obtain ⟨b, hb, h128⟩ := hall (pos + j) (by omega) (by omega)
      rw [hb] at hc
      injection hc with hc
      intro e
      rw [← hc] at e
      subst e
      revert h128
      decide), List.drop_drop]
/-- a blank behind a blank: what was passed over is written -/
theorem NormAt.skip {t o : List UInt8} {dn pos : Nat} {r : Int} (h : NormAt t o dn pos r) (hp : pos < t.length) (hr : (decodeL (t.drop pos)).1 = 32) (hr2 : r = 32) : (decodeL (t.drop pos)).2 = 1 ∧ NormAt t (o ++ pieceV t dn pos) (pos + 1) (pos + 1) 32 := by
  obtain ⟨h1, h2, h3⟩ := rune_at t pos hp
  have hle := h.le
  have hsh := h.short
  rcases h3 with ⟨b, hb, hbn, hlt, hk⟩ | ⟨hhi, hall⟩
  · have h32 : b = 32 := UInt8.toNat_inj.1 (by show b.toNat = 32; omega)
    refine ⟨hk, Nat.le_refl _, by omega, by rw [List.length_append, piece_len t dn pos hle (by omega)]; omega, ?_⟩
    rw [← h.out, piece_self, List.append_nil, drop_at hb, h32, sq_blank, if_pos (by rw [hr2]; rfl)]
    rfl
  · omega
/-- at the end the rest is written -/
theorem NormAt.done {t o : List UInt8} {dn : Nat} {r : Int} (h : NormAt t o dn t.length r) : o ++ t.drop dn = sqF false t := by
  rw [← h.out, piece_end, List.drop_length, sqF, List.append_nil]

/-! ### written -/
/-- what is written in place of a character; none: it stands for itself -/
def escP (attr : Bool) (r : Int) : List UInt8 :=
  if r = 38 then [38, 97, 109, 112, 59] else if r = 60 then [38, 108, 116, 59] else if r = 62 ∧ attr = false then [38, 103, 116, 59] else if r = 13 then [38, 35, 49, 51, 59]
  else if r = 34 ∧ attr = true then [38, 113, 117, 111, 116, 59] else if r = 9 ∧ attr = true then [38, 35, 57, 59] else if r = 10 ∧ attr = true then [38, 35, 49, 48, 59] else []
theorem u8_int (b c : UInt8) : ((b.toNat : Int) = (c.toNat : Int)) ↔ b = c := ⟨fun h => UInt8.toNat_inj.1 (by omega), fun h => by rw [h]⟩
theorem escB_P (attr : Bool) (b : UInt8) : escB attr b = if escP attr (b.toNat : Int) = [] then [b] else escP attr (b.toNat : Int) := by
  have h38 := u8_int b 38
  have h60 := u8_int b 60
  have h62 := u8_int b 62
  have h13 := u8_int b 13
  have h34 := u8_int b 34
  have h9 := u8_int b 9
  have h10 := u8_int b 10
  unfold escB escP
  simp only [show ((38 : UInt8).toNat : Int) = 38 from rfl] at h38
  simp only [show ((60 : UInt8).toNat : Int) = 60 from rfl] at h60
  simp only [show ((62 : UInt8).toNat : Int) = 62 from rfl] at h62
  simp only [show ((13 : UInt8).toNat : Int) = 13 from rfl] at h13
  simp only [show ((34 : UInt8).toNat : Int) = 34 from rfl] at h34
  simp only [show ((9 : UInt8).toNat : Int) = 9 from rfl] at h9
  simp only [show ((10 : UInt8).toNat : Int) = 10 from rfl] at h10
  simp only [h38, h60, h62, h13, h34, h9, h10]
  repeat' split
  all_goals simp_all
theorem escP_high (attr : Bool) (r : Int) (h : 128 ≤ r) : escP attr r = [] := by
  unfold escP
  rw [if_neg (by omega), if_neg (by omega), if_neg (by omega), if_neg (by omega), if_neg (by omega), if_neg (by omega), if_neg (by omega)]
theorem escB_high (attr : Bool) (b : UInt8) (h : 128 ≤ b.toNat) : escB attr b = [b] := by rw [escB_P, if_pos (escP_high _ _ (by omega))]
theorem escP_len (attr : Bool) (r : Int) : (escP attr r).length ≤ 6 := by
  unfold escP
  repeat' split
  all_goals decide
theorem escL_high (attr : Bool) : ∀ (l : List UInt8), (∀ b ∈ l, 128 ≤ b.toNat) → escL attr l = l
  | [], _ => rfl
  | b :: t, h => by
    show escB attr b ++ escL attr t = b :: t
    rw [escB_high attr b (h b (List.mem_cons_self ..)), escL_high attr t fun c hc => h c (List.mem_cons_of_mem _ hc)]
    rfl
theorem escL_app (attr : Bool) (a b : List UInt8) : escL attr (a ++ b) = escL attr a ++ escL attr b := List.flatMap_append
theorem escL_len (attr : Bool) : ∀ l : List UInt8, (escL attr l).length ≤ 6 * l.length
  | [] => Nat.le_refl _
  | b :: t => by
    have h1 := escL_len attr t
    have h2 : (escB attr b).length ≤ 6 := by
      rw [escB_P]
      split
      · exact (by decide : 1 ≤ 6)
      · exact escP_len _ _
    show (escB attr b ++ escL attr t).length ≤ _
    rw [List.length_append, List.length_cons]
    omega
/-- WHERE the writing STANDS: o is written, the piece from dn on is not -/
structure EscAt (attr : Bool) (s o : List UInt8) (dn pos : Nat) : Prop where
  le : dn ≤ pos
  lt : pos ≤ s.length
  short : o.length ≤ 6 * dn
  out : o ++ pieceV s dn pos ++ escL attr (s.drop pos) = escL attr s
theorem EscAt.start (attr : Bool) (s : List UInt8) : EscAt attr s [] 0 0 := ⟨Nat.le_refl _, Nat.zero_le _, Nat.zero_le _, by rw [piece_self]; rfl⟩
theorem EscAt.next {attr : Bool} {s o : List UInt8} {dn pos : Nat} (h : EscAt attr s o dn pos) (hp : pos < s.length) (hr : escP attr ((decodeL (s.drop pos)).1 : Int) = []) : EscAt attr s o dn (pos + (decodeL (s.drop pos)).2) := by
  obtain ⟨h1, h2, h3⟩ := rune_at s pos hp
  have hle := h.le
  refine ⟨by omega, h2, h.short, ?_⟩
  rw [← h.out, piece_more s dn pos _ hle (by omega), List.append_assoc, List.append_assoc, List.append_assoc, List.append_cancel_left_eq, List.append_cancel_left_eq, show pos + (decodeL (s.drop pos)).2 - pos = (decodeL (s.drop pos)).2 by omega]
  have e : escL attr ((s.drop pos).take (decodeL (s.drop pos)).2) = (s.drop pos).take (decodeL (s.drop pos)).2 := by
    rcases h3 with ⟨b, hb, hbn, hlt, hk⟩ | ⟨hhi, hall⟩
    · rw [hk, drop_at hb]
      show escB attr b ++ [] = [b]
      rw [escB_P, if_pos (by rw [hbn]; exact hr)]
      rfl
    · refine escL_high attr _ fun b hb => ?_
      obtain ⟨j, hj, rfl⟩ := List.getElem_of_mem hb
      rw [List.length_take, List.length_drop] at hj
      obtain ⟨c, hc, h128⟩ := hall (pos + j) (by omega) (by omega)
      rw [List.getElem_take, List.getElem_drop]
      rw [List.getElem?_eq_getElem (by omega)] at hc
      injection hc with hc
      rw [hc]; exact h128
  have e2 : s.drop pos = (s.drop pos).take (decodeL (s.drop pos)).2 ++ s.drop (pos + (decodeL (s.drop pos)).2) := by
    rw [← List.drop_drop, List.take_append_drop]
  have e3 : escL attr (s.drop pos) = (s.drop pos).take (decodeL (s.drop pos)).2 ++ escL attr (s.drop (pos + (decodeL (s.drop pos)).2)) := by
    have e4 := congrArg (escL attr) e2
    rw [escL_app, e] at e4
    exact e4
  exact e3.symm
theorem EscAt.put {attr : Bool} {s o : List UInt8} {dn pos : Nat} (h : EscAt attr s o dn pos) (hp : pos < s.length) (hr : escP attr ((decodeL (s.drop pos)).1 : Int) ≠ []) :
    (decodeL (s.drop pos)).2 = 1 ∧ (decodeL (s.drop pos)).1 < 128 ∧ EscAt attr s (o ++ pieceV s dn pos ++ escP attr ((decodeL (s.drop pos)).1 : Int)) (pos + 1) (pos + 1) := by
  obtain ⟨h1, h2, h3⟩ := rune_at s pos hp
  have hle := h.le
  have hsh := h.short
  rcases h3 with ⟨b, hb, hbn, hlt, hk⟩ | ⟨hhi, hall⟩
  · refine ⟨hk, hlt, Nat.le_refl _, by omega, ?_, ?_⟩
    · have := escP_len attr ((decodeL (s.drop pos)).1 : Int)
      rw [List.length_append, List.length_append, piece_len s dn pos hle (by omega)]
      omega
    · rw [← h.out, piece_self, List.append_nil, drop_at hb]
      show _ = o ++ pieceV s dn pos ++ (escB attr b ++ escL attr (s.drop (pos + 1)))
      rw [← hbn] at hr
      rw [escB_P, if_neg hr, ← drop_at hb, ← hbn, List.append_assoc]
  · exact absurd (escP_high attr _ (by omega)) hr
theorem EscAt.done {attr : Bool} {s o : List UInt8} {dn : Nat} (h : EscAt attr s o dn s.length) : o ++ s.drop dn = escL attr s := by
  rw [← h.out, piece_end, List.drop_length]
  exact (List.append_nil _).symm
end Go.Proofs.YtjijjmkeehdooaaGreatDoor
