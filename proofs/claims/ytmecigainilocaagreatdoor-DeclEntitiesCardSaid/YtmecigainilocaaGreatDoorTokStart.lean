/-
  PLAIN MATHEMATICS FOR LAYER 10: the pieces in a reader's words: what is taken, and what is left behind it (..P); they are the document's.
-/
import Derived.Test.YtmecigainilocaaGreatDoorTokName
namespace Go.Proofs.YtmecigainilocaaGreatDoor
open Go Go.Lib

def rst {α : Type} (l : List UInt8) (d : Option (α × Nat)) : Option (α × List UInt8) := d.map fun x => (x.1, l.drop x.2)
def commentP (r : List UInt8) : Option (Tok × List UInt8) :=
  (findL [45, 45] r).bind fun k => if swB [62] (r.drop (k + 2)) = true then some (⟨4, ⟨#[]⟩, bytes (r.take k), [], false⟩, r.drop (k + 2 + 1)) else none
def cdataP (r : List UInt8) : Option (Tok × List UInt8) :=
  (findL [93, 93, 62] r).bind fun k => some (⟨6, ⟨#[]⟩, bytes (r.take k), [], false⟩, r.drop (k + 3))
def piP (r : List UInt8) : Option (Tok × List UInt8) :=
  let s := r.drop (whN partB r)
  if targetL (nameT r) = true then
    (if swB [63, 62] s = true then some (⟨5, bytes (nameT r), ⟨#[]⟩, [], false⟩, s.drop 2)
     else if gapL s = 0 then none
     else (findL [63, 62] (s.drop (gapL s))).bind fun k => some (⟨5, bytes (nameT r), bytes ((s.drop (gapL s)).take k), [], false⟩, (s.drop (gapL s)).drop (k + 2)))
  else none
def endP (r : List UInt8) : Option (Tok × List UInt8) :=
  let s := r.drop (whN partB r)
  if isName (nameT r) = true ∧ swB [62] (s.drop (gapL s)) = true then some (⟨3, bytes (nameT r), ⟨#[]⟩, [], false⟩, (s.drop (gapL s)).drop 1) else none
def charP (r : List UInt8) : Option (Tok × List UInt8) :=
  (findL [59] r).bind fun k => (refV (r.take k)).bind fun c => some (⟨7, ⟨#[]⟩, Utf8.encode (c : Int), [], false⟩, r.drop (k + 1))
def refP (r : List UInt8) : Option (Tok × List UInt8) :=
  if ncL (nameT r) = true ∧ swB [59] (r.drop (whN partB r)) = true then some (⟨8, bytes (nameT r), ⟨#[]⟩, [], false⟩, (r.drop (whN partB r)).drop 1) else none
def plainP (r : List UInt8) : Option (Tok × List UInt8) :=
  if findL [93, 93, 62] (r.take (plainN r)) = none then some (⟨1, ⟨#[]⟩, bytes (r.take (plainN r)), [], false⟩, r.drop (plainN r)) else none
def quoteP (r : List UInt8) : Option (List UInt8 × List UInt8) :=
  match r with
  | [] => none
  | q :: t => if q = 34 ∨ q = 39 then (if swB [q] (t.drop (leadN (valU q) t)) = true then some (t.take (leadN (valU q) t), (t.drop (leadN (valU q) t)).drop 1) else none) else none
def attrP (r : List UInt8) : Option ((ByteArray × ByteArray) × List UInt8) :=
  let s := r.drop (whN partB r)
  let u := s.drop (gapL s)
  if isName (nameT r) = true ∧ swB [61] u = true then (quoteP ((u.drop 1).drop (gapL (u.drop 1)))).bind fun x => some ((bytes (nameT r), bytes x.1), x.2) else none
def attrsR (l : List UInt8) : Option (List (ByteArray × ByteArray) × Bool × List UInt8) := (attrsL l.length l).map fun x => (x.1, x.2.1, l.drop x.2.2)
def startP (r : List UInt8) : Option (Tok × List UInt8) :=
  if isName (nameT r) = true then (attrsR (r.drop (whN partB r))).bind fun x => some (⟨2, bytes (nameT r), ⟨#[]⟩, x.1, x.2.1⟩, x.2.2) else none
def nextP (l : List UInt8) : Option (Tok × List UInt8) :=
  if swB [60, 33, 45, 45] l = true then commentP (l.drop 4)
  else if swB [60, 33, 91, 67, 68, 65, 84, 65, 91] l = true then cdataP (l.drop 9)
  else if swB [60, 63] l = true then piP (l.drop 2)
  else if swB [60, 47] l = true then endP (l.drop 2)
  else if swB [60] l = true then startP (l.drop 1)
  else if swB [38, 35] l = true then charP (l.drop 2)
  else if swB [38] l = true then refP (l.drop 1)
  else plainP l

theorem some_eq {α β : Type} {a b : α} {x y : β} (h1 : a = b) (h2 : x = y) : some (a, x) = some (b, y) := by rw [h1, h2]
theorem rst_comment (l : List UInt8) : rst l (commentL l) = commentP (l.drop 4) := by
  rw [comment_is]
  unfold rst commentP
  simp only [List.drop_drop]
  cases findL [45, 45] (l.drop 4) with
  | none => rfl
  | some k =>
    rw [Option.bind_some, Option.bind_some, ← Nat.add_assoc]
    split
    · exact some_eq rfl (congrArg (fun n => l.drop n) (by show 4 + k + 3 = 4 + (k + 2 + 1); omega))
    · rfl
theorem rst_cdata (l : List UInt8) : rst l (cdataL l) = cdataP (l.drop 9) := by
  unfold rst cdataL cdataP
  simp only [List.drop_drop]
  cases findL [93, 93, 62] (l.drop 9) with
  | none => rfl
  | some k => exact some_eq rfl (congrArg (fun n => l.drop n) (by show 9 + k + 3 = 9 + (k + 3); omega))
theorem rst_pi (l : List UInt8) : rst l (piL l) = piP (l.drop 2) := by
  rw [pi_is]
  unfold rst piP
  simp only [List.drop_drop]
  split
  · split
    · rfl
    · split
      · rfl
      · cases findL [63, 62] (l.drop (2 + whN partB (l.drop 2) + gapL (l.drop (2 + whN partB (l.drop 2))))) with
        | none => rfl
        | some k => exact some_eq rfl (congrArg (fun n => l.drop n) (Nat.add_assoc _ k 2))
  · rfl
theorem rst_end (l : List UInt8) : rst l (endL l) = endP (l.drop 2) := by
  rw [end_is]
  unfold rst endP
  simp only [List.drop_drop]
  split <;> rfl
theorem rst_char (t : List UInt8) : rst (38 :: 35 :: t) (refL (38 :: 35 :: t)) = charP t := by
  rw [char_is]
  unfold rst charP
  cases findL [59] t with
  | none => rfl
  | some k =>
    rw [Option.bind_some, Option.bind_some]
    cases refV (t.take k) with
    | none => rfl
    | some c => exact some_eq rfl (by show (38 :: 35 :: t).drop (2 + k + 1) = t.drop (k + 1); rw [show 2 + k + 1 = (k + 1) + 2 by omega]; rfl)
theorem rst_ref (t : List UInt8) (h35 : t[0]? ≠ some 35) : rst (38 :: t) (refL (38 :: t)) = refP t := by
  rw [ref_is t h35]
  unfold rst refP
  split
  · exact some_eq rfl (by show (38 :: t).drop (1 + whN partB t + 1) = (t.drop (whN partB t)).drop 1; rw [List.drop_drop, show 1 + whN partB t + 1 = (whN partB t + 1) + 1 by omega]; rfl)
  · rfl
theorem rst_text (l : List UInt8) : rst l (textL l) = plainP l := by
  unfold rst textL plainP
  simp only
  split <;> rfl

/-! ### attributes -/
theorem quote_is (r : List UInt8) : ((literalL r).bind fun v => if v.1.contains 60 = true then none else some v) = (quoteP r).map fun x => (x.1, r.length - x.2.length) := by
  unfold literalL quoteP
  match r with
  | [] => rfl
  | q :: t =>
    simp only
    by_cases hq : q = 34 ∨ q = 39
    · rw [if_pos hq, if_pos hq]
      have hv := val_is q t
      have hle := lead_le (valU q) t
      generalize leadN (valU q) t = m at *
      by_cases hs : swB [q] (t.drop m) = true
      · rw [if_pos hs] at hv
        have hlt := sw_length hs
        rw [List.length_drop] at hlt
        simp at hlt
        cases hf : findL [q] t with
        | none => rw [hf] at hv; cases hv
        | some k =>
          rw [hf, Option.bind_some] at hv
          rw [Option.bind_some, Option.bind_some]
          split at hv
          · cases hv
          · rename_i hc
            injection hv with hv
            subst hv
            rw [if_neg hc, if_pos hs]
            show some (_, k + 2) = some (_, _)
            rw [List.length_drop, List.length_drop]
            congr 2
            simp
            omega
      · rw [if_neg hs] at hv
        rw [if_neg hs]
        cases hf : findL [q] t with
        | none => rfl
        | some k =>
          rw [hf, Option.bind_some] at hv
          rw [Option.bind_some, Option.bind_some]
          split at hv
          · rename_i hc
            rw [if_pos hc]; rfl
          · cases hv
    · rw [if_neg hq, if_neg hq]; rfl
theorem quote_rest {r : List UInt8} {x : List UInt8 × List UInt8} (h : quoteP r = some x) : r.drop (r.length - x.2.length) = x.2 := by
  unfold quoteP at h
  match r, h with
  | q :: t, h =>
    simp only at h
    split at h
    · split at h
      · rename_i hs
        have hlt := sw_length hs
        rw [List.length_drop] at hlt
        simp at hlt
        injection h with h
        subst h
        show (q :: t).drop ((q :: t).length - ((t.drop (leadN (valU q) t)).drop 1).length) = (t.drop (leadN (valU q) t)).drop 1
        rw [List.drop_drop, List.length_drop]
        have : (q :: t).length - (t.length - (leadN (valU q) t + 1)) = (leadN (valU q) t + 1) + 1 := by simp; omega
        rw [this]
        rfl
      · cases h
    · cases h
theorem rst_attr (l : List UInt8) : rst l (attrL l) = attrP l := by
  unfold attrL attrP
  simp only [List.drop_drop]
  by_cases h : isName (nameT l) = true
  · obtain ⟨h1, h2⟩ := name_yes h
    rw [h1]
    by_cases hs : swB [61] (l.drop (whN partB l + gapL (l.drop (whN partB l)))) = true
    · rw [if_pos ⟨h2, hs⟩, if_pos ⟨h, hs⟩]
      generalize whN partB l + gapL (l.drop (whN partB l)) + 1 + gapL (l.drop (whN partB l + gapL (l.drop (whN partB l)) + 1)) = z
      have hq := quote_is (l.drop z)
      cases hp : quoteP (l.drop z) with
      | none =>
        rw [hp] at hq
        cases hl : literalL (l.drop z) with
        | none => rfl
        | some v =>
          rw [hl, Option.bind_some] at hq
          split at hq
          · rename_i hc
            rw [Option.bind_some, if_pos hc]; rfl
          · cases hq
      | some x =>
        rw [hp] at hq
        have hr := quote_rest hp
        cases hl : literalL (l.drop z) with
        | none => rw [hl] at hq; cases hq
        | some v =>
          rw [hl, Option.bind_some] at hq
          split at hq
          · cases hq
          · rename_i hc
            injection hq with hq
            rw [Option.bind_some, if_neg hc, hq]
            exact some_eq rfl (by show l.drop (z + _) = x.2; rw [← List.drop_drop, hr])
    · rw [if_neg (fun e => hs e.2), if_neg (fun e => hs e.2)]; rfl
  · have hr : ¬ (isName (nameT l) = true ∧ swB [61] (l.drop (whN partB l + gapL (l.drop (whN partB l)))) = true) := fun e => h e.1
    rw [if_neg hr, if_neg]
    · rfl
    · rintro ⟨h1, h2⟩
      rcases name_no (by rw [Bool.eq_false_iff]; exact h) with h3 | h3
      · exact h1 h3
      · rw [wild_gap h3, Nat.add_zero, wild_sw h3 (by decide)] at h2
        cases h2
theorem attr_pos {l : List UInt8} {a : ByteArray × ByteArray} {n : Nat} (h : attrL l = some (a, n)) : n ≤ l.length := attr_len h
theorem attrs_fuel : ∀ (f g : Nat) (l : List UInt8), l.length ≤ f → l.length ≤ g → attrsL f l = attrsL g l
  | 0, 0, _, _, _ => rfl
  | 0, g + 1, l, h, _ => by
    obtain rfl : l = [] := List.eq_nil_of_length_eq_zero (by omega)
    rfl
  | f + 1, 0, l, _, h => by
    obtain rfl : l = [] := List.eq_nil_of_length_eq_zero (by omega)
    rfl
  | f + 1, g + 1, l, hf, hg => by
    unfold attrsL
    simp only
    split
    · rfl
    · split
      · rfl
      · split
        · rfl
        · rename_i h0
          cases ha : attrL (l.drop (gapL l)) with
          | none => rfl
          | some a =>
            rw [Option.bind_some, Option.bind_some, attrs_fuel f g (l.drop (gapL l + a.2)) (by rw [List.length_drop]; omega) (by rw [List.length_drop]; omega)]
theorem attrsL_succ (f : Nat) (l : List UInt8) : attrsL (f + 1) l = if swB [62] (l.drop (gapL l)) = true then some ([], false, gapL l + 1)
    else if swB [47, 62] (l.drop (gapL l)) = true then some ([], true, gapL l + 2)
    else if gapL l = 0 then none
    else (attrL (l.drop (gapL l))).bind fun a => (attrsL f (l.drop (gapL l + a.2))).bind fun r => some (a.1 :: r.1, r.2.1, gapL l + a.2 + r.2.2) := rfl
theorem attrsR_step (l : List UInt8) : attrsR l =
    if swB [47, 62] (l.drop (gapL l)) = true then some ([], true, (l.drop (gapL l)).drop 2)
    else if swB [62] (l.drop (gapL l)) = true then some ([], false, (l.drop (gapL l)).drop 1)
    else if gapL l = 0 then none
    else (attrP (l.drop (gapL l))).bind fun a => (attrsR a.2).bind fun r => some (a.1 :: r.1, r.2.1, r.2.2) := by
  unfold attrsR
  rw [attrs_fuel l.length (l.length + 1) l (Nat.le_refl _) (by omega), attrsL_succ]
  by_cases h1 : swB [62] (l.drop (gapL l)) = true
  · have h2 : ¬ swB [47, 62] (l.drop (gapL l)) = true := by
      rw [sw_one] at h1
      rw [sw_two]
      rintro ⟨e, _⟩
      rw [h1] at e
      revert e; decide
    rw [if_pos h1, if_neg h2, if_pos h1, List.drop_drop]
    rfl
  · rw [if_neg h1, if_neg h1]
    by_cases h2 : swB [47, 62] (l.drop (gapL l)) = true
    · rw [if_pos h2, if_pos h2, List.drop_drop]
      rfl
    · rw [if_neg h2, if_neg h2]
      by_cases h0 : gapL l = 0
      · rw [if_pos h0, if_pos h0]; rfl
      · rw [if_neg h0, if_neg h0, ← rst_attr]
        unfold rst
        cases ha : attrL (l.drop (gapL l)) with
        | none => rfl
        | some a =>
          rw [Option.bind_some, Option.map_some, Option.bind_some]
          simp only [List.drop_drop]
          rw [attrs_fuel l.length (l.drop (gapL l + a.2)).length (l.drop (gapL l + a.2)) (by rw [List.length_drop]; omega) (Nat.le_refl _)]
          cases attrsL (l.drop (gapL l + a.2)).length (l.drop (gapL l + a.2)) with
          | none => rfl
          | some r => rfl
theorem rst_start (l : List UInt8) (hl : l ≠ []) : rst l (startL l) = startP (l.drop 1) := by
  have hlen : 0 < l.length := List.length_pos_iff.2 hl
  unfold rst startL startP
  simp only
  by_cases h : isName (nameT (l.drop 1)) = true
  · obtain ⟨h1, h2⟩ := name_yes h
    rw [h1, if_pos h2, if_pos h, List.drop_drop]
    unfold attrsR
    rw [attrs_fuel l.length (l.drop (1 + whN partB (l.drop 1))).length _ (by rw [List.length_drop]; omega) (Nat.le_refl _)]
    cases attrsL (l.drop (1 + whN partB (l.drop 1))).length (l.drop (1 + whN partB (l.drop 1))) with
    | none => rfl
    | some r =>
      show some (_, l.drop (1 + whN partB (l.drop 1) + r.2.2)) = some (_, (l.drop (1 + whN partB (l.drop 1))).drop r.2.2)
      rw [List.drop_drop]
      rfl
  · rw [if_neg h]
    rcases name_no (by rw [Bool.eq_false_iff]; exact h) with h3 | h3
    · rw [if_neg (by rw [h3]; decide)]; rfl
    · rw [List.drop_drop] at h3
      split
      · have ha : attrsL l.length (l.drop (1 + nameN (l.drop 1))) = none := by
          obtain ⟨f, hf⟩ : ∃ f, l.length = f + 1 := ⟨l.length - 1, by omega⟩
          rw [hf]
          unfold attrsL
          simp only
          rw [wild_gap h3, List.drop_zero, if_neg (by rw [wild_sw h3 (by decide)]; decide), if_neg (by rw [wild_sw h3 (by decide)]; decide), if_pos rfl]
        rw [ha]; rfl
      · rfl
/-- THE READER's PIECE IS THE DOCUMENT's. -/
theorem nextP_is (l : List UInt8) (hl : l ≠ []) : nextP l = rst l (nextL l) := by
  unfold nextP nextL
  by_cases h1 : swB [60, 33, 45, 45] l = true
  · rw [if_pos h1, if_pos h1, rst_comment]
  · rw [if_neg h1, if_neg h1]
    by_cases h2 : swB [60, 33, 91, 67, 68, 65, 84, 65, 91] l = true
    · rw [if_pos h2, if_pos h2, rst_cdata]
    · rw [if_neg h2, if_neg h2]
      by_cases h3 : swB [60, 63] l = true
      · rw [if_pos h3, if_pos h3, rst_pi]
      · rw [if_neg h3, if_neg h3]
        by_cases h4 : swB [60, 47] l = true
        · rw [if_pos h4, if_pos h4, rst_end]
        · rw [if_neg h4, if_neg h4]
          by_cases h5 : swB [60] l = true
          · rw [if_pos h5, if_pos h5, rst_start l hl]
          · rw [if_neg h5, if_neg h5]
            by_cases h6 : swB [38, 35] l = true
            · obtain ⟨t, rfl⟩ := (sw_iff _ _).1 h6
              rw [if_pos h6, if_pos (show swB [38] ([38, 35] ++ t) = true from (sw_iff _ _).2 ⟨35 :: t, rfl⟩)]
              exact (rst_char t).symm
            · rw [if_neg h6]
              by_cases h7 : swB [38] l = true
              · obtain ⟨t, rfl⟩ := (sw_iff _ _).1 h7
                rw [if_pos h7, if_pos h7]
                refine (rst_ref t fun e => h6 ?_).symm
                rw [sw_two]
                exact ⟨rfl, e⟩
              · rw [if_neg h7, if_neg h7, rst_text]

/-! ### numbers -/
/-- a digit's value; 16: it is none -/
def digV (c : Int) : Int := if 48 ≤ c ∧ c ≤ 57 then c - 48 else if 65 ≤ c ∧ c ≤ 70 then c - 55 else if 97 ≤ c ∧ c ≤ 102 then c - 87 else 16
def digU (base : Nat) (b : UInt8) : Option Nat := if digV (b.toNat : Int) < (base : Int) then some (digV (b.toNat : Int)).toNat else none
theorem digV_bounds (c : Int) : 0 ≤ digV c ∧ digV c ≤ 16 := by
  unfold digV
  repeat' split
  all_goals omega
theorem dec_digU : decV = digU 10 := by
  funext b
  unfold decV digU digV
  repeat' split
  all_goals first | omega | rfl | (congr 1; omega) | skip
theorem hex_digU : hexV = digU 16 := by
  funext b
  unfold hexV digU digV
  repeat' split
  all_goals first | omega | rfl | (congr 1; omega) | skip
theorem num_ge (dig : UInt8 → Option Nat) (base : Nat) (hb : 1 ≤ base) : ∀ (l : List UInt8) (a r : Nat), numL dig base a l = some r → a ≤ r
  | [], a, r, h => by injection h with h; omega
  | b :: t, a, r, h => by
    unfold numL at h
    split at h
    · cases h
    · rename_i x _
      have := num_ge dig base hb t _ r h
      have h2 : a * 1 ≤ a * base := Nat.mul_le_mul_left a hb
      omega
/-- the character of a number, in a base -/
def numV (base : Nat) (l : List UInt8) : Option Nat := (numL (digU base) base 0 l).bind fun r => if charB (r : Int) = true then some r else none
theorem char_zero : charB 0 = false := by decide
theorem refV_is (d : List UInt8) : refV d = if swB [120] d = true then numV 16 (d.drop 1) else numV 10 d := by
  have h0 : ∀ base, numV base [] = none := fun base => by
    unfold numV
    rw [show numL (digU base) base 0 [] = some 0 from rfl, Option.bind_some, if_neg (by rw [show ((0 : Nat) : Int) = 0 from rfl, char_zero]; decide)]
  match d with
  | [] =>
    rw [if_neg (by decide), h0]; rfl
  | b :: t =>
    by_cases hb : b = 120
    · subst hb
      rw [if_pos (show swB [120] (120 :: t) = true from (sw_iff _ _).2 ⟨t, rfl⟩)]
      match t with
      | [] => exact (h0 16).symm
      | c :: u => show (numL hexV 16 0 (c :: u)).bind _ = _; rw [hex_digU]; rfl
    · rw [if_neg (by rw [sw_head (fun e => hb e.symm)]; decide)]
      unfold refV
      split
      · rename_i e; cases e
      · rename_i e; injection e with e _; exact absurd e hb
      · rename_i e; injection e with e _; exact absurd e hb
      · rw [dec_digU]; rfl
theorem num_big (base : Nat) (hb : 1 ≤ base) (l : List UInt8) (a : Nat) (ha : 1114111 < a) : ((numL (digU base) base a l).bind fun r => if charB (r : Int) = true then some r else none) = none := by
  cases h : numL (digU base) base a l with
  | none => rfl
  | some r =>
    have := num_ge _ base hb l a r h
    rw [Option.bind_some, if_neg]
    unfold charB inB
    simp only [Bool.or_eq_true, Bool.and_eq_true, beq_iff_eq, decide_eq_true_eq]
    omega
end Go.Proofs.YtmecigainilocaaGreatDoor
