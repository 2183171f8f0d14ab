/-
  PLAIN MATHEMATICS FOR LAYER 13 (attributes' values): what a value is, in the document's words, over rows of bytes: read (with entities in entities, as deep as D at most), of tokens, written. No program stands in this text.
  PLAIN MATHEMATICS FOR LAYER 13: a value that is read with the texts that are begun held in a list (the innermost ahead): where it stands (contV), and what each step makes of that. No program stands in this text.
-/
import Derived.Test.YtjijjmkeehdooaaGreatDoorRefsDefs
import Derived.Test.YtjijjmkeehdooaaGreatDoorTokDefs
import Derived.Laws.Cover4
namespace Go.Proofs.YtjijjmkeehdooaaGreatDoor
open Go Go.Lib

/-- a space is a blank -/
def spB (b : UInt8) : UInt8 := if spaceU b = true then 32 else b
/-- what has been read, the code, how references stand then -/
abbrev VRes := List UInt8 × Int × RefD
/-- a reference's answer, of what is behind it -/
def stepV (rec : RefD → List UInt8 → VRes) (most : Int) (r : RefD) (x : List UInt8) : VRes :=
  match fiveL x with
  | some c => ([c], 0, r)
  | none =>
    if (openT r x most).2 = 3 then ([], 3, openS r x most)
    else if (openT r x most).2 ≠ 0 then ([], 2, openS r x most)
    else let v := rec (openS r x most) (openT r x most).1
      if v.2.1 ≠ 0 then ([], v.2.1, v.2.2) else (v.1, 0, closeS v.2.2 x)
/-- from the left; rec: how the text of an entity is read -/
def loopV (rec : RefD → List UInt8 → VRes) (most : Int) (ins : Bool) : Nat → List UInt8 → RefD → List UInt8 → VRes
  | 0, out, r, _ => (out, 0, r)
  | _ + 1, out, r, [] => (out, 0, r)
  | f + 1, out, r, b :: t =>
    if b = 60 ∧ ins = true then ([], 2, r)
    else if b ≠ 38 then loopV rec most ins f (out ++ [spB b]) r t
    else match refL (b :: t) with
      | none => ([], 2, r)
      | some (k, n) =>
        if k.kind = 7 then loopV rec most ins f (out ++ k.text.data.toList) r ((b :: t).drop n)
        else
          let v := stepV rec most r k.name.data.toList
          if v.2.1 ≠ 0 then ([], v.2.1, v.2.2) else loopV rec most ins f (out ++ v.1) v.2.2 ((b :: t).drop n)
/-- an entity's text -/
def valD (most : Int) : Nat → RefD → List UInt8 → VRes
  | 0, r, _ => ([], 2, r)
  | d + 1, r, s => loopV (valD most d) most true s.length [] r s
/-- ahead of Norm -/
def rawV (D : Nat) (r : RefD) (raw : List UInt8) (most : Int) (ins : Bool) : VRes := loopV (valD most D) most ins raw.length [] r raw
/-- blanks at both ends go, those that follow one another are one -/
def normF : List UInt8 → Bool → List UInt8 → List UInt8
  | out, _, [] => out
  | out, p, b :: t => if b = 32 then normF out true t else normF (out ++ (if p = true ∧ out ≠ [] then [32] else []) ++ [b]) false t
def normL (s : List UInt8) : List UInt8 := normF [] false s
/-- Read -/
def readV (D : Nat) (r : RefD) (raw : List UInt8) (kind most : Int) : VRes :=
  let v := rawV D r raw most false
  if v.2.1 ≠ 0 then ([], v.2.1, v.2.2) else (if kind = 2 then normL v.1 else v.1, 0, v.2.2)
/-- what is written of a byte: in an attribute or not -/
def escB (attr : Bool) (b : UInt8) : List UInt8 :=
  if b = 38 then [38, 97, 109, 112, 59] else if b = 60 then [38, 108, 116, 59] else if b = 62 ∧ attr = false then [38, 103, 116, 59] else if b = 13 then [38, 35, 49, 51, 59]
  else if b = 34 ∧ attr = true then [38, 113, 117, 111, 116, 59] else if b = 9 ∧ attr = true then [38, 35, 57, 59] else if b = 10 ∧ attr = true then [38, 35, 49, 48, 59] else [b]
def escL (attr : Bool) (s : List UInt8) : List UInt8 := s.flatMap (escB attr)

/-! ### how deep it may go -/
/-- the names that are not open, and stand for something, are D at most -/
def RoomD (r : RefD) (D : Nat) : Prop := ∃ m : List (List UInt8), m.length ≤ D ∧ ∀ x, r.look x ≠ none → x ∈ m ∨ x ∈ r.opened
theorem RoomD.mono {r : RefD} {D E : Nat} (h : RoomD r D) (hE : D ≤ E) : RoomD r E := by obtain ⟨m, h1, h2⟩ := h; exact ⟨m, Nat.le_trans h1 hE, h2⟩
theorem RoomD.opens {r : RefD} {D : Nat} (h : RoomD r D) {x : List UInt8} {most : Int} (ho : (openT r x most).2 = 0) : 0 < D ∧ RoomD (openS r x most) (D - 1) := by
  unfold openT at ho
  cases hl : r.look x with
  | none => rw [hl] at ho; cases ho
  | some o =>
    cases o with
    | none => rw [hl] at ho; cases ho
    | some t =>
      rw [hl] at ho
      simp only at ho
      by_cases hx : x ∈ r.opened
      · rw [if_pos hx] at ho; cases ho
      · rw [if_neg hx] at ho
        by_cases hm : most < (r.n : Int) + t.length
        · rw [if_pos hm] at ho; cases ho
        · obtain ⟨m, h1, h2⟩ := h
          have hxm : x ∈ m := by
            rcases h2 x (by rw [hl]; exact fun e => by cases e) with h | h
            · exact h
            · exact absurd h hx
          have hpos := List.length_pos_of_mem hxm
          refine ⟨by omega, m.erase x, by rw [List.length_erase_of_mem hxm]; omega, fun y hy => ?_⟩
          have hS : openS r x most = ⟨r.look, r.opened ++ [x], r.n + t.length⟩ := by
            unfold openS
            rw [hl]
            simp only
            rw [if_neg hx, if_neg hm]
          rw [hS] at hy ⊢
          by_cases e : y = x
          · exact Or.inr (List.mem_append_right _ (List.mem_singleton.2 e))
          · rcases h2 y hy with h | h
            · exact Or.inl ((List.mem_erase_of_ne e).2 h)
            · exact Or.inr (List.mem_append_left _ h)
theorem room_ref0 (l : List EntD) : RoomD (ref0 l) l.length := by
  refine ⟨l.map (·.name), by rw [List.length_map]; exact Nat.le_refl _, fun x hx => Or.inl ?_⟩
  cases h : lookE l x with
  | none => exact absurd h hx
  | some o =>
    obtain ⟨_, e, he, hn, _⟩ := lookE_mem h
    exact List.mem_map.2 ⟨e, he, hn⟩
/-! ### opening and closing -/
/-- what Open does, if it does -/
theorem open_ok {r : RefD} {x : List UInt8} {most : Int} (ho : (openT r x most).2 = 0) : r.look x = some (some (openT r x most).1) ∧ x ∉ r.opened ∧ (r.n : Int) + (openT r x most).1.length ≤ most ∧ openS r x most = ⟨r.look, r.opened ++ [x], r.n + (openT r x most).1.length⟩ := by
  unfold openT openS at *
  cases hl : r.look x with
  | none => rw [hl] at ho; cases ho
  | some o =>
    cases o with
    | none => rw [hl] at ho; cases ho
    | some t =>
      rw [hl] at ho
      simp only at ho ⊢
      by_cases hx : x ∈ r.opened
      · rw [if_pos hx] at ho; cases ho
      · rw [if_neg hx] at ho
        by_cases hm : most < (r.n : Int) + t.length
        · rw [if_pos hm] at ho; cases ho
        · rw [if_neg hx, if_neg hm, if_neg hx, if_neg hm]
          exact ⟨rfl, hx, by show (r.n : Int) + t.length ≤ most; omega, rfl⟩
theorem open_no {r : RefD} {x : List UInt8} {most : Int} (ho : (openT r x most).2 ≠ 0) : openS r x most = r ∧ (openT r x most).1 = [] := by
  unfold openT openS at *
  cases hl : r.look x with
  | none => exact ⟨rfl, rfl⟩
  | some o =>
    cases o with
    | none => exact ⟨rfl, rfl⟩
    | some t =>
      rw [hl] at ho
      simp only at ho ⊢
      by_cases hx : x ∈ r.opened
      · rw [if_pos hx, if_pos hx]; exact ⟨rfl, rfl⟩
      · rw [if_neg hx] at ho
        by_cases hm : most < (r.n : Int) + t.length
        · rw [if_neg hx, if_neg hx, if_pos hm, if_pos hm]; exact ⟨rfl, rfl⟩
        · rw [if_neg hm] at ho; exact absurd rfl ho
/-- what has been read leaves references as they were, but for what is spent; and is not longer than what was there and what was spent -/
structure Kept13 (out s : List UInt8) (r : RefD) (v : VRes) : Prop where
  look : v.2.2.look = r.look
  more : r.n ≤ v.2.2.n
  opened : v.2.1 = 0 → v.2.2.opened = r.opened
  short : v.1.length + r.n ≤ out.length + s.length + v.2.2.n
  bad : v.2.1 ≠ 0 → v.1 = []
theorem kept_nil (out s : List UInt8) (r : RefD) (c : Int) (hc : c ≠ 0) : Kept13 out s r ([], c, r) := ⟨rfl, Nat.le_refl _, fun h => absurd h hc, by show 0 + r.n ≤ out.length + s.length + r.n; omega, fun _ => rfl⟩
theorem findL_lt {w : List UInt8} (hw : w ≠ []) : ∀ {l : List UInt8} {k : Nat}, findL w l = some k → k < l.length
  | [], k, h => by cases h
  | b :: t, k, h => by
    unfold findL at h
    by_cases hs : swB w (b :: t) = true
    · rw [if_pos hs] at h; injection h with h; subst h; exact Nat.zero_lt_succ _
    · rw [if_neg hs] at h
      cases hf : findL w t with
      | none => rw [hf] at h; cases h
      | some j =>
        rw [hf] at h
        simp only [Option.map_some, Option.some.injEq] at h
        have := findL_lt hw hf
        rw [List.length_cons]; omega
theorem dat_len (x : ByteArray) : x.data.toList.length = x.size := by rw [Array.length_toList]; rfl
theorem enc_len (i : Int) : (Utf8.encode i).data.toList.length ≤ 4 := by
  rw [dat_len]
  exact encode_size_le i
/-- a reference is within what is there, and longer than what it stands for -/
theorem refL_len {l : List UInt8} {k : Tok} {n : Nat} (h : refL l = some (k, n)) : 0 < n ∧ n ≤ l.length ∧ (k.kind = 7 → k.text.data.toList.length ≤ n) := by
  unfold refL at h
  cases hf : findL [59] l with
  | none => rw [hf] at h; cases h
  | some j =>
    rw [hf] at h
    have hj := findL_lt (by decide) hf
    simp only [Option.bind_some] at h
    by_cases h1 : swB [38, 35] l = true
    · rw [if_pos h1] at h
      cases hc : charRefL (l.take (j + 1)) with
      | none => rw [hc] at h; cases h
      | some c =>
        rw [hc] at h
        simp only [Option.bind_some, Option.some.injEq, Prod.mk.injEq] at h
        obtain ⟨rfl, rfl⟩ := h
        refine ⟨by omega, by omega, fun _ => ?_⟩
        have h4 : 4 ≤ (l.take (j + 1)).length := by
          unfold charRefL at hc
          by_cases h2 : swB [38, 35] (l.take (j + 1)) = true ∧ (l.take (j + 1)).getLast? = some 59 ∧ 4 ≤ (l.take (j + 1)).length
          · exact h2.2.2
          · rw [if_neg h2] at hc; cases hc
        rw [List.length_take] at h4
        have e4 := enc_len (c : Int)
        generalize Utf8.encode (c : Int) = E at e4 ⊢
        exact Nat.le_trans e4 (by omega)
    · rw [if_neg h1] at h
      by_cases h2 : ncL ((l.take j).drop 1) = true
      · rw [if_pos h2] at h
        simp only [Option.some.injEq, Prod.mk.injEq] at h
        obtain ⟨rfl, rfl⟩ := h
        exact ⟨by omega, by omega, fun e => by cases e⟩
      · rw [if_neg h2] at h; cases h
/-- a reference that is followed -/
theorem step_kept {rec : RefD → List UInt8 → VRes} (hrec : ∀ r s, Kept13 [] s r (rec r s)) (most : Int) (r : RefD) (x : List UInt8) :
    (stepV rec most r x).2.2.look = r.look ∧ r.n ≤ (stepV rec most r x).2.2.n ∧ ((stepV rec most r x).2.1 = 0 → (stepV rec most r x).2.2.opened = r.opened) ∧ (stepV rec most r x).1.length + r.n ≤ 1 + (stepV rec most r x).2.2.n ∧ ((stepV rec most r x).2.1 ≠ 0 → (stepV rec most r x).1 = []) := by
  unfold stepV
  cases h5 : fiveL x with
  | some c => exact ⟨rfl, Nat.le_refl _, fun _ => rfl, by show 1 + r.n ≤ 1 + r.n; omega, fun h => absurd rfl h⟩
  | none =>
    simp only
    by_cases h0 : (openT r x most).2 = 0
    · obtain ⟨_, _, _, hS⟩ := open_ok h0
      rw [if_neg (by rw [h0]; decide), if_neg (by rw [h0]; decide)]
      have k := hrec (openS r x most) (openT r x most).1
      by_cases hv : (rec (openS r x most) (openT r x most).1).2.1 = 0
      · rw [if_neg (by rw [hv]; decide)]
        have h1 := k.opened hv
        have h2 := k.look
        have h3 := k.more
        have h4 := k.short
        rw [hS] at h1 h2 h3 h4
        have hc : (closeS (rec (openS r x most) (openT r x most).1).2.2 x) = ⟨(rec (openS r x most) (openT r x most).1).2.2.look, r.opened, (rec (openS r x most) (openT r x most).1).2.2.n⟩ := by
          unfold closeS
          rw [hS, h1]
          show (if (r.opened ++ [x]).getLast? = some x then _ else _) = _
          rw [if_pos (by simp)]
          simp
        rw [hc, hS]
        refine ⟨h2, ?_, fun _ => rfl, ?_, fun h => absurd rfl h⟩
        · show r.n ≤ (rec ⟨r.look, r.opened ++ [x], r.n + (openT r x most).1.length⟩ (openT r x most).1).2.2.n
          have h3' : r.n + (openT r x most).1.length ≤ (rec ⟨r.look, r.opened ++ [x], r.n + (openT r x most).1.length⟩ (openT r x most).1).2.2.n := h3
          omega
        · have h4' : (rec ⟨r.look, r.opened ++ [x], r.n + (openT r x most).1.length⟩ (openT r x most).1).1.length + (r.n + (openT r x most).1.length) ≤ 0 + (openT r x most).1.length + (rec ⟨r.look, r.opened ++ [x], r.n + (openT r x most).1.length⟩ (openT r x most).1).2.2.n := h4
          show (rec ⟨r.look, r.opened ++ [x], r.n + (openT r x most).1.length⟩ (openT r x most).1).1.length + r.n ≤ 1 + (rec ⟨r.look, r.opened ++ [x], r.n + (openT r x most).1.length⟩ (openT r x most).1).2.2.n
          omega
      · rw [if_pos hv]
        have h2 := k.look
        have h3 := k.more
        rw [hS] at h2 h3 ⊢
        have h3' : r.n + (openT r x most).1.length ≤ (rec ⟨r.look, r.opened ++ [x], r.n + (openT r x most).1.length⟩ (openT r x most).1).2.2.n := h3
        rw [hS] at hv
        exact ⟨h2, by show r.n ≤ (rec ⟨r.look, r.opened ++ [x], r.n + (openT r x most).1.length⟩ (openT r x most).1).2.2.n; omega, fun h => absurd h hv, by show 0 + r.n ≤ 1 + (rec ⟨r.look, r.opened ++ [x], r.n + (openT r x most).1.length⟩ (openT r x most).1).2.2.n; omega, fun _ => rfl⟩
    · obtain ⟨hS, _⟩ := open_no h0
      rw [hS]
      by_cases h3 : (openT r x most).2 = 3
      · rw [if_pos h3]
        exact ⟨rfl, Nat.le_refl _, fun h => absurd (show (3 : Int) = 0 from h) (by decide), by show 0 + r.n ≤ 1 + r.n; omega, fun _ => rfl⟩
      · rw [if_neg h3, if_pos h0]
        exact ⟨rfl, Nat.le_refl _, fun h => absurd (show (2 : Int) = 0 from h) (by decide), by show 0 + r.n ≤ 1 + r.n; omega, fun _ => rfl⟩
theorem loop_kept {rec : RefD → List UInt8 → VRes} (hrec : ∀ r s, Kept13 [] s r (rec r s)) (most : Int) (ins : Bool) : ∀ (f : Nat) (out : List UInt8) (r : RefD) (s : List UInt8), Kept13 out s r (loopV rec most ins f out r s)
  | 0, out, r, s => ⟨rfl, Nat.le_refl _, fun _ => rfl, by show out.length + r.n ≤ out.length + s.length + r.n; omega, fun h => absurd rfl h⟩
  | f + 1, out, r, [] => ⟨rfl, Nat.le_refl _, fun _ => rfl, by show out.length + r.n ≤ out.length + 0 + r.n; omega, fun h => absurd rfl h⟩
  | f + 1, out, r, b :: t => by
    unfold loopV
    by_cases h1 : b = 60 ∧ ins = true
    · rw [if_pos h1]; exact kept_nil _ _ _ _ (by decide)
    · rw [if_neg h1]
      by_cases h2 : b ≠ 38
      · rw [if_pos h2]
        have k := loop_kept hrec most ins f (out ++ [spB b]) r t
        refine ⟨k.look, k.more, k.opened, ?_, k.bad⟩
        have := k.short
        rw [List.length_append] at this
        rw [List.length_cons]
        show _ ≤ out.length + (t.length + 1) + _
        have e : [spB b].length = 1 := rfl
        omega
      · rw [if_neg h2]
        cases hr : refL (b :: t) with
        | none => exact kept_nil _ _ _ _ (by decide)
        | some kn =>
          obtain ⟨k, n⟩ := kn
          obtain ⟨hn0, hn1, hn2⟩ := refL_len hr
          simp only
          by_cases h7 : k.kind = 7
          · rw [if_pos h7]
            have q := loop_kept hrec most ins f (out ++ k.text.data.toList) r ((b :: t).drop n)
            refine ⟨q.look, q.more, q.opened, ?_, q.bad⟩
            have := q.short
            have ht := hn2 h7
            rw [List.length_append, List.length_drop] at this
            omega
          · rw [if_neg h7]
            obtain ⟨s1, s2, s3, s4, s5⟩ := step_kept hrec most r k.name.data.toList
            by_cases hv : (stepV rec most r k.name.data.toList).2.1 = 0
            · rw [if_neg (by rw [hv]; decide)]
              have q := loop_kept hrec most ins f (out ++ (stepV rec most r k.name.data.toList).1) (stepV rec most r k.name.data.toList).2.2 ((b :: t).drop n)
              refine ⟨q.look.trans s1, Nat.le_trans s2 q.more, fun h => (q.opened h).trans (s3 hv), ?_, q.bad⟩
              have := q.short
              rw [List.length_append, List.length_drop] at this
              omega
            · rw [if_pos hv]
              refine ⟨s1, s2, fun h => absurd h hv, ?_, fun _ => rfl⟩
              show 0 + r.n ≤ out.length + (b :: t).length + (stepV rec most r k.name.data.toList).2.2.n
              omega
theorem valD_kept (most : Int) : ∀ (d : Nat) (r : RefD) (s : List UInt8), Kept13 [] s r (valD most d r s)
  | 0, r, s => kept_nil _ _ _ _ (by decide)
  | d + 1, r, s => loop_kept (valD_kept most d) most true s.length [] r s
theorem rawV_kept (D : Nat) (r : RefD) (raw : List UInt8) (most : Int) (ins : Bool) : Kept13 [] raw r (rawV D r raw most ins) := loop_kept (valD_kept most D) most ins raw.length [] r raw
end Go.Proofs.YtjijjmkeehdooaaGreatDoor

namespace Go.Proofs.YtjijjmkeehdooaaGreatDoor
open Go Go.Lib

/-- written behind a -/
def preV (a : List UInt8) (v : VRes) : VRes := if v.2.1 ≠ 0 then ([], v.2.1, v.2.2) else (a ++ v.1, v.2.1, v.2.2)
theorem preV_ok (a out : List UInt8) (r : RefD) : preV a (out, 0, r) = (a ++ out, 0, r) := rfl
theorem preV_bad {c : Int} (hc : c ≠ 0) (a o : List UInt8) (r : RefD) : preV a (o, c, r) = ([], c, r) := by
  unfold preV; rw [if_pos hc]
theorem preV_pre (a b : List UInt8) (v : VRes) : preV a (preV b v) = preV (a ++ b) v := by
  obtain ⟨o, c, r⟩ := v
  by_cases hc : c = 0
  · subst hc
    rw [preV_ok, preV_ok, preV_ok, List.append_assoc]
  · rw [preV_bad hc, preV_bad hc, preV_bad hc]
theorem loop_pre (rec : RefD → List UInt8 → VRes) (most : Int) (ins : Bool) : ∀ (f : Nat) (a out : List UInt8) (r : RefD) (s : List UInt8), loopV rec most ins f (a ++ out) r s = preV a (loopV rec most ins f out r s)
  | 0, a, out, r, s => rfl
  | f + 1, a, out, r, [] => rfl
  | f + 1, a, out, r, b :: t => by
    unfold loopV
    by_cases h1 : b = 60 ∧ ins = true
    · rw [if_pos h1, if_pos h1, preV_bad (by decide)]
    · rw [if_neg h1, if_neg h1]
      by_cases h2 : b ≠ 38
      · rw [if_pos h2, if_pos h2, List.append_assoc, loop_pre]
      · rw [if_neg h2, if_neg h2]
        cases hr : refL (b :: t) with
        | none => exact (preV_bad (by decide) _ _ _).symm
        | some kn =>
          obtain ⟨k, n⟩ := kn
          simp only
          by_cases h7 : k.kind = 7
          · rw [if_pos h7, if_pos h7, List.append_assoc, loop_pre]
          · rw [if_neg h7, if_neg h7]
            by_cases hv : (stepV rec most r k.name.data.toList).2.1 = 0
            · rw [if_neg (by rw [hv]; decide), if_neg (by rw [hv]; decide), List.append_assoc, loop_pre]
            · rw [if_pos hv, if_pos hv, preV_bad hv]
theorem loop_fuel (rec : RefD → List UInt8 → VRes) (most : Int) (ins : Bool) : ∀ (f g : Nat) (out : List UInt8) (r : RefD) (s : List UInt8), s.length ≤ f → s.length ≤ g → loopV rec most ins f out r s = loopV rec most ins g out r s
  | 0, g, out, r, [], _, _ => by cases g <;> rfl
  | 0, g, out, r, b :: t, h, _ => by rw [List.length_cons] at h; omega
  | f + 1, g, out, r, [], _, _ => by cases g <;> rfl
  | f + 1, 0, out, r, b :: t, _, h => by rw [List.length_cons] at h; omega
  | f + 1, g + 1, out, r, b :: t, hf, hg => by
    rw [List.length_cons] at hf hg
    unfold loopV
    by_cases h1 : b = 60 ∧ ins = true
    · rw [if_pos h1, if_pos h1]
    · rw [if_neg h1, if_neg h1]
      by_cases h2 : b ≠ 38
      · rw [if_pos h2, if_pos h2]; exact loop_fuel rec most ins f g _ _ _ (by omega) (by omega)
      · rw [if_neg h2, if_neg h2]
        cases hr : refL (b :: t) with
        | none => rfl
        | some kn =>
          obtain ⟨k, n⟩ := kn
          obtain ⟨h0, _, _⟩ := refL_len hr
          have hd : ((b :: t).drop n).length ≤ t.length := by rw [List.length_drop, List.length_cons]; omega
          simp only
          by_cases h7 : k.kind = 7
          · rw [if_pos h7, if_pos h7]; exact loop_fuel rec most ins f g _ _ _ (by omega) (by omega)
          · rw [if_neg h7, if_neg h7]
            by_cases hv : (stepV rec most r k.name.data.toList).2.1 = 0
            · rw [if_neg (by rw [hv]; decide), if_neg (by rw [hv]; decide)]
              exact loop_fuel rec most ins f g _ _ _ (by omega) (by omega)
            · rw [if_pos hv, if_pos hv]

/-- a text, from the left -/
def LV (rec : RefD → List UInt8 → VRes) (most : Int) (ins : Bool) (r : RefD) (s : List UInt8) : VRes := loopV rec most ins s.length [] r s
/-- a byte that is taken as it is -/
def plainV (ins : Bool) (b : UInt8) : Bool := decide (b ≠ 38) && !(decide (b = 60) && ins)
section
variable {rec : RefD → List UInt8 → VRes} {most : Int} {ins : Bool} {r : RefD}
theorem LV_nil : LV rec most ins r [] = ([], 0, r) := rfl
theorem LV_plain {b : UInt8} (hb : plainV ins b = true) (t : List UInt8) : LV rec most ins r (b :: t) = preV [spB b] (LV rec most ins r t) := by
  have h2 : b ≠ 38 := by
    intro e; subst e; simp [plainV] at hb
  have h1 : ¬ (b = 60 ∧ ins = true) := by
    rintro ⟨rfl, rfl⟩; simp [plainV] at hb
  unfold LV
  rw [List.length_cons, loopV, if_neg h1, if_pos h2]
  exact loop_pre rec most ins t.length [spB b] [] r t
theorem LV_self (s : List UInt8) : LV rec most ins r s = preV [] (LV rec most ins r s) := loop_pre rec most ins s.length [] [] r s
theorem LV_plains : ∀ (p q : List UInt8), (∀ b ∈ p, plainV ins b = true) → LV rec most ins r (p ++ q) = preV (p.map spB) (LV rec most ins r q)
  | [], q, _ => LV_self q
  | b :: p, q, h => by
    rw [List.cons_append, LV_plain (h b (List.mem_cons_self ..)), LV_plains p q (fun c hc => h c (List.mem_cons_of_mem _ hc)), preV_pre]
    rfl
theorem LV_tag (hi : ins = true) (t : List UInt8) : LV rec most ins r (60 :: t) = ([], 2, r) := by
  unfold LV
  rw [List.length_cons, loopV, if_pos ⟨rfl, hi⟩]
theorem LV_amp (t : List UInt8) : LV rec most ins r (38 :: t) = match refL (38 :: t) with
    | none => ([], 2, r)
    | some (k, n) =>
      if k.kind = 7 then preV k.text.data.toList (LV rec most ins r ((38 :: t).drop n))
      else if (stepV rec most r k.name.data.toList).2.1 ≠ 0 then ([], (stepV rec most r k.name.data.toList).2.1, (stepV rec most r k.name.data.toList).2.2)
      else preV (stepV rec most r k.name.data.toList).1 (LV rec most ins (stepV rec most r k.name.data.toList).2.2 ((38 :: t).drop n)) := by
  unfold LV
  rw [List.length_cons, loopV, if_neg (fun h => absurd h.1 (by decide)), if_neg (fun h => h rfl)]
  cases hr : refL (38 :: t) with
  | none => rfl
  | some kn =>
    obtain ⟨k, n⟩ := kn
    obtain ⟨h0, _, _⟩ := refL_len hr
    have hd : ((38 :: t).drop n).length ≤ t.length := by rw [List.length_drop, List.length_cons]; omega
    simp only
    by_cases h7 : k.kind = 7
    · rw [if_pos h7, if_pos h7, ← loop_pre, List.append_nil, List.nil_append, loop_fuel rec most ins t.length ((38 :: t).drop n).length _ _ _ hd (Nat.le_refl _)]
    · rw [if_neg h7, if_neg h7]
      by_cases hv : (stepV rec most r k.name.data.toList).2.1 = 0
      · rw [if_neg (by rw [hv]; decide), if_neg (by rw [hv]; decide), ← loop_pre, List.append_nil, List.nil_append, loop_fuel rec most ins t.length ((38 :: t).drop n).length _ _ _ hd (Nat.le_refl _)]
      · rw [if_pos hv, if_pos hv]
end
theorem valD_LV (most : Int) (d : Nat) (r : RefD) (s : List UInt8) : valD most (d + 1) r s = LV (valD most d) most true r s := rfl

/-- WHAT IS TO COME: the texts that are begun, the innermost ahead, by their names (the raw one has none) and what is not read of them yet -/
def contV (most : Int) (D : Nat) : List (List UInt8 × List UInt8) → List UInt8 → RefD → VRes
  | [], out, r => (out, 0, r)
  | (x, s) :: t, out, r =>
    if (LV (valD most (D - t.length)) most (decide (x ≠ [])) r s).2.1 ≠ 0 then ([], (LV (valD most (D - t.length)) most (decide (x ≠ [])) r s).2.1, (LV (valD most (D - t.length)) most (decide (x ≠ [])) r s).2.2)
    else contV most D t (out ++ (LV (valD most (D - t.length)) most (decide (x ≠ [])) r s).1) (if x = [] then (LV (valD most (D - t.length)) most (decide (x ≠ [])) r s).2.2 else closeS (LV (valD most (D - t.length)) most (decide (x ≠ [])) r s).2.2 x)
section
variable {most : Int} {D : Nat} {x s q out a : List UInt8} {t : List (List UInt8 × List UInt8)} {r r' : RefD}
/-- a piece was read -/
theorem cont_piece (h : LV (valD most (D - t.length)) most (decide (x ≠ [])) r s = preV a (LV (valD most (D - t.length)) most (decide (x ≠ [])) r' q)) : contV most D ((x, s) :: t) out r = contV most D ((x, q) :: t) (out ++ a) r' := by
  unfold contV
  rw [h]
  generalize LV (valD most (D - t.length)) most (decide (x ≠ [])) r' q = v
  obtain ⟨o, c, r2⟩ := v
  by_cases hc : c = 0
  · subst hc
    rw [preV_ok]
    show (if (0 : Int) ≠ 0 then _ else contV most D t (out ++ (a ++ o)) _) = (if (0 : Int) ≠ 0 then _ else contV most D t (out ++ a ++ o) _)
    rw [if_neg (show ¬ ((0 : Int) ≠ 0) by decide), if_neg (show ¬ ((0 : Int) ≠ 0) by decide), List.append_assoc]
  · rw [preV_bad hc]
    show (if c ≠ 0 then _ else _) = (if c ≠ 0 then _ else _)
    rw [if_pos hc, if_pos hc]
/-- it ends in an error -/
theorem cont_bad {c : Int} (hc : c ≠ 0) (h : LV (valD most (D - t.length)) most (decide (x ≠ [])) r s = ([], c, r')) : contV most D ((x, s) :: t) out r = ([], c, r') := by
  unfold contV
  rw [h]
  exact if_pos hc
/-- a text is at its end -/
theorem cont_end : contV most D ((x, []) :: t) out r = contV most D t out (if x = [] then r else closeS r x) := by
  conv => lhs; unfold contV
  rw [LV_nil]
  show (if (0 : Int) ≠ 0 then _ else contV most D t (out ++ []) _) = _
  rw [if_neg (by decide), List.append_nil]
/-- an entity's text is begun -/
theorem cont_open {k : Tok} {n : Nat} {y : List UInt8} (hr : refL (38 :: s) = some (k, n)) (h7 : k.kind ≠ 7) (hy : k.name.data.toList = y) (h5 : fiveL y = none) (h0 : (openT r y most).2 = 0) (hD : t.length < D) (hye : y ≠ []) :
    contV most D ((x, 38 :: s) :: t) out r = contV most D ((y, (openT r y most).1) :: (x, (38 :: s).drop n) :: t) out (openS r y most) := by
  have hs : stepV (valD most (D - t.length)) most r y = if (LV (valD most (D - (t.length + 1))) most true (openS r y most) (openT r y most).1).2.1 ≠ 0 then ([], (LV (valD most (D - (t.length + 1))) most true (openS r y most) (openT r y most).1).2.1, (LV (valD most (D - (t.length + 1))) most true (openS r y most) (openT r y most).1).2.2) else ((LV (valD most (D - (t.length + 1))) most true (openS r y most) (openT r y most).1).1, 0, closeS (LV (valD most (D - (t.length + 1))) most true (openS r y most) (openT r y most).1).2.2 y) := by
    unfold stepV
    rw [h5]
    simp only
    rw [if_neg (by rw [h0]; decide), if_neg (by rw [h0]; decide), show D - t.length = D - (t.length + 1) + 1 by omega, valD_LV]
  have hl := LV_amp (rec := valD most (D - t.length)) (most := most) (ins := decide (x ≠ [])) (r := r) s
  rw [hr] at hl
  simp only at hl
  rw [if_neg h7, hy, hs] at hl
  conv => rhs; unfold contV
  rw [show decide (y ≠ []) = true from decide_eq_true hye, List.length_cons]
  generalize LV (valD most (D - (t.length + 1))) most true (openS r y most) (openT r y most).1 = v at hl ⊢
  obtain ⟨o, c, r2⟩ := v
  by_cases hc : c = 0
  · subst hc
    simp only [ne_eq, not_true_eq_false, if_false] at hl ⊢
    rw [if_neg hye]
    exact cont_piece hl
  · simp only [ne_eq, hc, not_false_eq_true, if_true] at hl ⊢
    exact cont_bad hc hl
/-- no less is spent behind -/
theorem cont_more (most : Int) (D : Nat) : ∀ (l : List (List UInt8 × List UInt8)) (out : List UInt8) (r : RefD), r.n ≤ (contV most D l out r).2.2.n
  | [], out, r => Nat.le_refl _
  | (x, s) :: t, out, r => by
    have h := (loop_kept (valD_kept most (D - t.length)) most (decide (x ≠ [])) s.length [] r s).more
    change r.n ≤ (LV (valD most (D - t.length)) most (decide (x ≠ [])) r s).2.2.n at h
    unfold contV
    split
    · exact h
    · refine Nat.le_trans h (Nat.le_trans ?_ (cont_more most D t _ _))
      split
      · exact Nat.le_refl _
      · unfold closeS; split <;> exact Nat.le_refl _
theorem cont_raw (D : Nat) (r : RefD) (raw : List UInt8) (most : Int) : contV most D [([], raw)] [] r = rawV D r raw most false := by
  have k := rawV_kept D r raw most false
  change (if (rawV D r raw most false).2.1 ≠ 0 then ([], (rawV D r raw most false).2.1, (rawV D r raw most false).2.2) else ([] ++ (rawV D r raw most false).1, 0, (rawV D r raw most false).2.2)) = _
  by_cases hc : (rawV D r raw most false).2.1 = 0
  · rw [if_neg (by rw [hc]; decide), List.nil_append]
    have : (0 : Int) = (rawV D r raw most false).2.1 := hc.symm
    rw [this]
  · rw [if_pos hc, ← k.bad hc]
end

/-! ### how deep, how long -/
theorem RoomD.closes {r : RefD} {D : Nat} (h : RoomD r D) (x : List UInt8) : RoomD (closeS r x) (D + 1) := by
  obtain ⟨m, h1, h2⟩ := h
  unfold closeS
  split
  · rename_i hl
    refine ⟨x :: m, by rw [List.length_cons]; omega, fun y hy => ?_⟩
    rcases h2 y hy with h | h
    · exact Or.inl (List.mem_cons_of_mem _ h)
    · obtain ⟨ys, e⟩ := List.getLast?_eq_some_iff.1 hl
      rw [e] at h
      rcases List.mem_append.1 h with h | h
      · refine Or.inr ?_
        show y ∈ r.opened.dropLast
        rw [e, List.dropLast_concat]
        exact h
      · rw [List.mem_singleton.1 h]
        exact Or.inl (List.mem_cons_self ..)
  · exact ⟨m, by omega, h2⟩
def sumV : List (List UInt8 × List UInt8) → Nat
  | [] => 0
  | (_, s) :: t => s.length + sumV t
/-- WHERE IT STANDS: what is to come is R -/
structure GoodV (D : Nat) (most : Int) (R : VRes) (l : List (List UInt8 × List UInt8)) (out : List UInt8) (r : RefD) : Prop where
  res : contV most D l out r = R
  deep : l.length ≤ D + 1
  room : l ≠ [] → RoomD r (D + 1 - l.length)
  small : ∀ p ∈ l, p.1.length ≤ 100000 ∧ p.2.length ≤ 100000
  texts : ∀ x t, r.look x = some (some t) → t.length ≤ 100000
  sum : out.length + sumV l ≤ 100000 + r.n
  cap : R.2.2.n ≤ 1000000
/-- what grows less at each step -/
def measV (R : VRes) (l : List (List UInt8 × List UInt8)) (r : RefD) : Nat := sumV l + l.length + 2 * (R.2.2.n - r.n)
section
variable {D n : Nat} {most : Int} {R : VRes} {x s p q out : List UInt8} {t l : List (List UInt8 × List UInt8)} {r : RefD} {k : Tok}
theorem GoodV.spent (h : GoodV D most R l out r) : r.n ≤ R.2.2.n := by rw [← h.res]; exact cont_more _ _ _ _ _
theorem GoodV.start (hr : RoomD r D) (h1 : s.length ≤ 100000) (h2 : ∀ x t, r.look x = some (some t) → t.length ≤ 100000) (h3 : (rawV D r s most false).2.2.n ≤ 1000000) : GoodV D most (rawV D r s most false) [([], s)] [] r :=
  ⟨cont_raw D r s most, by show 1 ≤ D + 1; omega, fun _ => hr, fun p hp => by rw [List.mem_singleton.1 hp]; exact ⟨Nat.zero_le _, h1⟩, h2, by show 0 + (s.length + 0) ≤ _; omega, h3⟩
/-- plain text was passed over -/
theorem GoodV.scan (h : GoodV D most R ((x, p ++ q) :: t) out r) (hp : ∀ b ∈ p, plainV (decide (x ≠ [])) b = true) : GoodV D most R ((x, q) :: t) (out ++ p.map spB) r := by
  refine ⟨(cont_piece (LV_plains p q hp)).symm.trans h.res, h.deep, fun _ => h.room (by simp), fun y hy => ?_, h.texts, ?_, h.cap⟩
  · rcases List.mem_cons.1 hy with rfl | hy
    · have := h.small _ (List.mem_cons_self ..)
      refine ⟨this.1, ?_⟩
      have h2 := this.2
      rw [List.length_append] at h2
      show q.length ≤ _
      omega
    · exact h.small y (List.mem_cons_of_mem _ hy)
  · have := h.sum
    unfold sumV at this ⊢
    rw [List.length_append] at this
    rw [List.length_append, List.length_map]
    omega
theorem sum_cons (x s : List UInt8) (t : List (List UInt8 × List UInt8)) : sumV ((x, s) :: t) = s.length + sumV t := rfl
theorem meas_scan (R : VRes) (x p q : List UInt8) (t : List (List UInt8 × List UInt8)) (r : RefD) : measV R ((x, q) :: t) r + p.length = measV R ((x, p ++ q) :: t) r := by
  unfold measV
  rw [sum_cons, sum_cons, List.length_append, List.length_cons, List.length_cons]
  omega
theorem GoodV.rest (h : GoodV D most R ((x, 38 :: s) :: t) out r) (hr : refL (38 :: s) = some (k, n)) {a : List UInt8} (ha : a.length ≤ n) (he : contV most D ((x, 38 :: s) :: t) out r = contV most D ((x, (38 :: s).drop n) :: t) (out ++ a) r) :
    GoodV D most R ((x, (38 :: s).drop n) :: t) (out ++ a) r ∧ measV R ((x, (38 :: s).drop n) :: t) r < measV R ((x, 38 :: s) :: t) r := by
  obtain ⟨h0, h1, _⟩ := refL_len hr
  refine ⟨⟨he.symm.trans h.res, h.deep, fun _ => h.room (by simp), fun y hy => ?_, h.texts, ?_, h.cap⟩, ?_⟩
  · rcases List.mem_cons.1 hy with rfl | hy
    · have := h.small _ (List.mem_cons_self ..)
      refine ⟨this.1, ?_⟩
      have h2 := this.2
      show ((38 :: s).drop n).length ≤ _
      rw [List.length_drop]
      have h3 : (38 :: s).length ≤ 100000 := h2
      omega
    · exact h.small y (List.mem_cons_of_mem _ hy)
  · have := h.sum
    rw [sum_cons] at this ⊢
    rw [List.length_append, List.length_drop]
    omega
  · unfold measV
    simp only [sum_cons, List.length_cons, List.length_drop] at h1 ⊢
    omega
theorem GoodV.char (h : GoodV D most R ((x, 38 :: s) :: t) out r) (hr : refL (38 :: s) = some (k, n)) (h7 : k.kind = 7) :
    GoodV D most R ((x, (38 :: s).drop n) :: t) (out ++ k.text.data.toList) r ∧ measV R ((x, (38 :: s).drop n) :: t) r < measV R ((x, 38 :: s) :: t) r := by
  refine h.rest hr ((refL_len hr).2.2 h7) (cont_piece ?_)
  rw [LV_amp, hr]
  simp only
  rw [if_pos h7]
theorem GoodV.five (h : GoodV D most R ((x, 38 :: s) :: t) out r) (hr : refL (38 :: s) = some (k, n)) (h7 : k.kind ≠ 7) {c : UInt8} (h5 : fiveL k.name.data.toList = some c) :
    GoodV D most R ((x, (38 :: s).drop n) :: t) (out ++ [c]) r ∧ measV R ((x, (38 :: s).drop n) :: t) r < measV R ((x, 38 :: s) :: t) r := by
  refine h.rest hr (refL_len hr).1 (cont_piece ?_)
  rw [LV_amp, hr]
  simp only
  rw [if_neg h7]
  unfold stepV
  rw [h5]
  simp only
  rw [if_neg (by decide)]
theorem refL_two {s : List UInt8} {k : Tok} {n : Nat} (h : refL (38 :: s) = some (k, n)) : 2 ≤ n := by
  unfold refL at h
  cases hf : findL [59] (38 :: s) with
  | none => rw [hf] at h; cases h
  | some j =>
    rw [hf] at h
    have hj : 1 ≤ j := by
      unfold findL at hf
      rw [if_neg (by simp [swB])] at hf
      cases hg : findL [59] s with
      | none => rw [hg] at hf; cases hf
      | some i => rw [hg] at hf; simp at hf; omega
    simp only [Option.bind_some] at h
    by_cases h1 : swB [38, 35] (38 :: s) = true
    · rw [if_pos h1] at h
      cases hc : charRefL ((38 :: s).take (j + 1)) with
      | none => rw [hc] at h; cases h
      | some c =>
        rw [hc] at h
        simp only [Option.bind_some, Option.some.injEq, Prod.mk.injEq] at h
        omega
    · rw [if_neg h1] at h
      by_cases h2 : ncL (((38 :: s).take j).drop 1) = true
      · rw [if_pos h2] at h
        simp only [Option.some.injEq, Prod.mk.injEq] at h
        omega
      · rw [if_neg h2] at h; cases h
theorem GoodV.opens (h : GoodV D most R ((x, 38 :: s) :: t) out r) (hr : refL (38 :: s) = some (k, n)) (h7 : k.kind ≠ 7) {y : List UInt8} (hy : k.name.data.toList = y) (h5 : fiveL y = none) (h0 : (openT r y most).2 = 0) (hye : y ≠ []) (hyl : y.length ≤ 100000) :
    GoodV D most R ((y, (openT r y most).1) :: (x, (38 :: s).drop n) :: t) out (openS r y most) ∧ measV R ((y, (openT r y most).1) :: (x, (38 :: s).drop n) :: t) (openS r y most) < measV R ((x, 38 :: s) :: t) r := by
  obtain ⟨hn0, hn1, _⟩ := refL_len hr
  have hn2 := refL_two hr
  have hroom := h.room (by simp)
  obtain ⟨hD, hr2⟩ := hroom.opens h0
  rw [List.length_cons] at hD hr2
  have he := cont_open (out := out) (x := x) hr h7 hy h5 h0 (by omega : t.length < D) hye
  obtain ⟨hl, _, _, hS⟩ := open_ok h0
  have hlen := h.texts _ _ hl
  have hn : (openS r y most).n = r.n + (openT r y most).1.length := by rw [hS]
  have hsp : (openS r y most).n ≤ R.2.2.n := by rw [← h.res, he]; exact cont_more _ _ _ _ _
  have hsm := h.small _ (List.mem_cons_self ..)
  have hdl := h.deep
  rw [List.length_cons] at hdl
  refine ⟨⟨he.symm.trans h.res, by rw [List.length_cons, List.length_cons]; omega, fun _ => ?_, fun z hz => ?_, ?_, ?_, h.cap⟩, ?_⟩
  · rw [List.length_cons, List.length_cons]
    exact hr2.mono (by omega)
  · rcases List.mem_cons.1 hz with rfl | hz
    · exact ⟨hyl, hlen⟩
    · rcases List.mem_cons.1 hz with rfl | hz
      · refine ⟨hsm.1, ?_⟩
        show ((38 :: s).drop n).length ≤ _
        rw [List.length_drop]
        have h3 : (38 :: s).length ≤ 100000 := hsm.2
        omega
      · exact h.small z (List.mem_cons_of_mem _ hz)
  · rw [hS]; exact h.texts
  · have := h.sum
    rw [sum_cons] at this
    rw [hn, sum_cons, sum_cons, List.length_drop]
    omega
  · unfold measV
    simp only [sum_cons, List.length_cons, List.length_drop] at hn1 ⊢
    omega
theorem GoodV.ends (h : GoodV D most R ((x, []) :: t) out r) : GoodV D most R t out (if x = [] then r else closeS r x) ∧ measV R t (if x = [] then r else closeS r x) < measV R ((x, []) :: t) r := by
  have hn : (if x = [] then r else closeS r x).n = r.n := by
    split
    · rfl
    · unfold closeS; split <;> rfl
  have hl : (if x = [] then r else closeS r x).look = r.look := by
    split
    · rfl
    · unfold closeS; split <;> rfl
  have hdl := h.deep
  rw [List.length_cons] at hdl
  refine ⟨⟨cont_end.symm.trans h.res, by omega, fun ht => ?_, fun z hz => h.small z (List.mem_cons_of_mem _ hz), by rw [hl]; exact h.texts, ?_, h.cap⟩, ?_⟩
  · have hr := h.room (by simp)
    rw [List.length_cons] at hr
    have hpos := List.length_pos_iff.2 ht
    split
    · exact hr.mono (by omega)
    · exact (hr.closes x).mono (by omega)
  · rw [hn]
    have := h.sum
    rw [sum_cons] at this
    have e : ([] : List UInt8).length = 0 := rfl
    omega
  · unfold measV
    rw [hn, sum_cons, List.length_cons]
    have e : ([] : List UInt8).length = 0 := rfl
    omega
/-- errors -/
theorem GoodV.badRef (h : GoodV D most R ((x, 38 :: s) :: t) out r) (hr : refL (38 :: s) = none) : R = ([], 2, r) := by
  rw [← h.res]
  exact cont_bad (by decide) (by rw [LV_amp, hr])
theorem GoodV.badTag (h : GoodV D most R ((x, 60 :: s) :: t) out r) (hx : x ≠ []) : R = ([], 2, r) := by
  rw [← h.res]
  exact cont_bad (by decide) (LV_tag (decide_eq_true hx) s)
theorem GoodV.badOpen (h : GoodV D most R ((x, 38 :: s) :: t) out r) (hr : refL (38 :: s) = some (k, n)) (h7 : k.kind ≠ 7) {y : List UInt8} (hy : k.name.data.toList = y) (h5 : fiveL y = none) (h0 : (openT r y most).2 ≠ 0) :
    R = ([], if (openT r y most).2 = 3 then 3 else 2, openS r y most) := by
  rw [← h.res]
  have hl := LV_amp (rec := valD most (D - t.length)) (most := most) (ins := decide (x ≠ [])) (r := r) s
  rw [hr] at hl
  simp only at hl
  rw [if_neg h7, hy] at hl
  unfold stepV at hl
  rw [h5] at hl
  simp only at hl
  by_cases h3 : (openT r y most).2 = 3
  · rw [if_pos h3] at hl ⊢
    exact cont_bad (by decide) (by rw [hl]; exact if_pos (show (3 : Int) ≠ 0 by decide))
  · rw [if_neg h3, if_pos h0] at hl
    rw [if_neg h3]
    exact cont_bad (by decide) (by rw [hl]; exact if_pos (show (2 : Int) ≠ 0 by decide))
end
end Go.Proofs.YtjijjmkeehdooaaGreatDoor
