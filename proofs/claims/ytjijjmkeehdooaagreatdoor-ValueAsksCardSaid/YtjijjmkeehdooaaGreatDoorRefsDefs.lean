/-
  PLAIN MATHEMATICS FOR LAYER 12 (what a reference is): the five, what is declared, what is open, what was spent, in the document's words. No program stands in this text.
-/
import Derived.Test.YtjijjmkeehdooaaGreatDoorEntD
namespace Go.Proofs.YtjijjmkeehdooaaGreatDoor

/-- the five -/
def fiveL (x : List UInt8) : Option UInt8 :=
  if x = [108, 116] then some 60 else if x = [103, 116] then some 62 else if x = [97, 109, 112] then some 38 else if x = [97, 112, 111, 115] then some 39 else if x = [113, 117, 111, 116] then some 34 else none
/-- of a declared name, what it stands for: a text that is known, or one that stands elsewhere (of several the first); the five are given -/
def lookE (l : List EntD) (x : List UInt8) : Option (Option (List UInt8)) :=
  if (fiveL x).isSome = true then none else (l.find? fun e => decide (e.name = x)).map fun e => if e.ext = true then none else some e.value
/-- what names stand for; which are open; how much was spent -/
structure RefD where
  look : List UInt8 → Option (Option (List UInt8))
  opened : List (List UInt8)
  n : Nat
def ref0 (l : List EntD) : RefD := ⟨lookE l, [], 0⟩
def getR (r : RefD) (x : List UInt8) : List UInt8 × Bool × Int :=
  match fiveL x with
  | some c => ([c], true, 0)
  | none => match r.look x with
    | none => ([], false, 6)
    | some none => ([], false, 5)
    | some (some t) => (t, false, 0)
def openT (r : RefD) (x : List UInt8) (most : Int) : List UInt8 × Int :=
  match r.look x with
  | none => ([], 6)
  | some none => ([], 5)
  | some (some t) => if x ∈ r.opened then ([], 1) else if most < (r.n : Int) + t.length then ([], 3) else (t, 0)
def openS (r : RefD) (x : List UInt8) (most : Int) : RefD :=
  match r.look x with
  | none => r
  | some none => r
  | some (some t) => if x ∈ r.opened then r else if most < (r.n : Int) + t.length then r else ⟨r.look, r.opened ++ [x], r.n + t.length⟩
def closeB (r : RefD) (x : List UInt8) : Bool := decide (r.opened.getLast? = some x)
def closeS (r : RefD) (x : List UInt8) : RefD := if r.opened.getLast? = some x then ⟨r.look, r.opened.dropLast, r.n⟩ else r
def spendC (r : RefD) (k most : Int) : Int := if most < (r.n : Int) + k.toNat then 3 else 0
def spendS (r : RefD) (k most : Int) : RefD := if most < (r.n : Int) + k.toNat then r else ⟨r.look, r.opened, r.n + k.toNat⟩

/-- what holds of each -/
structure OkR (r : RefD) : Prop where
  five : ∀ x, fiveL x ≠ none → r.look x = none
  nodup : r.opened.Nodup
  inn : ∀ x ∈ r.opened, ∃ t, r.look x = some (some t)
  dom : ∃ d : List (List UInt8), d.length ≤ 1048576 ∧ ∀ x, r.look x ≠ none → x ∈ d
  small : ∀ x t, r.look x = some (some t) → t.length ≤ 1048576
  fits : r.n ≤ 9223372036854775807

/-- a row without repeats whose members stand in another is not longer -/
theorem nodup_le {α : Type} [DecidableEq α] : ∀ (a d : List α), a.Nodup → (∀ x ∈ a, x ∈ d) → a.length ≤ d.length
  | [], _, _, _ => Nat.zero_le _
  | x :: a, d, hn, hs => by
    have hx := hs x (List.mem_cons_self ..)
    have h1 := List.nodup_cons.1 hn
    have h2 := nodup_le a (d.erase x) h1.2 (fun y hy => (List.mem_erase_of_ne (fun (e : y = x) => h1.1 (by rw [← e]; exact hy))).2 (hs y (List.mem_cons_of_mem _ hy)))
    rw [List.length_erase_of_mem hx] at h2
    have := List.length_pos_of_mem hx
    rw [List.length_cons]
    omega
theorem OkR.few {r : RefD} (h : OkR r) : r.opened.length ≤ 1048576 := by
  obtain ⟨d, hd, hx⟩ := h.dom
  refine Nat.le_trans (nodup_le r.opened d h.nodup fun x hx2 => hx x ?_) hd
  obtain ⟨t, ht⟩ := h.inn x hx2
  rw [ht]
  exact fun e => by cases e
theorem OkR.opened' {r : RefD} (h : OkR r) (x : List UInt8) (most : Int) (hm : most ≤ 9223372036854775807) : OkR (openS r x most) := by
  unfold openS
  split
  · exact h
  · exact h
  · rename_i t ht
    split
    · exact h
    · rename_i hx
      split
      · exact h
      · rename_i hn
        refine ⟨h.five, ?_, ?_, h.dom, h.small, ?_⟩
        · rw [List.nodup_append]
          refine ⟨h.nodup, List.nodup_cons.2 ⟨List.not_mem_nil, List.nodup_nil⟩, fun a ha b hb e => ?_⟩
          rw [List.mem_singleton.1 hb] at e
          exact hx (e ▸ ha)
        · intro y hy
          rcases List.mem_append.1 hy with hy | hy
          · exact h.inn y hy
          · rw [List.mem_singleton.1 hy]; exact ⟨t, ht⟩
        · show r.n + t.length ≤ _
          omega
theorem OkR.closed {r : RefD} (h : OkR r) (x : List UInt8) : OkR (closeS r x) := by
  unfold closeS
  split
  · refine ⟨h.five, ?_, fun y hy => h.inn y ((List.dropLast_sublist _).subset hy), h.dom, h.small, h.fits⟩
    exact h.nodup.sublist (List.dropLast_sublist _)
  · exact h
theorem OkR.spent {r : RefD} (h : OkR r) (k most : Int) (hm : most ≤ 9223372036854775807) : OkR (spendS r k most) := by
  unfold spendS
  split
  · exact h
  · exact ⟨h.five, h.nodup, h.inn, h.dom, h.small, by show r.n + k.toNat ≤ _; omega⟩
/-! ### one declaration more -/
theorem lookE_nil (x : List UInt8) : lookE [] x = none := by unfold lookE; split <;> rfl
/-- one more says nothing of the five, nor of what is declared -/
theorem lookE_old (l : List EntD) (e : EntD) (h : (fiveL e.name).isSome = true ∨ (lookE l e.name).isSome = true) : lookE (l ++ [e]) = lookE l := by
  funext x
  unfold lookE
  by_cases hx : (fiveL x).isSome = true
  · rw [if_pos hx, if_pos hx]
  · rw [if_neg hx, if_neg hx, List.find?_append]
    by_cases he : e.name = x
    · rcases h with h | h
      · rw [he] at h; exact absurd h hx
      · unfold lookE at h
        rw [he, if_neg hx] at h
        cases hf : l.find? (fun e => decide (e.name = x)) with
        | none => rw [hf] at h; cases h
        | some y => rfl
    · rw [show List.find? (fun e => decide (e.name = x)) [e] = none by rw [List.find?_cons, decide_eq_false he]; rfl]
      cases l.find? (fun e => decide (e.name = x)) <;> rfl
/-- a new name stands for what is declared -/
theorem lookE_new (l : List EntD) (e : EntD) (h5 : (fiveL e.name).isSome = false) (h : (lookE l e.name).isSome = false) : lookE (l ++ [e]) = fun x => if x = e.name then some (if e.ext = true then none else some e.value) else lookE l x := by
  funext x
  unfold lookE
  by_cases hx : (fiveL x).isSome = true
  · rw [if_pos hx, if_pos hx, if_neg (fun he => by rw [he, h5] at hx; cases hx)]
  · rw [if_neg hx, if_neg hx, List.find?_append]
    by_cases he : x = e.name
    · rw [if_pos he]
      unfold lookE at h
      rw [if_neg (by rw [h5]; decide)] at h
      rw [he]
      cases hf : l.find? (fun a => decide (a.name = e.name)) with
      | none => simp
      | some y => rw [hf] at h; cases h
    · rw [if_neg he, show List.find? (fun a => decide (a.name = x)) [e] = none by rw [List.find?_cons, decide_eq_false (fun a => he a.symm)]; rfl]
      cases l.find? (fun a => decide (a.name = x)) <;> rfl
/-- what is declared of few -/
theorem lookE_mem {l : List EntD} {x : List UInt8} {o : Option (List UInt8)} (h : lookE l x = some o) : (fiveL x).isSome = false ∧ ∃ e ∈ l, e.name = x ∧ o = if e.ext = true then none else some e.value := by
  unfold lookE at h
  by_cases hx : (fiveL x).isSome = true
  · rw [if_pos hx] at h; cases h
  · rw [if_neg hx] at h
    cases hf : l.find? (fun e => decide (e.name = x)) with
    | none => rw [hf] at h; cases h
    | some y =>
      rw [hf] at h
      injection h with h
      exact ⟨by simpa using hx, y, List.mem_of_find?_eq_some hf, by have := List.find?_some hf; simpa using this, h.symm⟩
theorem ok_ref0 (l : List EntD) (hl : l.length ≤ 1048576) (hs : ∀ e ∈ l, e.value.length ≤ 1048576) : OkR (ref0 l) := by
  refine ⟨fun x hx => ?_, List.nodup_nil, fun x hx => (by cases hx), ⟨l.map (·.name), by rw [List.length_map]; exact hl, fun x hx => ?_⟩, fun x t h => ?_, Nat.zero_le _⟩
  · show lookE l x = none
    unfold lookE
    rw [if_pos (by cases h : fiveL x with
      | none => exact absurd h hx
      | some _ => rfl)]
  · cases h : lookE l x with
    | none => exact absurd h hx
    | some o =>
      obtain ⟨_, e, he, hn, _⟩ := lookE_mem h
      exact List.mem_map.2 ⟨e, he, hn⟩
  · obtain ⟨_, e, he, _, ho⟩ := lookE_mem (show lookE l x = some (some t) from h)
    by_cases hx : e.ext = true
    · rw [if_pos hx] at ho; cases ho
    · rw [if_neg hx] at ho
      injection ho with ho
      rw [ho]
      exact hs e he
end Go.Proofs.YtjijjmkeehdooaaGreatDoor
