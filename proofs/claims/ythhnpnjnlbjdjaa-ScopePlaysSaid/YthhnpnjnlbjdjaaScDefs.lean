/-
  NAMESPACES AS DATA: levels of what is bound, the nearest level first.
-/
import Derived.Test.YthhnpnjnlbjdjaaBytesL
namespace Go.Proofs.Ythhnpnjnlbjdjaa

abbrev Nm := List UInt8
/-- a name ([]: the default) and its URI -/
abbrev Bd := Nm × Nm
def xmlN : Nm := [120, 109, 108]
def xmlnsN : Nm := [120, 109, 108, 110, 115]
/-- "http://www.w3.org/XML/1998/namespace" -/
def xmlU : Nm := [104, 116, 116, 112, 58, 47, 47, 119, 119, 119, 46, 119, 51, 46, 111, 114, 103, 47, 88, 77, 76, 47, 49, 57, 57, 56, 47, 110, 97, 109, 101, 115, 112, 97, 99, 101]
/-- "http://www.w3.org/2000/xmlns/" -/
def xmlnsU : Nm := [104, 116, 116, 112, 58, 47, 47, 119, 119, 119, 46, 119, 51, 46, 111, 114, 103, 47, 50, 48, 48, 48, 47, 120, 109, 108, 110, 115, 47]
/-- an attribute: its prefix, local name, URI, value -/
structure At4 where
  pre : Nm
  loc : Nm
  uri : Nm
  val : Nm
  deriving DecidableEq
/-- what an attribute binds -/
def declB (a : At4) : Option Bd :=
  if a.uri = xmlnsU then
    if a.pre = xmlnsN ∧ a.loc ≠ [] then some (a.loc, a.val)
    else if a.pre = xmlnsN ∨ (a.pre = [] ∧ a.loc = xmlnsN) then some ([], a.val)
    else none
  else none
/-- may it be bound so? -/
def mayB (b : Bd) : Bool :=
  if b.1 = [] then decide (b.2 ≠ xmlU) && decide (b.2 ≠ xmlnsU)
  else decide (b.1 ≠ xmlnsN) && decide (b.2 ≠ xmlnsU) && decide (b.2 ≠ []) && (decide (b.1 = xmlN) == decide (b.2 = xmlU))
/-- what a level binds a name to -/
def inLv : List Bd → Nm → Option Nm
  | [], _ => none
  | b :: r, p => if b.1 = p then some b.2 else inLv r p
/-- what a name is bound to -/
def lookS : List (List Bd) → Nm → Option Nm
  | [], p => if p = xmlN then some xmlU else none
  | lv :: r, p => match inLv lv p with
    | some u => some u
    | none => lookS r p
/-- one bond more in a level -/
def addB (lv : List Bd) (a : At4) : Option (List Bd) :=
  match declB a with
  | none => some lv
  | some b => if mayB b = true ∧ inLv lv b.1 = none then some (lv ++ [b]) else none
def bindsL : List Bd → List At4 → Option (List Bd)
  | lv, [] => some lv
  | lv, a :: r => match addB lv a with
    | none => none
    | some lv' => bindsL lv' r
def pushS (S : List (List Bd)) (l : List At4) : List (List Bd) :=
  match bindsL [] l with
  | some lv => lv :: S
  | none => S
def pushE (l : List At4) : Int := if bindsL [] l = none then 2 else 0
def uriS (S : List (List Bd)) (p : Nm) : Nm := (lookS S p).getD []
def isS (S : List (List Bd)) (p : Nm) : Bool := (lookS S p).isSome || decide (p = [])
/-- a name into names in their order -/
def insN (p : Nm) : List Nm → List Nm
  | [] => [p]
  | x :: r => if p = x then x :: r else if p < x then p :: x :: r else x :: insN p r
def insAll : List Bd → List Nm → List Nm
  | [], l => l
  | b :: r, l => insAll r (insN b.1 l)
/-- all names, in their order -/
def allN : List (List Bd) → List Nm
  | [] => [xmlN]
  | lv :: r => insAll lv (allN r)
def boundB (S : List (List Bd)) (p : Nm) : Option Bd :=
  match lookS S p with
  | none => none
  | some u => if u = [] then none else some (p, u)
/-- all that is bound to something, by name -/
def allS (S : List (List Bd)) : List Bd := (allN S).filterMap (boundB S)
/-- a bond as a declaration -/
def declA (b : Bd) : At4 := if b.1 = [] then ⟨[], xmlnsN, xmlnsU, b.2⟩ else ⟨xmlnsN, b.1, xmlnsU, b.2⟩
def findP (u : Nm) : List Bd → Option Nm
  | [] => none
  | b :: r => if b.1 ≠ [] ∧ b.2 = u then some b.1 else findP u r
def prefS (S : List (List Bd)) (u : Nm) : Nm := (findP u (allS S)).getD []
def prefE (S : List (List Bd)) (u : Nm) : Bool := (findP u (allS S)).isSome

/-! ### names in their order -/
theorem nm_lt_irrefl (p : Nm) : ¬ p < p := List.lt_irrefl p
theorem nm_lt_trans {p q r : Nm} (h : p < q) (k : q < r) : p < r := List.lt_trans h k
theorem nm_tri (p q : Nm) (h : p ≠ q) (k : ¬ p < q) : q < p := by
  by_cases h1 : q < p
  · exact h1
  · exact absurd (List.le_antisymm (List.not_lt.1 h1) (List.not_lt.1 k)) h
theorem mem_insN (p x : Nm) : ∀ l : List Nm, x ∈ insN p l ↔ x = p ∨ x ∈ l
  | [] => by simp [insN]
  | y :: r => by
    unfold insN
    split
    · rename_i e; subst e; simp
    · split
      · simp
      · simp only [List.mem_cons, mem_insN p x r]
        constructor
        · rintro (h | h | h) <;> simp [h]
        · rintro (h | h | h) <;> simp [h]
theorem sorted_insN (p : Nm) : ∀ l : List Nm, l.Pairwise (· < ·) → (insN p l).Pairwise (· < ·)
  | [], _ => by simp [insN]
  | y :: r, h => by
    obtain ⟨h1, h2⟩ := List.pairwise_cons.1 h
    unfold insN
    split
    · exact h
    · split
      · rename_i hlt
        refine List.pairwise_cons.2 ⟨fun z hz => ?_, h⟩
        rcases List.mem_cons.1 hz with rfl | hz
        · exact hlt
        · exact nm_lt_trans hlt (h1 z hz)
      · rename_i hne hlt
        refine List.pairwise_cons.2 ⟨fun z hz => ?_, sorted_insN p r h2⟩
        rcases (mem_insN p z r).1 hz with rfl | hz
        · exact nm_tri _ _ hne hlt
        · exact h1 z hz
theorem mem_insAll (x : Nm) : ∀ (lv : List Bd) (l : List Nm), x ∈ insAll lv l ↔ (∃ b ∈ lv, b.1 = x) ∨ x ∈ l
  | [], l => by simp [insAll]
  | b :: r, l => by
    unfold insAll
    rw [mem_insAll x r, mem_insN]
    simp only [List.mem_cons, exists_eq_or_imp]
    constructor
    · rintro (h | h | h)
      · exact Or.inl (Or.inr h)
      · exact Or.inl (Or.inl h.symm)
      · exact Or.inr h
    · rintro ((h | h) | h)
      · exact Or.inr (Or.inl h.symm)
      · exact Or.inl h
      · exact Or.inr (Or.inr h)
theorem sorted_insAll : ∀ (lv : List Bd) (l : List Nm), l.Pairwise (· < ·) → (insAll lv l).Pairwise (· < ·)
  | [], _, h => h
  | b :: r, l, h => sorted_insAll r _ (sorted_insN b.1 l h)
theorem sorted_allN : ∀ S : List (List Bd), (allN S).Pairwise (· < ·)
  | [] => by simp [allN]
  | lv :: r => sorted_insAll lv _ (sorted_allN r)
theorem inLv_none (p : Nm) : ∀ lv : List Bd, inLv lv p = none ↔ ∀ b ∈ lv, b.1 ≠ p
  | [] => by simp [inLv]
  | b :: r => by
    unfold inLv
    split
    · rename_i e; simp [e]
    · rename_i e
      rw [inLv_none p r]; simp [e]
theorem inLv_mem {p u : Nm} : ∀ {lv : List Bd}, inLv lv p = some u → (p, u) ∈ lv
  | b :: r, h => by
    unfold inLv at h
    split at h
    · rename_i e
      injection h with h
      subst e; subst h; simp
    · exact List.mem_cons_of_mem _ (inLv_mem h)
theorem inLv_append (p : Nm) (b : Bd) : ∀ lv : List Bd, inLv (lv ++ [b]) p = match inLv lv p with
    | some u => some u
    | none => if b.1 = p then some b.2 else none
  | [] => by simp [inLv]
  | a :: r => by
    rw [List.cons_append]
    unfold inLv
    split
    · rfl
    · exact inLv_append p b r
theorem mem_allN (x : Nm) : ∀ S : List (List Bd), x ∈ allN S ↔ lookS S x ≠ none
  | [] => by
    unfold allN lookS
    split <;> simp_all
  | lv :: r => by
    unfold allN lookS
    rw [mem_insAll, mem_allN x r]
    cases h : inLv lv x with
    | none =>
      have := (inLv_none x lv).1 h
      constructor
      · rintro (⟨b, hb, e⟩ | h1)
        · exact absurd e (this b hb)
        · exact h1
      · exact Or.inr
    | some u =>
      simp only [ne_eq, reduceCtorEq, not_false_eq_true, iff_true]
      exact Or.inl ⟨(x, u), inLv_mem h, rfl⟩
/-! ### what is bound -/
structure NiceS (S : List (List Bd)) : Prop where
  few : S.length ≤ 1048576
  small : ∀ lv ∈ S, lv.length ≤ 1048576
  may : ∀ lv ∈ S, ∀ b ∈ lv, mayB b = true
  apart : ∀ lv ∈ S, (lv.map (·.1)).Nodup
  sizes : ∀ lv ∈ S, ∀ b ∈ lv, b.1.length ≤ 8388608 ∧ b.2.length ≤ 8388608
theorem niceS_nil : NiceS [] := ⟨by simp, by simp, by simp, by simp, by simp⟩
theorem NiceS.tail {lv : List Bd} {S : List (List Bd)} (h : NiceS (lv :: S)) : NiceS S :=
  ⟨by have := h.few; simp at this; omega, fun l hl => h.small l (List.mem_cons_of_mem _ hl), fun l hl => h.may l (List.mem_cons_of_mem _ hl), fun l hl => h.apart l (List.mem_cons_of_mem _ hl), fun l hl => h.sizes l (List.mem_cons_of_mem _ hl)⟩
theorem NiceS.cons {lv : List Bd} {S : List (List Bd)} (h : NiceS S) (h1 : S.length < 1048576) (h2 : lv.length ≤ 1048576) (h3 : ∀ b ∈ lv, mayB b = true) (h4 : (lv.map (·.1)).Nodup) (h5 : ∀ b ∈ lv, b.1.length ≤ 8388608 ∧ b.2.length ≤ 8388608) : NiceS (lv :: S) :=
  ⟨by simp; omega, fun l hl => (List.mem_cons.1 hl).elim (fun e => by rw [e]; exact h2) (h.small l), fun l hl => (List.mem_cons.1 hl).elim (fun e => by rw [e]; exact h3) (h.may l),
    fun l hl => (List.mem_cons.1 hl).elim (fun e => by rw [e]; exact h4) (h.apart l), fun l hl => (List.mem_cons.1 hl).elim (fun e => by rw [e]; exact h5) (h.sizes l)⟩
theorem NiceS.look {S : List (List Bd)} (h : NiceS S) {p u : Nm} (hl : lookS S p = some u) : mayB (p, u) = true ∧ u.length ≤ 8388608 ∧ p.length ≤ 8388608 := by
  induction S with
  | nil =>
    unfold lookS at hl
    split at hl
    · rename_i e; injection hl with hl; subst e; subst hl; decide
    · cases hl
  | cons lv r ih =>
    unfold lookS at hl
    cases hi : inLv lv p with
    | none => rw [hi] at hl; exact ih h.tail hl
    | some v =>
      rw [hi] at hl
      injection hl with hl
      subst hl
      have hm := inLv_mem hi
      exact ⟨h.may lv (by simp) _ hm, (h.sizes lv (by simp) _ hm).2, (h.sizes lv (by simp) _ hm).1⟩
theorem mayB_ne {p u : Nm} (h : mayB (p, u) = true) (hp : p ≠ []) : u ≠ [] := by
  unfold mayB at h
  rw [if_neg hp] at h
  simp only [Bool.and_eq_true, decide_eq_true_eq] at h
  exact h.1.2
theorem mayB_xml {u : Nm} (h : mayB (xmlN, u) = true) : u = xmlU := by
  unfold mayB at h
  rw [if_neg (show ¬ xmlN = [] by decide)] at h
  simp only [Bool.and_eq_true, decide_eq_true_eq, beq_iff_eq, decide_true] at h
  exact of_decide_eq_true h.2.symm
theorem lookS_xml : ∀ {S : List (List Bd)}, NiceS S → lookS S xmlN = some xmlU := by
  intro S
  induction S with
  | nil => intro _; rfl
  | cons lv r ih =>
    intro h
    unfold lookS
    cases hi : inLv lv xmlN with
    | none => exact ih h.tail
    | some u => exact congrArg some (mayB_xml (h.may lv (by simp) _ (inLv_mem hi)))
theorem mem_allS {S : List (List Bd)} {b : Bd} : b ∈ allS S ↔ lookS S b.1 = some b.2 ∧ b.2 ≠ [] := by
  unfold allS
  rw [List.mem_filterMap]
  constructor
  · rintro ⟨p, hp, e⟩
    unfold boundB at e
    split at e
    · cases e
    · rename_i u hu
      split at e
      · cases e
      · rename_i hne
        injection e with e
        subst e
        exact ⟨hu, hne⟩
  · rintro ⟨h1, h2⟩
    refine ⟨b.1, (mem_allN _ _).2 (by rw [h1]; simp), ?_⟩
    unfold boundB
    rw [h1]
    simp [h2]
theorem sorted_allS (S : List (List Bd)) : (allS S).Pairwise (fun a b => a.1 < b.1) := by
  unfold allS
  refine List.Pairwise.filterMap _ (fun a a' haa b hb b' hb' => ?_) (sorted_allN S)
  have key : ∀ {x : Nm} {y : Bd}, boundB S x = some y → y.1 = x := by
    intro x y h
    unfold boundB at h
    split at h
    · cases h
    · split at h
      · cases h
      · injection h with h; subst h; rfl
  rw [key hb, key hb']
  exact haa
/-! ### the least prefix -/
theorem findP_some {u p : Nm} : ∀ {l : List Bd}, l.Pairwise (fun a b => a.1 < b.1) → (p, u) ∈ l → p ≠ [] → (∀ q, q ≠ [] → (q, u) ∈ l → ¬ q < p) → findP u l = some p
  | b :: r, hs, hm, hp, hmin => by
    obtain ⟨h1, h2⟩ := List.pairwise_cons.1 hs
    unfold findP
    rcases List.mem_cons.1 hm with e | hm'
    · subst e
      rw [if_pos ⟨hp, rfl⟩]
    · split
      · rename_i hc
        have : ¬ b.1 < p := hmin b.1 hc.1 (by rw [← hc.2]; simp)
        exact absurd (h1 _ hm') this
      · exact findP_some h2 hm' hp fun q hq hqm => hmin q hq (List.mem_cons_of_mem _ hqm)
theorem findP_none {u : Nm} : ∀ {l : List Bd}, (∀ q, q ≠ [] → (q, u) ∉ l) → findP u l = none
  | [], _ => rfl
  | b :: r, h => by
    unfold findP
    split
    · rename_i hc
      exact absurd (by rw [← hc.2]; simp) (h b.1 hc.1)
    · exact findP_none fun q hq hm => h q hq (List.mem_cons_of_mem _ hm)
theorem pref_some {S : List (List Bd)} (hN : NiceS S) {u p : Nm} (hl : lookS S p = some u) (hp : p ≠ []) (hmin : ∀ q, q ≠ [] → lookS S q = some u → ¬ q < p) : findP u (allS S) = some p :=
  findP_some (sorted_allS S) (mem_allS.2 ⟨hl, mayB_ne (hN.look hl).1 hp⟩) hp fun q hq hm => hmin q hq (mem_allS.1 hm).1
theorem pref_none {S : List (List Bd)} {u : Nm} (h : ∀ q, q ≠ [] → lookS S q ≠ some u) : findP u (allS S) = none :=
  findP_none fun q hq hm => h q hq (mem_allS.1 hm).1
/-! ### binding -/
theorem addB_nice {lv lv' : List Bd} {a : At4} (h : addB lv a = some lv') : lv' = lv ∨ ∃ b, declB a = some b ∧ mayB b = true ∧ inLv lv b.1 = none ∧ lv' = lv ++ [b] := by
  unfold addB at h
  split at h
  · injection h with h; exact Or.inl h.symm
  · rename_i b hb
    split at h
    · rename_i hc
      injection h with h
      exact Or.inr ⟨b, hb, hc.1, hc.2, h.symm⟩
    · cases h
def FitA (a : At4) : Prop := a.loc.length ≤ 8388608 ∧ a.val.length ≤ 8388608
theorem declB_fit {a : At4} (ha : FitA a) {b : Bd} (h : declB a = some b) : b.1.length ≤ 8388608 ∧ b.2.length ≤ 8388608 := by
  unfold declB at h
  split at h
  · split at h
    · injection h with h; subst h; exact ha
    · split at h
      · injection h with h; subst h; exact ⟨by simp, ha.2⟩
      · cases h
  · cases h
/-- a level as it may be -/
structure NiceL (lv : List Bd) : Prop where
  may : ∀ b ∈ lv, mayB b = true
  apart : (lv.map (·.1)).Nodup
  sizes : ∀ b ∈ lv, b.1.length ≤ 8388608 ∧ b.2.length ≤ 8388608
theorem niceL_nil : NiceL [] := ⟨by simp, by simp, by simp⟩
theorem NiceL.add {lv lv' : List Bd} {a : At4} (hn : NiceL lv) (ha : FitA a) (h : addB lv a = some lv') : NiceL lv' ∧ lv'.length ≤ lv.length + 1 := by
  rcases addB_nice h with rfl | ⟨b, hb, hm, hi, rfl⟩
  · exact ⟨hn, by omega⟩
  · refine ⟨⟨fun c hc => ?_, ?_, fun c hc => ?_⟩, by simp⟩
    · rcases List.mem_append.1 hc with hc | hc
      · exact hn.may c hc
      · simp at hc; subst hc; exact hm
    · rw [List.map_append, List.nodup_append]
      refine ⟨hn.apart, by simp, fun x hx y hy => ?_⟩
      simp at hy
      subst hy
      obtain ⟨c, hc, rfl⟩ := List.mem_map.1 hx
      exact (inLv_none b.1 lv).1 hi c hc
    · rcases List.mem_append.1 hc with hc | hc
      · exact hn.sizes c hc
      · simp at hc; subst hc; exact declB_fit ha hb
theorem NiceL.binds : ∀ {l : List At4} {lv lv' : List Bd}, NiceL lv → (∀ a ∈ l, FitA a) → bindsL lv l = some lv' → NiceL lv' ∧ lv'.length ≤ lv.length + l.length
  | [], lv, lv', hn, _, h => by
    unfold bindsL at h
    injection h with h
    subst h
    exact ⟨hn, by simp⟩
  | a :: r, lv, lv', hn, hf, h => by
    unfold bindsL at h
    split at h
    · cases h
    · rename_i lv1 h1
      obtain ⟨hn1, hl1⟩ := hn.add (hf a (by simp)) h1
      obtain ⟨hn2, hl2⟩ := NiceL.binds hn1 (fun x hx => hf x (by simp [hx])) h
      exact ⟨hn2, by simp; omega⟩
theorem NiceS.push {S : List (List Bd)} {l : List At4} (h : NiceS S) (h1 : S.length < 1048576) (h2 : l.length ≤ 1048576) (hf : ∀ a ∈ l, FitA a) : NiceS (pushS S l) := by
  unfold pushS
  split
  · rename_i lv hb
    obtain ⟨hn, hl⟩ := niceL_nil.binds hf hb
    exact h.cons h1 (by simp at hl; omega) hn.may hn.apart hn.sizes
  · exact h
end Go.Proofs.Ythhnpnjnlbjdjaa
