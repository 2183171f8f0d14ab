/-
  ROWS OF ATTRIBUTES IN MEMORY.
-/
import Derived.Test.YthhnpnjnlbjdjaaScSaid
import Derived.Laws.AppendOwn
import Derived.Deep.OwnRows
namespace Go.Proofs.Ythhnpnjnlbjdjaa
open Go.RowKit

/-- the cells of attributes -/
def flatA : List At4 → List Value
  | [] => []
  | a :: l => .string (bytes a.pre) :: .string (bytes a.loc) :: .string (bytes a.uri) :: .string (bytes a.val) :: flatA l
theorem flatA_len : ∀ l : List At4, (flatA l).length = l.length * 4
  | [] => rfl
  | a :: l => by
    unfold flatA
    simp only [List.length_cons, flatA_len l]
    omega
theorem flatA_snoc (a : At4) : ∀ l : List At4, flatA (l ++ [a]) = flatA l ++ [.string (bytes a.pre), .string (bytes a.loc), .string (bytes a.uri), .string (bytes a.val)]
  | [] => rfl
  | x :: l => by
    rw [List.cons_append]
    unfold flatA
    rw [flatA_snoc a l]
    rfl
theorem flatA_at : ∀ (l : List At4) (i : Nat), i < l.length → (flatA l)[i * 4]? = some (.string (bytes (at4I l i).pre)) ∧ (flatA l)[i * 4 + 1]? = some (.string (bytes (at4I l i).loc)) ∧ (flatA l)[i * 4 + 2]? = some (.string (bytes (at4I l i).uri)) ∧ (flatA l)[i * 4 + 3]? = some (.string (bytes (at4I l i).val))
  | [], i, h => by simp at h
  | a :: l, 0, _ => ⟨rfl, rfl, rfl, rfl⟩
  | a :: l, i + 1, h => by
    have h2 := flatA_at l i (by simpa using h)
    have e : ∀ j, (flatA (a :: l))[(i + 1) * 4 + j]? = (flatA l)[i * 4 + j]? := by
      intro j
      have e1 : (i + 1) * 4 + j = (i * 4 + j) + 4 := by omega
      rw [e1]
      rfl
    have e2 : at4I (a :: l) (i + 1) = at4I l i := rfl
    rw [e2]
    exact ⟨(e 0).trans h2.1, (e 1).trans h2.2.1, (e 2).trans h2.2.2.1, (e 3).trans h2.2.2.2⟩
theorem ats_of_own {w : World} {base : Nat} {v : Value} {l : List At4} {G : Nat → Prop} (h : w.ownsRow base 35 4 v l.length (flatA l)) (hG : ∀ k, base ≤ k → k < w.heap.size → G k) : AtsAt G w v l := by
  have hlt := h.lt
  rcases h.2 with ⟨rfl, hn⟩ | ⟨g, cap, cur, rfl, hb, hg, _⟩
  · exact Or.inl ⟨none, 0, rfl, List.eq_nil_of_length_eq_zero hn⟩
  · have hgl := (hlt g rfl).2
    refine Or.inr ⟨g, 0, cap, rfl, hG g hb hgl, hgl, fun i hi => ?_⟩
    obtain ⟨e1, e2, e3, e4⟩ := flatA_at l i hi
    have hc : ∀ j u, (flatA l)[j]? = some u → w.cell? ⟨g, 0 + j, none⟩ = some u := by
      intro j u hu
      have h1 := h.cells (g := g) rfl j u hu
      have hadd : (⟨g, 0, none⟩ : Addr).add j = ⟨g, 0 + j, none⟩ := by unfold Addr.add; split <;> simp_all
      rw [hadd] at h1
      exact h1
    exact ⟨hc _ _ e1, hc _ _ e2, hc _ _ e3, hc _ _ e4⟩
theorem info_at : (Try.prog.info? 35).map (fun i => (i.zero, i.size, i.bytes)) = some (some (.agg #[.string ⟨#[]⟩, .string ⟨#[]⟩, .string ⟨#[]⟩, .string ⟨#[]⟩]), 4, 64) := by kernel_rfl
theorem cells_four (w : World) (a b c d : Value) (t : TypeId) (n : Nat) (hn : w.heap.size = n) : ∀ j u, [a, b, c, d][j]? = some u → (w.alloc (.cells #[a, b, c, d] t)).cell? ((⟨n, 0, none⟩ : Addr).add j) = some u := by
  subst hn
  intro j u hu
  have e : (⟨w.heap.size, 0, none⟩ : Addr).add j = ⟨w.heap.size, j, none⟩ := by unfold Addr.add; split <;> simp_all
  rw [e]
  rw [cell_of_row _ _ j _ _ (0, 0) (heap_alloc_new w _)]
  rw [← hu]
  simp
theorem own_slice14 {w : World} {base : Nat} {t : TypeId} {n sz : Nat} {v : Value} {xs : List Value} (h : w.ownsRow base t sz v n xs) : ∃ a cap, v = .slice a n cap := by
  rcases h.2 with ⟨rfl, rfl⟩ | ⟨g, cap, cur, rfl, _⟩
  · exact ⟨none, 0, rfl⟩
  · exact ⟨_, cap, rfl⟩
theorem info_open14 {t : TypeId} {z : Value} {s b : Nat} (h : (Try.prog.info? t).map (fun i => (i.zero, i.size, i.bytes)) = some (some z, s, b)) : ∃ i, Try.prog.info? t = some i ∧ i.zero = some z ∧ i.size = s ∧ i.bytes = b := by
  cases hi : Try.prog.info? t with
  | none => rw [hi] at h; cases h
  | some i =>
    rw [hi] at h
    simp only [Option.map_some, Option.some.injEq, Prod.mk.injEq] at h
    exact ⟨i, rfl, h.1, h.2.1, h.2.2⟩
/-- attributes, laid anew -/
theorem ats_new (w : World) (l : List At4) (C : Array Value) (hC : C = (flatA l).toArray) (n : Nat) (hn : n = l.length) (G : Nat → Prop) (hG : G w.heap.size) : AtsAt G (w.alloc (.cells C 35)) (.slice (some ⟨w.heap.size, 0, none⟩) n n) l := by
  subst hC; subst hn
  refine Or.inr ⟨w.heap.size, 0, l.length, rfl, hG, by show _ < (w.heap.push _).size; rw [Array.size_push]; omega, fun i hi => ?_⟩
  obtain ⟨e1, e2, e3, e4⟩ := flatA_at l i hi
  have hc : ∀ j u, (flatA l)[j]? = some u → (w.alloc (.cells (flatA l).toArray 35)).cell? ⟨w.heap.size, 0 + j, none⟩ = some u := by
    intro j u hu
    rw [Nat.zero_add, cell_of_row _ _ j _ _ (0, 0) (heap_alloc_new w _)]
    rw [← hu]
    simp
  exact ⟨hc _ _ e1, hc _ _ e2, hc _ _ e3, hc _ _ e4⟩

/-- WHERE A LAW STANDS: the scope v of the levels S, in the world w, which is as w0 but for what has been made since; the blocks of K are none of its, and are as in wk. -/
structure SAt (Is : (Nat → Prop) → World → Value → List (List Bd) → Prop) (w0 : World) (v : Value) (K : Nat → Prop) (wk : World) (S : List (List Bd)) (w : World) : Prop where
  nice : NiceS S
  is : ∃ F, Is F w v S ∧ ∀ k, F k → w0.heap.size ≤ k ∧ ¬ K k
  since : Below w0.heap.size w0 w
  size : wk.heap.size ≤ w.heap.size
  inK : ∀ k, K k → k < wk.heap.size
  keepK : ∀ k, K k → w.heap[k]? = wk.heap[k]?
section
variable {Is : (Nat → Prop) → World → Value → List (List Bd) → Prop} {w0 w w1 wk : World} {v : Value} {S : List (List Bd)} {K : Nat → Prop}
theorem SAt.other (R : ScSaid Is) (h : SAt Is w0 v K wk S w) {w' : World} (hb : Below w.heap.size w w') : SAt Is w0 v K wk S w' := by
  obtain ⟨F, hi, hF⟩ := h.is
  exact ⟨h.nice, ⟨F, R.keep F w w' v S hi hb.size fun k hk => hb.block k (R.inn F w v S hi k hk), hF⟩, h.since.trans (hb.mono h.since.size), Nat.le_trans h.size hb.size, h.inK, fun k hk => (hb.block k (Nat.lt_of_lt_of_le (h.inK k hk) h.size)).trans (h.keepK k hk)⟩
theorem SAt.gave (h : SAt Is w0 v K wk S w) {F : Nat → Prop} (hF : ∀ k, F k → w0.heap.size ≤ k ∧ ¬ K k) {S' : List (List Bd)} {r : Value} {e : Ending} {w' : World} (hN : NiceS S') (hg : GaveS Is F v S' r w e w') : e = .returned r ∧ SAt Is w0 v K wk S' w' := by
  obtain ⟨rfl, F', hi, hs, ht⟩ := hg
  refine ⟨rfl, hN, ⟨F', hi, fun k hk => ?_⟩, h.since.trans (ht.below h.since.size fun k hk => (hF k hk).1), Nat.le_trans h.size ht.size, h.inK, fun k hk => (ht.block k (Nat.lt_of_lt_of_le (h.inK k hk) h.size) fun hf => (hF k hf).2 hk).trans (h.keepK k hk)⟩
  rcases hs k hk with h1 | h1
  · exact hF k h1
  · have := h.since.size
    exact ⟨by omega, fun h2 => by have := h.inK k h2; have := h.size; omega⟩
theorem SAt.ats {l : List At4} {sl : Value} (h : SAt Is w0 v K wk S w) (ha : AtsAt K wk sl l) : AtsAt K w sl l := ha.keep h.size fun k hk _ => ⟨h.keepK k hk, hk⟩
/-- other blocks are kept from now on: those that are none of the scope's -/
theorem SAt.key (h : SAt Is w0 v K wk S w) (K' : Nat → Prop) (h1 : ∀ k, K' k → k < w.heap.size) (h2 : ∀ F, Is F w v S → (∀ k, F k → w0.heap.size ≤ k ∧ ¬ K k) → ∀ k, F k → ¬ K' k) : SAt Is w0 v K' w S w := by
  obtain ⟨F, hi, hF⟩ := h.is
  exact ⟨h.nice, ⟨F, hi, fun k hk => ⟨(hF k hk).1, h2 F hi hF k hk⟩⟩, h.since, Nat.le_refl _, h1, fun _ _ => rfl⟩
theorem snewAt (R : ScSaid Is) (h0 : Below w0.heap.size w0 w) : Calls Try.prog 8 #[] w fun e w' => ∃ a, e = .returned (.pointer (some a)) ∧ SAt Is w0 (.pointer (some a)) (fun _ => False) w0 [] w' := by
  refine (R.new w).mono ?_
  rintro e w' ⟨v, F, rfl, hi, hF, hb⟩
  obtain ⟨a, rfl⟩ := R.isPtr F w' v _ hi
  exact ⟨a, rfl, niceS_nil, ⟨F, hi, fun k hk => ⟨by have := hF k hk; have := h0.size; omega, fun h => h⟩⟩, h0.trans (hb.mono h0.size), Nat.le_trans h0.size hb.size, fun k hk => hk.elim, fun k hk => hk.elim⟩
/-- Push of attributes that were laid since the scope was last asked -/
theorem spushAt (R : ScSaid Is) (l : List At4) (sl : Value) (hfew : S.length < 1048576) (hl : l.length ≤ 1048576) (hfit : ∀ a ∈ l, FitA a) (h : SAt Is w0 v K wk S w) (hb : Below w.heap.size w w1) (ha : AtsAt (fun k => w.heap.size ≤ k) w1 sl l) :
    Calls Try.prog 9 #[v, sl] w1 fun e w' => e = .returned (.int .i64 (pushE l)) ∧ SAt Is w0 v K wk (pushS S l) w' := by
  obtain ⟨F, hi, hF⟩ := h.is
  have h1 := h.other R hb
  have hin := R.inn F w v S hi
  have hi1 := R.keep F w w1 v S hi hb.size fun k hk => hb.block k (hin k hk)
  exact (R.push F v S l sl w1 h.nice hfew hl hfit hi1 (ha.keep (Nat.le_refl _) fun k hk _ => ⟨rfl, fun hf => by have := hin k hf; omega⟩)).mono fun e w' hg => h1.gave hF (h.nice.push hfew hl hfit) hg
/-- .. that are kept -/
theorem spushKAt (R : ScSaid Is) (l : List At4) (sl : Value) (hfew : S.length < 1048576) (hl : l.length ≤ 1048576) (hfit : ∀ a ∈ l, FitA a) (h : SAt Is w0 v K wk S w) (ha : AtsAt K wk sl l) :
    Calls Try.prog 9 #[v, sl] w fun e w' => e = .returned (.int .i64 (pushE l)) ∧ SAt Is w0 v K wk (pushS S l) w' := by
  obtain ⟨F, hi, hF⟩ := h.is
  exact (R.push F v S l sl w h.nice hfew hl hfit hi ((h.ats ha).keep (Nat.le_refl _) fun k hk _ => ⟨rfl, fun hf => (hF k hf).2 hk⟩)).mono fun e w' hg => h.gave hF (h.nice.push hfew hl hfit) hg
theorem NiceS.drop (h : NiceS S) : NiceS S.tail := by
  cases S with
  | nil => exact h
  | cons lv r => exact h.tail
theorem spopAt (R : ScSaid Is) (h : SAt Is w0 v K wk S w) : Calls Try.prog 17 #[v] w fun e w' => e = .returned (.bool (decide (S ≠ []))) ∧ SAt Is w0 v K wk S.tail w' := by
  obtain ⟨F, hi, hF⟩ := h.is
  exact (R.pop F v S w h.nice hi).mono fun e w' hg => h.gave hF h.nice.drop hg
theorem suriAt (R : ScSaid Is) (p : Nm) (hp : p.length ≤ 8388608) (h : SAt Is w0 v K wk S w) : Calls Try.prog 13 #[v, .string (bytes p)] w fun e w' => e = .returned (.tuple #[.string (bytes (uriS S p)), .bool (isS S p)]) ∧ SAt Is w0 v K wk S w' := by
  obtain ⟨F, hi, hF⟩ := h.is
  exact (R.uri F v S p w h.nice hp hi).mono fun e w' hg => h.gave hF h.nice hg
theorem sprefAt (R : ScSaid Is) (u : Nm) (hu : u.length ≤ 8388608) (h : SAt Is w0 v K wk S w) : Calls Try.prog 14 #[v, .string (bytes u)] w fun e w' => e = .returned (.tuple #[.string (bytes (prefS S u)), .bool (prefE S u)]) ∧ SAt Is w0 v K wk S w' := by
  obtain ⟨F, hi, hF⟩ := h.is
  exact (R.pref F v S u w h.nice hu hi).mono fun e w' hg => h.gave hF h.nice hg
/-- All: a new slice, which nothing that the scope does will turn -/
theorem sallAt (R : ScSaid Is) (h : SAt Is w0 v K wk S w) : Calls Try.prog 11 #[v] w fun e w' => ∃ sl, e = .returned sl ∧ ∃ K', SAt Is w0 v K' w' S w' ∧ AtsAt K' w' sl ((allS S).map declA) ∧ ∀ k, K k → K' k ∧ w'.heap[k]? = wk.heap[k]? := by
  obtain ⟨F, hi, hF⟩ := h.is
  refine (R.all F v S w h.nice hi).mono ?_
  rintro e w' ⟨sl, F', rfl, hi', hs, ht, ha⟩
  obtain ⟨_, h2⟩ := h.gave (e := .returned sl) hF h.nice ⟨rfl, F', hi', hs, ht⟩
  have hF' : ∀ k, F' k → w0.heap.size ≤ k ∧ ¬ K k := by
    intro k hk
    rcases hs k hk with h1 | h1
    · exact hF k h1
    · have := h.since.size
      exact ⟨by omega, fun h2 => by have := h.inK k h2; have := h.size; omega⟩
  refine ⟨sl, rfl, fun k => K k ∨ (¬ F' k ∧ k < w'.heap.size), ⟨h.nice, ⟨F', hi', fun k hk => ⟨(hF' k hk).1, fun h3 => ?_⟩⟩, h2.since, Nat.le_refl _, fun k hk => ?_, fun _ _ => rfl⟩, ha.keep (Nat.le_refl _) fun k hk hl => ⟨rfl, Or.inr ⟨hk.1, hl⟩⟩, fun k hk => ⟨Or.inl hk, h2.keepK k hk⟩⟩
  · rcases h3 with h3 | h3
    · exact (hF' k hk).2 h3
    · exact h3.1 hk
  · rcases hk with hk | hk
    · exact Nat.lt_of_lt_of_le (h2.inK k hk) h2.size
    · exact hk.2
theorem sdepthAt (R : ScSaid Is) (h : SAt Is w0 v K wk S w) : Calls Try.prog 21 #[v] w fun e w' => e = .returned (.int .i64 S.length) ∧ SAt Is w0 v K wk S w' := by
  obtain ⟨F, hi, hF⟩ := h.is
  refine (R.depth F v S w h.nice hi).mono ?_
  rintro e w' ⟨rfl, hb⟩
  exact ⟨rfl, h.other R hb⟩
end
end Go.Proofs.Ythhnpnjnlbjdjaa
