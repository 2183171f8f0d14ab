/-
  THE SCOPE AND THE DOCUMENT'S OWN SCOPE SIDE BY SIDE.
-/
import Derived.Test.YthhnpnjnlbjdjaaScAll
import Derived.Test.YthhnpnjnlbjdjaaRfPref
import Derived.Test.YthhnpnjnlbjdjaaRfPop
import Derived.Test.YthhnpnjnlbjdjaaRfSame
namespace Go.Proofs.Ythhnpnjnlbjdjaa
open Go.RowKit

theorem pushS_small {S : List (List Bd)} (h : ∀ lv ∈ S, lv.length ≤ 8) (zs : List Int) : ∀ lv ∈ pushS S (declsZ zs 4), lv.length ≤ 8 := by
  unfold pushS
  split
  · rename_i lv hb
    obtain ⟨_, hl⟩ := niceL_nil.binds (declsZ_fit zs 4) hb
    have h8 := declsZ_few zs 4 (by decide)
    intro l hm
    rcases List.mem_cons.1 hm with rfl | hm
    · simp at hl
      omega
    · exact h l hm
  · exact h
theorem tail_small {S : List (List Bd)} (h : ∀ lv ∈ S, lv.length ≤ 8) : ∀ lv ∈ S.tail, lv.length ≤ 8 := by
  cases S with
  | nil => exact h
  | cons lv r => exact fun l hl => h l (List.mem_cons_of_mem _ hl)
theorem goodA_decls (zs : List Int) (most : Nat) : ∀ a ∈ declsZ zs most, GoodA a := by
  intro a ha
  unfold declsZ at ha
  obtain ⟨z, _, rfl⟩ := List.mem_map.1 ha
  exact goodA_declZ z
/-- WHERE THE LAW STANDS: v, the scope of the levels S; rb, the document's own, of the levels T; neither's blocks are the other's. -/
def PlAt (Is : (Nat → Prop) → World → Value → List (List Bd) → Prop) (W : World) (v : Value) (rb : Nat) (S T : List (List Bd)) (w : World) : Prop :=
  ∃ G K : Nat → Prop, RfIs G w rb T ∧ (∀ k, G k → K k) ∧ (∀ k, K k → W.heap.size ≤ k) ∧ SAt Is W v K w S w
/-- .. and attributes that neither will turn -/
def PlD (Is : (Nat → Prop) → World → Value → List (List Bd) → Prop) (W : World) (v : Value) (rb : Nat) (S T : List (List Bd)) (sl : Value) (l : List At4) (w : World) : Prop :=
  ∃ G K : Nat → Prop, RfIs G w rb T ∧ (∀ k, G k → K k) ∧ (∀ k, K k → W.heap.size ≤ k) ∧ SAt Is W v K w S w ∧ AtsAt K w sl l
/-- .. and what the box holds -/
def PlC (Is : (Nat → Prop) → World → Value → List (List Bd) → Prop) (W : World) (v : Value) (rb : Nat) (S : List (List Bd)) (sv : Value) (w : World) : Prop :=
  PlAt Is W v rb S S w ∧ w.cell? ⟨rb, 0, none⟩ = some sv
section
variable {Is : (Nat → Prop) → World → Value → List (List Bd) → Prop} {W w w' : World} {v : Value} {rb : Nat} {S S' T : List (List Bd)} {K : Nat → Prop} {sl sv : Value} {l : List At4}
theorem pl_new (R : ScSaid Is) (h : SAt Is W v (fun _ => False) W [] w) : PlAt Is W v w.heap.size [] [] (w.alloc (.cells #[.slice none 0 0] 43)) := by
  have hb := (Below.refl w.heap.size w).alloc (Nat.le_refl _) (.cells #[.slice none 0 0] 43)
  have hs := h.more R hb
  have hz := dsize1 w (.cells #[.slice none 0 0] 43)
  have hw := h.since.size
  refine ⟨_, _, rfIs_new w _ (Or.inr ⟨Nat.le_refl _, by omega⟩), fun k hk => hk, fun k hk => ?_, hs⟩
  rcases hk with hk | hk
  · exact hk.elim
  · omega
theorem pl_of (R : ScSaid Is) {G : Nat → Prop} (hr : RfIs G w rb T) (hG : ∀ k, G k → K k) (hK : ∀ k, K k → W.heap.size ≤ k) (h : SAt Is W v K w S' w') : PlAt Is W v rb S' T w' :=
  ⟨G, K, hr.keep h.size fun k hk _ => ⟨h.keepK k (hG k hk), hk⟩, hG, hK, h.again R hK⟩
theorem PlAt.below (R : ScSaid Is) (h : PlAt Is W v rb S T w) (hb : Below w.heap.size w w') : PlAt Is W v rb S T w' := by
  obtain ⟨G, K, hr, hG, hK, hs⟩ := h
  exact pl_of R hr hG hK (hs.other R hb)
theorem PlAt.since (h : PlAt Is W v rb S T w) : Below W.heap.size W w := by
  obtain ⟨G, K, hr, hG, hK, hs⟩ := h
  exact hs.since
theorem PlAt.nice (h : PlAt Is W v rb S T w) : NiceS S := by
  obtain ⟨G, K, hr, hG, hK, hs⟩ := h
  exact hs.nice
theorem PlAt.suri (R : ScSaid Is) (h : PlAt Is W v rb S T w) (p : Nm) (hp : p.length ≤ 8388608) : Calls Try.prog 13 #[v, .string (bytes p)] w fun e w' => e = .returned (.tuple #[.string (bytes (uriS S p)), .bool (isS S p)]) ∧ PlAt Is W v rb S T w' := by
  obtain ⟨G, K, hr, hG, hK, hs⟩ := h
  exact (suriAt R p hp hs).mono fun e w' h => ⟨h.1, pl_of R hr hG hK h.2⟩
theorem PlAt.spref (R : ScSaid Is) (h : PlAt Is W v rb S T w) (u : Nm) (hu : u.length ≤ 8388608) : Calls Try.prog 14 #[v, .string (bytes u)] w fun e w' => e = .returned (.tuple #[.string (bytes (prefS S u)), .bool (prefE S u)]) ∧ PlAt Is W v rb S T w' := by
  obtain ⟨G, K, hr, hG, hK, hs⟩ := h
  exact (sprefAt R u hu hs).mono fun e w' h => ⟨h.1, pl_of R hr hG hK h.2⟩
theorem PlAt.spop (R : ScSaid Is) (h : PlAt Is W v rb S T w) : Calls Try.prog 17 #[v] w fun e w' => e = .returned (.bool (decide (S ≠ []))) ∧ PlAt Is W v rb S.tail T w' := by
  obtain ⟨G, K, hr, hG, hK, hs⟩ := h
  exact (spopAt R hs).mono fun e w' h => ⟨h.1, pl_of R hr hG hK h.2⟩
theorem PlAt.ruri (R : ScSaid Is) (h : PlAt Is W v rb S S w) (p : Nm) : Calls Try.prog 19 #[.pointer (some ⟨rb, 0, none⟩), .string (bytes p)] w fun e w' => e = .returned (.tuple #[.string (bytes (uriS S p)), .bool (isS S p)]) ∧ PlAt Is W v rb S S w' := by
  have h0 := h
  obtain ⟨G, K, hr, hG, hK, hs⟩ := h
  exact (rfuri_any hs.nice hr p).mono fun e w' h => ⟨h.1, h0.below R h.2⟩
theorem PlAt.rpref (R : ScSaid Is) (h : PlAt Is W v rb S S w) (hS : S.length ≤ 25) (hsm : ∀ lv ∈ S, lv.length ≤ 8) (u : Nm) : Calls Try.prog 20 #[.pointer (some ⟨rb, 0, none⟩), .string (bytes u)] w fun e w' => e = .returned (.tuple #[.string (bytes (prefS S u)), .bool (prefE S u)]) ∧ PlAt Is W v rb S S w' := by
  have h0 := h
  obtain ⟨G, K, hr, hG, hK, hs⟩ := h
  exact (rfpref_any hs.nice hS hsm hr u).mono fun e w' h => ⟨h.1, h0.below R h.2⟩
/-- a writing call of the document's own scope -/
theorem pl_turn (R : ScSaid Is) {G : Nat → Prop} {T' : List (List Bd)} (hr : RfIs G w rb T) (hG : ∀ k, G k → K k) (hK : ∀ k, K k → W.heap.size ≤ k) (hs : SAt Is W v K w S w) (hr' : RfIs (fun k => G k ∨ (w.heap.size ≤ k ∧ k < w'.heap.size)) w' rb T') (ht : Turns (fun k => k = rb) w w') : PlAt Is W v rb S T' w' := by
  obtain ⟨_, _, hra⟩ := hr
  have hin := hG rb hra.inG
  have ht2 : Turns K w w' := ⟨ht.os, ht.tape, ht.output, ht.size, fun k hk hf => ht.block k hk (fun e => hf (by rw [e]; exact hin))⟩
  have hw := hs.since.size
  refine ⟨_, fun k => K k ∨ (w.heap.size ≤ k ∧ k < w'.heap.size), hr', fun k hk => hk.imp (hG k) id, fun k hk => ?_, hs.mine R hK ht2 _ (fun k hk => hk.imp id And.left) fun k hk => ?_⟩
  · rcases hk with hk | hk
    · exact hK k hk
    · omega
  · rcases hk with hk | hk
    · have := hs.inK k hk; have := ht.size; omega
    · exact hk.2
theorem PlAt.rpop (R : ScSaid Is) (h : PlAt Is W v rb S T w) (hT : NiceS T) : Calls Try.prog 18 #[.pointer (some ⟨rb, 0, none⟩)] w fun e w' => e = .returned (.bool (decide (T ≠ []))) ∧ PlAt Is W v rb S T.tail w' := by
  obtain ⟨G, K, hr, hG, hK, hs⟩ := h
  exact (rfpop_any hT hr).mono fun e w' h => ⟨h.1, pl_turn R hr hG hK hs (h.2.1.keep (Nat.le_refl _) fun k hk _ => ⟨rfl, Or.inl hk⟩) h.2.2⟩
theorem PlAt.decls (R : ScSaid Is) (h : PlAt Is W v rb S T w) (hb : Below w.heap.size w w') (ha : AtsAt (fun k => w.heap.size ≤ k) w' sl l) : PlD Is W v rb S T sl l w' := by
  obtain ⟨G, K, hr, hG, hK, hs⟩ := h
  have hw := hs.since.size
  refine ⟨G, fun k => K k ∨ (w.heap.size ≤ k ∧ k < w'.heap.size), hr.keep hb.size fun k hk hl => ⟨hb.block k hl, hk⟩, fun k hk => Or.inl (hG k hk), fun k hk => ?_, hs.more R hb, ha.keep (Nat.le_refl _) fun k hk hl => ⟨rfl, Or.inr ⟨hk, hl⟩⟩⟩
  rcases hk with hk | hk
  · exact hK k hk
  · omega
theorem PlD.spush (R : ScSaid Is) (h : PlD Is W v rb S T sl l w) (hfew : S.length < 1048576) (hl : l.length ≤ 1048576) (hfit : ∀ a ∈ l, FitA a) : Calls Try.prog 9 #[v, sl] w fun e w' => e = .returned (.int .i64 (pushE l)) ∧ PlD Is W v rb (pushS S l) T sl l w' := by
  obtain ⟨G, K, hr, hG, hK, hs, ha⟩ := h
  exact (spushKAt R l sl hfew hl hfit hs ha).mono fun e w' h => ⟨h.1, G, K, hr.keep h.2.size fun k hk _ => ⟨h.2.keepK k (hG k hk), hk⟩, hG, hK, h.2.again R hK, h.2.ats ha⟩
theorem PlD.rpush (R : ScSaid Is) (h : PlD Is W v rb S T sl l w) (hfew : T.length < 1048576) (hl8 : l.length ≤ 8) (hgood : ∀ a ∈ l, GoodA a) : Calls Try.prog 16 #[.pointer (some ⟨rb, 0, none⟩), sl] w fun e w' => e = .returned (.int .i64 (pushE l)) ∧ PlAt Is W v rb S (pushS T l) w' := by
  obtain ⟨G, K, hr, hG, hK, hs, ha⟩ := h
  exact (rfpush_any hfew hr hl8 hgood ha).mono fun e w' h => ⟨h.1, pl_turn R hr hG hK hs h.2.1 h.2.2⟩
theorem PlAt.cell (h : PlAt Is W v rb S T w) : ∃ oa cap, w.cell? ⟨rb, 0, none⟩ = some (.slice oa T.length cap) := by
  obtain ⟨G, K, ⟨sv, xs, hr⟩, hG, hK, hs⟩ := h
  obtain ⟨oa, cap, rfl⟩ := hr.slice
  exact ⟨oa, cap, hr.box.cell (i := 0) (by decide)⟩
theorem PlC.below (R : ScSaid Is) (h : PlC Is W v rb S sv w) (hb : Below w.heap.size w w') : PlC Is W v rb S sv w' :=
  ⟨h.1.below R hb, (hb.cell (p := ⟨rb, 0, none⟩) (World.block_lt_of_cell? _ _ h.2)).trans h.2⟩
theorem PlC.drew (R : ScSaid Is) (h : PlC Is W v rb S sv w) : PlC Is W v rb S sv w.drew := h.below R ⟨rfl, rfl, rfl, Nat.le_refl _, fun _ _ => rfl⟩
theorem PlC.depth (R : ScSaid Is) (h : PlC Is W v rb S sv w) : Calls Try.prog 21 #[v] w fun e w' => e = .returned (.int .i64 S.length) ∧ PlC Is W v rb S sv w' := by
  obtain ⟨⟨G, K, hr, hG, hK, hs⟩, hc⟩ := h
  obtain ⟨F, hi, hF⟩ := hs.is
  have h0 : PlC Is W v rb S sv w := ⟨⟨G, K, hr, hG, hK, hs⟩, hc⟩
  exact (R.depth F v S w hs.nice hi).mono fun e w' h => ⟨h.1, h0.below R h.2⟩
/-- All: the blocks of what it answers stay as they are -/
theorem PlC.all (R : ScSaid Is) (h : PlC Is W v rb S sv w) : Calls Try.prog 11 #[v] w fun e w' => ∃ sl, e = .returned sl ∧ PlC Is W v rb S sv w' ∧ AtsAt (fun _ => True) w' sl ((allS S).map declA) := by
  obtain ⟨⟨G, K, hr, hG, hK, hs⟩, hc⟩ := h
  obtain ⟨F, hi, hF⟩ := hs.is
  refine (R.all F v S w hs.nice hi).mono ?_
  rintro e w' ⟨sl, F', rfl, hi', hsF, ht, ha⟩
  obtain ⟨_, h2⟩ := hs.gave (e := .returned sl) hF hs.nice ⟨rfl, F', hi', hsF, ht⟩
  obtain ⟨_, _, hra⟩ := hr
  exact ⟨sl, rfl, ⟨pl_of R ⟨_, _, hra⟩ hG hK h2, (World.cell?_of_block (a := ⟨rb, 0, none⟩) (h2.keepK rb (hG rb hra.inG))).trans hc⟩, ha.keep (Nat.le_refl _) fun k _ _ => ⟨rfl, trivial⟩⟩
theorem PlC.bound (R : ScSaid Is) (h : PlC Is W v rb S sv w) (hS : S.length ≤ 25) (hsm : ∀ lv ∈ S, lv.length ≤ 8) (ha : AtsAt (fun _ => True) w sl l) : Calls Try.prog 23 #[.pointer (some ⟨rb, 0, none⟩)] w fun e w' => ∃ s2, e = .returned s2 ∧ PlC Is W v rb S sv w' ∧ AtsAt (fun _ => True) w' sl l ∧ AtsAt (fun k => w.heap.size ≤ k) w' s2 ((allS S).map declA) := by
  have h0 := h
  obtain ⟨⟨G, K, hr, hG, hK, hs⟩, hc⟩ := h
  refine (rfbound_any hs.nice hS hsm hr).mono ?_
  rintro e w' ⟨s2, rfl, h2, hb⟩
  exact ⟨s2, rfl, h0.below R hb, ha.keep hb.size fun k _ hl => ⟨hb.block k hl, trivial⟩, h2⟩
end
end Go.Proofs.Ythhnpnjnlbjdjaa
