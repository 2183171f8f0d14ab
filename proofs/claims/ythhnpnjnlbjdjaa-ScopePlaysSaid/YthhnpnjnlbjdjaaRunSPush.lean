/-
  THE LANDED PACKAGE scope: Push.
-/
import Derived.Test.YthhnpnjnlbjdjaaRunSDecl
import Derived.Test.YthhnpnjnlbjdjaaRunSBindB
import Derived.Test.YthhnpnjnlbjdjaaRunSBindN
import Derived.Test.YthhnpnjnlbjdjaaRunSBindS
import Derived.Deep.LoopGhost
namespace Go.Proofs.Ythhnpnjnlbjdjaa
open Go.RowKit

theorem rbind_any {F : Nat → Prop} {w : World} {v : Value} {lvS : List Bd} {S : List (List Bd)} (b : Bd) (h : IsSc F w v (lvS :: S)) (hN : NiceS (lvS :: S)) (hb1 : b.1.length ≤ 8388608) (hfew : lvS.length < 1048576) :
    Calls Try.prog 25 #[v, .iface (bondT b) (bondA b)] w (GaveS IsSc F v (if mayB b = true ∧ inLv lvS b.1 = none then (lvS ++ [b]) :: S else lvS :: S) (.bool (decide (mayB b = true ∧ inLv lvS b.1 = none))) w) := by
  obtain ⟨sb, T, VN, vl, rfl, he, h14⟩ := isSc_open h
  cases T with
  | nil => cases he
  | cons lv r =>
    injection he with e1 e2
    subst e1; subst e2
    by_cases hc : mayB b = true ∧ inLv (lv.map (·.2)) b.1 = none
    · rw [if_pos hc, decide_eq_true hc]
      by_cases hl : lookS (era (lv :: r)) b.1 = none
      · exact rbind_new b h14 hN hb1 (by simpa using hfew) hc.1 hc.2 hl
      · exact rbind_hide b h14 hN hb1 (by simpa using hfew) hc.1 hc.2 hl
    · rw [if_neg hc, decide_eq_false hc]
      exact rbind_bad b h14 hN hb1 (by simpa using hfew) hc
theorem rpop_any (F : Nat → Prop) (v : Value) (S : List (List Bd)) (w : World) (hN : NiceS S) (h : IsSc F w v S) : Calls Try.prog 17 #[v] w (GaveS IsSc F v S.tail (.bool (decide (S ≠ []))) w) := by
  obtain ⟨sb, T, VN, vl, rfl, he, h14⟩ := isSc_open h
  obtain ⟨vm, b0, hp⟩ := h14.parts
  cases T with
  | nil =>
    have hVN : VN = [] := by have := hp.sc.inn.len; exact List.eq_nil_of_length_eq_zero this
    subst hVN; subst he
    refine (rpop_none hp.sc).mono ?_
    rintro e w' ⟨rfl, rfl⟩
    exact ⟨rfl, F, h, fun k hk => Or.inl hk, Turns.refl _ _⟩
  | cons lv r =>
    subst he
    exact rpop_some hp hN
theorem bindsL_snoc (a : At4) : ∀ (l : List At4) (lv : List Bd), bindsL lv (l ++ [a]) = match bindsL lv l with | none => none | some lv' => addB lv' a
  | [], lv => by
    show (match addB lv a with | none => none | some lv' => some lv') = addB lv a
    cases addB lv a <;> rfl
  | x :: l, lv => by
    rw [List.cons_append]
    unfold bindsL
    cases addB lv x with
    | none => rfl
    | some lv' => exact bindsL_snoc a l lv'
theorem bindsL_stop : ∀ (l l' : List At4) (lv : List Bd), bindsL lv l = none → bindsL lv (l ++ l') = none
  | [], l', lv, h => by cases h
  | x :: l, l', lv, h => by
    rw [List.cons_append]
    unfold bindsL at h ⊢
    cases hx : addB lv x with
    | none => rfl
    | some lv' =>
      rw [hx] at h
      exact bindsL_stop l l' lv' h
/-- A SCOPE behind some calls: in the blocks that it had, and in new ones. -/
def Since (F : Nat → Prop) (w : World) (v : Value) (S : List (List Bd)) (w' : World) : Prop := ∃ F', IsSc F' w' v S ∧ (∀ k, F' k → F k ∨ (w.heap.size ≤ k ∧ k < w'.heap.size)) ∧ Turns F w w'
theorem Since.other {F : Nat → Prop} {w w1 w' : World} {v : Value} {S : List (List Bd)} (h : Since F w v S w1) (hb : Below w1.heap.size w1 w') : Since F w v S w' := by
  obtain ⟨F', h1, h2, h3⟩ := h
  exact ⟨F', isSc_keep F' w1 w' v S h1 hb.size fun k hk => hb.block k (isSc_in F' w1 v S h1 k hk), fun k hk => (h2 k hk).imp id fun e => ⟨e.1, Nat.lt_of_lt_of_le e.2 hb.size⟩, h3.other hb⟩
theorem Since.gave {F F1 : Nat → Prop} {w w1 w' : World} {v : Value} {S : List (List Bd)} {r : Value} {e : Ending} (h1 : ∀ k, F1 k → F k ∨ (w.heap.size ≤ k ∧ k < w1.heap.size)) (h2 : Turns F w w1) (hg : GaveS IsSc F1 v S r w1 e w') : e = .returned r ∧ Since F w v S w' := by
  obtain ⟨rfl, F', h3, h4, h5⟩ := hg
  refine ⟨rfl, F', h3, fun k hk => ?_, h2.next h5 fun k hk => (h1 k hk).imp id fun e => e.1⟩
  rcases h4 k hk with h | h
  · exact (h1 k h).imp id fun e => ⟨e.1, Nat.lt_of_lt_of_le e.2 h5.size⟩
  · exact Or.inr ⟨Nat.le_trans h2.size h.1, h.2⟩
theorem Since.gaveS {F : Nat → Prop} {w w' : World} {v : Value} {S : List (List Bd)} (h : Since F w v S w') (r : Value) : GaveS IsSc F v S r w (.returned r) w' := ⟨rfl, h⟩
theorem info_sl : (Try.prog.info? 74).map (fun i => (i.zero, i.size, i.bytes)) = some (some (.slice none 0 0), 1, 24) := by kernel_rfl
/-- a level more, of nothing yet -/
theorem isSc_level {F : Nat → Prop} {w w6 : World} {sb g2 c2 n cap : Nat} {a : Option Addr} {T : List (List Bb)} {VN : List Value} {vm : Value} {b0 : Nat} (h : Parts14 F w sb T VN (.slice a n cap) vm b0) (hn : n = T.length) {W5 : World} (h5 : Below w.heap.size w W5)
    (hown : w6.ownsRow 0 74 1 (.slice (some ⟨g2, 0, none⟩) (n + 1) c2) (n + 1) (VN.reverse ++ [.slice none 0 0])) (hgr : W5.grownBy w6 (Value.slice a n cap).ownBlock) (hat : (Value.slice a n cap).ownBlock = some g2 ∨ w.heap.size ≤ g2) :
    Since F w (.pointer (some ⟨sb, 0, none⟩)) ([] :: era T) (w6.setCell ⟨sb, 0, none⟩ (.slice (some ⟨g2, 0, none⟩) (n + 1) c2)) := by
  subst hn
  have hs := h5.size
  have hs6 := hgr.size
  have hsz : (w6.setCell ⟨sb, 0, none⟩ (.slice (some ⟨g2, 0, none⟩) (T.length + 1) c2)).heap.size = w6.heap.size := Deep.nblk_setCell _ _ _
  have hoth : ∀ k, k ≠ sb → (w6.setCell ⟨sb, 0, none⟩ (.slice (some ⟨g2, 0, none⟩) (T.length + 1) c2)).heap[k]? = w6.heap[k]? := fun k hk => Below.heap_setCell _ _ _ _ hk
  have hk6 : ∀ k, k < w.heap.size → (Value.slice a T.length cap).ownBlock ≠ some k → w6.heap[k]? = w.heap[k]? := fun k hk hn => (hgr.block k (Nat.lt_of_lt_of_le hk hs) (fun e => hn e.symm)).trans (h5.block k hk)
  have hsb : (Value.slice a T.length cap).ownBlock ≠ some sb := fun e => row_own_ne h.sc.box h.sc.lev (by decide) sb e rfl
  have hg2 : g2 ≠ sb := by
    rcases hat with e | e
    · exact fun e2 => hsb (by rw [← e2]; exact e)
    · have := h.sc.box.lt; omega
  have hg2l : g2 < w6.heap.size := (hown.lt g2 rfl).2
  have hnb : ∀ k c t x, w.heap[k]? = some (Obj.cells c t x) → t ≠ 74 → (Value.slice a T.length cap).ownBlock ≠ some k := by
    intro k c t x hk ht e
    rcases h.sc.lev.2 with ⟨e2, _⟩ | ⟨g, c3, cur, e2, _, hg, _⟩
    · rw [e2] at e; cases e
    · rw [e2] at e
      injection e with e
      rw [← e] at hk
      have hk' : w.heap[g]? = some (Obj.cells c t x) := hk
      rw [hg] at hk'
      injection hk' with e3
      injection e3 with _ e4 _
      exact ht e4.symm
  refine ⟨fun k => F k ∨ k = g2, isSc_some (T := [] :: T) (VN := .slice none 0 0 :: VN) (vl := .slice (some ⟨g2, 0, none⟩) (T.length + 1) c2) (Parts14.some (vm := vm) (b0 := b0) ⟨⟨?_, Or.inl h.sc.fsb, ?_, ?_, ?_, ⟨World.ownsRow_nil _ _ _ _, (fun g hg => by cases hg), ?_⟩⟩, fun mb hmb => ⟨Or.inl (h.map mb hmb).1, ?_⟩, ?_⟩), ?_, ?_⟩
  · rintro k (hk | rfl)
    · rw [hsz]; have := h.sc.inF k hk; omega
    · rw [hsz]; exact hg2l
  · refine ((h.sc.box.of_block (hk6 sb h.sc.box.lt hsb)).set 0 _).congr fun i hi => ?_
    rcases (show i = 0 ∨ i = 1 by omega) with rfl | rfl <;> rfl
  · rw [List.reverse_cons]
    exact ownsRow_block hown fun k hk => hoth k (by injection hk with hk; rw [← hk]; exact hg2)
  · intro g hg
    injection hg with hg
    exact Or.inr hg.symm
  · refine (h.sc.inn.keep (fun v hv k hk => ?_) fun _ h => h).sub fun k hk => Or.inl hk
    obtain ⟨hf, lv, hlv⟩ := h.sc.inn.mem v hv k hk
    rcases hlv.2 with ⟨rfl, _⟩ | ⟨g, c3, cur, rfl, _, hg, _⟩
    · cases hk
    · injection hk with hk
      subst hk
      exact (hoth _ (row_own_ne h.sc.box hlv (by decide) _ rfl)).trans (hk6 _ (h.sc.inF _ hf) (hnb _ _ _ _ hg (by decide)))
  · refine (h.map mb hmb).2.keep ?_ |>.congr fun q => hdB_nil b0 T q
    have hmbl := h.sc.inF mb (h.map mb hmb).1
    obtain ⟨D, ⟨es, clock, hb, _⟩, _⟩ := (h.map mb hmb).2
    refine (hoth mb fun e => ?_).trans (hk6 mb hmbl fun e => ?_)
    · obtain ⟨c, hc, _⟩ := h.sc.box
      rw [e, hc] at hb
      cases hb
    · rcases h.sc.lev.2 with ⟨e2, _⟩ | ⟨g, c3, cur, e2, _, hg, _⟩
      · rw [e2] at e; cases e
      · rw [e2] at e
        injection e with e
        rw [← e, hg] at hb
        cases hb
  · rcases h.bs with ⟨e, hT⟩ | ⟨e, hbs⟩
    · refine Or.inl ⟨e, fun lv hlv => ?_⟩
      rcases List.mem_cons.1 hlv with e2 | e2
      · exact e2
      · exact hT lv e2
    · refine Or.inr ⟨e, fun x hx => by simp at hx, hbs.keep (fun k hk hf => ?_) fun k hk => Or.inl hk⟩
      obtain ⟨f, hf⟩ := hf
      obtain ⟨c, hc, _⟩ := id hf
      exact (hoth k (rowIs_ne14 hf h.sc.box (by decide))).trans (hk6 k hf.lt (hnb _ _ _ _ hc (by decide)))
  · rintro k (hk | rfl)
    · exact Or.inl hk
    · rcases hat with e | e
      · exact Or.inl (h.sc.flev _ e)
      · exact Or.inr ⟨e, by rw [hsz]; exact hg2l⟩
  · exact ((Turns.of_below h5).grown hgr fun k hk => Or.inl (h.sc.flev k hk)).setCell (p := ⟨sb, 0, none⟩) (Or.inl h.sc.fsb) _
end Go.Proofs.Ythhnpnjnlbjdjaa
