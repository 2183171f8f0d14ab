/-
  THE CONTRACT OF brackenref10.Scope.Push: what it is made of.
-/
import Derived.Test.YthhnpnjnlbjdjaaRfUri
import Derived.Deep.AppendLies
import Derived.Laws.OwnMore
import Derived.Laws.AppendOwnNone
namespace Go.Proofs.Ythhnpnjnlbjdjaa
open Go.RowKit

/-- a declaration, if it is one, has its own form -/
def GoodA (a : At4) : Prop := ∀ b, declB a = some b → a = declA b
theorem locN_ne (x : Nat) (hx : x < 9) : locN.getD x [] ≠ [] := by
  rcases (show x = 0 ∨ x = 1 ∨ x = 2 ∨ x = 3 ∨ x = 4 ∨ x = 5 ∨ x = 6 ∨ x = 7 ∨ x = 8 by omega) with rfl | rfl | rfl | rfl | rfl | rfl | rfl | rfl | rfl <;> decide
theorem goodA_declZ (z : Int) : GoodA (declZ z) := by
  intro b h
  unfold declB at h
  split at h
  · rename_i hu
    split at h
    · rename_i hc
      injection h with h
      subst h
      unfold declA
      rw [if_neg hc.2]
      have e : ∀ a : At4, a.pre = xmlnsN → a.uri = xmlnsU → a = ⟨xmlnsN, a.loc, xmlnsU, a.val⟩ := fun a h1 h2 => by cases a; cases h1; cases h2; rfl
      exact e _ hc.1 hu
    · rename_i hc
      split at h
      · rename_i hd
        injection h with h
        subst h
        have hp : (declZ z).pre = [] ∧ (declZ z).loc = xmlnsN := by
          rcases hd with hd | hd
          · exfalso
            have h1 : ¬ (declZ z).loc ≠ [] := fun h => hc ⟨hd, h⟩
            revert hd h1
            unfold declZ declU
            dsimp only
            split
            · intro hd _; exact absurd hd (by decide)
            · intro _ h1; exact h1 (locN_ne _ (Nat.mod_lt _ (by decide)))
          · exact hd
        unfold declA
        rw [if_pos rfl]
        have e : ∀ a : At4, a.pre = [] → a.loc = xmlnsN → a.uri = xmlnsU → a = ⟨[], xmlnsN, xmlnsU, a.val⟩ := fun a h1 h2 h3 => by cases a; cases h1; cases h2; cases h3; rfl
        exact e _ hp.1 hp.2 hu
      · cases h
  · cases h
theorem declA_pre (b : Bd) : decide ((declA b).pre = []) = decide (b.1 = []) := by
  unfold declA
  split
  · rename_i h; simp [h]
  · rename_i h; simp [h, xmlnsN]
/-- the same declaration, by what is written of it -/
theorem declA_like (b c : Bd) : (decide ((declA c).pre = (declA b).pre) && decide ((declA c).loc = (declA b).loc)) = decide (c.1 = b.1) := by
  unfold declA
  by_cases h1 : b.1 = [] <;> by_cases h2 : c.1 = []
  · simp [h1, h2]
  · simp [h1, h2, xmlnsN]
  · simp [h1, h2, xmlnsN]
  · simp [h1, h2]
theorem push_case (q u : Nm) : ∃ b1 b2 d b3 b4 b5 : Bool, decide (q = xmlnsN) = b1 ∧ decide (q = xmlN) = b2 ∧ decide (q = []) = d ∧ decide (u = xmlU) = b3 ∧ decide (u = xmlnsU) = b4 ∧ decide (u = []) = b5 ∧
    ((mayB (q, u) = false ∧ ((b1 = true ∧ d = false) ∨ (b1 = false ∧ b2 = true ∧ d = false ∧ b3 = false) ∨ (b1 = false ∧ b2 = false ∧ d = false ∧ b3 = true) ∨ (b1 = false ∧ b2 = false ∧ d = true ∧ b3 = true) ∨ (b1 = false ∧ b2 = false ∧ d = false ∧ b3 = false ∧ b4 = true) ∨ (b1 = false ∧ b2 = false ∧ d = true ∧ b3 = false ∧ b4 = true) ∨ (b1 = false ∧ b2 = false ∧ d = false ∧ b3 = false ∧ b4 = false ∧ b5 = true))) ∨
     (mayB (q, u) = true ∧ ((b1 = false ∧ b2 = true ∧ d = false ∧ b3 = true ∧ b4 = false ∧ b5 = false) ∨ (b1 = false ∧ b2 = false ∧ d = false ∧ b3 = false ∧ b4 = false ∧ b5 = false) ∨ (b1 = false ∧ b2 = false ∧ d = true ∧ b3 = false ∧ b4 = false)))) := by
  refine ⟨_, _, _, _, _, _, rfl, rfl, rfl, rfl, rfl, rfl, ?_⟩
  have x1 : ¬ ([] : Nm) = xmlnsN := by decide
  have x2 : ¬ ([] : Nm) = xmlN := by decide
  have x3 : ¬ xmlN = xmlnsN := by decide
  have x4 : ¬ xmlN = [] := by decide
  have x5 : ¬ xmlnsN = [] := by decide
  have x6 : ¬ xmlnsN = xmlN := by decide
  have y1 : ¬ xmlU = xmlnsU := by decide
  have y2 : ¬ xmlnsU = xmlU := by decide
  have y3 : ¬ ([] : Nm) = xmlU := by decide
  have y4 : ¬ ([] : Nm) = xmlnsU := by decide
  have y5 : ¬ xmlU = [] := by decide
  have y6 : ¬ xmlnsU = [] := by decide
  by_cases h1 : q = []
  · subst h1
    by_cases h2 : u = xmlU
    · subst h2; simp [mayB, x1, x2]
    · by_cases h3 : u = xmlnsU
      · subst h3; simp [mayB, x1, x2, y2]
      · simp [mayB, x1, x2, h2, h3]
  · by_cases h4 : q = xmlnsN
    · subst h4; simp [mayB, x5]
    · by_cases h5 : q = xmlN
      · subst h5
        by_cases h2 : u = xmlU
        · subst h2; simp [mayB, x3, x4, y1, y5]
        · simp [mayB, x3, x4, h2]
      · by_cases h2 : u = xmlU
        · subst h2; simp [mayB, h1, h4, h5, y1, y5]
        · by_cases h3 : u = xmlnsU
          · subst h3; simp [mayB, h1, h4, h5, y2]
          · by_cases h6 : u = []
            · subst h6; simp [mayB, h1, h4, h5, y3, y4]
            · simp [mayB, h1, h2, h3, h4, h5, h6]
theorem bindsL_none {l r : List At4} {lv : List Bd} {a : At4} (h : bindsL [] l = bindsL lv (a :: r)) (h1 : addB lv a = none) : pushE l = 2 ∧ ∀ S, pushS S l = S := by
  have e : bindsL [] l = none := by rw [h]; unfold bindsL; rw [h1]
  unfold pushE pushS
  rw [e]
  exact ⟨rfl, fun _ => rfl⟩
theorem bindsL_some {r : List At4} {lv lv' : List Bd} {a : At4} (h1 : addB lv a = some lv') : bindsL lv (a :: r) = bindsL lv' r := by
  rw [bindsL, h1]
theorem addB_noR {lv : List Bd} {a : At4} (h : declB a = none) : addB lv a = some lv := by unfold addB; rw [h]
theorem addB_bad {lv : List Bd} {a : At4} {b : Bd} (h : declB a = some b) (h1 : mayB b = false) : addB lv a = none := by
  unfold addB
  rw [h]
  simp [h1]
theorem addB_two {lv : List Bd} {a : At4} {b : Bd} {u : Nm} (h : declB a = some b) (h1 : inLv lv b.1 = some u) : addB lv a = none := by
  unfold addB
  rw [h]
  simp [h1]
theorem addB_new {lv : List Bd} {a : At4} {b : Bd} (h : declB a = some b) (h1 : mayB b = true) (h2 : inLv lv b.1 = none) : addB lv a = some (lv ++ [b]) := by
  unfold addB
  rw [h]
  simp [h1, h2]
theorem info_lv : (Try.prog.info? 26).map (fun i => (i.zero, i.size, i.bytes)) = some (some (.slice none 0 0), 1, 24) := by kernel_rfl
theorem Lvs.one {G : Nat → Prop} {w : World} : ∀ {S : List (List Bd)} {xs : List Value}, Lvs G w S xs → ∀ u ∈ xs, u.oneCell' = true
  | [], xs, h, u, hu => by have h' : xs = [] := h; rw [h'] at hu; cases hu
  | lv :: r, xs, h, u, hu => by
    obtain ⟨ys, sv, rfl, h1, h2⟩ := h
    rcases List.mem_append.1 hu with hu | hu
    · exact h2.one u hu
    · rw [List.mem_singleton.1 hu]
      obtain ⟨a, c, rfl⟩ := h1.slice
      rfl
/-- append of all levels to none -/
theorem wpList_append_lv {w : World} {ops : Array Oper} {rest : List Oper} {o : Oper} {act : Act} {Q : Exit → Act → World → Prop} (hgd : o.guard = none) (s x : Operand)
    (ho : o.op = .call { callee := .builtin .append, args := #[s, x], argTypes := #[41, 41] })
    (base : Nat) (v : Value) (hs : act.eval s = v) (hown : w.ownsRow base 26 1 v 0 []) (nv : Value) (xs : List Value) (hx : act.eval x = nv)
    (hN : (xs = [] ∧ nv = .slice none 0 0) ∨ ∃ ob oo cap, nv = .slice (some ⟨ob, oo, none⟩) xs.length cap ∧ ∀ i v, xs[i]? = some v → w.cell? ⟨ob, oo + i, none⟩ = some v)
    (h1 : ∀ u ∈ xs, u.oneCell' = true) (hl : xs.length ≤ 1048576) (hbase : base ≤ w.heap.size) (hblk : ∀ q, v.ownBlock = some q → base ≤ q)
    (h : ∀ v' w', w'.ownsRow base 26 1 v' xs.length xs → Below base w w' → wpList Try.prog ops Q rest (act.put o.dst v') w') : wpList Try.prog ops Q (o :: rest) act w := by
  obtain ⟨i0, hi, hz0, hz1, hz2⟩ := info_open14 info_lv
  rcases hN with ⟨rfl, rfl⟩ | ⟨ob, oo, cap, rfl, hc⟩
  · exact wpList_append_own_none hgd s x 41 ho base 26 i0 1 Try.underlying41 hi v _ _ hs hown hx (h v w hown (Below.refl _ _))
  · have hnews : ∀ j u, xs[j]? = some u → w.cell? ((⟨ob, oo, none⟩ : Addr).add j) = some u := by
      intro j u hj
      rw [Go.WideShapes.add_plain]
      exact hc j u hj
    exact wpList_append_own w hgd s x 41 ho base 26 i0 (.slice none 0 0) 1 24 Try.underlying41 hi hz0 hz1 hz2 rfl (by decide) v _ _ hs hown ⟨ob, oo, none⟩ xs.length cap xs hx (by rw [Nat.mul_one]) hnews h1 (by unfold maxLen; omega) (by omega) hbase
      (fun v' w' h1 h2 _ => h v' w' (by rw [Nat.zero_add, List.nil_append] at h1; exact h1) ((Below.refl base w).grown h2 hbase hblk))
theorem RfAt.source {G : Nat → Prop} {w : World} {rb : Nat} {S : List (List Bd)} {sv : Value} {xs : List Value} (h : RfAt G w rb S sv xs) : (xs = [] ∧ sv = .slice none 0 0) ∨ ∃ ob oo cap, sv = .slice (some ⟨ob, oo, none⟩) xs.length cap ∧ ∀ i v, xs[i]? = some v → w.cell? ⟨ob, oo + i, none⟩ = some v := by
  rcases h.out with h1 | ⟨ob, oo, cap, e, _, _, _, _, hc⟩
  · exact Or.inl h1
  · exact Or.inr ⟨ob, oo, cap, e, hc⟩
theorem RfAt.pushed {G : Nat → Prop} {w w5 : World} {rb : Nat} {S : List (List Bd)} {sv mv nv : Value} {xs : List Value} {lv : List Bd} (h : RfAt G w rb S sv xs) (hb : Below w.heap.size w w5) (ho : w5.ownsRow w.heap.size 26 1 nv (xs.length + 1) (xs ++ [mv]))
    (hm : AtsAt (fun k => w.heap.size ≤ k) w5 mv (lv.map declA)) :
    RfIs (fun k => G k ∨ (w.heap.size ≤ k ∧ k < (w5.setCell ⟨rb, 0, none⟩ nv).heap.size)) (w5.setCell ⟨rb, 0, none⟩ nv) rb (lv :: S) ∧ Turns (fun k => k = rb) w (w5.setCell ⟨rb, 0, none⟩ nv) := by
  have hrl := h.box.lt
  have hk : ∀ k, k ≠ rb → (w5.setCell ⟨rb, 0, none⟩ nv).heap[k]? = w5.heap[k]? := fun k hk => Below.heap_setCell _ _ _ _ hk
  have hs : (w5.setCell ⟨rb, 0, none⟩ nv).heap.size = w5.heap.size := by rw [Deep.nblk_setCell]
  have h5 := h.below hb
  refine ⟨⟨nv, xs ++ [mv], Or.inl h.inG, (h5.box.set 0 nv).congr (fun i hi => ?_), ⟨xs, mv, rfl, hm.keep (by rw [hs]; exact Nat.le_refl _) (fun k hk1 hk2 => ?_), h5.lvs.keep (by rw [hs]; exact Nat.le_refl _) (fun k hk1 _ => ⟨hk k hk1.2, Or.inl hk1.1, hk1.2⟩)⟩, ?_⟩, Turns.setCell (F := fun k => k = rb) (Turns.of_below hb) (p := ⟨rb, 0, none⟩) (Or.inl rfl) _⟩
  · obtain rfl : i = 0 := by omega
    rfl
  · refine ⟨hk k (by omega), Or.inr ⟨hk1, by rw [hs]; exact hk2⟩, by omega⟩
  · rcases ho.2 with ⟨_, h0⟩ | ⟨g, cap, cur, rfl, hg, hgb, hc, _⟩
    · omega
    · have hgl : g < w5.heap.size := (Array.getElem?_eq_some_iff.1 hgb).1
      refine Or.inr ⟨g, 0, cap, by rw [List.length_append]; rfl, by rw [List.length_append]; exact hc, Or.inr ⟨hg, by rw [hs]; exact hgl⟩, by omega, by rw [hs]; exact hgl, fun i v hv => ?_⟩
      have h1 := ho.cells (g := g) rfl i v hv
      have hadd : (⟨g, 0, none⟩ : Addr).add i = ⟨g, 0 + i, none⟩ := by unfold Addr.add; split <;> simp_all
      rw [hadd] at h1
      exact (World.cell?_of_block (a := ⟨g, 0 + i, none⟩) (hk g (by omega))).trans h1
end Go.Proofs.Ythhnpnjnlbjdjaa
