/-
  PLAIN MATHEMATICS FOR LAYER 5: level by level up.
-/
import Derived.Test.YteecanaibkpmfaaParNoneLaws
namespace Go.Proofs.Yteecanaibkpmfaa

theorem exc_le_len (l : List Bool) (n : Nat) : exc l n ≤ n := (exc_abs l n).2
/-- m levels up: as many as there are, or none -/
theorem up_spec {l : List Bool} (hm : mayL l = true) : ∀ (m k : Nat), k < l.length → l.getD k false = true →
    ((m : Int) ≤ exc l k ∧ ∃ b : Nat, b < l.length ∧ l.getD b false = true ∧ upGo l m (k : Int) = (b : Int) ∧ exc l b = exc l k - m) ∨ (exc l k < (m : Int) ∧ upGo l m (k : Int) = -1)
  | 0, k, hk, hb => Or.inl ⟨may_ge hm k (by omega), k, hk, hb, rfl, by omega⟩
  | m + 1, k, hk, hb => by
    rw [upGo_step l m (k : Int) (by omega)]
    by_cases h0 : exc l k = 0
    · rw [enclose_none hm k hk hb h0, upGo_neg l m (-1) (by decide)]
      exact Or.inr ⟨by omega, rfl⟩
    · obtain ⟨b, h1, h2, h3, _, h5⟩ := enclose_spec hm k hk hb h0
      rw [h2]
      rcases up_spec hm m b (by omega) h5 with ⟨g1, c, g2, g3, g4, g5⟩ | ⟨g1, g2⟩
      · exact Or.inl ⟨by omega, c, g2, g3, g4, by omega⟩
      · exact Or.inr ⟨by omega, g2⟩
/-- beyond all levels there is nothing -/
theorem up_far {l : List Bool} (hm : mayL l = true) (hl : l.length ≤ 2000) (k j : Int) (hj : 3000 < j) : upL l k j = upL l k 3000 := by
  by_cases ho : openB l k = true
  · have ho' := ho
    simp only [openB, Bool.and_eq_true, decide_eq_true_eq] at ho'
    obtain ⟨h0, h1, h2⟩ := ho'
    obtain ⟨n, rfl⟩ := Int.eq_ofNat_of_zero_le h0
    rw [Int.toNat_natCast] at h2
    obtain ⟨m, rfl⟩ := Int.eq_ofNat_of_zero_le (show 0 ≤ j by omega)
    have hn : n < l.length := by omega
    have he := exc_le_len l n
    rw [upL_nat _ m ho, show (3000 : Int) = ((3000 : Nat) : Int) from rfl, upL_nat _ 3000 ho]
    have e1 : upGo l m (n : Int) = -1 := by
      rcases up_spec hm m n hn h2 with ⟨g, _⟩ | ⟨_, g⟩
      · omega
      · exact g
    have e2 : upGo l 3000 (n : Int) = -1 := by
      rcases up_spec hm 3000 n hn h2 with ⟨g, _⟩ | ⟨_, g⟩
      · omega
      · exact g
    rw [e1, e2]
  · have ho2 : openB l k = false := by simpa using ho
    rw [upL_none k j ho2, upL_none k 3000 ho2]
theorem upGo_succ (l : List Bool) : ∀ (n : Nat) (k : Int), ¬ upGo l n k < 0 → upGo l (n + 1) k = encloseL l (upGo l n k)
  | 0, k, h => by
    show (if k < 0 then k else upGo l 0 (encloseL l k)) = encloseL l k
    rw [if_neg (show ¬ k < 0 from h)]
    rfl
  | n + 1, k, h => by
    by_cases hk : k < 0
    · exact absurd (by rw [upGo_neg l (n + 1) k hk]; exact hk) h
    · rw [upGo_step l n k hk] at h ⊢
      rw [upGo_step l (n + 1) k hk]
      exact upGo_succ l n (encloseL l k) h
end Go.Proofs.Yteecanaibkpmfaa
