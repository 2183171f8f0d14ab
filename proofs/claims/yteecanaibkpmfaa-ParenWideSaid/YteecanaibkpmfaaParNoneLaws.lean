/-
  PLAIN MATHEMATICS FOR LAYER 5: of places that are none, or of either kind.
-/
import Derived.Test.YteecanaibkpmfaaParBal
namespace Go.Proofs.Yteecanaibkpmfaa

theorem sel_half {l : List Bool} (hm : mayL l = true) (k : Nat) : decide (0 ≤ selL l (k : Int) true) = decide ((k : Int) < (l.length : Int) / 2) := by
  have h2 := opens_half hm
  by_cases h : k < rankN l l.length true
  · obtain ⟨p, _, _, _, hp⟩ := sel_found l k true h
    rw [hp, decide_eq_true (by omega), decide_eq_true (by omega)]
  · rw [select_many l k true (by omega), decide_eq_false (by omega), decide_eq_false (by omega)]
theorem pn_none (l : List Bool) (k : Int) (h : ¬ (0 ≤ k ∧ k < l.length)) :
    closeL l k = -1 ∧ beginL l k = -1 ∧ spanL l k = 0 ∧ numberL l k = -1 ∧ excL l k = -1 ∧ upL l k 0 = -1 ∧ selL l k true = -1 ∧ openB l k = false ∧ encloseL l k = -1 ∧ upL l k 1 = -1 := by
  obtain ⟨ho, hs⟩ := none_nat h
  refine ⟨closeL_none k ho, beginL_none k hs, spanL_none k ho, numberL_none k ho, excL_none k h, upL_none k 0 ho, ?_, ho, encloseL_none k ho, upL_none k 1 ho⟩
  by_cases h0 : k < 0
  · exact select_neg l k true h0
  · have := rankN_le l l.length true
    exact select_many l k true (by omega)
theorem pn_open {l : List Bool} (hm : mayL l = true) (k : Nat) (hk : k < l.length) (hb : l.getD k false = true) :
    decide (0 ≤ closeL l (k : Int)) = true ∧ beginL l (k : Int) = -1 ∧ decide (0 < spanL l (k : Int)) = true ∧ decide (0 ≤ numberL l (k : Int)) = true ∧ decide (0 ≤ excL l (k : Int)) = true ∧ upL l (k : Int) 0 = (k : Int) ∧ openB l (k : Int) = true := by
  obtain ⟨c, h1, h2, h3, _⟩ := close_spec hm k hk hb
  obtain ⟨ho, hs⟩ := open_nat hk hb
  refine ⟨by rw [h3]; exact decide_eq_true (by omega), beginL_none _ hs, ?_, ?_, ?_, ?_, ho⟩
  · rw [spanL_nat k c hk hb h3 h1]
    exact decide_eq_true (by omega)
  · rw [numberL_nat k hk hb]
    exact decide_eq_true (by omega)
  · rw [excL_nat k hk]
    exact decide_eq_true (may_ge hm (k + 1) (by omega))
  · rw [show (0 : Int) = ((0 : Nat) : Int) from rfl, upL_nat _ 0 ho]
    rfl
theorem pn_shut {l : List Bool} (hm : mayL l = true) (k : Nat) (hk : k < l.length) (hb : l.getD k false = false) :
    closeL l (k : Int) = -1 ∧ decide (0 ≤ beginL l (k : Int)) = true ∧ spanL l (k : Int) = 0 ∧ numberL l (k : Int) = -1 ∧ decide (0 ≤ excL l (k : Int)) = true ∧ upL l (k : Int) 0 = -1 ∧ openB l (k : Int) = false ∧ encloseL l (k : Int) = -1 ∧ upL l (k : Int) 1 = -1 := by
  obtain ⟨b, _, h2, _⟩ := begin_spec hm k hk hb
  obtain ⟨ho, _⟩ := shut_nat hk hb
  refine ⟨closeL_none _ ho, by rw [h2]; exact decide_eq_true (by omega), spanL_none _ ho, numberL_none _ ho, ?_, upL_none _ 0 ho, ho, encloseL_none _ ho, upL_none _ 1 ho⟩
  rw [excL_nat k hk]
  exact decide_eq_true (may_ge hm (k + 1) (by omega))
end Go.Proofs.Yteecanaibkpmfaa
