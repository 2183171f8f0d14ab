/-
  LAYER 5: the row that a law makes of its argument ([]int).
-/
import Derived.Test.YteecanaibkpmfaaIntsArg
import Derived.Test.YteecanaibkpmfaaParRaw
import Derived.Test.YteecanaibkpmfaaParBal
namespace Go.Proofs.Yteecanaibkpmfaa
open Go.RowKit

theorem in64_wf5 {k : Int} (h : (Lit.int .i64 k).wf = true) : In64 k := by
  have h1 : IntKind.i64.min = -9223372036854775808 := rfl
  have h2 : IntKind.i64.max = 9223372036854775807 := rfl
  simp only [Lit.wf, Bool.and_eq_true, decide_eq_true_eq] at h
  exact ⟨by omega, by omega⟩
/-- a balanced row of bools in memory -/
structure Made (most : Nat) (w : World) (v : Value) (xs : List Bool) (w' : World) : Prop where
  may : mayL xs = true
  few : xs.length ≤ 2 * most
  row : RowOK w' v xs
  own : OwnS w' w.heap.size v xs
  since : Below w.heap.size w w'
theorem parRow_any (v : Value) (most : Nat) (w : World) (hv : IntsArg w v) (hm : most ≤ 4294967296) :
    Calls Try.prog 11 #[v, .int .i64 most] w fun e w' => ∃ a cap xs, e = .returned (.slice a (xs : List Bool).length cap) ∧ Made most w (.slice a xs.length cap) xs w' := by
  have h : Calls Try.prog 11 #[v, .int .i64 most] w (ParPost most w) := by
    rcases hv with ⟨a, cap, rfl⟩ | ⟨b, off, cap, zs, rfl, h1, h2, h3⟩
    · exact parRowNone_any a cap most w
    · exact parRowSome_any b off cap zs most w hm h1 h2 h3
  refine h.mono ?_
  rintro e w' ⟨v', xs, p, rfl, hp, hb, ho, hbel⟩
  have hr := rowOK_of ho
  have hl := bal_length hb
  obtain ⟨a, cap, rfl, hc⟩ := hr.2
  exact ⟨a, cap, xs, rfl, bal_may hb, by omega, hr, ho, hbel⟩
theorem Made.cell {most : Nat} {w w' : World} {a : Option Addr} {m cap : Nat} {xs : List Bool} (h : Made most w (.slice a m cap) xs w') (k : Nat) (hk : k < xs.length) :
    ∃ g, a = some ⟨g, 0, none⟩ ∧ g < w'.heap.size ∧ ∀ i, i < xs.length → w'.cell? ⟨g, i, none⟩ = some (.bool (xs.getD i false)) := by
  rcases row_shape h.own with ⟨_, rfl⟩ | ⟨g, cap', e, _, _, hg, hc⟩
  · cases hk
  · injection e with e1 e2 e3
    exact ⟨g, e1, hg, hc⟩
end Go.Proofs.Yteecanaibkpmfaa
