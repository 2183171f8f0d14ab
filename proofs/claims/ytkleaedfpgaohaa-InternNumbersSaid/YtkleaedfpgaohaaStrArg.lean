/-
  AN ARGUMENT OF TEXTS ([]string), nil too.
-/
import Derived.Test.YtkleaedfpgaohaaStrsAt
import Derived.Test.YtkleaedfpgaohaaBitNum
import Derived.OpenShut
import Derived.Deep.Strs
namespace Go.Proofs.Ytkleaedfpgaohaa
open Go.RowKit

theorem in64_wfT {k : Int} (h : (Lit.int .i64 k).wf = true) : In64 k := by
  have h1 : IntKind.i64.min = -9223372036854775808 := rfl
  have h2 : IntKind.i64.max = 9223372036854775807 := rfl
  simp only [Lit.wf, Bool.and_eq_true, decide_eq_true_eq] at h
  exact ⟨by omega, by omega⟩
/-- a []string, nil too, with its capacity -/
def StrArg (w : World) (v : Value) : Prop := ∃ (a : Option Addr) (cap : Nat) (ss : List ByteArray), v = .slice a ss.length cap ∧ StrOK w v ss ∧ ss.length ≤ 9223372036854775807 ∧ ∀ i, i < ss.length → (strAt ss i).size ≤ 9223372036854775807
theorem strArg_nil (w : World) (cap : Nat) (a : Option Addr) : StrArg w (.slice a 0 cap) :=
  ⟨a, cap, [], rfl, ⟨Or.inl ⟨a, cap, rfl, rfl⟩, a, cap, rfl, Nat.zero_le _⟩, Nat.zero_le _, fun i hi => by cases hi⟩
theorem strArg_of {w : World} {a : Addr} {len cap : Nat} {Sx : Nat → ByteArray} (hc : ∀ i, i < len → w.cell? (a.add i) = some (.string (Sx i)) ∧ (Sx i).size ≤ 9223372036854775807) (hl : len ≤ cap) (hm : len ≤ 9223372036854775807) :
    StrArg w (.slice (some a) len cap) := by
  by_cases h0 : len = 0
  · subst h0
    exact strArg_nil w cap (some a)
  · obtain ⟨b, off, spot⟩ := a
    have hspot : spot = none := by simpa [Addr.add] using World.cell?_spot (hc 0 (by omega)).1
    subst hspot
    have hcell : ∀ j, j < len → w.cell? ⟨b, off + j, none⟩ = some (.string (Sx j)) := fun j hj => by rw [← Go.WideShapes.add_plain]; exact (hc j hj).1
    have hb : b < w.heap.size := World.block_lt_of_cell? _ _ (hcell 0 (by omega))
    have hlen : ((List.range len).map Sx).length = len := by simp
    have hat : ∀ i, i < len → strAt ((List.range len).map Sx) i = Sx i := fun i hi => by simp [strAt, List.getD, hi]
    have hv : Value.slice (some ⟨b, off, none⟩) len cap = .slice (some ⟨b, off, none⟩) ((List.range len).map Sx).length cap := by rw [hlen]
    refine ⟨_, cap, (List.range len).map Sx, hv, ⟨Or.inr ⟨b, off, cap, hv, hb, fun i hi => ?_⟩, _, cap, hv, by omega⟩, by omega, fun i hi => ?_⟩
    · rw [hlen] at hi
      rw [hcell i hi, hat i hi]
    · rw [hlen] at hi
      rw [hat i hi]
      exact (hc i hi).2
end Go.Proofs.Ytkleaedfpgaohaa
