/-
  AN ARGUMENT OF INTS ([]int), nil too, with its capacity.
-/
import Derived.Test.YtjijjmkeehdooaaGreatDoorSymsAt
import Derived.Test.YtjijjmkeehdooaaGreatDoorBitNum
import Derived.OpenShut
namespace Go.Proofs.YtjijjmkeehdooaaGreatDoor
open Go.RowKit

/-- a []int, nil too, with its capacity -/
def SymArg (w : World) (v : Value) : Prop := ∃ (a : Option Addr) (cap : Nat) (zs : List Int), v = .slice a zs.length cap ∧ SymOK w v zs ∧ (∀ z ∈ zs, In64 z) ∧ zs.length ≤ 9223372036854775807
theorem in64_wfS {k : Int} (h : (Lit.int .i64 k).wf = true) : In64 k := by
  have h1 : IntKind.i64.min = -9223372036854775808 := rfl
  have h2 : IntKind.i64.max = 9223372036854775807 := rfl
  simp only [Lit.wf, Bool.and_eq_true, decide_eq_true_eq] at h
  exact ⟨by omega, by omega⟩
theorem symArg_nil (w : World) (cap : Nat) (a : Option Addr) : SymArg w (.slice a 0 cap) :=
  ⟨a, cap, [], rfl, ⟨Or.inl ⟨a, cap, rfl, rfl⟩, a, cap, rfl, Nat.zero_le _⟩, (fun z hz => by cases hz), Nat.zero_le _⟩
theorem symArg_of {w : World} {a : Addr} {len cap : Nat} {zs : List Int} (hc : ∀ i, i < zs.length → w.cell? (a.add i) = some (.int .i64 (zs.getD i 0))) (hz : zs.length = cap) (hl : len ≤ cap) (hm : len ≤ 9223372036854775807) (hw : ∀ n ∈ zs, (Lit.int .i64 n).wf = true) :
    SymArg w (.slice (some a) len cap) := by
  by_cases h0 : len = 0
  · subst h0
    exact symArg_nil w cap (some a)
  · obtain ⟨b, off, rfl, hcell⟩ := ints_at hc (by omega)
    have hb : b < w.heap.size := World.block_lt_of_cell? _ _ (hcell 0 (by omega))
    have hlen : (zs.take len).length = len := by rw [List.length_take]; omega
    have hv : Value.slice (some ⟨b, off, none⟩) len cap = .slice (some ⟨b, off, none⟩) (zs.take len).length cap := by rw [hlen]
    refine ⟨_, cap, zs.take len, hv, ⟨Or.inr ⟨b, off, cap, hv, hb, fun i hi => ?_⟩, _, cap, hv, by omega⟩, (fun z hz' => in64_wfS (hw z (List.mem_of_mem_take hz'))), by omega⟩
    rw [hlen] at hi
    rw [hcell i (by omega)]
    simp [List.getD, hi]
end Go.Proofs.YtjijjmkeehdooaaGreatDoor
