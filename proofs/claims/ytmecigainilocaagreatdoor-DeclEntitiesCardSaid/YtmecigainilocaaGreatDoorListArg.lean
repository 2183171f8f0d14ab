/-
  AN ARGUMENT OF NUMBERS ([]int), nil too.
-/
import Derived.Test.YtmecigainilocaaGreatDoorDeclSaid
namespace Go.Proofs.YtmecigainilocaaGreatDoor
open Go.RowKit
def IntsArg (w : World) (v : Value) : Prop :=
  (∃ a cap, v = .slice a 0 cap) ∨ ∃ b off cap, ∃ zs : List Int, v = .slice (some ⟨b, off, none⟩) zs.length cap ∧ zs.length ≤ 9223372036854775807 ∧ b < w.heap.size ∧ ∀ i, i < zs.length → w.cell? ⟨b, off + i, none⟩ = some (.int .i64 (zs.getD i 0))
theorem IntsArg.row {w : World} {v : Value} (h : IntsArg w v) : ∃ a cap, ∃ zs : List Int, v = .slice a zs.length cap ∧ zs.length ≤ 9223372036854775807 ∧ ∀ i, i < zs.length → ∃ b off, a = some ⟨b, off, none⟩ ∧ b < w.heap.size ∧ w.cell? ⟨b, off + i, none⟩ = some (.int .i64 (zs.getD i 0)) := by
  rcases h with ⟨a, cap, rfl⟩ | ⟨b, off, cap, zs, rfl, h1, h2, h3⟩
  · exact ⟨a, cap, [], rfl, by decide, fun i hi => absurd hi (Nat.not_lt_zero _)⟩
  · exact ⟨_, cap, zs, rfl, h1, fun i hi => ⟨b, off, rfl, h2, h3 i hi⟩⟩
end Go.Proofs.YtmecigainilocaaGreatDoor
