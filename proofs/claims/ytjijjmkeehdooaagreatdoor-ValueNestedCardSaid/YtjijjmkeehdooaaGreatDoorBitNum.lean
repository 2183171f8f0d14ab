/-
  NUMBERS OF 64 BITS, AS THE LAWS TAKE THEM.
-/
import Derived.Test.YtjijjmkeehdooaaGreatDoorBitLaws
import Derived.Test.YtjijjmkeehdooaaGreatDoorChecked
import Derived.WalkKit
namespace Go.Proofs.YtjijjmkeehdooaaGreatDoor

def In64 (k : Int) : Prop := -9223372036854775808 ≤ k ∧ k ≤ 9223372036854775807
theorem in64_small (k : Int) (h : -1000000000000 ≤ k ∧ k ≤ 1000000000000 := by decide) : In64 k := ⟨by omega, by omega⟩
theorem wrap_mod (a : Int) (m : Nat) (h0 : 0 < m) (hm : m ≤ 1000000) : ∃ u x : Nat, IntKind.u64.wrap a = (u : Int) ∧ Int.tmod (u : Int) (m : Int) = (x : Int) ∧ x < m ∧ IntKind.u64.wrap (x : Int) = (x : Int) ∧ IntKind.i64.wrap (x : Int) = (x : Int) := by
  have hu : 0 ≤ IntKind.u64.wrap a := by simp [IntKind.wrap, IntKind.bits, IntKind.signed]; omega
  refine ⟨(IntKind.u64.wrap a).toNat, (IntKind.u64.wrap a).toNat % m, by omega, ?_, Nat.mod_lt _ h0, ?_, ?_⟩
  · rw [Int.tmod_eq_emod_of_nonneg (by omega)]; omega
  · have := Nat.mod_lt (IntKind.u64.wrap a).toNat h0
    generalize (IntKind.u64.wrap a).toNat % m = t at *
    simp [IntKind.wrap, IntKind.bits, IntKind.signed]; omega
  · have := Nat.mod_lt (IntKind.u64.wrap a).toNat h0
    generalize (IntKind.u64.wrap a).toNat % m = t at *
    simp [IntKind.wrap, IntKind.bits, IntKind.signed]; omega
theorem wrap_mod2 (a : Int) (n : Nat) (h0 : 0 < n) (hn : n ≤ 1000000) : ∃ u x : Nat, IntKind.u64.wrap a = (u : Int) ∧ IntKind.u64.wrap (n : Int) = (n : Int) ∧ Int.tmod (u : Int) (n : Int) = (x : Int) ∧ x < n ∧ IntKind.u64.wrap (x : Int) = (x : Int) ∧ IntKind.i64.wrap (x : Int) = (x : Int) := by
  obtain ⟨u, x, h1, h2, h3, h4, h5⟩ := wrap_mod a n h0 hn
  refine ⟨u, x, h1, ?_, h2, h3, h4, h5⟩
  simp [IntKind.wrap, IntKind.bits, IntKind.signed]; omega
end Go.Proofs.YtjijjmkeehdooaaGreatDoor
