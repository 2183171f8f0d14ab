/-
  AN ARGUMENT OF STEPS ([]Op) AS THE ROW READS IT.
-/
import Derived.Test.YthhnpnjnlbjdjaaScOps
import Derived.Deep.SlicePairs
import Derived.OpenShut
namespace Go.Proofs.Ythhnpnjnlbjdjaa
open Go.RowKit Go.ChangeShapes Go.WideShapes

theorem addr_at {a : Addr} {w : World} {i : Nat} {v : Value} (h : w.cell? (a.add i) = some v) (h2 : ∀ n, a.spot = some n → False) : w.cell? ⟨a.block, a.off + i, none⟩ = some v := by
  obtain ⟨b, o, s⟩ := a
  cases s with
  | none =>
    have e : (⟨b, o, none⟩ : Addr).add i = ⟨b, o + i, none⟩ := by unfold Addr.add; split <;> simp_all
    rw [e] at h
    exact h
  | some n => exact (h2 n rfl).elim
theorem spot_none {a : Addr} {w : World} {v : Value} (h : w.cell? (a.add 0) = some v) : a.spot = none := by
  obtain ⟨b, o, s⟩ := a
  have h1 := World.cell?_spot h
  simpa [Addr.add] using h1
theorem blk_lt {w : World} {b o : Nat} {v : Value} (h : w.cell? ⟨b, o, none⟩ = some v) : b < w.heap.size := World.block_lt_of_cell? w ⟨b, o, none⟩ h
theorem intsV_of {H : Type} {enc : TypeId × Value → H} {W : World} {base : Nat} {sp : Nat → Bool} {held : Bool} {fuel : Nat} {v : Value} {y : DataW H × List MemPlace} (h : DataW.trod enc Try.prog W base sp held fuel 28 [v] = some y) : ∃ zs, IntsV W v zs := by
  rcases open_ints Try.underlying28 Try.underlying3 (by kernel_rfl) h with ⟨hcs, _⟩ | ⟨a, len, cap, zs, hcs, _, hl, hm, hz, _, hcell, _⟩
  · injection hcs with e _
    exact ⟨[], by simp, Or.inl ⟨none, 0, e, rfl⟩⟩
  · injection hcs with e _
    unfold maxLen at hm
    by_cases h0 : len = 0
    · subst h0
      exact ⟨[], by simp, Or.inl ⟨_, _, e, rfl⟩⟩
    · have hzl : len ≤ zs.length := by rw [hz]; split <;> omega
      have hlt : (zs.take len).length = len := by rw [List.length_take]; omega
      have hs := spot_none (hcell 0 (by omega))
      have hc : ∀ i, i < len → W.cell? ⟨a.block, a.off + i, none⟩ = some (.int .i64 (zs.getD i 0)) := fun i hi => addr_at (hcell i (by omega)) (fun n hn => by rw [hs] at hn; cases hn)
      have ea : a = ⟨a.block, a.off, none⟩ := by cases a; simp at hs; rw [hs]
      refine ⟨zs.take len, by omega, Or.inr ⟨a.block, a.off, cap, by rw [hlt, e, ← ea], blk_lt (hc 0 (by omega)), fun i hi => ?_⟩⟩
      rw [hlt] at hi
      rw [hc i hi]
      simp [List.getD, hi]
theorem opsArg_of {H : Type} {enc : TypeId × Value → H} {W : World} {base : Nat} {sp : Nat → Bool} {held : Bool} {fuel : Nat} {v : Value} {y : DataW H × List MemPlace} (h : DataW.trod enc Try.prog W base sp held fuel 22 [v] = some y) : OpsArg W v := by
  rcases Go.Deep.open_slice_pairs Try.underlying22 Try.underlying30 (by kernel_rfl) rfl rfl (by kernel_rfl) (by kernel_rfl) h with ⟨hcs, _⟩ | ⟨a, len, cap, m, n, V0, V1, D0, D1, P0, P1, hcs, _, hl, hm, hmm, _, hx⟩
  · injection hcs with e _
    exact ⟨none, 0, [], e, by simp, Or.inl rfl⟩
  · injection hcs with e _
    unfold maxLen at hm
    by_cases h0 : len = 0
    · subst h0
      exact ⟨some a, cap, [], e, by simp, Or.inl rfl⟩
    · have hml : len ≤ m := by rw [hmm]; split <;> omega
      have hs := spot_none (by have := (hx 0 (by omega)).1; rw [Nat.zero_mul] at this; exact this)
      have ea : a = ⟨a.block, a.off, none⟩ := by cases a; simp at hs; rw [hs]
      have each : ∀ i, i < len → ∃ o : Op14, W.cell? ⟨a.block, a.off + i * 2, none⟩ = some (.int .i64 o.1) ∧ ∃ sv, W.cell? ⟨a.block, a.off + i * 2 + 1, none⟩ = some sv ∧ IntsV W sv o.2 := by
        intro i hi
        obtain ⟨c0, c1, t0, t1⟩ := hx i (by omega)
        have d0 := addr_at c0 (fun n hn => by rw [hs] at hn; cases hn)
        have d1 := addr_at c1 (fun n hn => by rw [hs] at hn; cases hn)
        obtain ⟨zs, hzs⟩ := intsV_of t1
        have hk : ∃ z, V0 i = .int .i64 z := by
          obtain ⟨z, hz, _⟩ := DataW.trod_int Try.underlying3 t0
          exact ⟨z, by injection hz⟩
        obtain ⟨z, hz⟩ := hk
        rw [hz] at d0
        exact ⟨(z, zs), d0, V1 i, by rw [← Nat.add_assoc] at d1; exact d1, hzs⟩
      obtain ⟨f, hf⟩ := Go.Deep.choose_lt each
      refine ⟨some a, cap, (List.range len).map f, by rw [List.length_map, List.length_range]; exact e, by rw [List.length_map, List.length_range]; omega, Or.inr ⟨a.block, a.off, by rw [← ea], blk_lt (hf 0 (by omega)).1, fun i hi => ?_⟩⟩
      rw [List.length_map, List.length_range] at hi
      have eo : op14I ((List.range len).map f) i = f i := by
        unfold op14I
        rw [List.getD_eq_getElem?_getD, List.getElem?_map, List.getElem?_range hi]
        rfl
      rw [eo]
      exact hf i hi
end Go.Proofs.Ythhnpnjnlbjdjaa
