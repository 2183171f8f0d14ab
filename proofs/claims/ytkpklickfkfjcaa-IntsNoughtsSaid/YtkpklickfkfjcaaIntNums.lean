/-
  LAYER 4: rows of uint64s that a call makes for itself.
-/
import Derived.Test.YtkpklickfkfjcaaIntTold
import Derived.Laws.OwnMore
import Derived.OwnWalk
namespace Go.Proofs.Ytkpklickfkfjcaa
open Go.RowKit

theorem info_num : (Try.prog.info? 22).map (fun i => (i.zero, i.size, i.bytes)) = some (some (.int .u64 0), 1, 8) := by kernel_rfl
def nval (z : Nat) : Value := .int .u64 (z : Int)
/-- the numbers zs are owned -/
def OwnN (w : World) (base : Nat) (v : Value) (zs : List Nat) : Prop := w.ownsRow base 22 1 v zs.length (zs.map nval)
theorem num_one (zs : List Nat) : ∀ u ∈ zs.map nval, u.oneCell' = true := by
  intro u hu
  obtain ⟨x, _, rfl⟩ := List.mem_map.1 hu
  rfl
theorem num_cells {w : World} {b off : Nat} {zs : List Nat} (hc : ∀ i, i < zs.length → w.cell? ⟨b, off + i, none⟩ = some (.int .u64 (zs.getD i 0))) :
    ∀ j u, (zs.map nval)[j]? = some u → w.cell? ((⟨b, off, none⟩ : Addr).add j) = some u := by
  intro j u hu
  rw [List.getElem?_map] at hu
  obtain ⟨x, hx, rfl⟩ := Option.map_eq_some_iff.1 hu
  have hj : j < zs.length := (List.getElem?_eq_some_iff.1 hx).1
  have := hc j hj
  simp only [List.getD, hx, Option.getD_some] at this
  unfold Addr.add
  by_cases h0 : j = 0
  · rw [if_pos h0]; subst h0; exact this
  · rw [if_neg h0]; exact this
theorem ownN_cell {w : World} {base g cap n : Nat} {zs : List Nat} (h : OwnN w base (.slice (some ⟨g, 0, none⟩) n cap) zs) (hn : zs.length = n) (i : Nat) (hi : i < n) : w.cell? ⟨g, i, none⟩ = some (.int .u64 (zs.getD i 0)) := by
  subst hn
  rw [World.ownsRow.cellAt h i (by omega), List.getElem?_map, List.getElem?_eq_getElem hi]
  simp [List.getD, List.getElem?_eq_getElem hi, nval]
theorem ownN_shape {w : World} {base : Nat} {v : Value} {zs : List Nat} (h : OwnN w base v zs) : (v = .slice none 0 0 ∧ zs = []) ∨ ∃ g cap, v = .slice (some ⟨g, 0, none⟩) zs.length cap ∧ zs.length ≤ cap ∧ base ≤ g ∧ g < w.heap.size := by
  rcases h.2 with ⟨rfl, hl⟩ | ⟨g, cap, cur, rfl, hg, hh, hc, _⟩
  · exact Or.inl ⟨rfl, List.eq_nil_of_length_eq_zero hl⟩
  · exact Or.inr ⟨g, cap, rfl, hc, hg, (Array.getElem?_eq_some_iff.1 hh).1⟩
theorem ownN_ok {w : World} {base : Nat} {v : Value} {zs : List Nat} (h : OwnN w base v zs) (hz : ∀ z ∈ zs, z ≤ 18446744073709551615) : NumOK w v zs := by
  rcases ownN_shape h with ⟨rfl, rfl⟩ | ⟨g, cap, rfl, hc, _, hg⟩
  · exact numOK_none w
  · exact ⟨Or.inr ⟨g, 0, cap, rfl, hg, fun i hi => by rw [Nat.zero_add]; exact ownN_cell h rfl i hi⟩, ⟨_, cap, rfl, hc⟩, hz⟩
theorem numOK_cells {w : World} {a : Option Addr} {n cap : Nat} {zs : List Nat} (h : NumOK w (.slice a n cap) zs) (h0 : zs ≠ []) : ∃ b off, a = some ⟨b, off, none⟩ ∧ b < w.heap.size ∧ ∀ i, i < zs.length → w.cell? ⟨b, off + i, none⟩ = some (.int .u64 (zs.getD i 0)) := by
  rcases h.1 with ⟨a', cap', e, rfl⟩ | ⟨b, off, cap', e, hb, hc⟩
  · exact absurd rfl h0
  · injection e with e1 e2 e3
    exact ⟨b, off, e1, hb, hc⟩
end Go.Proofs.Ytkpklickfkfjcaa
