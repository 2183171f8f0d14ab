/-
  BYTES THAT A CALL GATHERS IN A ROW OF ITS OWN ('b = append(b, c)', 'string(b)'): what an owned row of bytes becomes by an append, and the text that it is.
-/
import Derived.Test.YteejkkdimkgmfaaDoorChecked
import Derived.WalkKit
import Derived.WalkSpells
import Derived.WalkLawsBesides
import Derived.Laws.BytesArg
import Derived.Laws.OwnMore
import Derived.Lib.Hide
namespace Go.Proofs.YteejkkdimkgmfaaDoor
open Go.RowKit

theorem info_u8 : (Tryd.prog.info? 5).map (fun i => (i.zero, i.size, i.bytes)) = some (some (.int .u8 0), 1, 1) := by kernel_rfl
def bval (b : UInt8) : Value := .int .u8 (b.toNat : Int)
/-- the bytes l are owned -/
def OwnB (w : World) (base : Nat) (v : Value) (l : List UInt8) : Prop := w.ownsRow base 5 1 v l.length (l.map bval)
theorem ownB_next {w : World} {base : Nat} {v : Value} {l : List UInt8} (c : Nat) (hc : c < 256) (h : w.ownsRow base 5 1 v (l.length + 1) (l.map bval ++ [.int .u8 (c : Int)])) : OwnB w base v (l ++ [UInt8.ofNat c]) := by
  unfold OwnB
  rw [List.length_append, List.map_append]
  have e : [UInt8.ofNat c].map bval = [.int .u8 (c : Int)] := by
    simp only [List.map_cons, List.map_nil, bval]
    rw [UInt8.toNat_ofNat', Nat.mod_eq_of_lt (by omega)]
  rw [e]
  exact h
theorem ownB_block {w : World} {base : Nat} {v : Value} {l : List UInt8} (h : OwnB w base v l) : ∀ k, v.ownBlock = some k → base ≤ k := by
  intro k hk
  rcases h.2 with ⟨rfl, _⟩ | ⟨g, cap, cur, rfl, hg, _⟩
  · cases hk
  · simp only [Value.ownBlock, Option.some.injEq] at hk
    omega
theorem ownB_string {w : World} {base : Nat} {v : Value} {l : List UInt8} (h : OwnB w base v l) :
    (convert 22 9 v).run Tryd.prog w = .ok (.string ⟨l.toArray⟩) w := by
  have h0 := h
  rcases h.2 with ⟨rfl, hl⟩ | ⟨g, cap, cur, rfl, hg, _⟩
  · obtain rfl : l = [] := List.eq_nil_of_length_eq_zero hl
    exact run_convert_bytes_nil w 22 5 Tryd.underlying22 Tryd.underlying5 0 0 9 Tryd.underlying9
  · have hc : ∀ i, i < l.length → w.cell? ⟨g, 0 + i, none⟩ = some (.int .u8 ((l.map fun b => (b.toNat : Int)).getD i 0)) := by
      intro i hi
      rw [Nat.zero_add, World.ownsRow.cellAt h0 i (by omega)]
      rw [List.getElem?_map, List.getElem?_eq_getElem hi]
      simp [bval, List.getD, List.getElem?_eq_getElem hi]
    have := run_convert_bytes_arg (P := Tryd.prog) w 22 5 Tryd.underlying22 Tryd.underlying5 g 0 l.length cap (l.map fun b => (b.toNat : Int)) (by simp) hc 9 Tryd.underlying9
    rw [this]
    congr 2
    unfold strOfNums
    congr 2
    rw [List.map_map]
    conv => rhs; rw [← List.map_id l]
    apply List.map_congr_left
    intro b _
    simp
end Go.Proofs.YteejkkdimkgmfaaDoor
