/-
  LAYER 4: the laws as the rows want them: for any argument ([]uint64, uint64).
-/
import Derived.Test.YtkpklickfkfjcaaIntsAsks
import Derived.Test.YtkpklickfkfjcaaIntsOwn
import Derived.Test.YtkpklickfkfjcaaIntsWidths
import Derived.Test.YtkpklickfkfjcaaIntsNoughts
import Derived.OpenShut
namespace Go.Proofs.Ytkpklickfkfjcaa
open Go.RowKit

/-- a []uint64, nil too -/
def NumArg (w : World) (v : Value) : Prop := ∃ (a : Option Addr) (cap : Nat) (zs : List Nat), v = .slice a zs.length cap ∧ NumOK w v zs
theorem num_wf {x : Int} (h : (Lit.int .u64 x).wf = true) : 0 ≤ x ∧ x ≤ 18446744073709551615 := by
  have h1 : IntKind.u64.min = 0 := rfl
  have h2 : IntKind.u64.max = 18446744073709551615 := rfl
  simp only [Lit.wf, Bool.and_eq_true, decide_eq_true_eq] at h
  omega
theorem in64_wf4 {k : Int} (h : (Lit.int .i64 k).wf = true) : In64 k := by
  have h1 : IntKind.i64.min = -9223372036854775808 := rfl
  have h2 : IntKind.i64.max = 9223372036854775807 := rfl
  simp only [Lit.wf, Bool.and_eq_true, decide_eq_true_eq] at h
  exact ⟨by omega, by omega⟩
theorem numArg_nil (w : World) (cap : Nat) (a : Option Addr) : NumArg w (.slice a 0 cap) :=
  ⟨a, cap, [], rfl, Or.inl ⟨a, cap, rfl, rfl⟩, ⟨a, cap, rfl, Nat.zero_le _⟩, fun z hz => by cases hz⟩
theorem numArg_of {w : World} {a : Addr} {len cap : Nat} {zs : List Int} (hc : ∀ i, i < zs.length → w.cell? (a.add i) = some (.int .u64 (zs.getD i 0))) (hz : zs.length = cap) (hl : len ≤ cap) (hw : ∀ n ∈ zs, (Lit.int .u64 n).wf = true) :
    NumArg w (.slice (some a) len cap) := by
  by_cases h0 : len = 0
  · subst h0
    exact numArg_nil w cap (some a)
  · obtain ⟨b, off, rfl, hcell⟩ := ints_at hc (by omega)
    have hb : b < w.heap.size := World.block_lt_of_cell? _ _ (hcell 0 (by omega))
    have hlen : ((zs.take len).map fun z => z.toNat).length = len := by rw [List.length_map, List.length_take]; omega
    have hv : Value.slice (some ⟨b, off, none⟩) len cap = .slice (some ⟨b, off, none⟩) ((zs.take len).map fun z => z.toNat).length cap := by rw [hlen]
    refine ⟨_, cap, (zs.take len).map fun z => z.toNat, hv, Or.inr ⟨b, off, cap, hv, hb, fun i hi => ?_⟩, ⟨_, cap, hv, by omega⟩, fun z hz' => ?_⟩
    · rw [hlen] at hi
      have hi' : i < zs.length := by omega
      rw [hcell i hi']
      have hz1 : zs.getD i 0 = zs[i]'hi' := by simp [List.getD, List.getElem?_eq_getElem hi']
      have hg := num_wf (hw (zs[i]'hi') (List.getElem_mem _))
      have h2 : ((zs.take len).map fun z => z.toNat).getD i 0 = (zs[i]'hi').toNat := by
        simp [List.getD, List.getElem?_map, hi, List.getElem?_eq_getElem hi']
      rw [hz1, h2, Int.toNat_of_nonneg hg.1]
    · obtain ⟨y, hy, rfl⟩ := List.mem_map.1 hz'
      have hg := num_wf (hw y (List.mem_of_mem_take hy))
      omega
section
variable {E : World → Prop} {Is : Nat → World → Value → List Nat → Prop}
theorem iasks_law (T : IntSaid E Is) (l : Value) (k : Int) (w : World) (hE : E w) (hk : In64 k) (hl : NumArg w l) :
    Calls Try.prog 4 #[l, .int .i64 k] w fun e w' => e = .returned (.bool true) ∧ Below w.heap.size w w' := by
  obtain ⟨a, cap, zs, rfl, h⟩ := hl
  by_cases h200 : zs.length ≤ 200
  · exact iasks_any T a cap zs k w hE hk h h200
  · exact iasks_long T a zs.length cap k w hE (by omega)
theorem iown_law (T : IntSaid E Is) (l : Value) (w : World) (hE : E w) (hl : NumArg w l) :
    Calls Try.prog 6 #[l] w fun e w' => e = .returned (.bool true) ∧ Below w.heap.size w w' := by
  obtain ⟨a, cap, zs, rfl, h⟩ := hl
  by_cases h1 : zs.length < 1 ∨ 100 < zs.length
  · exact iown_none T a zs.length cap w hE h1
  · obtain ⟨b, off, rfl, hb, hc⟩ := numOK_cells h (by rintro rfl; exact h1 (Or.inl (by decide)))
    exact iown_any T b off cap zs w hE (by omega) (by omega) h.2.2 hb hc
theorem iwidths_law (T : IntSaid E Is) (n : Int) (w : World) (hE : E w) (hn : (Lit.int .u64 n).wf = true) :
    Calls Try.prog 5 #[.int .u64 n] w fun e w' => e = .returned (.bool true) ∧ Below w.heap.size w w' := by
  have h := num_wf hn
  obtain ⟨m, rfl⟩ := Int.eq_ofNat_of_zero_le h.1
  exact iwidths_any T m w hE (by omega)
theorem inoughts_law (T : IntSaid E Is) (n x : Int) (w : World) (hE : E w) (hx : (Lit.int .u64 x).wf = true) :
    Calls Try.prog 3 #[.int .i64 n, .int .u64 x] w fun e w' => e = .returned (.bool true) ∧ Below w.heap.size w w' := by
  have h := num_wf hx
  obtain ⟨m, rfl⟩ := Int.eq_ofNat_of_zero_le h.1
  exact inoughts_any T n m w hE (by omega)
end
end Go.Proofs.Ytkpklickfkfjcaa
