/-
  WHAT EVERY ROW OF LAYER 13 SHARES: the tables that the rows list, as a start's world holds them, and that a world which meets the list bears what package value reads (KE).
-/
import Derived.Test.YtjijjmkeehdooaaGreatDoorCards
import Derived.Test.YtjijjmkeehdooaaGreatDoorTie
import Derived.Test.YtjijjmkeehdooaaGreatDoorRunVal
import Derived.Test.YtjijjmkeehdooaaGreatDoorRunRefs
import Derived.Lib.LaidU8T
import Derived.PinnedBridge
import Derived.Deep.DeepHandedRow
import Derived.Deep.DeepWitnessRowRef
import Derived.Lay
import Derived.Shelf.Vars
import Derived.ProofKit
import Derived.OpenShut
import Derived.SizedLaws
namespace Go.Proofs.YtjijjmkeehdooaaGreatDoor
open Go.Shelf Go.ChangeShapes Go.WideShapes Go.ChangeAt Go.RowKit Go.Lib
open Go.ChangeMaps (open_string shut_string)

theorem own : ownKnob Tryz.prog.godebug = none := by kernel_rfl
theorem laidOut : laidOutB Tryz.prog = true := by kernel_rfl

def laidList : List (String × DataW Unit) := [("unicode/utf8.acceptRanges", Rows.laid_unicode_utf8_acceptRanges), ("unicode.asciiFold", Rows.laid_unicode_asciiFold), ("unicode.caseOrbit", Rows.laid_unicode_caseOrbit), ("unicode.CaseRanges", Rows.laid_unicode_CaseRanges), ("unicode/utf8.first", Rows.laid_unicode_utf8_first)]
theorem accept_eq : (Rows.laid_unicode_utf8_acceptRanges : DataW Unit) = acceptData := by kernel_rfl
theorem first_eq : (Rows.laid_unicode_utf8_first : DataW Unit) = firstData := Pinned.utf8First_eq

/-- A start's world that holds the tables. -/
noncomputable def laidWorld (os : Os) : World := World.laidAll Tryz.prog os laidList
theorem laid_met (os : Os) (args : Array Value) : laidMet Tryz.prog laidList ((laidWorld os).forCall (fun _ _ => 0) ⟨#[], args, []⟩).memory :=
  laidMet_laidAll _ (by kernel_rfl) (by kernel_rfl)

section
variable {H : Type} {enc : TypeId × Value → H}
theorem witness_row_shaped {C : Checked} {os : Os} {f : FuncId} {fn : Func} {s : OpenSpec} {conds : List PathCond} {apart : Bool} {laid : List (String × DataW Unit)} (modest : Bool) (w0 : World) (args : Array Value) (hos : w0.os = os)
    (hsh : (w0.forCall (fun _ _ => 0) ⟨#[], args, []⟩).Shaped C.prog)
    (hok : Input.okWideB C.prog (w0.forCall (fun _ _ => 0) ⟨#[], args, []⟩) f ⟨#[], args, []⟩ = true)
    (hrow : s.preRow enc C.prog fn conds apart laid (w0.forCall (fun _ _ => 0) ⟨#[], args, []⟩).memory args) :
    ∃ (w : World) (tape : Tape) (i : Input), w.os = os ∧ (w.forCall tape i).Shaped C.prog ∧ i.vars = [] ∧ Input.okWide C.prog (w.forCall tape i) .any w.heap.size f i ∧
      s.preRow enc C.prog fn conds apart laid (w.forCall tape i).memory i.args ∧ ({ modest := modest } : Assume).holds C.prog (lone (Frame.enter C.prog f i.args .normal) [] (w.forCall tape i)) :=
  ⟨w0, fun _ _ => 0, ⟨#[], args, []⟩, hos, hsh, (Input.okWide_of_okWideB (base := 0) hok).1, (Input.okWide_of_okWideB hok).2, hrow, by
    simp only [Assume.holds]
    exact ⟨by simp, by simp, fun _ => Modest.zero, by simp, by simp⟩⟩
end
theorem laid_shaped (os : Os) (args : Array Value) : ((laidWorld os).forCall (fun _ _ => 0) ⟨#[], args, []⟩).Shaped Tryz.prog :=
  World.shaped_of_ZipB (by kernel_rfl) (by kernel_rfl)
theorem laid_os (os : Os) : (laidWorld os).os = os := World.laidAll_os _ _ _

theorem tabs_of {W : World} (hL : laidMetH Tryz.prog laidList W) : Tabs W := by
  have h1 := Lib.laidMet.reads hL (.head _)
  have h2 := Lib.laidMet.reads hL (.tail _ (.tail _ (.tail _ (.tail _ (.head _)))))
  rw [accept_eq] at h1
  rw [first_eq] at h2
  exact utf8Tabs_of_readsT (U8Types.of196 Tryz.layValid) ⟨by kernel_rfl, by kernel_rfl, by kernel_rfl, by kernel_rfl, by kernel_rfl, by kernel_rfl, by kernel_rfl⟩ h2 h1
def foldZ (r : Nat) : Int := if r = 76 ∨ r = 77 ∨ r = 88 then (r : Int) + 32 else if r = 108 ∨ r = 109 ∨ r = 120 then (r : Int) - 32 else 0
theorem fold_data : ∃ l : List (DataW Unit), Rows.laid_unicode_asciiFold = DataW.agg l ∧ l.length = 128 ∧ l[76]? = some (.lit (.int .u16 108)) ∧ l[77]? = some (.lit (.int .u16 109)) ∧ l[88]? = some (.lit (.int .u16 120)) ∧ l[108]? = some (.lit (.int .u16 76)) ∧ l[109]? = some (.lit (.int .u16 77)) ∧ l[120]? = some (.lit (.int .u16 88)) :=
  ⟨_, rfl, by kernel_rfl, by kernel_rfl, by kernel_rfl, by kernel_rfl, by kernel_rfl, by kernel_rfl, by kernel_rfl⟩
theorem fold_cell {W : World} {l : List (DataW Unit)} (h : VarReads Tryz.prog W "unicode.asciiFold" (DataW.agg l)) (r : Nat) (z : Int) (hr : r < 128) (hz : l[r]? = some (.lit (.int .u16 z))) : W.cell? ⟨3, r, none⟩ = some (.int .u16 z) := by
  obtain ⟨g, t, cs, fuel, p, hg, ht, hv, hd⟩ := h
  obtain rfl := Option.some.inj ((show Tryz.prog.globalNamed "unicode.asciiFold" = some 3 by kernel_rfl).symm.trans hg)
  obtain rfl := Option.some.inj ((show (Tryz.prog.globals[3]?).map (·.type) = some 158 by kernel_rfl).symm.trans ht)
  obtain ⟨xs, m, _, ex, _, hl, hel⟩ := DataW.trod_array Tryz.underlying158 hd
  have c5 : Tryz.prog.cellsOf 157 = 1 := by kernel_rfl
  have hE := hel r hr
  rw [c5, Nat.mul_one, List.getElem?_eq_getElem (by omega)] at hE
  obtain ⟨y, e1, e2, _⟩ := DataW.trod_int Tryz.underlying157 hE
  have e3 : xs.map (·.1) = l := (DataW.agg.inj (Prod.mk.inj ex).1).symm
  have e4 : (xs.map (·.1))[r]? = some (.lit (.int .u16 z)) := by rw [e3]; exact hz
  rw [List.getElem?_map, List.getElem?_eq_getElem (by omega : r < xs.length), e2] at e4
  have hy : y = z := by
    simp only [Option.map_some, Option.some.injEq, DataW.lit.injEq, Lit.int.injEq, true_and] at e4
    exact e4
  rw [World.var?_cell hg hv r, ← hy]
  have : cs.toList[r]? = some (.int .u16 y) := by
    have h0 : ((cs.toList.drop r).take 1)[0]? = some (.int .u16 y) := by rw [e1]; rfl
    simpa using h0
  simpa using this
/-- the tables lie below -/
def nV : Nat := max (max 0 1) (max 3 2) + 1
theorem ke_of {W : World} (hL : laidMetH Tryz.prog laidList W) (hsh : W.ShapedOpen Tryz.prog) : KE nV W := by
  refine ⟨tabs_of hL, ?_, ?_, ⟨by decide, by decide, by decide, by decide⟩⟩
  · have h2 := Lib.laidMet.reads hL (.tail _ (.head _))
    obtain ⟨l, hl, _, e1, e2, e3, e4, e5, e6⟩ := fold_data
    rw [hl] at h2
    intro i hi
    simp only [List.mem_cons, List.mem_nil_iff, or_false] at hi
    rcases hi with rfl | rfl | rfl | rfl | rfl | rfl
    · exact fold_cell h2 _ _ (by decide) e1
    · exact fold_cell h2 _ _ (by decide) e2
    · exact fold_cell h2 _ _ (by decide) e3
    · exact fold_cell h2 _ _ (by decide) e4
    · exact fold_cell h2 _ _ (by decide) e5
    · exact fold_cell h2 _ _ (by decide) e6
  · exact cell_of_shapedOpen_int (zero := #[.int .i64 0]) (t := 3) hsh (of_decide_eq_true (by kernel_rfl)) (by kernel_rfl) rfl (by kernel_rfl) (by kernel_rfl) Tryz.underlying3
theorem size_of {W : World} (hL : laidMetH Tryz.prog laidList W) (hsh : W.ShapedOpen Tryz.prog) : nV ≤ W.heap.size := by
  obtain ⟨ht, hf, ⟨m, hm⟩, _⟩ := ke_of hL hsh
  have h1 := World.block_lt_of_cell? W _ (ht.1 0 (by decide))
  have h2 := World.block_lt_of_cell? W _ (ht.2 0 (by decide)).1
  have h3 := World.block_lt_of_cell? W _ (hf 76 (by decide))
  have h4 := World.block_lt_of_cell? W _ hm
  exact Nat.max_lt.2 ⟨Nat.max_lt.2 ⟨h1, h2⟩, Nat.max_lt.2 ⟨h3, h4⟩⟩
end Go.Proofs.YtjijjmkeehdooaaGreatDoor
