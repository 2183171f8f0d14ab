/-
  THE CONTRACT OF brackenlaw1.RunesEdges: it returns true for every number.
-/
import Derived.Test.YtddnmnhiimhaoaaDoorToldOne
import Derived.Deep.QuietTactic
import Derived.BigQuiet
namespace Go.Proofs.YtddnmnhiimhaoaaDoor
open Go.RowKit

def edgesIn : List Int := [65, 90, 97, 122, 95, 58, 192, 214, 216, 246, 248, 767, 880, 893, 895, 8191, 8204, 8205, 8304, 8591, 11264, 12271, 12289, 55295, 63744, 64975, 65008, 65533, 65536, 983039]
def edgesNo : List Int := [64, 91, 96, 123, 47, 59, 215, 247, 768, 879, 894, 8192, 8203, 8206, 8303, 8592, 11263, 12272, 12288, 57344, 64976, 65007, 65534, 983040, 45, 46, 48, 183]
def edgesParts : List Int := [45, 46, 48, 57, 183, 768, 879, 8255, 8256]

theorem start_list (zs : List Int) (b : Bool) (h : (zs.all fun z => startB z == b) = true) (i : Nat) (hi : i < (zs.map (Value.int .i32)).length) (w : World) :
    Calls Tryd.prog 10 #[(zs.map (Value.int .i32))[i]'hi] w fun e w' => e = .returned (.bool b) ∧ w = w' := by
  rw [List.getElem_map]
  refine start_is _ b ?_ w
  have := List.all_eq_true.1 h (zs[i]'(by simpa using hi)) (List.getElem_mem _)
  exact eq_of_beq this
theorem part_list (zs : List Int) (b : Bool) (h : (zs.all fun z => partB z == b) = true) (i : Nat) (hi : i < (zs.map (Value.int .i32)).length) (w : World) :
    Calls Tryd.prog 11 #[(zs.map (Value.int .i32))[i]'hi] w fun e w' => e = .returned (.bool b) ∧ w = w' := by
  rw [List.getElem_map]
  refine part_is _ b ?_ w
  have := List.all_eq_true.1 h (zs[i]'(by simpa using hi)) (List.getElem_mem _)
  exact eq_of_beq this

set_option maxHeartbeats 4000000 in
set_option maxRecDepth 100000 in
theorem edges_law (which : Int) (w : World) (hT : Tabs w) :
    Calls Tryd.prog 3 #[.int .i64 which] w fun e w' => e = .returned (.bool true) ∧ Below w.heap.size w w' := by
  have HT := Lib.hid hT
  clear hT
  obtain ⟨u, hu⟩ : ∃ u : Nat, IntKind.u64.wrap which = (u : Int) := ⟨(IntKind.u64.wrap which).toNat, by simp [IntKind.wrap, IntKind.bits, IntKind.signed]; omega⟩
  have c30 : IntKind.u64.wrap 30 = 30 := by decide
  have c28 : IntKind.u64.wrap 28 = 28 := by decide
  have c9 : IntKind.u64.wrap 9 = 9 := by decide
  obtain ⟨i, hi⟩ : ∃ i, u % 30 = i := ⟨_, rfl⟩
  obtain ⟨j, hj⟩ : ∃ j, u % 28 = j := ⟨_, rfl⟩
  obtain ⟨k, hk⟩ : ∃ k, u % 9 = k := ⟨_, rfl⟩
  have li : i < 30 := by omega
  have lj : j < 28 := by omega
  have lk : k < 9 := by omega
  have ti : Int.tmod (u : Int) 30 = (i : Int) := by rw [Int.tmod_eq_emod_of_nonneg (by omega)]; omega
  have tj : Int.tmod (u : Int) 28 = (j : Int) := by rw [Int.tmod_eq_emod_of_nonneg (by omega)]; omega
  have tk : Int.tmod (u : Int) 9 = (k : Int) := by rw [Int.tmod_eq_emod_of_nonneg (by omega)]; omega
  have wi : IntKind.u64.wrap (i : Int) = (i : Int) := by simp [IntKind.wrap, IntKind.bits, IntKind.signed]; omega
  have wj : IntKind.u64.wrap (j : Int) = (j : Int) := by simp [IntKind.wrap, IntKind.bits, IntKind.signed]; omega
  have wk : IntKind.u64.wrap (k : Int) = (k : Int) := by simp [IntKind.wrap, IntKind.bits, IntKind.signed]; omega
  have zi : (i : Int) < 30 := by omega
  have zj : (j : Int) < 28 := by omega
  have zk : (k : Int) < 9 := by omega
  clear hi hj hk
  go_enter Tryd.func3, Tryd.ntmps3
  go_wp2
  go_quiet (fail)
  go_wp2_with fail
  refine (told_any _ (HT.out.below (by repeat (first | exact Below.refl _ _ | refine below_drewN ?_ _ | refine Below.drew ?_ | refine Below.alloc ?_ (by simp <;> omega) _)))).mono ?_
  rintro e w1 ⟨rfl, hb⟩
  go_wp2_with fail
  refine (start_list edgesIn true (by decide) i _ _).mono ?_
  rintro e w' ⟨rfl, rfl⟩
  go_wp2_with fail
  refine (part_list edgesIn true (by decide) i _ _).mono ?_
  rintro e w' ⟨rfl, rfl⟩
  go_wp2_with fail
  refine (start_list edgesNo false (by decide) j _ _).mono ?_
  rintro e w' ⟨rfl, rfl⟩
  go_wp2_with fail
  refine (start_list edgesParts false (by decide) k _ _).mono ?_
  rintro e w' ⟨rfl, rfl⟩
  go_wp2_with fail
  refine (part_list edgesParts true (by decide) k _ _).mono ?_
  rintro e w' ⟨rfl, rfl⟩
  go_wp2
  go_ret
  exact ⟨rfl, (show Below w.heap.size w _ by repeat (first | exact Below.refl _ _ | refine below_drewN ?_ _ | refine Below.drew ?_ | refine Below.alloc ?_ (by simp <;> omega) _)).trans (hb.mono (by simp <;> omega))⟩
end Go.Proofs.YtddnmnhiimhaoaaDoor
