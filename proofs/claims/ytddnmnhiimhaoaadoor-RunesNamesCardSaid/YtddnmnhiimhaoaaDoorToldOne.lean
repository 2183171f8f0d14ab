/-
  THE CONTRACT OF brackenlaw1.told: it returns true; of what was there before the call nothing turns. (What the program tells of a few texts, reckoned by the kernel.)
-/
import Derived.Test.YtddnmnhiimhaoaaDoorRuneSplit
import Derived.KernelRfl
namespace Go.Proofs.YtddnmnhiimhaoaaDoor
open Go.RowKit

theorem split1 : splitV ⟨#[97, 58, 98]⟩ = (⟨#[97]⟩, ⟨#[98]⟩, true) := by kernel_rfl
theorem split2 : splitV ⟨#[97, 98]⟩ = (⟨#[]⟩, ⟨#[97, 98]⟩, true) := by kernel_rfl
theorem split3 : splitV ⟨#[97, 58, 98, 58, 99]⟩ = (⟨#[]⟩, ⟨#[]⟩, false) := by kernel_rfl
theorem name1 : nameB ⟨#[97, 58, 98]⟩ = true := by kernel_rfl
theorem nc1 : ncB ⟨#[97, 58, 98]⟩ = false := by kernel_rfl
theorem name2 : nameB ⟨#[49, 97]⟩ = false := by kernel_rfl
theorem name3 : nameB ⟨#[]⟩ = false := by kernel_rfl
theorem blank1 : blankB ⟨#[]⟩ = true := by kernel_rfl
theorem blank2 : blankB ⟨#[32, 9]⟩ = true := by kernel_rfl
theorem blank3 : blankB ⟨#[120]⟩ = false := by kernel_rfl

theorem split_is (s : ByteArray) (v : ByteArray × ByteArray × Bool) (h : splitV s = v) (hs : s.size ≤ 4294967280) (w : World) (hT : Tabs w) :
    Calls Tryd.prog 12 #[.string s] w fun e w' => e = .returned (.tuple #[.string v.1, .string v.2.1, .bool v.2.2]) ∧ Below w.heap.size w w' := by
  subst h; exact split_any s w hs hT
theorem name_is (s : ByteArray) (b : Bool) (h : nameB s = b) (hs : s.size ≤ 4294967280) (w : World) (hT : Tabs w) :
    Calls Tryd.prog 20 #[.string s] w fun e w' => e = .returned (.bool b) ∧ Below w.heap.size w w' := by
  subst h; exact name_any s w hs hT
theorem nc_is (s : ByteArray) (b : Bool) (h : ncB s = b) (hs : s.size ≤ 4294967280) (w : World) (hT : Tabs w) :
    Calls Tryd.prog 22 #[.string s] w fun e w' => e = .returned (.bool b) ∧ Below w.heap.size w w' := by
  subst h; exact nc_any s w hs hT
theorem blank_is (s : ByteArray) (b : Bool) (h : blankB s = b) (w : World) :
    Calls Tryd.prog 24 #[.string s] w fun e w' => e = .returned (.bool b) ∧ Below w.heap.size w w' := by
  subst h; exact blank_any s w
theorem char_is (r : Int) (b : Bool) (h : charB r = b) (w : World) :
    Calls Tryd.prog 14 #[.int .i32 r] w fun e w' => e = .returned (.bool b) ∧ w = w' := by
  subst h; exact char_any r w
theorem space_is (r : Int) (b : Bool) (h : spaceB r = b) (w : World) :
    Calls Tryd.prog 16 #[.int .i32 r] w fun e w' => e = .returned (.bool b) ∧ w = w' := by
  subst h; exact space_any r w
theorem start_is (r : Int) (b : Bool) (h : startB r = b) (w : World) :
    Calls Tryd.prog 10 #[.int .i32 r] w fun e w' => e = .returned (.bool b) ∧ w = w' := by
  subst h; exact start_any r w
theorem part_is (r : Int) (b : Bool) (h : partB r = b) (w : World) :
    Calls Tryd.prog 11 #[.int .i32 r] w fun e w' => e = .returned (.bool b) ∧ w = w' := by
  subst h; exact part_any r w

set_option maxHeartbeats 4000000 in
set_option maxRecDepth 100000 in
theorem told_any (w : World) (hT : Tabs w) :
    Calls Tryd.prog 9 #[] w fun e w' => e = .returned (.bool true) ∧ Below w.heap.size w w' := by
  have HT := Lib.hid hT
  go_enter Tryd.func9, Tryd.ntmps9
  go_wp2_with fail
  refine (split_is _ _ split1 (by decide) _ HT.out).mono ?_
  rintro e w1 ⟨rfl, hb⟩
  go_wp2_with fail
  refine (split_is _ _ split2 (by decide) _ (HT.out.below hb)).mono ?_
  rintro e w2 ⟨rfl, hb'⟩
  replace hb := step_below hb hb'
  clear hb'
  go_wp2_with fail
  refine (split_is _ _ split3 (by decide) _ (HT.out.below hb)).mono ?_
  rintro e w3 ⟨rfl, hb'⟩
  replace hb := step_below hb hb'
  clear hb'
  go_wp2_with fail
  refine (char_is 9 true (by decide) _).mono ?_
  rintro e w' ⟨rfl, rfl⟩
  go_wp2_with fail
  refine (char_is 0 false (by decide) _).mono ?_
  rintro e w' ⟨rfl, rfl⟩
  go_wp2_with fail
  refine (char_is 65534 false (by decide) _).mono ?_
  rintro e w' ⟨rfl, rfl⟩
  go_wp2_with fail
  refine (space_is 32 true (by decide) _).mono ?_
  rintro e w' ⟨rfl, rfl⟩
  go_wp2_with fail
  refine (start_is 58 true (by decide) _).mono ?_
  rintro e w' ⟨rfl, rfl⟩
  go_wp2_with fail
  refine (start_is 45 false (by decide) _).mono ?_
  rintro e w' ⟨rfl, rfl⟩
  go_wp2_with fail
  refine (part_is 45 true (by decide) _).mono ?_
  rintro e w' ⟨rfl, rfl⟩
  go_wp2_with fail
  refine (name_is _ _ name1 (by decide) _ (HT.out.below hb)).mono ?_
  rintro e w4 ⟨rfl, hb'⟩
  replace hb := step_below hb hb'
  clear hb'
  go_wp2_with fail
  refine (nc_is _ _ nc1 (by decide) _ (HT.out.below hb)).mono ?_
  rintro e w5 ⟨rfl, hb'⟩
  replace hb := step_below hb hb'
  clear hb'
  go_wp2_with fail
  refine (name_is _ _ name2 (by decide) _ (HT.out.below hb)).mono ?_
  rintro e w6 ⟨rfl, hb'⟩
  replace hb := step_below hb hb'
  clear hb'
  go_wp2_with fail
  refine (name_is _ _ name3 (by decide) _ (HT.out.below hb)).mono ?_
  rintro e w7 ⟨rfl, hb'⟩
  replace hb := step_below hb hb'
  clear hb'
  go_wp2_with fail
  refine (blank_is _ _ blank1 _).mono ?_
  rintro e w8 ⟨rfl, hb'⟩
  replace hb := step_below hb hb'
  clear hb'
  go_wp2_with fail
  refine (blank_is _ _ blank2 _).mono ?_
  rintro e w9 ⟨rfl, hb'⟩
  replace hb := step_below hb hb'
  clear hb'
  go_wp2_with fail
  refine (blank_is _ _ blank3 _).mono ?_
  rintro e w10 ⟨rfl, hb'⟩
  replace hb := step_below hb hb'
  clear hb'
  go_wp2
  go_ret
  exact ⟨rfl, hb⟩
end Go.Proofs.YtddnmnhiimhaoaaDoor
