/-
  THE CONTRACT OF brackenlaw1.RunesAsks: it returns true for every character and every text.
-/
import Derived.Test.YtddnmnhiimhaoaaDoorToldOne
import Derived.Test.YtddnmnhiimhaoaaDoorRefSplit
namespace Go.Proofs.YtddnmnhiimhaoaaDoor
open Go.RowKit

set_option maxHeartbeats 1000000 in
set_option maxRecDepth 100000 in
theorem asks_long (r : Int) (s : ByteArray) (w : World) (hs : 100 < s.size) (hT : Tabs w) :
    Calls Tryd.prog 4 #[.int .i32 r, .string s] w fun e w' => e = .returned (.bool true) ∧ Below w.heap.size w w' := by
  have cT := told_any w hT
  have h1 : (100 : Int) < (s.size : Int) := by omega
  go_enter Tryd.func4, Tryd.ntmps4
  go_wp2_with (go_at_call 9; refine cT.mono ?_; rintro e w1 ⟨rfl, hb⟩)
  go_ret
  exact ⟨rfl, hb⟩

theorem refSplit_is (s : ByteArray) (v : ByteArray × ByteArray × Bool) (h : splitV s = v) (hs : s.size ≤ 4294967296) (w : World) :
    Calls Tryd.prog 13 #[.string s] w fun e w' => e = .returned (.tuple #[.string v.1, .string v.2.1, .bool v.2.2]) ∧ Below w.heap.size w w' := by
  subst h; exact refSplit_any s w hs

set_option maxHeartbeats 4000000 in
set_option maxRecDepth 100000 in
theorem asks_short (r : Int) (s : ByteArray) (w : World) (hs : ¬ 100 < s.size) (hT : Tabs w) :
    Calls Tryd.prog 4 #[.int .i32 r, .string s] w fun e w' => e = .returned (.bool true) ∧ Below w.heap.size w w' := by
  have HT := Lib.hid hT
  have h1 : ¬ (100 : Int) < (s.size : Int) := by omega
  have hs1 : s.size ≤ 4294967280 := by omega
  have hs2 : s.size ≤ 4294967296 := by omega
  have HS1 := Lib.hid hs1
  have HS2 := Lib.hid hs2
  clear hs hs1 hs2 hT
  obtain ⟨v, hv⟩ : ∃ v, splitV s = v := ⟨_, rfl⟩
  have V := Lib.hid hv
  clear hv
  go_enter Tryd.func4, Tryd.ntmps4
  go_wp2_with fail
  refine (split_is s v V.out HS1.out _ HT.out).mono ?_
  rintro e v0 ⟨rfl, hb⟩
  go_wp2_with fail
  refine (refSplit_is s v V.out HS2.out _).mono ?_
  rintro e v1 ⟨rfl, hb'⟩
  replace hb := step_below hb hb'
  clear hb'
  go_wp2_with fail
  refine (told_any _ (HT.out.below hb)).mono ?_
  rintro e v2 ⟨rfl, hb'⟩
  replace hb := step_below hb hb'
  clear hb'
  go_wp2_with fail
  refine (char_is r (charB r) rfl _).mono ?_
  rintro e w' ⟨rfl, rfl⟩
  go_wp2_with fail
  refine (refChar_any r _).mono ?_
  rintro e w' ⟨rfl, rfl⟩
  go_wp2_with fail
  refine (space_is r (spaceB r) rfl _).mono ?_
  rintro e w' ⟨rfl, rfl⟩
  go_wp2_with fail
  refine (refSpace_any r _).mono ?_
  rintro e w' ⟨rfl, rfl⟩
  go_wp2_with fail
  refine (start_is r (startB r) rfl _).mono ?_
  rintro e w' ⟨rfl, rfl⟩
  go_wp2_with fail
  refine (refStart_any r _).mono ?_
  rintro e w' ⟨rfl, rfl⟩
  go_wp2_with fail
  refine (part_is r (partB r) rfl _).mono ?_
  rintro e w' ⟨rfl, rfl⟩
  go_wp2_with fail
  refine (refPart_any r _).mono ?_
  rintro e w' ⟨rfl, rfl⟩
  go_wp2_with fail
  refine (name_any s _ HS1.out (HT.out.below hb)).mono ?_
  rintro e v3 ⟨rfl, hb'⟩
  replace hb := step_below hb hb'
  clear hb'
  go_wp2_with fail
  refine (refName_any s _ HS2.out).mono ?_
  rintro e w' ⟨rfl, rfl⟩
  go_wp2_with fail
  refine (nc_any s _ HS1.out (HT.out.below hb)).mono ?_
  rintro e v4 ⟨rfl, hb'⟩
  replace hb := step_below hb hb'
  clear hb'
  go_wp2_with fail
  refine (refNC_any s _ HS2.out).mono ?_
  rintro e w' ⟨rfl, rfl⟩
  go_wp2_with fail
  refine (blank_any s _).mono ?_
  rintro e v5 ⟨rfl, hb'⟩
  replace hb := step_below hb hb'
  clear hb'
  go_wp2_with fail
  refine (refBlank_any s _ HS2.out).mono ?_
  rintro e w' ⟨rfl, rfl⟩
  go_wp2
  go_ret
  exact ⟨rfl, hb⟩

theorem asks_law (r : Int) (s : ByteArray) (w : World) (hT : Tabs w) :
    Calls Tryd.prog 4 #[.int .i32 r, .string s] w fun e w' => e = .returned (.bool true) ∧ Below w.heap.size w w' := by
  by_cases hs : 100 < s.size
  · exact asks_long r s w hs hT
  · exact asks_short r s w hs hT
end Go.Proofs.YtddnmnhiimhaoaaDoor
