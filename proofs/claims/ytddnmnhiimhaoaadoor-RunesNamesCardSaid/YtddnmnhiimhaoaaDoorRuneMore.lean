/-
  THE CONTRACTS OF runes.NCName, Blank, Split and of the library's Clone and Cut that they call: they return ncB, blankB, splitV of RuneDefs; of what was there before the call nothing turns.
-/
import Derived.Test.YtddnmnhiimhaoaaDoorRuneNames
namespace Go.Proofs.YtddnmnhiimhaoaaDoor
open Go.RowKit

set_option maxHeartbeats 1000000 in
set_option maxRecDepth 100000 in
theorem nc_any (s : ByteArray) (w : World) (hs : s.size ≤ 4294967280) (hT : Tabs w) :
    Calls Tryd.prog 22 #[.string s] w fun e w' => e = .returned (.bool (ncB s)) ∧ Below w.heap.size w w' := by
  obtain ⟨a, ha⟩ : ∃ a, nameB s = a := ⟨_, rfl⟩
  obtain ⟨c, hc⟩ : ∃ c, colonB s = c := ⟨_, rfl⟩
  have HV : Hid (ncB s = (a && !c)) := by unfold ncB; rw [ha, hc]; exact rfl
  have cN := name_any s w hs hT
  rw [ha] at cN
  have cC : ∀ w, Calls Tryd.prog 33 #[.string s, .string ⟨#[58]⟩] w fun e w' => e = .returned (.bool c) ∧ w' = w := fun w => by rw [← hc]; exact Tryd.contains_laid s 58 w
  clear ha hc
  cases a
  · go_enter Tryd.func22, Tryd.ntmps22
    go_wp2_with (go_at_call 20; refine cN.mono ?_; rintro e w1 ⟨rfl, hb1⟩)
    go_ret
    exact ⟨by rw [HV.out]; rfl, hb1⟩
  · cases c
    all_goals
      go_enter Tryd.func22, Tryd.ntmps22
      go_wp2_with (first | (go_at_call 20; refine cN.mono ?_; rintro e w1 ⟨rfl, hb1⟩) | (go_at_call 33; refine (cC _).mono ?_; rintro e w2 ⟨rfl, rfl⟩))
      go_ret
      exact ⟨by rw [HV.out]; rfl, hb1⟩

set_option maxHeartbeats 1000000 in
set_option maxRecDepth 100000 in
theorem blank_any (s : ByteArray) (w : World) :
    Calls Tryd.prog 24 #[.string s] w fun e w' => e = .returned (.bool (blankB s)) ∧ Below w.heap.size w w' := by
  go_enter Tryd.func24, Tryd.ntmps24
  go_wp2
  go_loopw [4] (fun _ wr => ∃ pos : Nat, wr = w.iter s pos ∧ Blanks s pos ∧ pos ≤ s.size) (fun _ wr => s.size - wr.iterPos w.heap.size)
  case atStart => exact ⟨0, rfl, blanks_zero s, Nat.zero_le _⟩
  case round =>
    obtain ⟨pos, rfl, hn, hle⟩ := hrel
    have HN := Lib.hid hn
    clear hn
    by_cases hp : pos < s.size
    · have hnx : ∀ ty, (Instr.next (.pointer (some ⟨w.heap.size, 0, none⟩)) true ty).run Tryd.prog (w.iter s pos) = _ := fun ty => run_next_any w s pos ty hp
      have HS := Lib.hid (blanks_succ s pos hp HN.out)
      have HC := Lib.hid (blank_no s pos hp)
      have HW := Lib.hid (width_ascii s pos hp)
      have e := space_decode s pos hp
      have cS : ∀ w, Calls Tryd.prog 16 #[.int .i32 ((Utf8.decode s pos).1 : Int)] w _ := fun w => space_any _ w
      obtain ⟨p, hpp⟩ : ∃ p, spaceB ((s[pos]'hp).toNat : Int) = p := ⟨_, rfl⟩
      rw [hpp] at HS HC HW e
      rw [e] at cS
      clear hpp e
      obtain ⟨r, hr⟩ : ∃ r : Nat, (Utf8.decode s pos).1 = r := ⟨_, rfl⟩
      obtain ⟨n, hn⟩ : ∃ n : Nat, (Utf8.decode s pos).2 = n := ⟨_, rfl⟩
      simp only [hr, hn] at hnx cS
      rw [hn] at HW
      clear hr hn
      cases p
      · have HV := Lib.hid (HC.out rfl)
        clear HS HC HW
        go_wp2_with (go_at_call 16; refine (cS _).mono ?_; rintro e w' ⟨rfl, rfl⟩)
        go_ret
        exact ⟨by rw [HV.out]; rfl, (Below.refl _ _).alloc (Nat.le_refl _) _⟩
      · have HS' := Lib.hid (HS.out rfl)
        obtain rfl : n = 1 := HW.out rfl
        clear HS HC HW
        go_wp2_with (go_at_call 16; refine (cS _).mono ?_; rintro e w' ⟨rfl, rfl⟩)
        go_roundw
        case rel => exact ⟨pos + 1, rfl, HS'.out, by omega⟩
        case measure => simp; omega
    · have hnx : ∀ ty, (Instr.next (.pointer (some ⟨w.heap.size, 0, none⟩)) true ty).run Tryd.prog (w.iter s pos) = _ := fun ty => run_next_end w s pos ty hp
      have hks : pos = s.size := by omega
      have HV : Hid (blankB s = true) := blank_yes s (by rw [← hks]; exact HN.out)
      clear hks
      go_wp2
      go_ret
      exact ⟨by rw [HV.out]; rfl, (Below.refl _ _).alloc (Nat.le_refl _) _⟩

set_option maxHeartbeats 1000000 in
theorem clone_any (s : ByteArray) (w : World) (hs : s.size ≤ 4294967280) :
    Calls Tryd.prog 28 #[.string s] w fun e w' => e = .returned (.string s) ∧ Below w.heap.size w w' := by
  have C := Tryd.clone_laid s w (by omega)
  go_enter Tryd.func28, Tryd.ntmps28
  go_wp2_with (go_at_call 34; refine C.mono ?_; rintro e w1 ⟨rfl, hb1⟩)
  go_ret
  exact ⟨rfl, hb1⟩

/-- What Cut at a colon hands back. -/
def cutV (s : ByteArray) : ByteArray × ByteArray × Bool := if colonB s = true then (s.extract 0 (colonAt s), s.extract (colonAt s + 1) s.size, true) else (s, ⟨#[]⟩, false)

set_option maxHeartbeats 1000000 in
set_option maxRecDepth 100000 in
theorem cutIn_any (s : ByteArray) (w : World) (hs : s.size ≤ 4294967280) :
    Calls Tryd.prog 35 #[.string s, .string ⟨#[58]⟩] w fun e w' => e = .returned (.tuple #[.string (cutV s).1, .string (cutV s).2.1, .bool (cutV s).2.2]) ∧ Below w.heap.size w w' := by
  have C := Tryd.index_laid s 58 w
  by_cases hc : colonB s = true
  · obtain ⟨k, hk⟩ : ∃ k, colonAt s = k := ⟨_, rfl⟩
    have hlt := colonAt_lt s hc
    have HV : Hid (cutV s = (s.extract 0 k, s.extract (k + 1) s.size, true)) := by unfold cutV; rw [if_pos hc, hk]; exact rfl
    have e : Lib.indexByte s.data.toList 58 = (k : Int) := by
      have h := of_decide_eq_true hc
      rw [← hk]; unfold colonAt; omega
    rw [e] at C
    rw [hk] at hlt
    clear e hk hc
    have c1 : (0 : Int) ≤ (k : Int) := by omega
    have c2 : (k : Int) ≤ (s.size : Int) := by omega
    have c3 : (0 : Int) ≤ (k : Int) + 1 := by omega
    have c4 : ((k : Int) + 1) ≤ (s.size : Int) := by omega
    go_enter Tryd.func35, Tryd.ntmps35
    go_wp2_with (go_at_call 39; refine C.mono ?_; rintro e w' ⟨rfl, rfl⟩)
    go_quiet (fail)
    go_wp2
    go_ret3
    exact ⟨by rw [HV.out]; rfl, below_drewN (Below.refl _ _) _⟩
  · have HV : Hid (cutV s = (s, ⟨#[]⟩, false)) := by unfold cutV; rw [if_neg hc]; exact rfl
    have e : Lib.indexByte s.data.toList 58 = -1 := by
      have h1 := Lib.indexByte_ge s.data.toList 58
      have h2 : ¬ (0 ≤ Lib.indexByte s.data.toList 58) := fun h => hc (decide_eq_true h)
      omega
    rw [e] at C
    clear e hc
    go_enter Tryd.func35, Tryd.ntmps35
    go_wp2_with (go_at_call 39; refine C.mono ?_; rintro e w' ⟨rfl, rfl⟩)
    go_ret3
    exact ⟨by rw [HV.out]; rfl, Below.refl _ _⟩

set_option maxHeartbeats 1000000 in
theorem cut_any (s : ByteArray) (w : World) (hs : s.size ≤ 4294967280) :
    Calls Tryd.prog 29 #[.string s, .string ⟨#[58]⟩] w fun e w' => e = .returned (.tuple #[.string (cutV s).1, .string (cutV s).2.1, .bool (cutV s).2.2]) ∧ Below w.heap.size w w' := by
  have C := cutIn_any s w hs
  go_enter Tryd.func29, Tryd.ntmps29
  go_wp2_with (go_at_call 35; refine C.mono ?_; rintro e w1 ⟨rfl, hb1⟩)
  go_ret3
  exact ⟨rfl, hb1⟩
end Go.Proofs.YtddnmnhiimhaoaaDoor
