/-
  THE CONTRACT OF runes.Name (as RuneNames, without the document's own roads): it returns nameB of RuneDefs; of what was there before the call nothing turns.
  CONDITION: Go's two tables of UTF-8 hold what their text lays (Tabs); a text is shorter than 2^32 - 15 bytes.
-/
import Derived.Test.YtjijjmkeehdooaaGreatDoorRunPart
import Derived.Test.YtjijjmkeehdooaaGreatDoorShelf
import Derived.LoopTactic
import Derived.Lib.Hide
import Derived.Laws.RangeAny
import Derived.Deep.QuietTactic
import Derived.BigQuiet
namespace Go.Proofs.YtjijjmkeehdooaaGreatDoor
open Go.RowKit

def Tabs (w : World) : Prop := Lib.Utf8Tabs 0 1 w
theorem Tabs.below {w w' : World} (h : Tabs w) (hb : Below w.heap.size w w') : Tabs w' := Utf8Tabs_below h hb

set_option maxHeartbeats 4000000 in
set_option maxRecDepth 100000 in
theorem name_any (s : ByteArray) (w : World) (hs : s.size ≤ 4294967280) (hT : Tabs w) :
    Calls Tryz.prog 117 #[.string s] w fun e w' => e = .returned (.bool (nameB s)) ∧ Below w.heap.size w w' := by
  by_cases h0 : s.size = 0
  · have HF : Hid (nameB s = false) := by unfold nameB; rw [decide_eq_false (by simp [h0])]; exact rfl
    have e1 : s.toList = [] := by
      rw [Lib.toList_data]
      apply List.eq_nil_of_length_eq_zero
      rw [← Lib.size_eq]; exact h0
    have e2 : s.toList.isEmpty = true := by rw [e1]; rfl
    clear h0
    go_enter Tryz.func117, Tryz.ntmps117
    go_wp2
    go_ret
    exact ⟨by rw [HF.out]; rfl, Below.refl _ _⟩
  · have cV := Tryz.valid_laid s w (by omega) hT
    have HN : Hid (nameB s = (Lib.validD s.data.toList && allOk s s.size 0)) := by unfold nameB; rw [decide_eq_true h0, Bool.true_and]; exact rfl
    have e1 : s.toList ≠ [] := by
      rw [Lib.toList_data]
      intro e
      have := congrArg List.length e
      rw [← Lib.size_eq] at this
      exact h0 this
    have e2 : s.toList.isEmpty = false := by simpa using e1
    clear h0
    obtain ⟨V, hV⟩ : ∃ V, Lib.validD s.data.toList = V := ⟨_, rfl⟩
    rw [hV] at cV HN
    clear hV
    cases V
    · go_enter Tryz.func117, Tryz.ntmps117
      go_wp2_with (go_at_call 125; refine cV.mono ?_; rintro e w1 ⟨rfl, hb1⟩)
      go_ret
      exact ⟨by rw [HN.out]; rfl, hb1⟩
    · go_enter Tryz.func117, Tryz.ntmps117
      go_wp2_with (go_at_call 125; refine cV.mono ?_; rintro e w1 ⟨rfl, hb1⟩)
      go_loopw [3] (fun _ wr => ∃ pos f : Nat, wr = w1.iter s pos ∧ allOk s f pos = nameB s ∧ s.size ≤ pos + f) (fun _ wr => s.size - wr.iterPos w1.heap.size)
      case atStart => exact ⟨0, s.size, rfl, by rw [HN.out]; rfl, by omega⟩
      case round =>
        obtain ⟨pos, f, rfl, ha, hf⟩ := hrel
        have HA := Lib.hid ha
        clear ha
        by_cases hp : pos < s.size
        · have hnx : ∀ ty, (Instr.next (.pointer (some ⟨w1.heap.size, 0, none⟩)) true ty).run Tryz.prog (w1.iter s pos) = _ := fun ty => run_next_any w1 s pos ty hp
          have hw := Lib.width_pos s pos
          have hwl := width_le s pos hp
          obtain ⟨g, rfl⟩ : ∃ g, f = g + 1 := ⟨f - 1, by omega⟩
          have HST := Lib.hid (allOk_step s g pos hp)
          obtain ⟨r, hr⟩ : ∃ r : Nat, (Utf8.decode s pos).1 = r := ⟨_, rfl⟩
          obtain ⟨n, hn⟩ : ∃ n : Nat, (Utf8.decode s pos).2 = n := ⟨_, rfl⟩
          simp only [hr, hn] at HST hnx hw hwl
          clear hr hn
          obtain ⟨p, hpb⟩ : ∃ p, partB (r : Int) = p := ⟨_, rfl⟩
          obtain ⟨st, hst⟩ : ∃ st, startB (r : Int) = st := ⟨_, rfl⟩
          have cP : ∀ w, Calls Tryz.prog 102 #[.int .i32 r] w _ := fun w => part_any r w
          have cS : ∀ w, Calls Tryz.prog 114 #[.int .i32 r] w _ := fun w => start_any r w
          rw [hpb] at cP
          rw [hst] at cS
          have ok1 : Hid (okB 0 pos (r : Int) = (p && (pos != 0 || st))) := by unfold okB; rw [hpb, hst]; exact rfl
          clear hpb hst
          by_cases hb : pos = 0
          · subst hb
            cases st
            · have HV : Hid (nameB s = false) := by rw [← HA.out, HST.out, ok1.out]; cases p <;> exact rfl
              clear HST ok1 HA
              go_wp2_with (first | (go_at_call 102; refine (cP _).mono ?_; rintro e w' ⟨rfl, rfl⟩) | (go_at_call 114; refine (cS _).mono ?_; rintro e w' ⟨rfl, rfl⟩))
              go_ret
              exact ⟨by rw [HV.out]; rfl, hb1.alloc hb1.size _⟩
            · cases p
              · have HV : Hid (nameB s = false) := by rw [← HA.out, HST.out, ok1.out]; exact rfl
                clear HST ok1 HA
                go_wp2_with (first | (go_at_call 102; refine (cP _).mono ?_; rintro e w' ⟨rfl, rfl⟩) | (go_at_call 114; refine (cS _).mono ?_; rintro e w' ⟨rfl, rfl⟩))
                go_ret
                exact ⟨by rw [HV.out]; rfl, hb1.alloc hb1.size _⟩
              · have HA' : Hid (allOk s g (0 + n) = nameB s) := by rw [← HA.out, HST.out, ok1.out]; exact rfl
                clear HST ok1 HA
                go_wp2_with (first | (go_at_call 102; refine (cP _).mono ?_; rintro e w' ⟨rfl, rfl⟩) | (go_at_call 114; refine (cS _).mono ?_; rintro e w' ⟨rfl, rfl⟩))
                go_roundw
                case rel => exact ⟨0 + n, g, by simp, HA'.out, by omega⟩
                case measure => simp; omega
          · have hb3 : ((pos : Int) == 0) = false := beq_eq_false_iff_ne.2 (by omega)
            have hb2 : (pos == 0) = false := beq_eq_false_iff_ne.2 hb
            have hb4 : (pos != 0) = true := by rw [bne_iff_ne]; exact hb
            rw [hb4, Bool.true_or, Bool.and_true] at ok1
            clear hb hb4
            cases p
            · have HV : Hid (nameB s = false) := by rw [← HA.out, HST.out, ok1.out]; exact rfl
              clear HST ok1 HA
              go_wp2_with (first | (go_at_call 102; refine (cP _).mono ?_; rintro e w' ⟨rfl, rfl⟩) | (go_at_call 114; refine (cS _).mono ?_; rintro e w' ⟨rfl, rfl⟩))
              go_ret
              exact ⟨by rw [HV.out]; rfl, hb1.alloc hb1.size _⟩
            · have HA' : Hid (allOk s g (pos + n) = nameB s) := by rw [← HA.out, HST.out, ok1.out]; exact rfl
              clear HST ok1 HA
              go_wp2_with (first | (go_at_call 102; refine (cP _).mono ?_; rintro e w' ⟨rfl, rfl⟩) | (go_at_call 114; refine (cS _).mono ?_; rintro e w' ⟨rfl, rfl⟩))
              go_roundw
              case rel => exact ⟨pos + n, g, rfl, HA'.out, by omega⟩
              case measure => simp; omega
        · have hnx : ∀ ty, (Instr.next (.pointer (some ⟨w1.heap.size, 0, none⟩)) true ty).run Tryz.prog (w1.iter s pos) = _ := fun ty => run_next_end w1 s pos ty hp
          have HV : Hid (nameB s = true) := by rw [← HA.out]; exact allOk_end s f pos hp
          clear HA
          go_wp2
          go_ret
          exact ⟨by rw [HV.out]; rfl, hb1.alloc hb1.size _⟩
end Go.Proofs.YtjijjmkeehdooaaGreatDoor
