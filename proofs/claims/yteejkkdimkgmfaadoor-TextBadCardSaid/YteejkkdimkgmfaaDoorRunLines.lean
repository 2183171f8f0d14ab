/-
  THE CONTRACT OF text.Lines (as landed): it returns linesT of TextMore; of what was there before the call nothing turns.
-/
import Derived.Test.YteejkkdimkgmfaaDoorChecked
import Derived.Test.YteejkkdimkgmfaaDoorRunTextLaws
import Derived.WalkKit
import Derived.WalkSpells
import Derived.WalkLawsBesides
import Derived.LoopTactic
import Derived.Lib.Hide
import Derived.Laws.RangeAny
namespace Go.Proofs.YteejkkdimkgmfaaDoor
open Go.RowKit

set_option maxHeartbeats 2000000 in
set_option maxRecDepth 100000 in
theorem lines_any (s : ByteArray) (w : World) (hs : s.size ≤ 4294967296) :
    Calls Tryd.prog 16 #[.string s] w fun e w' => e = .returned (.int .i64 (linesT s)) ∧ Below w.heap.size w w' := by
  go_enter Tryd.func16, Tryd.ntmps16
  go_wp2
  go_loopw [3] (fun n wr => ∃ pos : Nat, wr = w.iter s pos ∧ n = .int .i64 (linesN s pos) ∧ pos ≤ s.size) (fun _ wr => s.size - wr.iterPos w.heap.size)
  case atStart => exact ⟨0, rfl, rfl, Nat.zero_le _⟩
  case round =>
    obtain ⟨pos, rfl, rfl, hle⟩ := hrel
    by_cases hp : pos < s.size
    · have hnx : ∀ ty, (Instr.next (.pointer (some ⟨w.heap.size, 0, none⟩)) true ty).run Tryd.prog (w.iter s pos) = _ := fun ty => run_next_any w s pos ty hp
      have hw := Lib.width_pos s pos
      have hwl := width_le s pos hp
      have HL := Lib.hid (linesN_char s pos hp)
      have hnl := linesN_le s pos
      obtain ⟨r, hr⟩ : ∃ r : Nat, (Utf8.decode s pos).1 = r := ⟨_, rfl⟩
      obtain ⟨n, hn⟩ : ∃ n : Nat, (Utf8.decode s pos).2 = n := ⟨_, rfl⟩
      simp only [hr, hn] at HL hnx hw hwl
      clear hr hn
      generalize linesN s pos = k at *
      by_cases h10 : r = 10
      · subst h10
        have HL' : Hid (linesN s (pos + n) = k + 1) := by rw [HL.out, if_pos rfl]; exact rfl
        clear HL
        go_wp2
        go_roundw
        case rel => exact ⟨pos + n, rfl, by rw [HL'.out]; go_num, hwl⟩
        case measure => simp; omega
      · have HL' : Hid (linesN s (pos + n) = k) := by rw [HL.out, if_neg h10]; exact rfl
        have a1 : ((r : Int) == 10) = false := beq_eq_false_iff_ne.2 (by omega)
        have a2 : (r == 10) = false := beq_eq_false_iff_ne.2 h10
        clear HL h10
        go_wp2
        go_roundw
        case rel => exact ⟨pos + n, rfl, by rw [HL'.out], hwl⟩
        case measure => simp; omega
    · have hnx : ∀ ty, (Instr.next (.pointer (some ⟨w.heap.size, 0, none⟩)) true ty).run Tryd.prog (w.iter s pos) = _ := fun ty => run_next_end w s pos ty hp
      obtain rfl : pos = s.size := by omega
      have HA := Lib.hid (linesN_all s)
      generalize linesN s s.size = k at *
      go_wp2
      go_ret
      exact ⟨by rw [HA.out]; rfl, (Below.refl _ _).alloc (Nat.le_refl _) _⟩
end Go.Proofs.YteejkkdimkgmfaaDoor
