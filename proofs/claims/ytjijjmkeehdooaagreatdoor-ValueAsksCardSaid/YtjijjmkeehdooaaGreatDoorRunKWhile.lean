/-
  THE LANDED PACKAGE token: the contract of while (with whatever function is handed in), of space, of name.
-/
import Derived.Test.YtjijjmkeehdooaaGreatDoorRunKBase
import Derived.Test.YtjijjmkeehdooaaGreatDoorRunSpc
namespace Go.Proofs.YtjijjmkeehdooaaGreatDoor
open Go.RowKit

/-- WHAT IS ASKED OF THE FUNCTION THAT while IS HANDED: it tells p of a character, and leaves the world alone. -/
def PredK (g : Nat) (lb : Array Value) (p : Int → Bool) (w : World) : Prop :=
  ∀ (W : World) (r : Nat), Below w.heap.size w W → Calls Tryz.prog g (#[.int .i32 (r : Int)] ++ lb) W fun e W' => e = .returned (.bool (p (r : Int))) ∧ W = W'
section
variable {n b : Nat} {w0 w w' : World} {l l' : List UInt8}
theorem iter_below (w : World) (s : ByteArray) (pos : Nat) : Below w.heap.size w (w.iter s pos) := (Below.refl _ _).alloc (Nat.le_refl _) _
set_option maxHeartbeats 4000000 in
set_option maxRecDepth 100000 in
theorem while_any (p : Int → Bool) (g : Nat) (lb : Array Value) (eg : ∀ args w, (callFunc g args).run Tryz.prog w = .ok (.enter g args) w) (h : RAt n b w0 w l) (hp : PredK g lb p w) :
    Calls Tryz.prog 101 #[.pointer (some ⟨b, 0, none⟩), .func (.func g) #[] lb] w fun e w' => e = .returned (.string (bytes (l.take (whN p l)))) ∧ RAt n b w0 w' (l.drop (whN p l)) := by
  have hc := h.cell
  have hcW : ∀ pos, (w.iter (bytes l) pos).cell? ⟨b, 0, none⟩ = some (.string (bytes l)) := fun pos => ((iter_below w (bytes l) pos).cell (p := ⟨b, 0, none⟩) h.rd.lt).trans hc
  have hfW : ∀ pos, (w.iter (bytes l) pos).frozen? ⟨b, 0, none⟩ = false := fun pos => (h.other (iter_below w (bytes l) pos)).fro
  have H := Lib.hid (fun pos k => (h.other (iter_below w (bytes l) pos)).put (l' := l.drop k) (by rw [List.length_drop]; omega))
  have HP := Lib.hid (fun pos r => hp (w.iter (bytes l) pos) r (iter_below w (bytes l) pos))
  have hsz : (bytes l).size = l.length := bytes_len l
  have hsm : l.length ≤ 100000 := h.small
  clear h hp
  go_enter Tryz.func101, Tryz.ntmps101
  go_wp2
  go_loopw [5] (fun tv wr => ∃ pos f : Nat, tv = .string (bytes l) ∧ wr = w.iter (bytes l) pos ∧ pos ≤ l.length ∧ pos + whL p f (l.drop pos) = whN p l ∧ l.length ≤ pos + f) (fun _ wr => l.length - wr.iterPos w.heap.size)
  case atStart => exact ⟨0, l.length, rfl, rfl, Nat.zero_le _, by rw [Nat.zero_add, List.drop_zero]; rfl, by omega⟩
  case round =>
    obtain ⟨pos, f, rfl, rfl, hpl, ha, hf⟩ := hrel
    have HA := Lib.hid ha
    have hcell := hcW pos
    clear ha
    by_cases hlt : pos < l.length
    · have hnx : ∀ ty, (Instr.next (.pointer (some ⟨w.heap.size, 0, none⟩)) true ty).run Tryz.prog (w.iter (bytes l) pos) = _ := fun ty => run_next_any w (bytes l) pos ty (by rw [hsz]; exact hlt)
      have hw := Lib.width_pos (bytes l) pos
      have hwl := width_le (bytes l) pos (by rw [hsz]; exact hlt)
      rw [hsz] at hwl
      obtain ⟨f, rfl⟩ : ∃ g, f = g + 1 := ⟨f - 1, by omega⟩
      have hne : l.drop pos ≠ [] := by
        intro e
        have := congrArg List.length e
        rw [List.length_drop, List.length_nil] at this
        omega
      have hst : whL p (f + 1) (l.drop pos) = if p ((Utf8.decode (bytes l) pos).1 : Int) = true then (Utf8.decode (bytes l) pos).2 + whL p f (l.drop (pos + (Utf8.decode (bytes l) pos).2)) else 0 := by
        show (if l.drop pos = [] then 0 else _) = _
        rw [if_neg hne, show Lib.decodeL (l.drop pos) = Utf8.decode (bytes l) pos from Lib.decodeL_drop (bytes l) pos, List.drop_drop]
      have HST := Lib.hid hst
      obtain ⟨r, hr⟩ : ∃ r : Nat, (Utf8.decode (bytes l) pos).1 = r := ⟨_, rfl⟩
      obtain ⟨k, hk⟩ : ∃ k : Nat, (Utf8.decode (bytes l) pos).2 = k := ⟨_, rfl⟩
      simp only [hr, hk] at HST hnx hw hwl
      clear hr hk hst hne
      have hcall := fun q => HP.out q r
      cases hpr : p (r : Int) with
      | true =>
        have HA' : Hid (pos + k + whL p f (l.drop (pos + k)) = whN p l) := Lib.hid (by rw [← HA.out, HST.out, if_pos hpr]; omega)
        rw [hpr] at hcall
        clear HST HA hpr
        go_wp2_with (go_at_fn g; refine (hcall _).mono ?_; rintro e w' ⟨rfl, rfl⟩)
        go_roundw
        case rel => exact ⟨pos + k, f, rfl, rfl, hwl, HA'.out, by omega⟩
        case measure => simp; omega
      | false =>
        have HN : Hid (whN p l = pos) := Lib.hid (by rw [← HA.out, HST.out, if_neg (by rw [hpr]; decide)]; rfl)
        rw [hpr] at hcall
        have hfro := hfW (pos + k)
        have hcell2 := hcW (pos + k)
        have HH := Lib.hid (H.out (pos + k) pos)
        have q1 : (0 : Int) ≤ (pos : Int) := by omega
        have q2 : (pos : Int) ≤ ((bytes l).size : Int) := by omega
        have q3 : (bytes (l.take pos)).size = pos := by rw [bytes_len, List.length_take]; omega
        have q4 := bytes_take l pos
        have q5 : (bytes l).extract pos l.length = bytes (l.drop pos) := by rw [← hsz]; exact bytes_drop l pos
        clear HST HA hpr H HP hcW hfW
        go_wp2_with (go_at_fn g; refine (hcall _).mono ?_; rintro e w' ⟨rfl, rfl⟩)
        go_ret
        rw [HN.out]
        exact ⟨rfl, HH.out⟩
    · have hnx : ∀ ty, (Instr.next (.pointer (some ⟨w.heap.size, 0, none⟩)) true ty).run Tryz.prog (w.iter (bytes l) pos) = _ := fun ty => run_next_end w (bytes l) pos ty (by rw [hsz]; exact hlt)
      obtain rfl : pos = l.length := by omega
      have HN : Hid (whN p l = l.length) := Lib.hid (by rw [← HA.out, List.drop_length, whL_nil]; rfl)
      have hfro := hfW l.length
      have HH := Lib.hid (H.out l.length l.length)
      have q5 : (bytes l).extract l.length l.length = bytes (l.drop l.length) := by rw [← bytes_drop l l.length, hsz]
      clear HA H HP hcW hfW
      go_wp2
      go_ret
      rw [HN.out, List.take_length]
      have hh := HH.out
      rw [show bytes (l.drop l.length) = ByteArray.empty by rw [List.drop_length]; rfl] at hh
      exact ⟨rfl, hh⟩
theorem part_k (w : World) : PredK 102 #[] partB w := fun W r _ => part_any (r : Int) W
theorem space_k (w : World) : PredK 54 #[] spaceB w := fun W r _ => space_any (r : Int) W
set_option maxHeartbeats 400000 in
theorem textP_k (w : World) : PredK 109 #[] textP w := fun W r _ => by
  show Calls Tryz.prog 109 #[.int .i32 (r : Int)] W _
  go_enter Tryz.func109, Tryz.ntmps109
  go_wp2
  all_goals go_ret
  all_goals exact ⟨by simp_all [textP], rfl⟩
theorem enter_part : ∀ args w, (callFunc 102 args).run Tryz.prog w = .ok (.enter 102 args) w := enters_of Tryz.func102 (by kernel_rfl) rfl
theorem enter_space : ∀ args w, (callFunc 54 args).run Tryz.prog w = .ok (.enter 54 args) w := enters_of Tryz.func54 (by kernel_rfl) rfl
theorem enter_textP : ∀ args w, (callFunc 109 args).run Tryz.prog w = .ok (.enter 109 args) w := enters_of Tryz.func109 (by kernel_rfl) rfl
/-- the spaces ahead are taken: are there any? -/
theorem space_take (h : RAt n b w0 w l) :
    Calls Tryz.prog 104 #[.pointer (some ⟨b, 0, none⟩)] w fun e w' => e = .returned (.bool (decide (gapL l ≠ 0))) ∧ RAt n b w0 w' (l.drop (gapL l)) := by
  have c := while_any spaceB _ #[] enter_space h (space_k w)
  rw [wh_space] at c
  have hg : gapL l ≤ l.length := gap_le l
  obtain ⟨k, hk⟩ : ∃ k, gapL l = k := ⟨_, rfl⟩
  rw [hk] at c hg ⊢
  have hb : (bytes (l.take k)).toList.isEmpty = decide (k = 0) := by
    rw [Lib.toList_data, bytes_list]
    by_cases h0 : k = 0
    · subst h0; rfl
    · rw [decide_eq_false h0, List.isEmpty_eq_false_iff]
      intro e
      have := congrArg List.length e
      rw [List.length_take, List.length_nil] at this
      omega
  clear hk h
  obtain ⟨z, hz⟩ : ∃ z, decide (k = 0) = z := ⟨_, rfl⟩
  have HZ : Hid (decide (k ≠ 0) = !z) := Lib.hid (by rw [← hz]; simp)
  rw [hz] at hb
  clear hz
  go_enter Tryz.func104, Tryz.ntmps104
  go_wp2_with (go_at_call 101; refine c.mono ?_; rintro e w' ⟨rfl, h⟩)
  go_ret
  exact ⟨by rw [HZ.out]; rfl, h⟩
set_option maxHeartbeats 1000000 in
theorem name_take (h : RAt n b w0 w l) :
    Calls Tryz.prog 105 #[.pointer (some ⟨b, 0, none⟩)] w fun e w' => e = .returned (.tuple #[.string (bytes (nameT l)), .bool (isName (nameT l))]) ∧ RAt n b w0 w' (l.drop (whN partB l)) := by
  have c := while_any partB _ #[] enter_part h (part_k w)
  have hnm : ∀ W, RAt n b w0 W (l.drop (whN partB l)) → Calls Tryz.prog 117 #[.string (bytes (nameT l))] W fun e w' => e = .returned (.bool (isName (nameT l))) ∧ RAt n b w0 w' (l.drop (whN partB l)) := fun W hW => by
    have c := name_any (bytes (nameT l)) W (by rw [bytes_len, nameT_length]; have := wh_le partB l; have := h.small; omega) hW.e.tabs
    rw [nameB_list] at c
    exact c.mono fun e w' hg => ⟨hg.1, hW.other hg.2⟩
  rw [show l.take (whN partB l) = nameT l from rfl] at c
  clear h
  obtain ⟨is, his⟩ : ∃ is, isName (nameT l) = is := ⟨_, rfl⟩
  rw [his] at hnm ⊢
  clear his
  go_enter Tryz.func105, Tryz.ntmps105
  go_wp2_with (first | (go_at_call 101; refine c.mono ?_; rintro e w' ⟨rfl, h⟩) | (go_at_call 117; refine (hnm _ h).mono ?_; rintro e w' ⟨rfl, h⟩))
  go_ret2
  exact ⟨rfl, h⟩
end
end Go.Proofs.YtjijjmkeehdooaaGreatDoor
