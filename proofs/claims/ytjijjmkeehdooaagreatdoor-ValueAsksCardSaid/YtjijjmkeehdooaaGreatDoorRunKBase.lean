/-
  THE LANDED PACKAGE token: what of package-level variables is read (KE), a reader in its box (RAt), and the contracts of take and upTo.
-/
import Derived.Test.YtjijjmkeehdooaaGreatDoorRuneNc
import Derived.Test.YtjijjmkeehdooaaGreatDoorTurns
import Derived.Test.YtjijjmkeehdooaaGreatDoorTokStart
import Derived.Test.YtjijjmkeehdooaaGreatDoorTokAt
import Derived.Test.YtjijjmkeehdooaaGreatDoorShelf
import Derived.BigCall
namespace Go.Proofs.YtjijjmkeehdooaaGreatDoor
open Go.RowKit

/-- WHAT THE CODE READS OF PACKAGE-LEVEL VARIABLES, in blocks below n. -/
structure KE (n : Nat) (w : World) : Prop where
  tabs : Tabs w
  fold : ∀ i : Nat, i ∈ [76, 77, 88, 108, 109, 120] → w.cell? ⟨3, i, none⟩ = some (.int .u16 (if i < 96 then (i : Int) + 32 else (i : Int) - 32))
  mx : ∃ m, w.cell? ⟨2, 0, none⟩ = some (.int .i64 m)
  low : 0 < n ∧ 1 < n ∧ 3 < n ∧ 2 < n
theorem KE.stay {n : Nat} {w w' : World} (h : KE n w) (hb : Below n w w') : KE n w' := by
  obtain ⟨h1, h2, ⟨m, h3⟩, l1, l2, l3, l4⟩ := h
  refine ⟨⟨fun c hc => (hb.cell ?_).trans (h1.1 c hc), fun i hi => ⟨(hb.cell ?_).trans (h1.2 i hi).1, (hb.cell ?_).trans (h1.2 i hi).2⟩⟩, fun i hi => (hb.cell ?_).trans (h2 i hi), ⟨m, (hb.cell ?_).trans h3⟩, l1, l2, l3, l4⟩
  · exact l1
  · exact l2
  · exact l2
  · exact l3
  · exact l4
theorem drewN_below (w : World) (k : Nat) : Below w.heap.size w (w.drewN k) := ⟨rfl, rfl, rfl, Nat.le_refl _, fun _ _ => rfl⟩

/-- A READER in the block b, before which l lies; since w0 nothing has turned but that box. -/
structure RAt (n b : Nat) (w0 w : World) (l : List UInt8) : Prop where
  e : KE n w
  nb : n ≤ b
  rd : w.rowIs b 128 1 (fun _ => .string (bytes l))
  b0 : b < w0.heap.size
  since : Turns (fun k => k = b) w0 w
  small : l.length ≤ 100000
section
variable {n b : Nat} {w0 w w' : World} {l l' : List UInt8}
theorem RAt.cell (h : RAt n b w0 w l) : w.cell? ⟨b, 0, none⟩ = some (.string (bytes l)) := h.rd.cell (i := 0) (by decide)
theorem RAt.fro (h : RAt n b w0 w l) : w.frozen? ⟨b, 0, none⟩ = false := h.rd.frozen 0
theorem RAt.other (h : RAt n b w0 w l) (hb : Below w.heap.size w w') : RAt n b w0 w' l :=
  ⟨h.e.stay (hb.mono (by have := h.nb; have := h.rd.lt; omega)), h.nb, h.rd.of_block (hb.block _ h.rd.lt), h.b0, h.since.other hb, h.small⟩
theorem RAt.alloc (h : RAt n b w0 w l) (o : Obj) : RAt n b w0 (w.alloc o) l := h.other ((Below.refl _ _).alloc (Nat.le_refl _) o)
theorem RAt.drewN (h : RAt n b w0 w l) (k : Nat) : RAt n b w0 (w.drewN k) l := h.other (drewN_below w k)
theorem RAt.put (h : RAt n b w0 w l) (hs : l'.length ≤ l.length) : RAt n b w0 (w.setCell ⟨b, 0, none⟩ (.string (bytes l'))) l' := by
  have h1 := h.since.setCell (p := ⟨b, 0, none⟩) (Or.inl rfl) (.string (bytes l'))
  have h2 : Turns (fun k => k = b) w (w.setCell ⟨b, 0, none⟩ (.string (bytes l'))) := (Turns.refl (fun k => k = b) w).setCell (p := ⟨b, 0, none⟩) (Or.inl rfl) _
  refine ⟨h.e.stay (h2.below (by have := h.nb; have := h.rd.lt; omega) (fun k hk => by subst hk; exact h.nb)), h.nb, (World.rowIs.set h.rd 0 _).congr fun i hi => ?_, h.b0, h1, by have := h.small; omega⟩
  obtain rfl : i = 0 := by omega
  rfl
theorem RAt.start (h : RAt n b w0 w l) : RAt n b w w l := ⟨h.e, h.nb, h.rd, h.rd.lt, Turns.refl _ _, h.small⟩
theorem RAt.from {w1 : World} (h : RAt n b w0 w l) (h' : RAt n b w w1 l') : RAt n b w0 w1 l' := ⟨h'.e, h'.nb, h'.rd, h.b0, h.since.trans h'.since, h'.small⟩
theorem bytes_take (l : List UInt8) (k : Nat) : (bytes l).extract 0 k = bytes (l.take k) := by
  apply ByteArray.ext
  apply Array.ext'
  rw [ByteArray.data_extract, Array.toList_extract, List.extract_eq_take_drop, Nat.sub_zero, List.drop_zero]
  rfl
theorem bytes_drop (l : List UInt8) (k : Nat) : (bytes l).extract k (bytes l).size = bytes (l.drop k) := by
  apply ByteArray.ext
  apply Array.ext'
  rw [ByteArray.data_extract, Array.toList_extract, List.extract_eq_take_drop]
  show ((l.drop k).take (l.toArray.size - k)) = l.drop k
  rw [List.size_toArray, ← List.length_drop, List.take_length]
theorem bytes_len (x : List UInt8) : (bytes x).size = x.length := by show x.toArray.size = _; rw [List.size_toArray]

set_option maxHeartbeats 1000000 in
theorem take_no (m : List UInt8) (h : RAt n b w0 w l) (hm : swB m l = false) :
    Calls Tryz.prog 84 #[.pointer (some ⟨b, 0, none⟩), .string (bytes m)] w fun e w' => e = .returned (.bool false) ∧ RAt n b w0 w' l := by
  have c : Calls Tryz.prog 99 #[.string (bytes l), .string (bytes m)] w fun e w' => e = .returned (.tuple #[.string (bytes l), .bool false]) ∧ w' = w := by
    have c := Tryz.cutPrefix_laid (bytes l) (bytes m) w
    have e1 : Lib.hasPrefix (bytes l).data.toList (bytes m).data.toList = false := hm
    have e2 : Lib.trimPrefix (bytes l).data.toList (bytes m).data.toList = l := by unfold Lib.trimPrefix; rw [e1]; rfl
    rw [e1, e2] at c
    exact c
  have hc := h.cell
  have hf := h.fro
  have H := Lib.hid (h.put (Nat.le_refl _))
  clear h hm
  go_enter Tryz.func84, Tryz.ntmps84
  go_wp2_with (go_at_call 99; refine c.mono ?_; rintro e w' ⟨rfl, rfl⟩)
  go_ret
  exact ⟨rfl, H.out⟩
set_option maxHeartbeats 1000000 in
theorem take_yes (m : List UInt8) (h : RAt n b w0 w l) (hm : swB m l = true) :
    Calls Tryz.prog 84 #[.pointer (some ⟨b, 0, none⟩), .string (bytes m)] w fun e w' => e = .returned (.bool true) ∧ RAt n b w0 w' (l.drop m.length) := by
  have c : Calls Tryz.prog 99 #[.string (bytes l), .string (bytes m)] w fun e w' => e = .returned (.tuple #[.string (bytes (l.drop m.length)), .bool true]) ∧ w' = w := by
    have c := Tryz.cutPrefix_laid (bytes l) (bytes m) w
    have e1 : Lib.hasPrefix (bytes l).data.toList (bytes m).data.toList = true := hm
    have e2 : Lib.trimPrefix (bytes l).data.toList (bytes m).data.toList = l.drop m.length := by unfold Lib.trimPrefix; rw [e1]; rfl
    rw [e1, e2] at c
    exact c
  have hc := h.cell
  have hf := h.fro
  have H := Lib.hid (h.put (l' := l.drop m.length) (by rw [List.length_drop]; omega))
  clear h hm
  go_enter Tryz.func84, Tryz.ntmps84
  go_wp2_with (go_at_call 99; refine c.mono ?_; rintro e w' ⟨rfl, rfl⟩)
  go_ret
  exact ⟨rfl, H.out⟩
theorem take_any (m : List UInt8) (h : RAt n b w0 w l) :
    Calls Tryz.prog 84 #[.pointer (some ⟨b, 0, none⟩), .string (bytes m)] w fun e w' => e = .returned (.bool (swB m l)) ∧ (swB m l = true → RAt n b w0 w' (l.drop m.length)) ∧ (swB m l = false → RAt n b w0 w' l) := by
  cases hm : swB m l with
  | false => exact (take_no m h hm).mono fun e w' hg => ⟨hg.1, fun e => (by cases e), fun _ => hg.2⟩
  | true => exact (take_yes m h hm).mono fun e w' hg => ⟨hg.1, fun _ => hg.2, fun e => (by cases e)⟩
set_option maxHeartbeats 1000000 in
theorem upTo_no (m : List UInt8) (hm0 : m ≠ []) (h : RAt n b w0 w l) (hm : findL m l = none) :
    Calls Tryz.prog 100 #[.pointer (some ⟨b, 0, none⟩), .string (bytes m)] w fun e w' => e = .returned (.tuple #[.string (bytes l), .bool false]) ∧ RAt n b w0 w' [] := by
  obtain ⟨mx, hmx⟩ := h.e.mx
  have c : Calls Tryz.prog 113 #[.string (bytes l), .string (bytes m)] w fun e w' => e = .returned (.tuple #[.string (bytes l), .string (bytes []), .bool false]) ∧ ∃ q, w' = w.drewN q := by
    have c := Tryz.cut_laid (bytes l) (bytes m) mx w (by rw [bytes_len]; have := h.small; omega) hmx
    rw [show Lib.cut (bytes l).data.toList (bytes m).data.toList = (l, [], false) from cut_none hm0 hm] at c
    exact c
  have hc := h.cell
  have hf := h.fro
  have H := Lib.hid (fun q => (h.drewN q).put (l' := []) (Nat.zero_le _))
  clear h hm hmx
  go_enter Tryz.func100, Tryz.ntmps100
  go_wp2_with (go_at_call 113; refine c.mono ?_; rintro e w' ⟨rfl, q, rfl⟩)
  go_ret2
  exact ⟨rfl, H.out q⟩
set_option maxHeartbeats 1000000 in
theorem upTo_yes (m : List UInt8) (hm0 : m ≠ []) (h : RAt n b w0 w l) (k : Nat) (hm : findL m l = some k) :
    Calls Tryz.prog 100 #[.pointer (some ⟨b, 0, none⟩), .string (bytes m)] w fun e w' => e = .returned (.tuple #[.string (bytes (l.take k)), .bool true]) ∧ RAt n b w0 w' (l.drop (k + m.length)) := by
  obtain ⟨mx, hmx⟩ := h.e.mx
  have c : Calls Tryz.prog 113 #[.string (bytes l), .string (bytes m)] w fun e w' => e = .returned (.tuple #[.string (bytes (l.take k)), .string (bytes (l.drop (k + m.length))), .bool true]) ∧ ∃ q, w' = w.drewN q := by
    have c := Tryz.cut_laid (bytes l) (bytes m) mx w (by rw [bytes_len]; have := h.small; omega) hmx
    rw [show Lib.cut (bytes l).data.toList (bytes m).data.toList = (l.take k, l.drop (k + m.length), true) from cut_some hm0 hm] at c
    exact c
  have hc := h.cell
  have hf := h.fro
  have H := Lib.hid (fun q => (h.drewN q).put (l' := l.drop (k + m.length)) (by rw [List.length_drop]; omega))
  clear h hm hmx
  go_enter Tryz.func100, Tryz.ntmps100
  go_wp2_with (go_at_call 113; refine c.mono ?_; rintro e w' ⟨rfl, q, rfl⟩)
  go_ret2
  exact ⟨rfl, H.out q⟩
end
end Go.Proofs.YtjijjmkeehdooaaGreatDoor
