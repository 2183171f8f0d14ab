/-
  THE LANDED PACKAGE token: the contract of value (an attribute's value with its quotes). Written by gen_value.py.
-/
import Derived.Test.YtmecigainilocaaGreatDoorRunKPiece
import Derived.Lib.OthersKept
namespace Go.Proofs.YtmecigainilocaaGreatDoor
open Go.RowKit

def quotes : ByteArray := ⟨#[34, 39]⟩
theorem enc34 : Utf8.encode 34 = bytes [34] := by decide
theorem enc39 : Utf8.encode 39 = bytes [39] := by decide
section
variable {n b : Nat} {w0 w w' : World} {l l' : List UInt8}
theorem RAt.iterAt (h : RAt n b w0 w l) {k : Nat} (hk : w0.heap.size ≤ k) (s : ByteArray) (p : Nat) : RAt n b w0 (World.iterAt w k s p) l := by
  have hb := h.b0
  have hn := h.nb
  have h2 : Below k w (World.iterAt w k s p) := Lib.below_iterAt (Below.refl k w) (Nat.le_refl _) s p
  exact ⟨h.e.stay (h2.mono (by omega)), hn, h.rd.of_block (h2.block _ (by omega)), hb, ⟨h.since.os, h.since.tape, h.since.output, by rw [Lib.iterAt_size]; exact h.since.size, fun i hi hf => (h2.block i (by omega)).trans (h.since.block i hi hf)⟩, h.small⟩
theorem box1_row (w : World) (v : Value) (t : TypeId) : (w.alloc (.cells #[v] t)).rowIs w.heap.size t 1 (fun _ => v) := World.rowIs_alloc w #[v] t (fun _ => v) (by
  intro i hi
  obtain rfl : i = 0 := by have : i < 1 := hi; omega
  rfl)
/-- what value gives -/
def ValK (n b : Nat) (w0 : World) (d : Option (List UInt8 × List UInt8)) (e : Ending) (w' : World) : Prop :=
  ∃ (x : ByteArray) (ok : Bool) (r : List UInt8), e = .returned (.tuple #[.string x, .bool ok]) ∧ RAt n b w0 w' r ∧ (d = none → ok = false) ∧ ∀ v r', d = some (v, r') → ok = true ∧ x = bytes v ∧ r' = r
theorem valK_no {d : Option (List UInt8 × List UInt8)} (x : ByteArray) (hd : d = none) (h : RAt n b w0 w' l) : ValK n b w0 d (.returned (.tuple #[.string x, .bool false])) w' :=
  ⟨x, false, l, rfl, h, fun _ => rfl, fun v r' e => by rw [hd] at e; cases e⟩
theorem valK_yes {d : Option (List UInt8 × List UInt8)} (v : List UInt8) (hd : d = some (v, l)) (h : RAt n b w0 w' l) : ValK n b w0 d (.returned (.tuple #[.string (bytes v), .bool true])) w' :=
  ⟨bytes v, true, l, rfl, h, fun e => (by rw [hd] at e; cases e), fun v' r' e => by
    rw [hd] at e
    injection e with e
    injection e with e1 e2
    subst e1; subst e2
    exact ⟨rfl, rfl, rfl⟩⟩
theorem enter_val : ∀ args w, (callFunc 104 args).run Tryz.prog w = .ok (.enter 104 args) w := enters_of Tryz.func104 (by kernel_rfl) rfl
set_option maxHeartbeats 1000000 in
theorem valP_k (q x : Nat) (hq : w.cell? ⟨x, 0, none⟩ = some (.int .i32 (q : Int))) : PredK 104 #[.pointer (some ⟨x, 0, none⟩)] (valP q) w := fun W r hb => by
  show Calls Tryz.prog 104 #[.int .i32 (r : Int), .pointer (some ⟨x, 0, none⟩)] W _
  have hlt : x < w.heap.size := by
    rcases Nat.lt_or_ge x w.heap.size with h | h
    · exact h
    · simp [World.cell?, Array.getElem?_eq_none h] at hq
  have hc : W.cell? ⟨x, 0, none⟩ = some (.int .i32 (q : Int)) := (hb.cell (p := ⟨x, 0, none⟩) hlt).trans hq
  clear hq hb hlt
  go_enter Tryz.func104, Tryz.ntmps104
  go_wp2
  all_goals go_ret
  all_goals exact ⟨by simp_all [valP], rfl⟩
set_option maxHeartbeats 8000000 in
set_option maxRecDepth 100000 in
theorem value_k (h : RAt n b w0 w l) : Calls Tryz.prog 94 #[.pointer (some ⟨b, 0, none⟩)] w (ValK n b w0 (quoteP l)) := by
  have HK := Lib.hid (fun w' l' (h' : RAt n b w w' l') => h.from h')
  have hbw : b < w.heap.size := h.rd.lt
  have hs := h.start.other (iter_below w quotes 0)
  have hk0 : (w.iter quotes 0).heap[w.heap.size]? = some (.stringIter quotes 0) := World.iter_heap w quotes 0
  have HS := Lib.hid hs
  have HK0 := Lib.hid hk0
  clear h hs hk0
  go_enter Tryz.func94, Tryz.ntmps94
  go_wp2
  go_loopw [] (fun wr => ∃ pos : Nat, Hid (RAt n b w wr l) ∧ Hid (wr.heap[w.heap.size]? = some (.stringIter quotes pos)) ∧ (pos = 0 ∨ pos = 1 ∧ swB [34] l = false ∨ pos = 2 ∧ swB [34] l = false ∧ swB [39] l = false)) (fun wr => 2 - wr.iterPos w.heap.size)
  case atStart => exact ⟨0, HS, HK0, Or.inl rfl⟩
  case round =>
    obtain ⟨pos, HR, HI, hpos⟩ := hrel
    have hip : wr.iterPos w.heap.size = pos := by unfold World.iterPos; rw [HI.out]
    rcases hpos with rfl | ⟨rfl, h34⟩ | ⟨rfl, h34, h39⟩
    · have hnx : ∀ ty, (Instr.next (.pointer (some ⟨w.heap.size, 0, none⟩)) true ty).run Tryz.prog wr = .ok (.tuple #[.bool true, .int .i64 0, .int .i32 34]) (World.iterAt wr w.heap.size quotes 1) := fun ty => Lib.run_next_ascii_at wr w.heap.size quotes 0 ty HI.out (by decide) (by decide)
      have H1 := Lib.hid (HR.out.iterAt (Nat.le_refl _) quotes 1)
      have HI1 : Hid ((World.iterAt wr w.heap.size quotes 1).heap[w.heap.size]? = some (.stringIter quotes 1)) := Lib.hid (Lib.iterAt_heap wr w.heap.size quotes 0 1 HI.out)
      clear HR HI
      generalize World.iterAt wr w.heap.size quotes 1 = W1 at *
      have HX := Lib.hid (box1_row W1 (.int .i32 34) 21)
      have H2 := Lib.hid (H1.out.alloc (.cells #[.int .i32 34] 21))
      have HI2 : Hid ((W1.alloc (.cells #[.int .i32 34] 21)).heap[w.heap.size]? = some (.stringIter quotes 1)) := Lib.hid ((((Below.refl W1.heap.size W1).alloc (Nat.le_refl _) (.cells #[.int .i32 34] 21)).block _ (by have := (Array.getElem?_eq_some_iff.1 HI1.out).1; exact this)).trans HI1.out)
      have hq : (W1.alloc (.cells #[.int .i32 34] 21)).cell? ⟨W1.heap.size, 0, none⟩ = some (.int .i32 34) := HX.out.cell (i := 0) (by show 0 < 1; decide)
      have HST := Lib.hid H2.out.start
      have hb2 : b ≠ W1.heap.size := by have := H1.out.rd.lt; omega
      cases hs : swB [34] l with
      | false =>
        have CT := take_no [34] HST.out hs
        rw [← enc34] at CT
        have CTH := Lib.hid CT
        clear CT
        go_wp2_with fail
        refine CTH.out.mono ?_
        rintro e w3 ⟨rfl, h3⟩
        have HN := Lib.hid (H2.out.from h3)
        have HIN : Hid (w3.heap[w.heap.size]? = some (.stringIter quotes 1)) := Lib.hid ((h3.since.block _ (by exact (Array.getElem?_eq_some_iff.1 HI2.out).1) (by omega)).trans HI2.out)
        have hip2 : w3.iterPos w.heap.size = 1 := by unfold World.iterPos; rw [HIN.out]
        clear h3 CTH
        go_wp2
        go_roundw
        case rel => exact ⟨1, HN, HIN, Or.inr (Or.inl ⟨rfl, trivial⟩)⟩
        case measure => simp [hip, hip2]
      | true =>
        obtain ⟨t, rfl⟩ : ∃ t, l = 34 :: t := by
          obtain ⟨t, ht⟩ := (sw_iff _ _).1 hs
          exact ⟨t, ht⟩
        have CT := take_yes [34] HST.out hs
        rw [← enc34] at CT
        have CTH : Hid (Calls Tryz.prog 52 #[.pointer (some ⟨b, 0, none⟩), .string (Utf8.encode 34)] (W1.alloc (.cells #[.int .i32 34] 21)) fun e w' => e = .returned (.bool true) ∧ RAt n b (W1.alloc (.cells #[.int .i32 34] 21)) w' t) := Lib.hid CT
        clear CT
        go_wp2_with fail
        refine CTH.out.mono ?_
        rintro e w3 ⟨rfl, h3⟩
        have hq3 : w3.cell? ⟨W1.heap.size, 0, none⟩ = some (.int .i32 34) := (HX.out.of_block (h3.since.block _ HX.out.lt (by omega))).cell (i := 0) (by show 0 < 1; decide)
        have CW := while_any (valP 34) _ #[.pointer (some ⟨W1.heap.size, 0, none⟩)] enter_val h3 (valP_k 34 W1.heap.size hq3)
        rw [show whN (valP 34) t = leadN (valU 34) t from wh_val 34 (by decide) t] at CW
        have CWH := Lib.hid CW
        have HQP : Hid (quoteP (34 :: t) = if swB [34] (t.drop (leadN (valU 34) t)) = true then some (t.take (leadN (valU 34) t), (t.drop (leadN (valU 34) t)).drop 1) else none) := Lib.hid (by
          unfold quoteP
          simp only
          rw [if_pos (by decide)])
        generalize leadN (valU 34) t = m at *
        clear h3 CW CTH
        go_wp2_with fail
        refine CWH.out.mono ?_
        rintro e w4 ⟨rfl, h4⟩
        have hq4 : w4.cell? ⟨W1.heap.size, 0, none⟩ = some (.int .i32 34) := (HX.out.of_block (h4.since.block _ HX.out.lt (by omega))).cell (i := 0) (by show 0 < 1; decide)
        have HF := Lib.hid (fun w' l' (h' : RAt n b (W1.alloc (.cells #[.int .i32 34] 21)) w' l') => HK.out _ _ (H2.out.from h'))
        cases hs2 : swB [34] (t.drop m) with
        | false =>
          have CT := take_no [34] h4 hs2
          rw [← enc34] at CT
          have HD : Hid (quoteP (34 :: t) = none) := Lib.hid (by rw [HQP.out, if_neg (by rw [hs2]; decide)])
          have CTH := Lib.hid CT
          clear CT h4
          go_wp2_with fail
          refine CTH.out.mono ?_
          rintro e w5 ⟨rfl, h5⟩
          go_wp2
          go_ret2
          exact valK_no _ HD.out (HF.out _ _ h5)
        | true =>
          have CT := take_yes [34] h4 hs2
          rw [← enc34] at CT
          have HD : Hid (quoteP (34 :: t) = some (t.take m, (t.drop m).drop 1)) := Lib.hid (by rw [HQP.out, if_pos hs2])
          have CTH := Lib.hid CT
          clear CT h4
          go_wp2_with fail
          refine CTH.out.mono ?_
          rintro e w5 ⟨rfl, h5⟩
          go_wp2
          go_ret2
          exact valK_yes _ HD.out (HF.out _ _ h5)
    · have hnx : ∀ ty, (Instr.next (.pointer (some ⟨w.heap.size, 0, none⟩)) true ty).run Tryz.prog wr = .ok (.tuple #[.bool true, .int .i64 1, .int .i32 39]) (World.iterAt wr w.heap.size quotes 2) := fun ty => Lib.run_next_ascii_at wr w.heap.size quotes 1 ty HI.out (by decide) (by decide)
      have H1 := Lib.hid (HR.out.iterAt (Nat.le_refl _) quotes 2)
      have HI1 : Hid ((World.iterAt wr w.heap.size quotes 2).heap[w.heap.size]? = some (.stringIter quotes 2)) := Lib.hid (Lib.iterAt_heap wr w.heap.size quotes 1 2 HI.out)
      clear HR HI
      generalize World.iterAt wr w.heap.size quotes 2 = W1 at *
      have HX := Lib.hid (box1_row W1 (.int .i32 39) 21)
      have H2 := Lib.hid (H1.out.alloc (.cells #[.int .i32 39] 21))
      have HI2 : Hid ((W1.alloc (.cells #[.int .i32 39] 21)).heap[w.heap.size]? = some (.stringIter quotes 2)) := Lib.hid ((((Below.refl W1.heap.size W1).alloc (Nat.le_refl _) (.cells #[.int .i32 39] 21)).block _ (by have := (Array.getElem?_eq_some_iff.1 HI1.out).1; exact this)).trans HI1.out)
      have hq : (W1.alloc (.cells #[.int .i32 39] 21)).cell? ⟨W1.heap.size, 0, none⟩ = some (.int .i32 39) := HX.out.cell (i := 0) (by show 0 < 1; decide)
      have HST := Lib.hid H2.out.start
      have hb2 : b ≠ W1.heap.size := by have := H1.out.rd.lt; omega
      cases hs : swB [39] l with
      | false =>
        have CT := take_no [39] HST.out hs
        rw [← enc39] at CT
        have CTH := Lib.hid CT
        clear CT
        go_wp2_with fail
        refine CTH.out.mono ?_
        rintro e w3 ⟨rfl, h3⟩
        have HN := Lib.hid (H2.out.from h3)
        have HIN : Hid (w3.heap[w.heap.size]? = some (.stringIter quotes 2)) := Lib.hid ((h3.since.block _ (by exact (Array.getElem?_eq_some_iff.1 HI2.out).1) (by omega)).trans HI2.out)
        have hip2 : w3.iterPos w.heap.size = 2 := by unfold World.iterPos; rw [HIN.out]
        clear h3 CTH
        go_wp2
        go_roundw
        case rel => exact ⟨2, HN, HIN, Or.inr (Or.inr ⟨rfl, by first | exact h34 | trivial, trivial⟩)⟩
        case measure => simp [hip, hip2]
      | true =>
        obtain ⟨t, rfl⟩ : ∃ t, l = 39 :: t := by
          obtain ⟨t, ht⟩ := (sw_iff _ _).1 hs
          exact ⟨t, ht⟩
        have CT := take_yes [39] HST.out hs
        rw [← enc39] at CT
        have CTH : Hid (Calls Tryz.prog 52 #[.pointer (some ⟨b, 0, none⟩), .string (Utf8.encode 39)] (W1.alloc (.cells #[.int .i32 39] 21)) fun e w' => e = .returned (.bool true) ∧ RAt n b (W1.alloc (.cells #[.int .i32 39] 21)) w' t) := Lib.hid CT
        clear CT
        go_wp2_with fail
        refine CTH.out.mono ?_
        rintro e w3 ⟨rfl, h3⟩
        have hq3 : w3.cell? ⟨W1.heap.size, 0, none⟩ = some (.int .i32 39) := (HX.out.of_block (h3.since.block _ HX.out.lt (by omega))).cell (i := 0) (by show 0 < 1; decide)
        have CW := while_any (valP 39) _ #[.pointer (some ⟨W1.heap.size, 0, none⟩)] enter_val h3 (valP_k 39 W1.heap.size hq3)
        rw [show whN (valP 39) t = leadN (valU 39) t from wh_val 39 (by decide) t] at CW
        have CWH := Lib.hid CW
        have HQP : Hid (quoteP (39 :: t) = if swB [39] (t.drop (leadN (valU 39) t)) = true then some (t.take (leadN (valU 39) t), (t.drop (leadN (valU 39) t)).drop 1) else none) := Lib.hid (by
          unfold quoteP
          simp only
          rw [if_pos (by decide)])
        generalize leadN (valU 39) t = m at *
        clear h3 CW CTH
        go_wp2_with fail
        refine CWH.out.mono ?_
        rintro e w4 ⟨rfl, h4⟩
        have hq4 : w4.cell? ⟨W1.heap.size, 0, none⟩ = some (.int .i32 39) := (HX.out.of_block (h4.since.block _ HX.out.lt (by omega))).cell (i := 0) (by show 0 < 1; decide)
        have HF := Lib.hid (fun w' l' (h' : RAt n b (W1.alloc (.cells #[.int .i32 39] 21)) w' l') => HK.out _ _ (H2.out.from h'))
        cases hs2 : swB [39] (t.drop m) with
        | false =>
          have CT := take_no [39] h4 hs2
          rw [← enc39] at CT
          have HD : Hid (quoteP (39 :: t) = none) := Lib.hid (by rw [HQP.out, if_neg (by rw [hs2]; decide)])
          have CTH := Lib.hid CT
          clear CT h4
          go_wp2_with fail
          refine CTH.out.mono ?_
          rintro e w5 ⟨rfl, h5⟩
          go_wp2
          go_ret2
          exact valK_no _ HD.out (HF.out _ _ h5)
        | true =>
          have CT := take_yes [39] h4 hs2
          rw [← enc39] at CT
          have HD : Hid (quoteP (39 :: t) = some (t.take m, (t.drop m).drop 1)) := Lib.hid (by rw [HQP.out, if_pos hs2])
          have CTH := Lib.hid CT
          clear CT h4
          go_wp2_with fail
          refine CTH.out.mono ?_
          rintro e w5 ⟨rfl, h5⟩
          go_wp2
          go_ret2
          exact valK_yes _ HD.out (HF.out _ _ h5)
    · have hnx : ∀ ty, (Instr.next (.pointer (some ⟨w.heap.size, 0, none⟩)) true ty).run Tryz.prog wr = .ok (.tuple #[.bool false]) wr := fun ty => Lib.run_next_end_at wr w.heap.size quotes 2 ty HI.out (by decide)
      have HD : Hid (quoteP l = none) := Lib.hid (by
        unfold quoteP
        match l, h34, h39 with
        | [], _, _ => rfl
        | q :: t, h34, h39 =>
          simp only
          rw [if_neg]
          rintro (rfl | rfl)
          · rw [show swB [34] (34 :: t) = true from (sw_iff _ _).2 ⟨t, rfl⟩] at h34; cases h34
          · rw [show swB [39] (39 :: t) = true from (sw_iff _ _).2 ⟨t, rfl⟩] at h39; cases h39)
      have HF := Lib.hid (HK.out _ _ HR.out)
      clear h34 h39 hip
      go_wp2
      go_ret2
      exact valK_no _ HD.out HF.out
end
end Go.Proofs.YtmecigainilocaaGreatDoor
