/-
  THE LANDED PACKAGE token: the contract of value (an attribute's value with its quotes). Written by gen_value.py.
  THE LANDED PACKAGE token: the contract of attr (one attribute of a start). Written by gen_attr.py.
-/
import Derived.Test.YtjijjmkeehdooaaGreatDoorRunKPiece
import Derived.Lib.OthersKept
namespace Go.Proofs.YtjijjmkeehdooaaGreatDoor
open Go.RowKit

def quotes : ByteArray := ⟨#[34, 39]⟩
theorem enc34 : Utf8.encode 34 = bytes [34] := by decide
theorem enc39 : Utf8.encode 39 = bytes [39] := by decide
section
variable {n b : Nat} {w0 w w' : World} {l l' : List UInt8}
theorem RAt.iterAt (h : RAt n b w0 w l) {k : Nat} (hk : w0.heap.size ≤ k) (s : ByteArray) (p : Nat) : RAt n b w0 (World.iterAt w k s p) l := by
  have hb := h.b0
  have hn := h.nb
  have h2 : Below k w (World.iterAt w k s p) := Lib.below_iterAt (Below.refl k w) (Nat.le_refl _) s p
  exact ⟨h.e.stay (h2.mono (by omega)), hn, h.rd.of_block (h2.block _ (by omega)), hb, ⟨h.since.os, h.since.tape, h.since.output, by rw [Lib.iterAt_size]; exact h.since.size, fun i hi hf => (h2.block i (by omega)).trans (h.since.block i hi hf)⟩, h.small⟩
theorem box1_row (w : World) (v : Value) (t : TypeId) : (w.alloc (.cells #[v] t)).rowIs w.heap.size t 1 (fun _ => v) := World.rowIs_alloc w #[v] t (fun _ => v) (by
  intro i hi
  obtain rfl : i = 0 := by have : i < 1 := hi; omega
  rfl)
/-- what value gives -/
def ValK (n b : Nat) (w0 : World) (d : Option (List UInt8 × List UInt8)) (e : Ending) (w' : World) : Prop :=
  ∃ (x : ByteArray) (ok : Bool) (r : List UInt8), e = .returned (.tuple #[.string x, .bool ok]) ∧ RAt n b w0 w' r ∧ (d = none → ok = false) ∧ ∀ v r', d = some (v, r') → ok = true ∧ x = bytes v ∧ r' = r
theorem valK_no {d : Option (List UInt8 × List UInt8)} (x : ByteArray) (hd : d = none) (h : RAt n b w0 w' l) : ValK n b w0 d (.returned (.tuple #[.string x, .bool false])) w' :=
  ⟨x, false, l, rfl, h, fun _ => rfl, fun v r' e => by rw [hd] at e; cases e⟩
theorem valK_yes {d : Option (List UInt8 × List UInt8)} (v : List UInt8) (hd : d = some (v, l)) (h : RAt n b w0 w' l) : ValK n b w0 d (.returned (.tuple #[.string (bytes v), .bool true])) w' :=
  ⟨bytes v, true, l, rfl, h, fun e => (by rw [hd] at e; cases e), fun v' r' e => by
    rw [hd] at e
    injection e with e
    injection e with e1 e2
    subst e1; subst e2
    exact ⟨rfl, rfl, rfl⟩⟩
theorem enter_val : ∀ args w, (callFunc 126 args).run Tryz.prog w = .ok (.enter 126 args) w := enters_of Tryz.func126 (by kernel_rfl) rfl
set_option maxHeartbeats 1000000 in
theorem valP_k (q x : Nat) (hq : w.cell? ⟨x, 0, none⟩ = some (.int .i32 (q : Int))) : PredK 126 #[.pointer (some ⟨x, 0, none⟩)] (valP q) w := fun W r hb => by
  show Calls Tryz.prog 126 #[.int .i32 (r : Int), .pointer (some ⟨x, 0, none⟩)] W _
  have hlt : x < w.heap.size := by
    rcases Nat.lt_or_ge x w.heap.size with h | h
    · exact h
    · simp [World.cell?, Array.getElem?_eq_none h] at hq
  have hc : W.cell? ⟨x, 0, none⟩ = some (.int .i32 (q : Int)) := (hb.cell (p := ⟨x, 0, none⟩) hlt).trans hq
  clear hq hb hlt
  go_enter Tryz.func126, Tryz.ntmps126
  go_wp2
  all_goals go_ret
  all_goals exact ⟨by simp_all [valP], rfl⟩
set_option maxHeartbeats 8000000 in
set_option maxRecDepth 100000 in
theorem value_k (h : RAt n b w0 w l) : Calls Tryz.prog 118 #[.pointer (some ⟨b, 0, none⟩)] w (ValK n b w0 (quoteP l)) := by
  have HK := Lib.hid (fun w' l' (h' : RAt n b w w' l') => h.from h')
  have hbw : b < w.heap.size := h.rd.lt
  have hs := h.start.other (iter_below w quotes 0)
  have hk0 : (w.iter quotes 0).heap[w.heap.size]? = some (.stringIter quotes 0) := World.iter_heap w quotes 0
  have HS := Lib.hid hs
  have HK0 := Lib.hid hk0
  clear h hs hk0
  go_enter Tryz.func118, Tryz.ntmps118
  go_wp2
  go_loopw [] (fun wr => ∃ pos : Nat, Hid (RAt n b w wr l) ∧ Hid (wr.heap[w.heap.size]? = some (.stringIter quotes pos)) ∧ (pos = 0 ∨ pos = 1 ∧ swB [34] l = false ∨ pos = 2 ∧ swB [34] l = false ∧ swB [39] l = false)) (fun wr => 2 - wr.iterPos w.heap.size)
  case atStart => exact ⟨0, HS, HK0, Or.inl rfl⟩
  case round =>
    obtain ⟨pos, HR, HI, hpos⟩ := hrel
    have hip : wr.iterPos w.heap.size = pos := by unfold World.iterPos; rw [HI.out]
    rcases hpos with rfl | ⟨rfl, h34⟩ | ⟨rfl, h34, h39⟩
    · have hnx : ∀ ty, (Instr.next (.pointer (some ⟨w.heap.size, 0, none⟩)) true ty).run Tryz.prog wr = .ok (.tuple #[.bool true, .int .i64 0, .int .i32 34]) (World.iterAt wr w.heap.size quotes 1) := fun ty => Lib.run_next_ascii_at wr w.heap.size quotes 0 ty HI.out (by decide) (by decide)
      have H1 := Lib.hid (HR.out.iterAt (Nat.le_refl _) quotes 1)
      have HI1 : Hid ((World.iterAt wr w.heap.size quotes 1).heap[w.heap.size]? = some (.stringIter quotes 1)) := Lib.hid (Lib.iterAt_heap wr w.heap.size quotes 0 1 HI.out)
      clear HR HI
      generalize World.iterAt wr w.heap.size quotes 1 = W1 at *
      have HX := Lib.hid (box1_row W1 (.int .i32 34) 21)
      have H2 := Lib.hid (H1.out.alloc (.cells #[.int .i32 34] 21))
      have HI2 : Hid ((W1.alloc (.cells #[.int .i32 34] 21)).heap[w.heap.size]? = some (.stringIter quotes 1)) := Lib.hid ((((Below.refl W1.heap.size W1).alloc (Nat.le_refl _) (.cells #[.int .i32 34] 21)).block _ (by have := (Array.getElem?_eq_some_iff.1 HI1.out).1; exact this)).trans HI1.out)
      have hq : (W1.alloc (.cells #[.int .i32 34] 21)).cell? ⟨W1.heap.size, 0, none⟩ = some (.int .i32 34) := HX.out.cell (i := 0) (by show 0 < 1; decide)
      have HST := Lib.hid H2.out.start
      have hb2 : b ≠ W1.heap.size := by have := H1.out.rd.lt; omega
      cases hs : swB [34] l with
      | false =>
        have CT := take_no [34] HST.out hs
        rw [← enc34] at CT
        have CTH := Lib.hid CT
        clear CT
        go_wp2_with fail
        refine CTH.out.mono ?_
        rintro e w3 ⟨rfl, h3⟩
        have HN := Lib.hid (H2.out.from h3)
        have HIN : Hid (w3.heap[w.heap.size]? = some (.stringIter quotes 1)) := Lib.hid ((h3.since.block _ (by exact (Array.getElem?_eq_some_iff.1 HI2.out).1) (by omega)).trans HI2.out)
        have hip2 : w3.iterPos w.heap.size = 1 := by unfold World.iterPos; rw [HIN.out]
        clear h3 CTH
        go_wp2
        go_roundw
        case rel => exact ⟨1, HN, HIN, Or.inr (Or.inl ⟨rfl, trivial⟩)⟩
        case measure => simp [hip, hip2]
      | true =>
        obtain ⟨t, rfl⟩ : ∃ t, l = 34 :: t := by
          obtain ⟨t, ht⟩ := (sw_iff _ _).1 hs
          exact ⟨t, ht⟩
        have CT := take_yes [34] HST.out hs
        rw [← enc34] at CT
        have CTH : Hid (Calls Tryz.prog 84 #[.pointer (some ⟨b, 0, none⟩), .string (Utf8.encode 34)] (W1.alloc (.cells #[.int .i32 34] 21)) fun e w' => e = .returned (.bool true) ∧ RAt n b (W1.alloc (.cells #[.int .i32 34] 21)) w' t) := Lib.hid CT
        clear CT
        go_wp2_with fail
        refine CTH.out.mono ?_
        rintro e w3 ⟨rfl, h3⟩
        have hq3 : w3.cell? ⟨W1.heap.size, 0, none⟩ = some (.int .i32 34) := (HX.out.of_block (h3.since.block _ HX.out.lt (by omega))).cell (i := 0) (by show 0 < 1; decide)
        have CW := while_any (valP 34) _ #[.pointer (some ⟨W1.heap.size, 0, none⟩)] enter_val h3 (valP_k 34 W1.heap.size hq3)
        rw [show whN (valP 34) t = leadN (valU 34) t from wh_val 34 (by decide) t] at CW
        have CWH := Lib.hid CW
        have HQP : Hid (quoteP (34 :: t) = if swB [34] (t.drop (leadN (valU 34) t)) = true then some (t.take (leadN (valU 34) t), (t.drop (leadN (valU 34) t)).drop 1) else none) := Lib.hid (by
          unfold quoteP
          simp only
          rw [if_pos (by decide)])
        generalize leadN (valU 34) t = m at *
        clear h3 CW CTH
        go_wp2_with fail
        refine CWH.out.mono ?_
        rintro e w4 ⟨rfl, h4⟩
        have hq4 : w4.cell? ⟨W1.heap.size, 0, none⟩ = some (.int .i32 34) := (HX.out.of_block (h4.since.block _ HX.out.lt (by omega))).cell (i := 0) (by show 0 < 1; decide)
        have HF := Lib.hid (fun w' l' (h' : RAt n b (W1.alloc (.cells #[.int .i32 34] 21)) w' l') => HK.out _ _ (H2.out.from h'))
        cases hs2 : swB [34] (t.drop m) with
        | false =>
          have CT := take_no [34] h4 hs2
          rw [← enc34] at CT
          have HD : Hid (quoteP (34 :: t) = none) := Lib.hid (by rw [HQP.out, if_neg (by rw [hs2]; decide)])
          have CTH := Lib.hid CT
          clear CT h4
          go_wp2_with fail
          refine CTH.out.mono ?_
          rintro e w5 ⟨rfl, h5⟩
          go_wp2
          go_ret2
          exact valK_no _ HD.out (HF.out _ _ h5)
        | true =>
          have CT := take_yes [34] h4 hs2
          rw [← enc34] at CT
          have HD : Hid (quoteP (34 :: t) = some (t.take m, (t.drop m).drop 1)) := Lib.hid (by rw [HQP.out, if_pos hs2])
          have CTH := Lib.hid CT
          clear CT h4
          go_wp2_with fail
          refine CTH.out.mono ?_
          rintro e w5 ⟨rfl, h5⟩
          go_wp2
          go_ret2
          exact valK_yes _ HD.out (HF.out _ _ h5)
    · have hnx : ∀ ty, (Instr.next (.pointer (some ⟨w.heap.size, 0, none⟩)) true ty).run Tryz.prog wr = .ok (.tuple #[.bool true, .int .i64 1, .int .i32 39]) (World.iterAt wr w.heap.size quotes 2) := fun ty => Lib.run_next_ascii_at wr w.heap.size quotes 1 ty HI.out (by decide) (by decide)
      have H1 := Lib.hid (HR.out.iterAt (Nat.le_refl _) quotes 2)
      have HI1 : Hid ((World.iterAt wr w.heap.size quotes 2).heap[w.heap.size]? = some (.stringIter quotes 2)) := Lib.hid (Lib.iterAt_heap wr w.heap.size quotes 1 2 HI.out)
      clear HR HI
      generalize World.iterAt wr w.heap.size quotes 2 = W1 at *
      have HX := Lib.hid (box1_row W1 (.int .i32 39) 21)
      have H2 := Lib.hid (H1.out.alloc (.cells #[.int .i32 39] 21))
      have HI2 : Hid ((W1.alloc (.cells #[.int .i32 39] 21)).heap[w.heap.size]? = some (.stringIter quotes 2)) := Lib.hid ((((Below.refl W1.heap.size W1).alloc (Nat.le_refl _) (.cells #[.int .i32 39] 21)).block _ (by have := (Array.getElem?_eq_some_iff.1 HI1.out).1; exact this)).trans HI1.out)
      have hq : (W1.alloc (.cells #[.int .i32 39] 21)).cell? ⟨W1.heap.size, 0, none⟩ = some (.int .i32 39) := HX.out.cell (i := 0) (by show 0 < 1; decide)
      have HST := Lib.hid H2.out.start
      have hb2 : b ≠ W1.heap.size := by have := H1.out.rd.lt; omega
      cases hs : swB [39] l with
      | false =>
        have CT := take_no [39] HST.out hs
        rw [← enc39] at CT
        have CTH := Lib.hid CT
        clear CT
        go_wp2_with fail
        refine CTH.out.mono ?_
        rintro e w3 ⟨rfl, h3⟩
        have HN := Lib.hid (H2.out.from h3)
        have HIN : Hid (w3.heap[w.heap.size]? = some (.stringIter quotes 2)) := Lib.hid ((h3.since.block _ (by exact (Array.getElem?_eq_some_iff.1 HI2.out).1) (by omega)).trans HI2.out)
        have hip2 : w3.iterPos w.heap.size = 2 := by unfold World.iterPos; rw [HIN.out]
        clear h3 CTH
        go_wp2
        go_roundw
        case rel => exact ⟨2, HN, HIN, Or.inr (Or.inr ⟨rfl, by first | exact h34 | trivial, trivial⟩)⟩
        case measure => simp [hip, hip2]
      | true =>
        obtain ⟨t, rfl⟩ : ∃ t, l = 39 :: t := by
          obtain ⟨t, ht⟩ := (sw_iff _ _).1 hs
          exact ⟨t, ht⟩
        have CT := take_yes [39] HST.out hs
        rw [← enc39] at CT
        have CTH : Hid (Calls Tryz.prog 84 #[.pointer (some ⟨b, 0, none⟩), .string (Utf8.encode 39)] (W1.alloc (.cells #[.int .i32 39] 21)) fun e w' => e = .returned (.bool true) ∧ RAt n b (W1.alloc (.cells #[.int .i32 39] 21)) w' t) := Lib.hid CT
        clear CT
        go_wp2_with fail
        refine CTH.out.mono ?_
        rintro e w3 ⟨rfl, h3⟩
        have hq3 : w3.cell? ⟨W1.heap.size, 0, none⟩ = some (.int .i32 39) := (HX.out.of_block (h3.since.block _ HX.out.lt (by omega))).cell (i := 0) (by show 0 < 1; decide)
        have CW := while_any (valP 39) _ #[.pointer (some ⟨W1.heap.size, 0, none⟩)] enter_val h3 (valP_k 39 W1.heap.size hq3)
        rw [show whN (valP 39) t = leadN (valU 39) t from wh_val 39 (by decide) t] at CW
        have CWH := Lib.hid CW
        have HQP : Hid (quoteP (39 :: t) = if swB [39] (t.drop (leadN (valU 39) t)) = true then some (t.take (leadN (valU 39) t), (t.drop (leadN (valU 39) t)).drop 1) else none) := Lib.hid (by
          unfold quoteP
          simp only
          rw [if_pos (by decide)])
        generalize leadN (valU 39) t = m at *
        clear h3 CW CTH
        go_wp2_with fail
        refine CWH.out.mono ?_
        rintro e w4 ⟨rfl, h4⟩
        have hq4 : w4.cell? ⟨W1.heap.size, 0, none⟩ = some (.int .i32 39) := (HX.out.of_block (h4.since.block _ HX.out.lt (by omega))).cell (i := 0) (by show 0 < 1; decide)
        have HF := Lib.hid (fun w' l' (h' : RAt n b (W1.alloc (.cells #[.int .i32 39] 21)) w' l') => HK.out _ _ (H2.out.from h'))
        cases hs2 : swB [39] (t.drop m) with
        | false =>
          have CT := take_no [39] h4 hs2
          rw [← enc39] at CT
          have HD : Hid (quoteP (39 :: t) = none) := Lib.hid (by rw [HQP.out, if_neg (by rw [hs2]; decide)])
          have CTH := Lib.hid CT
          clear CT h4
          go_wp2_with fail
          refine CTH.out.mono ?_
          rintro e w5 ⟨rfl, h5⟩
          go_wp2
          go_ret2
          exact valK_no _ HD.out (HF.out _ _ h5)
        | true =>
          have CT := take_yes [39] h4 hs2
          rw [← enc39] at CT
          have HD : Hid (quoteP (39 :: t) = some (t.take m, (t.drop m).drop 1)) := Lib.hid (by rw [HQP.out, if_pos hs2])
          have CTH := Lib.hid CT
          clear CT h4
          go_wp2_with fail
          refine CTH.out.mono ?_
          rintro e w5 ⟨rfl, h5⟩
          go_wp2
          go_ret2
          exact valK_yes _ HD.out (HF.out _ _ h5)
    · have hnx : ∀ ty, (Instr.next (.pointer (some ⟨w.heap.size, 0, none⟩)) true ty).run Tryz.prog wr = .ok (.tuple #[.bool false]) wr := fun ty => Lib.run_next_end_at wr w.heap.size quotes 2 ty HI.out (by decide)
      have HD : Hid (quoteP l = none) := Lib.hid (by
        unfold quoteP
        match l, h34, h39 with
        | [], _, _ => rfl
        | q :: t, h34, h39 =>
          simp only
          rw [if_neg]
          rintro (rfl | rfl)
          · rw [show swB [34] (34 :: t) = true from (sw_iff _ _).2 ⟨t, rfl⟩] at h34; cases h34
          · rw [show swB [39] (39 :: t) = true from (sw_iff _ _).2 ⟨t, rfl⟩] at h39; cases h39)
      have HF := Lib.hid (HK.out _ _ HR.out)
      clear h34 h39 hip
      go_wp2
      go_ret2
      exact valK_no _ HD.out HF.out
end
end Go.Proofs.YtjijjmkeehdooaaGreatDoor

namespace Go.Proofs.YtjijjmkeehdooaaGreatDoor
open Go.RowKit
section
variable {n b : Nat} {w0 w w' : World} {l l' : List UInt8}
/-- what attr gives -/
def AttK (n b : Nat) (w0 : World) (d : Option ((ByteArray × ByteArray) × List UInt8)) (e : Ending) (w' : World) : Prop :=
  ∃ (x y : ByteArray) (ok : Bool) (r : List UInt8), e = .returned (.tuple #[.agg #[.string x, .string y], .bool ok]) ∧ RAt n b w0 w' r ∧ (d = none → ok = false) ∧ ∀ a r', d = some (a, r') → ok = true ∧ a = (x, y) ∧ r' = r
theorem attK_no {d : Option ((ByteArray × ByteArray) × List UInt8)} (x y : ByteArray) (hd : d = none) (h : RAt n b w0 w' l) : AttK n b w0 d (.returned (.tuple #[.agg #[.string x, .string y], .bool false])) w' :=
  ⟨x, y, false, l, rfl, h, fun _ => rfl, fun v r' e => by rw [hd] at e; cases e⟩
theorem store2 {H : Nat} {t : TypeId} {f : Nat → Value} (h : w.rowIs H t 2 f) (v0 v1 : Value) : ((w.setCell ⟨H, 0, none⟩ v0).setCell ⟨H, 1, none⟩ v1).rowIs H t 2 (fun i => if i = 0 then v0 else v1) :=
  (World.rowIs.set (World.rowIs.set h 0 v0) 1 v1).congr fun i hi => by
    rcases (show i = 0 ∨ i = 1 by omega) with rfl | rfl <;> rfl
theorem RAt.store2 {H : Nat} (h : RAt n b w0 w l) (hH : w0.heap.size ≤ H) (v0 v1 : Value) : RAt n b w0 ((w.setCell ⟨H, 0, none⟩ v0).setCell ⟨H, 1, none⟩ v1) l :=
  (h.set (p := ⟨H, 0, none⟩) hH v0).set (p := ⟨H, 1, none⟩) hH v1
def zeroR : Obj := .cells #[.string ⟨#[]⟩, .string ⟨#[]⟩] 143
theorem zeroR_row (w : World) : (w.alloc zeroR).rowIs w.heap.size 143 2 (fun _ => .string ⟨#[]⟩) := World.rowIs_alloc w #[.string ⟨#[]⟩, .string ⟨#[]⟩] 143 (fun _ => .string ⟨#[]⟩) (by
  intro i hi
  rcases (show i = 0 ∨ i = 1 by have : i < 2 := hi; omega) with rfl | rfl <;> rfl)
set_option maxHeartbeats 8000000 in
set_option maxRecDepth 100000 in
theorem attr_k (h : RAt n b w0 w l) : Calls Tryz.prog 106 #[.pointer (some ⟨b, 0, none⟩)] w (AttK n b w0 (attrP l)) := by
  have h0 : RAt n b (w.alloc zeroR) (w.alloc zeroR) l := (h.alloc zeroR).start
  have HS : Hid (w0.heap.size ≤ w.heap.size) := Lib.hid h.since.size
  have hb := h.rd.lt
  have HB : Hid (∀ w' l', RAt n b (w.alloc zeroR) w' l' → w'.rowIs w.heap.size 143 2 (fun _ => .string ⟨#[]⟩)) := Lib.hid (fun w' l' h' => (zeroR_row w).of_block (h'.since.block _ (zeroR_row w).lt (by omega)))
  have HK : Hid (∀ w' l', RAt n b (w.alloc zeroR) w' l' → RAt n b w0 w' l') := Lib.hid (fun w' l' h' => (h.alloc zeroR).from h')
  have C := Lib.hid (name_take h0)
  have hu : attrP l = if isName (nameT l) = true ∧ swB [61] ((l.drop (whN partB l)).drop (gapL (l.drop (whN partB l)))) = true then (quoteP (((((l.drop (whN partB l)).drop (gapL (l.drop (whN partB l))))).drop 1).drop (gapL ((((l.drop (whN partB l)).drop (gapL (l.drop (whN partB l))))).drop 1)))).bind fun x => some ((bytes (nameT l), bytes x.1), x.2) else none := rfl
  have HU := Lib.hid hu
  clear hu
  generalize l.drop (whN partB l) = L at *
  have CS := Lib.hid (fun w1 (h1 : RAt n b (w.alloc zeroR) w1 L) => space_take h1)
  obtain ⟨gz, hgz⟩ : ∃ gz, decide (gapL L ≠ 0) = gz := ⟨_, rfl⟩
  rw [hgz] at CS
  clear hgz
  generalize L.drop (gapL L) = U at *
  clear h h0 hb
  cases hnm : isName (nameT l) with
  | false =>
    have HD : Hid (attrP l = none) := Lib.hid (by rw [HU.out, if_neg]; rintro ⟨e, _⟩; rw [hnm] at e; cases e)
    rw [hnm] at C
    clear hnm
    go_enter Tryz.func106, Tryz.ntmps106
    go_wp2_with fail
    refine C.out.mono ?_
    rintro e w1 ⟨rfl, h1⟩
    go_wp2_with fail
    refine (CS.out _ h1).mono ?_
    rintro e w2 ⟨rfl, h2⟩
    clear h1
    have hr := HB.out _ _ h2
    have f0 := hr.frozen 0
    have f1 := hr.frozen 1
    have c0 := hr.cell (i := 0) (by decide)
    have c1 := hr.cell (i := 1) (by decide)
    have HR := Lib.hid hr
    have H1 := Lib.hid h2
    clear hr h2
    go_wp2
    have hs5 := store2 HR.out (.string ⟨#[]⟩) (.string ⟨#[]⟩)
    have d0 : World.cell? _ ⟨w.heap.size, 0, none⟩ = some (.string ⟨#[]⟩) := hs5.cell (i := 0) (by decide)
    have d1 : World.cell? _ ⟨w.heap.size, 1, none⟩ = some (.string ⟨#[]⟩) := hs5.cell (i := 1) (by decide)
    refine bodyPost_ret (by simp [results, Tryz.results106, d0, d1, go_sem]; try rfl) rfl ?_
    exact attK_no _ _ HD.out ((HK.out _ _ H1.out).store2 HS.out _ _)
  | true =>
    rw [hnm] at C HU
    cases hs : swB [61] U with
    | false =>
      have HD : Hid (attrP l = none) := Lib.hid (by rw [HU.out, if_neg]; rintro ⟨_, e⟩; rw [hs] at e; cases e)
      have CT := Lib.hid (fun w1 (h1 : RAt n b (w.alloc zeroR) w1 U) => take_no [61] h1 hs)
      clear hnm hs
      go_enter Tryz.func106, Tryz.ntmps106
      go_wp2_with fail
      refine C.out.mono ?_
      rintro e w1 ⟨rfl, h1⟩
      go_wp2_with fail
      refine (CS.out _ h1).mono ?_
      rintro e w2 ⟨rfl, h2⟩
      go_wp2_with fail
      refine (CT.out _ h2).mono ?_
      rintro e w3 ⟨rfl, h3⟩
      clear h1 h2
      have hr := HB.out _ _ h3
      have f0 := hr.frozen 0
      have f1 := hr.frozen 1
      have c0 := hr.cell (i := 0) (by decide)
      have c1 := hr.cell (i := 1) (by decide)
      have HR := Lib.hid hr
      have H1 := Lib.hid h3
      clear hr h3
      go_wp2
      have hs5 := store2 HR.out (.string ⟨#[]⟩) (.string ⟨#[]⟩)
      have d0 : World.cell? _ ⟨w.heap.size, 0, none⟩ = some (.string ⟨#[]⟩) := hs5.cell (i := 0) (by decide)
      have d1 : World.cell? _ ⟨w.heap.size, 1, none⟩ = some (.string ⟨#[]⟩) := hs5.cell (i := 1) (by decide)
      refine bodyPost_ret (by simp [results, Tryz.results106, d0, d1, go_sem]; try rfl) rfl ?_
      exact attK_no _ _ HD.out ((HK.out _ _ H1.out).store2 HS.out _ _)
    | true =>
      rw [if_pos ⟨rfl, hs⟩] at HU
      have CT : Hid (∀ w1, RAt n b (w.alloc zeroR) w1 U → Calls Tryz.prog 84 #[.pointer (some ⟨b, 0, none⟩), .string (bytes [61])] w1 fun e w' => e = .returned (.bool true) ∧ RAt n b (w.alloc zeroR) w' (U.drop 1)) := Lib.hid (fun w1 h1 => take_yes [61] h1 hs)
      clear hnm hs
      generalize U.drop 1 = V at *
      have CG := Lib.hid (fun w1 (h1 : RAt n b (w.alloc zeroR) w1 V) => space_take h1)
      obtain ⟨gy, hgy⟩ : ∃ gy, decide (gapL V ≠ 0) = gy := ⟨_, rfl⟩
      rw [hgy] at CG
      clear hgy
      generalize V.drop (gapL V) = X at *
      have CV := Lib.hid (fun w1 (h1 : RAt n b (w.alloc zeroR) w1 X) => value_k h1)
      go_enter Tryz.func106, Tryz.ntmps106
      go_wp2_with fail
      refine C.out.mono ?_
      rintro e w1 ⟨rfl, h1⟩
      go_wp2_with fail
      refine (CS.out _ h1).mono ?_
      rintro e w2 ⟨rfl, h2⟩
      go_wp2_with fail
      refine (CT.out _ h2).mono ?_
      rintro e w3 ⟨rfl, h3⟩
      go_wp2_with fail
      refine (CG.out _ h3).mono ?_
      rintro e w4 ⟨rfl, h4⟩
      go_wp2_with fail
      refine (CV.out _ h4).mono ?_
      rintro e w5 ⟨y, ok, r, rfl, h5, hno, hyes⟩
      clear h1 h2 h3 h4
      have HNO := Lib.hid hno
      have HYES := Lib.hid hyes
      clear hno hyes
      have hr := HB.out _ _ h5
      have f0 := hr.frozen 0
      have f1 := hr.frozen 1
      have c0 := hr.cell (i := 0) (by decide)
      have c1 := hr.cell (i := 1) (by decide)
      have HR := Lib.hid hr
      have H1 := Lib.hid h5
      clear hr h5
      go_wp2
      have hs5 := store2 HR.out (.string (bytes (nameT l))) (.string y)
      have d0 : World.cell? _ ⟨w.heap.size, 0, none⟩ = some (.string (bytes (nameT l))) := hs5.cell (i := 0) (by decide)
      have d1 : World.cell? _ ⟨w.heap.size, 1, none⟩ = some (.string y) := hs5.cell (i := 1) (by decide)
      refine bodyPost_ret (by simp [results, Tryz.results106, d0, d1, go_sem]; try rfl) rfl ?_
      refine ⟨_, _, _, r, rfl, (HK.out _ _ H1.out).store2 HS.out _ _, fun e => ?_, fun a r' e => ?_⟩
      · rw [HU.out] at e
        cases hq : quoteP X with
        | none => exact HNO.out hq
        | some x => rw [hq] at e; cases e
      · rw [HU.out] at e
        cases hq : quoteP X with
        | none => rw [hq] at e; cases e
        | some x =>
          rw [hq, Option.bind_some] at e
          injection e with e
          injection e with e1 e2
          obtain ⟨g1, g2, g3⟩ := HYES.out x.1 x.2 hq
          exact ⟨g1, by rw [← e1, g2], by rw [← e2, g3]⟩
end
end Go.Proofs.YtjijjmkeehdooaaGreatDoor
