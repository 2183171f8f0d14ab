/-
  THE LANDED PACKAGE token: the contract of attr (one attribute of a start). Written by gen_attr.py.
-/
import Derived.Test.YtmecigainilocaaGreatDoorRunKValue
namespace Go.Proofs.YtmecigainilocaaGreatDoor
open Go.RowKit
section
variable {n b : Nat} {w0 w w' : World} {l l' : List UInt8}
/-- what attr gives -/
def AttK (n b : Nat) (w0 : World) (d : Option ((ByteArray × ByteArray) × List UInt8)) (e : Ending) (w' : World) : Prop :=
  ∃ (x y : ByteArray) (ok : Bool) (r : List UInt8), e = .returned (.tuple #[.agg #[.string x, .string y], .bool ok]) ∧ RAt n b w0 w' r ∧ (d = none → ok = false) ∧ ∀ a r', d = some (a, r') → ok = true ∧ a = (x, y) ∧ r' = r
theorem attK_no {d : Option ((ByteArray × ByteArray) × List UInt8)} (x y : ByteArray) (hd : d = none) (h : RAt n b w0 w' l) : AttK n b w0 d (.returned (.tuple #[.agg #[.string x, .string y], .bool false])) w' :=
  ⟨x, y, false, l, rfl, h, fun _ => rfl, fun v r' e => by rw [hd] at e; cases e⟩
theorem store2 {H : Nat} {t : TypeId} {f : Nat → Value} (h : w.rowIs H t 2 f) (v0 v1 : Value) : ((w.setCell ⟨H, 0, none⟩ v0).setCell ⟨H, 1, none⟩ v1).rowIs H t 2 (fun i => if i = 0 then v0 else v1) :=
  (World.rowIs.set (World.rowIs.set h 0 v0) 1 v1).congr fun i hi => by
    rcases (show i = 0 ∨ i = 1 by omega) with rfl | rfl <;> rfl
theorem RAt.store2 {H : Nat} (h : RAt n b w0 w l) (hH : w0.heap.size ≤ H) (v0 v1 : Value) : RAt n b w0 ((w.setCell ⟨H, 0, none⟩ v0).setCell ⟨H, 1, none⟩ v1) l :=
  (h.set (p := ⟨H, 0, none⟩) hH v0).set (p := ⟨H, 1, none⟩) hH v1
def zeroR : Obj := .cells #[.string ⟨#[]⟩, .string ⟨#[]⟩] 91
theorem zeroR_row (w : World) : (w.alloc zeroR).rowIs w.heap.size 91 2 (fun _ => .string ⟨#[]⟩) := World.rowIs_alloc w #[.string ⟨#[]⟩, .string ⟨#[]⟩] 91 (fun _ => .string ⟨#[]⟩) (by
  intro i hi
  rcases (show i = 0 ∨ i = 1 by have : i < 2 := hi; omega) with rfl | rfl <;> rfl)
set_option maxHeartbeats 8000000 in
set_option maxRecDepth 100000 in
theorem attr_k (h : RAt n b w0 w l) : Calls Tryz.prog 77 #[.pointer (some ⟨b, 0, none⟩)] w (AttK n b w0 (attrP l)) := by
  have h0 : RAt n b (w.alloc zeroR) (w.alloc zeroR) l := (h.alloc zeroR).start
  have HS : Hid (w0.heap.size ≤ w.heap.size) := Lib.hid h.since.size
  have hb := h.rd.lt
  have HB : Hid (∀ w' l', RAt n b (w.alloc zeroR) w' l' → w'.rowIs w.heap.size 91 2 (fun _ => .string ⟨#[]⟩)) := Lib.hid (fun w' l' h' => (zeroR_row w).of_block (h'.since.block _ (zeroR_row w).lt (by omega)))
  have HK : Hid (∀ w' l', RAt n b (w.alloc zeroR) w' l' → RAt n b w0 w' l') := Lib.hid (fun w' l' h' => (h.alloc zeroR).from h')
  have C := Lib.hid (name_take h0)
  have hu : attrP l = if isName (nameT l) = true ∧ swB [61] ((l.drop (whN partB l)).drop (gapL (l.drop (whN partB l)))) = true then (quoteP (((((l.drop (whN partB l)).drop (gapL (l.drop (whN partB l))))).drop 1).drop (gapL ((((l.drop (whN partB l)).drop (gapL (l.drop (whN partB l))))).drop 1)))).bind fun x => some ((bytes (nameT l), bytes x.1), x.2) else none := rfl
  have HU := Lib.hid hu
  clear hu
  generalize l.drop (whN partB l) = L at *
  have CS := Lib.hid (fun w1 (h1 : RAt n b (w.alloc zeroR) w1 L) => space_take h1)
  obtain ⟨gz, hgz⟩ : ∃ gz, decide (gapL L ≠ 0) = gz := ⟨_, rfl⟩
  rw [hgz] at CS
  clear hgz
  generalize L.drop (gapL L) = U at *
  clear h h0 hb
  cases hnm : isName (nameT l) with
  | false =>
    have HD : Hid (attrP l = none) := Lib.hid (by rw [HU.out, if_neg]; rintro ⟨e, _⟩; rw [hnm] at e; cases e)
    rw [hnm] at C
    clear hnm
    go_enter Tryz.func77, Tryz.ntmps77
    go_wp2_with fail
    refine C.out.mono ?_
    rintro e w1 ⟨rfl, h1⟩
    go_wp2_with fail
    refine (CS.out _ h1).mono ?_
    rintro e w2 ⟨rfl, h2⟩
    clear h1
    have hr := HB.out _ _ h2
    have f0 := hr.frozen 0
    have f1 := hr.frozen 1
    have c0 := hr.cell (i := 0) (by decide)
    have c1 := hr.cell (i := 1) (by decide)
    have HR := Lib.hid hr
    have H1 := Lib.hid h2
    clear hr h2
    go_wp2
    have hs5 := store2 HR.out (.string ⟨#[]⟩) (.string ⟨#[]⟩)
    have d0 : World.cell? _ ⟨w.heap.size, 0, none⟩ = some (.string ⟨#[]⟩) := hs5.cell (i := 0) (by decide)
    have d1 : World.cell? _ ⟨w.heap.size, 1, none⟩ = some (.string ⟨#[]⟩) := hs5.cell (i := 1) (by decide)
    refine bodyPost_ret (by simp [results, Tryz.results77, d0, d1, go_sem]; try rfl) rfl ?_
    exact attK_no _ _ HD.out ((HK.out _ _ H1.out).store2 HS.out _ _)
  | true =>
    rw [hnm] at C HU
    cases hs : swB [61] U with
    | false =>
      have HD : Hid (attrP l = none) := Lib.hid (by rw [HU.out, if_neg]; rintro ⟨_, e⟩; rw [hs] at e; cases e)
      have CT := Lib.hid (fun w1 (h1 : RAt n b (w.alloc zeroR) w1 U) => take_no [61] h1 hs)
      clear hnm hs
      go_enter Tryz.func77, Tryz.ntmps77
      go_wp2_with fail
      refine C.out.mono ?_
      rintro e w1 ⟨rfl, h1⟩
      go_wp2_with fail
      refine (CS.out _ h1).mono ?_
      rintro e w2 ⟨rfl, h2⟩
      go_wp2_with fail
      refine (CT.out _ h2).mono ?_
      rintro e w3 ⟨rfl, h3⟩
      clear h1 h2
      have hr := HB.out _ _ h3
      have f0 := hr.frozen 0
      have f1 := hr.frozen 1
      have c0 := hr.cell (i := 0) (by decide)
      have c1 := hr.cell (i := 1) (by decide)
      have HR := Lib.hid hr
      have H1 := Lib.hid h3
      clear hr h3
      go_wp2
      have hs5 := store2 HR.out (.string ⟨#[]⟩) (.string ⟨#[]⟩)
      have d0 : World.cell? _ ⟨w.heap.size, 0, none⟩ = some (.string ⟨#[]⟩) := hs5.cell (i := 0) (by decide)
      have d1 : World.cell? _ ⟨w.heap.size, 1, none⟩ = some (.string ⟨#[]⟩) := hs5.cell (i := 1) (by decide)
      refine bodyPost_ret (by simp [results, Tryz.results77, d0, d1, go_sem]; try rfl) rfl ?_
      exact attK_no _ _ HD.out ((HK.out _ _ H1.out).store2 HS.out _ _)
    | true =>
      rw [if_pos ⟨rfl, hs⟩] at HU
      have CT : Hid (∀ w1, RAt n b (w.alloc zeroR) w1 U → Calls Tryz.prog 52 #[.pointer (some ⟨b, 0, none⟩), .string (bytes [61])] w1 fun e w' => e = .returned (.bool true) ∧ RAt n b (w.alloc zeroR) w' (U.drop 1)) := Lib.hid (fun w1 h1 => take_yes [61] h1 hs)
      clear hnm hs
      generalize U.drop 1 = V at *
      have CG := Lib.hid (fun w1 (h1 : RAt n b (w.alloc zeroR) w1 V) => space_take h1)
      obtain ⟨gy, hgy⟩ : ∃ gy, decide (gapL V ≠ 0) = gy := ⟨_, rfl⟩
      rw [hgy] at CG
      clear hgy
      generalize V.drop (gapL V) = X at *
      have CV := Lib.hid (fun w1 (h1 : RAt n b (w.alloc zeroR) w1 X) => value_k h1)
      go_enter Tryz.func77, Tryz.ntmps77
      go_wp2_with fail
      refine C.out.mono ?_
      rintro e w1 ⟨rfl, h1⟩
      go_wp2_with fail
      refine (CS.out _ h1).mono ?_
      rintro e w2 ⟨rfl, h2⟩
      go_wp2_with fail
      refine (CT.out _ h2).mono ?_
      rintro e w3 ⟨rfl, h3⟩
      go_wp2_with fail
      refine (CG.out _ h3).mono ?_
      rintro e w4 ⟨rfl, h4⟩
      go_wp2_with fail
      refine (CV.out _ h4).mono ?_
      rintro e w5 ⟨y, ok, r, rfl, h5, hno, hyes⟩
      clear h1 h2 h3 h4
      have HNO := Lib.hid hno
      have HYES := Lib.hid hyes
      clear hno hyes
      have hr := HB.out _ _ h5
      have f0 := hr.frozen 0
      have f1 := hr.frozen 1
      have c0 := hr.cell (i := 0) (by decide)
      have c1 := hr.cell (i := 1) (by decide)
      have HR := Lib.hid hr
      have H1 := Lib.hid h5
      clear hr h5
      go_wp2
      have hs5 := store2 HR.out (.string (bytes (nameT l))) (.string y)
      have d0 : World.cell? _ ⟨w.heap.size, 0, none⟩ = some (.string (bytes (nameT l))) := hs5.cell (i := 0) (by decide)
      have d1 : World.cell? _ ⟨w.heap.size, 1, none⟩ = some (.string y) := hs5.cell (i := 1) (by decide)
      refine bodyPost_ret (by simp [results, Tryz.results77, d0, d1, go_sem]; try rfl) rfl ?_
      refine ⟨_, _, _, r, rfl, (HK.out _ _ H1.out).store2 HS.out _ _, fun e => ?_, fun a r' e => ?_⟩
      · rw [HU.out] at e
        cases hq : quoteP X with
        | none => exact HNO.out hq
        | some x => rw [hq] at e; cases e
      · rw [HU.out] at e
        cases hq : quoteP X with
        | none => rw [hq] at e; cases e
        | some x =>
          rw [hq, Option.bind_some] at e
          injection e with e
          injection e with e1 e2
          obtain ⟨g1, g2, g3⟩ := HYES.out x.1 x.2 hq
          exact ⟨g1, by rw [← e1, g2], by rw [← e2, g3]⟩
end
end Go.Proofs.YtmecigainilocaaGreatDoor
