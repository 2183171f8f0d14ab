/-
  THE LANDED PACKAGE token: what a reader's method gives (GiveK), and the contracts of comment, cdata, pi, end, char, ref, text.
-/
import Derived.Test.YtjijjmkeehdooaaGreatDoorRunKRef
namespace Go.Proofs.YtjijjmkeehdooaaGreatDoor
open Go.RowKit

/-- the attributes, cell by cell -/
def flatA (l : List (ByteArray × ByteArray)) : List Value := l.flatMap fun a => [.string a.1, .string a.2]
/-- WHAT A METHOD OF A READER GIVES: a piece, whether it is one, and what is left. -/
def GiveK (n b : Nat) (w0 : World) (B : Nat) (d : Option (Tok × List UInt8)) (e : Ending) (w' : World) : Prop :=
  ∃ (kd : Nat) (nm tx : ByteArray) (a : Option Addr) (m c : Nat) (em ok : Bool) (r : List UInt8),
    e = .returned (.tuple #[.agg #[.int .i64 (kd : Int), .string nm, .string tx, .slice a m c, .bool em], .bool ok]) ∧ RAt n b w0 w' r ∧ (d = none → ok = false) ∧
    ∀ t r', d = some (t, r') → ok = true ∧ kd = t.kind ∧ nm = t.name ∧ tx = t.text ∧ em = t.empty ∧ r' = r ∧ w'.ownsRow B 143 2 (.slice a m c) t.attrs.length (flatA t.attrs)
theorem owns_none (w : World) (B : Nat) : w.ownsRow B 143 2 (.slice none 0 0) 0 (flatA []) := ⟨rfl, Or.inl ⟨rfl, rfl⟩⟩
theorem giveK_no {n b B : Nat} {w0 w' : World} {d : Option (Tok × List UInt8)} {r : List UInt8} (kd : Nat) (nm tx : ByteArray) (a : Option Addr) (m c : Nat) (em : Bool) (hd : d = none) (h : RAt n b w0 w' r) :
    GiveK n b w0 B d (.returned (.tuple #[.agg #[.int .i64 (kd : Int), .string nm, .string tx, .slice a m c, .bool em], .bool false])) w' :=
  ⟨kd, nm, tx, a, m, c, em, false, r, rfl, h, fun _ => rfl, fun t r' h => by rw [hd] at h; cases h⟩
theorem giveK_yes {n b B : Nat} {w0 w' : World} {d : Option (Tok × List UInt8)} {r : List UInt8} (kd : Nat) (nm tx : ByteArray) (em : Bool) (hd : d = some (⟨kd, nm, tx, [], em⟩, r)) (h : RAt n b w0 w' r) :
    GiveK n b w0 B d (.returned (.tuple #[.agg #[.int .i64 (kd : Int), .string nm, .string tx, .slice none 0 0, .bool em], .bool true])) w' :=
  ⟨kd, nm, tx, none, 0, 0, em, true, r, rfl, h, fun e => (by rw [hd] at e; cases e), fun t r' h => by
    rw [hd] at h
    injection h with h
    injection h with h1 h2
    subst h1; subst h2
    exact ⟨rfl, rfl, rfl, rfl, rfl, rfl, owns_none _ _⟩⟩
section
variable {n b : Nat} {w0 w w' : World} {l l' : List UInt8}
theorem RAt.set (h : RAt n b w0 w l) {p : Addr} (hp : w0.heap.size ≤ p.block) (v : Value) : RAt n b w0 (w.setCell p v) l := by
  have hb := h.b0
  have h2 : Turns (fun k => k = p.block) w (w.setCell p v) := (Turns.refl (fun k => k = p.block) w).setCell (Or.inl rfl) _
  exact ⟨h.e.stay (h2.below (by have := h.nb; have := h.rd.lt; omega) (fun k hk => by subst hk; have := h.nb; omega)), h.nb, h.rd.setOther (by omega) v, h.b0, h.since.setCell (Or.inr hp) v, h.small⟩
/-- a new box of five cells, stored into -/
theorem store5 {H : Nat} {t : TypeId} {f : Nat → Value} (h : w.rowIs H t 5 f) (v0 v1 v2 v3 v4 : Value) :
    (((((w.setCell ⟨H, 0, none⟩ v0).setCell ⟨H, 1, none⟩ v1).setCell ⟨H, 2, none⟩ v2).setCell ⟨H, 3, none⟩ v3).setCell ⟨H, 4, none⟩ v4).rowIs H t 5 (fun i => if i = 0 then v0 else if i = 1 then v1 else if i = 2 then v2 else if i = 3 then v3 else v4) :=
  (World.rowIs.set (World.rowIs.set (World.rowIs.set (World.rowIs.set (World.rowIs.set h 0 v0) 1 v1) 2 v2) 3 v3) 4 v4).congr fun i hi => by
    rcases (show i = 0 ∨ i = 1 ∨ i = 2 ∨ i = 3 ∨ i = 4 by omega) with rfl | rfl | rfl | rfl | rfl <;> rfl
theorem RAt.store5 {H : Nat} (h : RAt n b w0 w l) (hH : w0.heap.size ≤ H) (v0 v1 v2 v3 v4 : Value) :
    RAt n b w0 (((((w.setCell ⟨H, 0, none⟩ v0).setCell ⟨H, 1, none⟩ v1).setCell ⟨H, 2, none⟩ v2).setCell ⟨H, 3, none⟩ v3).setCell ⟨H, 4, none⟩ v4) l :=
  ((((h.set (p := ⟨H, 0, none⟩) hH v0).set (p := ⟨H, 1, none⟩) hH v1).set (p := ⟨H, 2, none⟩) hH v2).set (p := ⟨H, 3, none⟩) hH v3).set (p := ⟨H, 4, none⟩) hH v4
def zero5 : Nat → Value := fun i => if i = 0 then .int .i64 0 else if i = 1 then .string ⟨#[]⟩ else if i = 2 then .string ⟨#[]⟩ else if i = 3 then .slice none 0 0 else .bool false
def zeroT : Obj := .cells #[.int .i64 0, .string ⟨#[]⟩, .string ⟨#[]⟩, .slice none 0 0, .bool false] 90
theorem zeroT_row (w : World) : (w.alloc zeroT).rowIs w.heap.size 90 5 zero5 := World.rowIs_alloc w #[.int .i64 0, .string ⟨#[]⟩, .string ⟨#[]⟩, .slice none 0 0, .bool false] 90 zero5 (by
  intro i hi
  rcases (show i = 0 ∨ i = 1 ∨ i = 2 ∨ i = 3 ∨ i = 4 by have : i < 5 := hi; omega) with rfl | rfl | rfl | rfl | rfl <;> rfl)
/-- a method's first step: its result's box -/
theorem RAt.boxed (h : RAt n b w0 w l) : RAt n b (w.alloc zeroT) (w.alloc zeroT) l := (h.alloc zeroT).start
theorem RAt.back (h : RAt n b w0 w l) (h' : RAt n b (w.alloc zeroT) w' l') : RAt n b w0 w' l' := (h.alloc zeroT).from h'
theorem RAt.box (h : RAt n b w0 w l) (h' : RAt n b (w.alloc zeroT) w' l') : w'.rowIs w.heap.size 90 5 zero5 :=
  (zeroT_row w).of_block (h'.since.block _ (zeroT_row w).lt (by have := h.rd.lt; omega))

theorem contains_k (h : RAt n b w0 w l) (x m : List UInt8) (hx : x.length ≤ 100000) : Calls Tryz.prog 110 #[.string (bytes x), .string (bytes m)] w fun e w' => e = .returned (.bool (Lib.contains x m)) ∧ w = w' := by
  obtain ⟨mx, hmx⟩ := h.e.mx
  exact (Tryz.containsAny_laid (bytes x) (bytes m) mx w (by rw [bytes_len]; omega) hmx).mono fun _ _ hg => ⟨hg.1, hg.2.symm⟩
/-- the box of a PI's piece -/
def piT (nm : List UInt8) : Obj := .cells #[.int .i64 5, .string (bytes nm), .string ⟨#[]⟩, .slice none 0 0, .bool false] 90
def pi5 (nm : List UInt8) : Nat → Value := fun i => if i = 0 then .int .i64 5 else if i = 1 then .string (bytes nm) else if i = 2 then .string ⟨#[]⟩ else if i = 3 then .slice none 0 0 else .bool false
theorem piT_row (w : World) (nm : List UInt8) : (w.alloc (piT nm)).rowIs w.heap.size 90 5 (pi5 nm) := World.rowIs_alloc w #[.int .i64 5, .string (bytes nm), .string ⟨#[]⟩, .slice none 0 0, .bool false] 90 (pi5 nm) (by
  intro i hi
  rcases (show i = 0 ∨ i = 1 ∨ i = 2 ∨ i = 3 ∨ i = 4 by have : i < 5 := hi; omega) with rfl | rfl | rfl | rfl | rfl <;> rfl)
/-! ### written by gen_piece.py -/
set_option maxHeartbeats 8000000 in
set_option maxRecDepth 100000 in
theorem comment_k (h : RAt n b w0 w l) (B : Nat) : Calls Tryz.prog 85 #[.pointer (some ⟨b, 0, none⟩)] w (GiveK n b w0 B (commentP l)) := by
  have h0 := h.boxed
  have HS : Hid (w0.heap.size ≤ w.heap.size) := Lib.hid h.since.size
  have HB := Lib.hid (fun w' l' (h' : RAt n b (w.alloc zeroT) w' l') => h.box h')
  have HK := Lib.hid (fun w' l' (h' : RAt n b (w.alloc zeroT) w' l') => h.back h')
  have hsm := h.small
  cases hf : findL [45, 45] l with
  | none =>
    have HD : Hid (commentP l = none) := Lib.hid (by unfold commentP; rw [hf]; rfl)
    have C := Lib.hid (upTo_no [45, 45] (by decide) h0 hf)
    clear h h0 hf
    go_enter Tryz.func85, Tryz.ntmps85
    go_wp2_with fail
    refine C.out.mono ?_
    rintro e w1 ⟨rfl, h1⟩
    have hr := HB.out _ _ h1
    have f0 := hr.frozen 0
    have f1 := hr.frozen 1
    have f2 := hr.frozen 2
    have f3 := hr.frozen 3
    have f4 := hr.frozen 4
    have c0 := hr.cell (i := 0) (by decide)
    have c1 := hr.cell (i := 1) (by decide)
    have c2 := hr.cell (i := 2) (by decide)
    have c3 := hr.cell (i := 3) (by decide)
    have c4 := hr.cell (i := 4) (by decide)
    have HR := Lib.hid hr
    have H1 := Lib.hid h1
    clear hr h1
    go_wp2
    have hs5 := store5 HR.out (.int .i64 4) (.string ⟨#[]⟩) (.string (bytes l)) (.slice none 0 0) (.bool false)
    have d0 : World.cell? _ ⟨w.heap.size, 0, none⟩ = some (.int .i64 4) := hs5.cell (i := 0) (by decide)
    have d1 : World.cell? _ ⟨w.heap.size, 1, none⟩ = some (.string ⟨#[]⟩) := hs5.cell (i := 1) (by decide)
    have d2 : World.cell? _ ⟨w.heap.size, 2, none⟩ = some (.string (bytes l)) := hs5.cell (i := 2) (by decide)
    have d3 : World.cell? _ ⟨w.heap.size, 3, none⟩ = some (.slice none 0 0) := hs5.cell (i := 3) (by decide)
    have d4 : World.cell? _ ⟨w.heap.size, 4, none⟩ = some (.bool false) := hs5.cell (i := 4) (by decide)
    refine bodyPost_ret (by simp [results, Tryz.results85, d0, d1, d2, d3, d4, go_sem]; try rfl) rfl ?_
    exact giveK_no 4 ⟨#[]⟩ (bytes l) none 0 0 false HD.out ((HK.out _ _ H1.out).store5 HS.out _ _ _ _ _)
  | some k =>
    have C := Lib.hid (upTo_yes [45, 45] (by decide) h0 k hf)
    cases hs : swB [62] (l.drop (k + 2)) with
    | false =>
      have HD : Hid (commentP l = none) := Lib.hid (by unfold commentP; rw [hf, Option.bind_some, if_neg (by rw [hs]; decide)])
      have HT := Lib.hid (fun w1 (h1 : RAt n b (w.alloc zeroT) w1 (l.drop (k + 2))) => take_no [62] h1 hs)
      clear h h0 hf hs
      go_enter Tryz.func85, Tryz.ntmps85
      go_wp2_with fail
      refine C.out.mono ?_
      rintro e w1 ⟨rfl, h1⟩
      go_wp2_with fail
      refine (HT.out _ h1).mono ?_
      rintro e w2 ⟨rfl, h2⟩
      clear h1
      have hr := HB.out _ _ h2
      have f0 := hr.frozen 0
      have f1 := hr.frozen 1
      have f2 := hr.frozen 2
      have f3 := hr.frozen 3
      have f4 := hr.frozen 4
      have c0 := hr.cell (i := 0) (by decide)
      have c1 := hr.cell (i := 1) (by decide)
      have c2 := hr.cell (i := 2) (by decide)
      have c3 := hr.cell (i := 3) (by decide)
      have c4 := hr.cell (i := 4) (by decide)
      have HR := Lib.hid hr
      have H1 := Lib.hid h2
      clear hr h2
      go_wp2
      have hs5 := store5 HR.out (.int .i64 4) (.string ⟨#[]⟩) (.string (bytes (l.take k))) (.slice none 0 0) (.bool false)
      have d0 : World.cell? _ ⟨w.heap.size, 0, none⟩ = some (.int .i64 4) := hs5.cell (i := 0) (by decide)
      have d1 : World.cell? _ ⟨w.heap.size, 1, none⟩ = some (.string ⟨#[]⟩) := hs5.cell (i := 1) (by decide)
      have d2 : World.cell? _ ⟨w.heap.size, 2, none⟩ = some (.string (bytes (l.take k))) := hs5.cell (i := 2) (by decide)
      have d3 : World.cell? _ ⟨w.heap.size, 3, none⟩ = some (.slice none 0 0) := hs5.cell (i := 3) (by decide)
      have d4 : World.cell? _ ⟨w.heap.size, 4, none⟩ = some (.bool false) := hs5.cell (i := 4) (by decide)
      refine bodyPost_ret (by simp [results, Tryz.results85, d0, d1, d2, d3, d4, go_sem]; try rfl) rfl ?_
      exact giveK_no 4 ⟨#[]⟩ (bytes (l.take k)) none 0 0 false HD.out ((HK.out _ _ H1.out).store5 HS.out _ _ _ _ _)
    | true =>
      have HD : Hid (commentP l = some (⟨4, ⟨#[]⟩, bytes (l.take k), [], false⟩, (l.drop (k + 2)).drop 1)) := Lib.hid (by unfold commentP; rw [hf, Option.bind_some, if_pos hs, List.drop_drop])
      have HT := Lib.hid (fun w1 (h1 : RAt n b (w.alloc zeroT) w1 (l.drop (k + 2))) => take_yes [62] h1 hs)
      clear h h0 hf hs
      go_enter Tryz.func85, Tryz.ntmps85
      go_wp2_with fail
      refine C.out.mono ?_
      rintro e w1 ⟨rfl, h1⟩
      go_wp2_with fail
      refine (HT.out _ h1).mono ?_
      rintro e w2 ⟨rfl, h2⟩
      clear h1
      have hr := HB.out _ _ h2
      have f0 := hr.frozen 0
      have f1 := hr.frozen 1
      have f2 := hr.frozen 2
      have f3 := hr.frozen 3
      have f4 := hr.frozen 4
      have c0 := hr.cell (i := 0) (by decide)
      have c1 := hr.cell (i := 1) (by decide)
      have c2 := hr.cell (i := 2) (by decide)
      have c3 := hr.cell (i := 3) (by decide)
      have c4 := hr.cell (i := 4) (by decide)
      have HR := Lib.hid hr
      have H1 := Lib.hid h2
      clear hr h2
      go_wp2
      have hs5 := store5 HR.out (.int .i64 4) (.string ⟨#[]⟩) (.string (bytes (l.take k))) (.slice none 0 0) (.bool false)
      have d0 : World.cell? _ ⟨w.heap.size, 0, none⟩ = some (.int .i64 4) := hs5.cell (i := 0) (by decide)
      have d1 : World.cell? _ ⟨w.heap.size, 1, none⟩ = some (.string ⟨#[]⟩) := hs5.cell (i := 1) (by decide)
      have d2 : World.cell? _ ⟨w.heap.size, 2, none⟩ = some (.string (bytes (l.take k))) := hs5.cell (i := 2) (by decide)
      have d3 : World.cell? _ ⟨w.heap.size, 3, none⟩ = some (.slice none 0 0) := hs5.cell (i := 3) (by decide)
      have d4 : World.cell? _ ⟨w.heap.size, 4, none⟩ = some (.bool false) := hs5.cell (i := 4) (by decide)
      refine bodyPost_ret (by simp [results, Tryz.results85, d0, d1, d2, d3, d4, go_sem]; try rfl) rfl ?_
      exact giveK_yes 4 ⟨#[]⟩ (bytes (l.take k)) false HD.out ((HK.out _ _ H1.out).store5 HS.out _ _ _ _ _)

set_option maxHeartbeats 8000000 in
set_option maxRecDepth 100000 in
theorem cdata_k (h : RAt n b w0 w l) (B : Nat) : Calls Tryz.prog 86 #[.pointer (some ⟨b, 0, none⟩)] w (GiveK n b w0 B (cdataP l)) := by
  have h0 := h.boxed
  have HS : Hid (w0.heap.size ≤ w.heap.size) := Lib.hid h.since.size
  have HB := Lib.hid (fun w' l' (h' : RAt n b (w.alloc zeroT) w' l') => h.box h')
  have HK := Lib.hid (fun w' l' (h' : RAt n b (w.alloc zeroT) w' l') => h.back h')
  have hsm := h.small
  cases hf : findL [93, 93, 62] l with
  | none =>
    have HD : Hid (cdataP l = none) := Lib.hid (by unfold cdataP; rw [hf]; rfl)
    have C := Lib.hid (upTo_no [93, 93, 62] (by decide) h0 hf)
    clear h h0 hf
    go_enter Tryz.func86, Tryz.ntmps86
    go_wp2_with fail
    refine C.out.mono ?_
    rintro e w1 ⟨rfl, h1⟩
    have hr := HB.out _ _ h1
    have f0 := hr.frozen 0
    have f1 := hr.frozen 1
    have f2 := hr.frozen 2
    have f3 := hr.frozen 3
    have f4 := hr.frozen 4
    have c0 := hr.cell (i := 0) (by decide)
    have c1 := hr.cell (i := 1) (by decide)
    have c2 := hr.cell (i := 2) (by decide)
    have c3 := hr.cell (i := 3) (by decide)
    have c4 := hr.cell (i := 4) (by decide)
    have HR := Lib.hid hr
    have H1 := Lib.hid h1
    clear hr h1
    go_wp2
    have hs5 := store5 HR.out (.int .i64 6) (.string ⟨#[]⟩) (.string (bytes l)) (.slice none 0 0) (.bool false)
    have d0 : World.cell? _ ⟨w.heap.size, 0, none⟩ = some (.int .i64 6) := hs5.cell (i := 0) (by decide)
    have d1 : World.cell? _ ⟨w.heap.size, 1, none⟩ = some (.string ⟨#[]⟩) := hs5.cell (i := 1) (by decide)
    have d2 : World.cell? _ ⟨w.heap.size, 2, none⟩ = some (.string (bytes l)) := hs5.cell (i := 2) (by decide)
    have d3 : World.cell? _ ⟨w.heap.size, 3, none⟩ = some (.slice none 0 0) := hs5.cell (i := 3) (by decide)
    have d4 : World.cell? _ ⟨w.heap.size, 4, none⟩ = some (.bool false) := hs5.cell (i := 4) (by decide)
    refine bodyPost_ret (by simp [results, Tryz.results86, d0, d1, d2, d3, d4, go_sem]; try rfl) rfl ?_
    exact giveK_no 6 ⟨#[]⟩ (bytes l) none 0 0 false HD.out ((HK.out _ _ H1.out).store5 HS.out _ _ _ _ _)
  | some k =>
    have HD : Hid (cdataP l = some (⟨6, ⟨#[]⟩, bytes (l.take k), [], false⟩, l.drop (k + 3))) := Lib.hid (by unfold cdataP; rw [hf]; rfl)
    have C := Lib.hid (upTo_yes [93, 93, 62] (by decide) h0 k hf)
    clear h h0 hf
    go_enter Tryz.func86, Tryz.ntmps86
    go_wp2_with fail
    refine C.out.mono ?_
    rintro e w1 ⟨rfl, h1⟩
    have hr := HB.out _ _ h1
    have f0 := hr.frozen 0
    have f1 := hr.frozen 1
    have f2 := hr.frozen 2
    have f3 := hr.frozen 3
    have f4 := hr.frozen 4
    have c0 := hr.cell (i := 0) (by decide)
    have c1 := hr.cell (i := 1) (by decide)
    have c2 := hr.cell (i := 2) (by decide)
    have c3 := hr.cell (i := 3) (by decide)
    have c4 := hr.cell (i := 4) (by decide)
    have HR := Lib.hid hr
    have H1 := Lib.hid h1
    clear hr h1
    go_wp2
    have hs5 := store5 HR.out (.int .i64 6) (.string ⟨#[]⟩) (.string (bytes (l.take k))) (.slice none 0 0) (.bool false)
    have d0 : World.cell? _ ⟨w.heap.size, 0, none⟩ = some (.int .i64 6) := hs5.cell (i := 0) (by decide)
    have d1 : World.cell? _ ⟨w.heap.size, 1, none⟩ = some (.string ⟨#[]⟩) := hs5.cell (i := 1) (by decide)
    have d2 : World.cell? _ ⟨w.heap.size, 2, none⟩ = some (.string (bytes (l.take k))) := hs5.cell (i := 2) (by decide)
    have d3 : World.cell? _ ⟨w.heap.size, 3, none⟩ = some (.slice none 0 0) := hs5.cell (i := 3) (by decide)
    have d4 : World.cell? _ ⟨w.heap.size, 4, none⟩ = some (.bool false) := hs5.cell (i := 4) (by decide)
    refine bodyPost_ret (by simp [results, Tryz.results86, d0, d1, d2, d3, d4, go_sem]; try rfl) rfl ?_
    exact giveK_yes 6 ⟨#[]⟩ (bytes (l.take k)) false HD.out ((HK.out _ _ H1.out).store5 HS.out _ _ _ _ _)

set_option maxHeartbeats 8000000 in
set_option maxRecDepth 100000 in
theorem char_k (h : RAt n b w0 w l) (B : Nat) : Calls Tryz.prog 90 #[.pointer (some ⟨b, 0, none⟩)] w (GiveK n b w0 B (charP l)) := by
  have h0 := h.boxed
  have HS : Hid (w0.heap.size ≤ w.heap.size) := Lib.hid h.since.size
  have HB := Lib.hid (fun w' l' (h' : RAt n b (w.alloc zeroT) w' l') => h.box h')
  have HK := Lib.hid (fun w' l' (h' : RAt n b (w.alloc zeroT) w' l') => h.back h')
  have hsm := h.small
  cases hf : findL [59] l with
  | none =>
    have HD : Hid (charP l = none) := Lib.hid (by unfold charP; rw [hf]; rfl)
    have C := Lib.hid (upTo_no [59] (by decide) h0 hf)
    have CN := Lib.hid (fun W => numbered_any l W hsm)
    unfold NumGives at CN
    obtain ⟨cv, hcv⟩ : ∃ cv, (((refV l).getD 0 : Nat) : Int) = cv := ⟨_, rfl⟩
    obtain ⟨ci, hci⟩ : ∃ ci, (refV l).isSome = ci := ⟨_, rfl⟩
    rw [hcv, hci] at CN
    clear h h0 hf hcv hci
    go_enter Tryz.func90, Tryz.ntmps90
    go_wp2_with fail
    refine C.out.mono ?_
    rintro e w1 ⟨rfl, h1⟩
    go_wp2_with fail
    refine (CN.out _).mono ?_
    rintro e w2 ⟨rfl, hb⟩
    have h2 := h1.other hb
    clear h1 hb
    have hr := HB.out _ _ h2
    have f0 := hr.frozen 0
    have f1 := hr.frozen 1
    have f2 := hr.frozen 2
    have f3 := hr.frozen 3
    have f4 := hr.frozen 4
    have c0 := hr.cell (i := 0) (by decide)
    have c1 := hr.cell (i := 1) (by decide)
    have c2 := hr.cell (i := 2) (by decide)
    have c3 := hr.cell (i := 3) (by decide)
    have c4 := hr.cell (i := 4) (by decide)
    have HR := Lib.hid hr
    have H1 := Lib.hid h2
    clear hr h2
    go_wp2
    have hs5 := store5 HR.out (.int .i64 7) (.string ⟨#[]⟩) (.string (Utf8.encode cv)) (.slice none 0 0) (.bool false)
    have d0 : World.cell? _ ⟨w.heap.size, 0, none⟩ = some (.int .i64 7) := hs5.cell (i := 0) (by decide)
    have d1 : World.cell? _ ⟨w.heap.size, 1, none⟩ = some (.string ⟨#[]⟩) := hs5.cell (i := 1) (by decide)
    have d2 : World.cell? _ ⟨w.heap.size, 2, none⟩ = some (.string (Utf8.encode cv)) := hs5.cell (i := 2) (by decide)
    have d3 : World.cell? _ ⟨w.heap.size, 3, none⟩ = some (.slice none 0 0) := hs5.cell (i := 3) (by decide)
    have d4 : World.cell? _ ⟨w.heap.size, 4, none⟩ = some (.bool false) := hs5.cell (i := 4) (by decide)
    refine bodyPost_ret (by simp [results, Tryz.results90, d0, d1, d2, d3, d4, go_sem]; try rfl) rfl ?_
    exact giveK_no 7 ⟨#[]⟩ (Utf8.encode cv) none 0 0 false HD.out ((HK.out _ _ H1.out).store5 HS.out _ _ _ _ _)
  | some k =>
    have C := Lib.hid (upTo_yes [59] (by decide) h0 k hf)
    have CN := Lib.hid (fun W => numbered_any (l.take k) W (by rw [List.length_take]; omega))
    unfold NumGives at CN
    cases hv : refV (l.take k) with
    | none =>
      have HD : Hid (charP l = none) := Lib.hid (by unfold charP; rw [hf, Option.bind_some, hv]; rfl)
      rw [hv] at CN
      replace CN : Hid (∀ W : World, Calls Tryz.prog 107 #[.string (bytes (l.take k))] W fun e w' => e = .returned (.tuple #[.int .i32 0, .bool false]) ∧ Below W.heap.size W w') := CN
      clear h h0 hf hv
      go_enter Tryz.func90, Tryz.ntmps90
      go_wp2_with fail
      refine C.out.mono ?_
      rintro e w1 ⟨rfl, h1⟩
      go_wp2_with fail
      refine (CN.out _).mono ?_
      rintro e w2 ⟨rfl, hb⟩
      have h2 := h1.other hb
      clear h1 hb
      have hr := HB.out _ _ h2
      have f0 := hr.frozen 0
      have f1 := hr.frozen 1
      have f2 := hr.frozen 2
      have f3 := hr.frozen 3
      have f4 := hr.frozen 4
      have c0 := hr.cell (i := 0) (by decide)
      have c1 := hr.cell (i := 1) (by decide)
      have c2 := hr.cell (i := 2) (by decide)
      have c3 := hr.cell (i := 3) (by decide)
      have c4 := hr.cell (i := 4) (by decide)
      have HR := Lib.hid hr
      have H1 := Lib.hid h2
      clear hr h2
      go_wp2
      have hs5 := store5 HR.out (.int .i64 7) (.string ⟨#[]⟩) (.string (Utf8.encode 0)) (.slice none 0 0) (.bool false)
      have d0 : World.cell? _ ⟨w.heap.size, 0, none⟩ = some (.int .i64 7) := hs5.cell (i := 0) (by decide)
      have d1 : World.cell? _ ⟨w.heap.size, 1, none⟩ = some (.string ⟨#[]⟩) := hs5.cell (i := 1) (by decide)
      have d2 : World.cell? _ ⟨w.heap.size, 2, none⟩ = some (.string (Utf8.encode 0)) := hs5.cell (i := 2) (by decide)
      have d3 : World.cell? _ ⟨w.heap.size, 3, none⟩ = some (.slice none 0 0) := hs5.cell (i := 3) (by decide)
      have d4 : World.cell? _ ⟨w.heap.size, 4, none⟩ = some (.bool false) := hs5.cell (i := 4) (by decide)
      refine bodyPost_ret (by simp [results, Tryz.results90, d0, d1, d2, d3, d4, go_sem]; try rfl) rfl ?_
      exact giveK_no 7 ⟨#[]⟩ (Utf8.encode 0) none 0 0 false HD.out ((HK.out _ _ H1.out).store5 HS.out _ _ _ _ _)
    | some cv =>
      have HD : Hid (charP l = some (⟨7, ⟨#[]⟩, Utf8.encode (cv : Int), [], false⟩, l.drop (k + 1))) := Lib.hid (by unfold charP; rw [hf, Option.bind_some, hv]; rfl)
      rw [hv] at CN
      replace CN : Hid (∀ W : World, Calls Tryz.prog 107 #[.string (bytes (l.take k))] W fun e w' => e = .returned (.tuple #[.int .i32 (cv : Int), .bool true]) ∧ Below W.heap.size W w') := CN
      clear h h0 hf hv
      go_enter Tryz.func90, Tryz.ntmps90
      go_wp2_with fail
      refine C.out.mono ?_
      rintro e w1 ⟨rfl, h1⟩
      go_wp2_with fail
      refine (CN.out _).mono ?_
      rintro e w2 ⟨rfl, hb⟩
      have h2 := h1.other hb
      clear h1 hb
      have hr := HB.out _ _ h2
      have f0 := hr.frozen 0
      have f1 := hr.frozen 1
      have f2 := hr.frozen 2
      have f3 := hr.frozen 3
      have f4 := hr.frozen 4
      have c0 := hr.cell (i := 0) (by decide)
      have c1 := hr.cell (i := 1) (by decide)
      have c2 := hr.cell (i := 2) (by decide)
      have c3 := hr.cell (i := 3) (by decide)
      have c4 := hr.cell (i := 4) (by decide)
      have HR := Lib.hid hr
      have H1 := Lib.hid h2
      clear hr h2
      go_wp2
      have hs5 := store5 HR.out (.int .i64 7) (.string ⟨#[]⟩) (.string (Utf8.encode (cv : Int))) (.slice none 0 0) (.bool false)
      have d0 : World.cell? _ ⟨w.heap.size, 0, none⟩ = some (.int .i64 7) := hs5.cell (i := 0) (by decide)
      have d1 : World.cell? _ ⟨w.heap.size, 1, none⟩ = some (.string ⟨#[]⟩) := hs5.cell (i := 1) (by decide)
      have d2 : World.cell? _ ⟨w.heap.size, 2, none⟩ = some (.string (Utf8.encode (cv : Int))) := hs5.cell (i := 2) (by decide)
      have d3 : World.cell? _ ⟨w.heap.size, 3, none⟩ = some (.slice none 0 0) := hs5.cell (i := 3) (by decide)
      have d4 : World.cell? _ ⟨w.heap.size, 4, none⟩ = some (.bool false) := hs5.cell (i := 4) (by decide)
      refine bodyPost_ret (by simp [results, Tryz.results90, d0, d1, d2, d3, d4, go_sem]; try rfl) rfl ?_
      exact giveK_yes 7 ⟨#[]⟩ (Utf8.encode (cv : Int)) false HD.out ((HK.out _ _ H1.out).store5 HS.out _ _ _ _ _)

set_option maxHeartbeats 8000000 in
set_option maxRecDepth 100000 in
theorem ref_k (h : RAt n b w0 w l) (B : Nat) : Calls Tryz.prog 91 #[.pointer (some ⟨b, 0, none⟩)] w (GiveK n b w0 B (refP l)) := by
  have h0 := h.boxed
  have HS : Hid (w0.heap.size ≤ w.heap.size) := Lib.hid h.since.size
  have HB := Lib.hid (fun w' l' (h' : RAt n b (w.alloc zeroT) w' l') => h.box h')
  have HK := Lib.hid (fun w' l' (h' : RAt n b (w.alloc zeroT) w' l') => h.back h')
  have hsm := h.small
  have C := Lib.hid (while_any partB _ #[] enter_part h0 (part_k _))
  have hnl : (nameT l).length ≤ 100000 := by rw [nameT_length]; have := wh_le partB l; omega
  have CN := Lib.hid (fun w1 l1 (h1 : RAt n b (w.alloc zeroT) w1 l1) => nck_any n (nameT l) w1 h1.e hnl)
  cases hnc : ncL (nameT l) with
  | false =>
    have HD : Hid (refP l = none) := Lib.hid (by unfold refP; rw [if_neg]; rintro ⟨e, _⟩; rw [hnc] at e; cases e)
    rw [hnc] at CN
    clear h h0 hnc
    go_enter Tryz.func91, Tryz.ntmps91
    go_wp2_with fail
    refine C.out.mono ?_
    rintro e w1 ⟨rfl, h1⟩
    go_wp2_with fail
    refine (CN.out _ _ h1).mono ?_
    rintro e w2 ⟨rfl, hb⟩
    have h2 := h1.other hb
    clear h1 hb
    have hr := HB.out _ _ h2
    have f0 := hr.frozen 0
    have f1 := hr.frozen 1
    have f2 := hr.frozen 2
    have f3 := hr.frozen 3
    have f4 := hr.frozen 4
    have c0 := hr.cell (i := 0) (by decide)
    have c1 := hr.cell (i := 1) (by decide)
    have c2 := hr.cell (i := 2) (by decide)
    have c3 := hr.cell (i := 3) (by decide)
    have c4 := hr.cell (i := 4) (by decide)
    have HR := Lib.hid hr
    have H1 := Lib.hid h2
    clear hr h2
    go_wp2
    have hs5 := store5 HR.out (.int .i64 8) (.string (bytes (l.take (whN partB l)))) (.string ⟨#[]⟩) (.slice none 0 0) (.bool false)
    have d0 : World.cell? _ ⟨w.heap.size, 0, none⟩ = some (.int .i64 8) := hs5.cell (i := 0) (by decide)
    have d1 : World.cell? _ ⟨w.heap.size, 1, none⟩ = some (.string (bytes (l.take (whN partB l)))) := hs5.cell (i := 1) (by decide)
    have d2 : World.cell? _ ⟨w.heap.size, 2, none⟩ = some (.string ⟨#[]⟩) := hs5.cell (i := 2) (by decide)
    have d3 : World.cell? _ ⟨w.heap.size, 3, none⟩ = some (.slice none 0 0) := hs5.cell (i := 3) (by decide)
    have d4 : World.cell? _ ⟨w.heap.size, 4, none⟩ = some (.bool false) := hs5.cell (i := 4) (by decide)
    refine bodyPost_ret (by simp [results, Tryz.results91, d0, d1, d2, d3, d4, go_sem]; try rfl) rfl ?_
    exact giveK_no 8 (bytes (l.take (whN partB l))) ⟨#[]⟩ none 0 0 false HD.out ((HK.out _ _ H1.out).store5 HS.out _ _ _ _ _)
  | true =>
    rw [hnc] at CN
    cases hs : swB [59] (l.drop (whN partB l)) with
    | false =>
      have HD : Hid (refP l = none) := Lib.hid (by unfold refP; rw [if_neg (by rintro ⟨_, e⟩; rw [hs] at e; cases e)])
      have HT := Lib.hid (fun w1 (h1 : RAt n b (w.alloc zeroT) w1 (l.drop (whN partB l))) => take_no [59] h1 hs)
      clear h h0 hnc hs
      go_enter Tryz.func91, Tryz.ntmps91
      go_wp2_with fail
      refine C.out.mono ?_
      rintro e w1 ⟨rfl, h1⟩
      go_wp2_with fail
      refine (CN.out _ _ h1).mono ?_
      rintro e w2 ⟨rfl, hb⟩
      have h2 := h1.other hb
      clear h1 hb
      go_wp2_with fail
      refine (HT.out _ h2).mono ?_
      rintro e w3 ⟨rfl, h3⟩
      clear h2
      have hr := HB.out _ _ h3
      have f0 := hr.frozen 0
      have f1 := hr.frozen 1
      have f2 := hr.frozen 2
      have f3 := hr.frozen 3
      have f4 := hr.frozen 4
      have c0 := hr.cell (i := 0) (by decide)
      have c1 := hr.cell (i := 1) (by decide)
      have c2 := hr.cell (i := 2) (by decide)
      have c3 := hr.cell (i := 3) (by decide)
      have c4 := hr.cell (i := 4) (by decide)
      have HR := Lib.hid hr
      have H1 := Lib.hid h3
      clear hr h3
      go_wp2
      have hs5 := store5 HR.out (.int .i64 8) (.string (bytes (l.take (whN partB l)))) (.string ⟨#[]⟩) (.slice none 0 0) (.bool false)
      have d0 : World.cell? _ ⟨w.heap.size, 0, none⟩ = some (.int .i64 8) := hs5.cell (i := 0) (by decide)
      have d1 : World.cell? _ ⟨w.heap.size, 1, none⟩ = some (.string (bytes (l.take (whN partB l)))) := hs5.cell (i := 1) (by decide)
      have d2 : World.cell? _ ⟨w.heap.size, 2, none⟩ = some (.string ⟨#[]⟩) := hs5.cell (i := 2) (by decide)
      have d3 : World.cell? _ ⟨w.heap.size, 3, none⟩ = some (.slice none 0 0) := hs5.cell (i := 3) (by decide)
      have d4 : World.cell? _ ⟨w.heap.size, 4, none⟩ = some (.bool false) := hs5.cell (i := 4) (by decide)
      refine bodyPost_ret (by simp [results, Tryz.results91, d0, d1, d2, d3, d4, go_sem]; try rfl) rfl ?_
      exact giveK_no 8 (bytes (l.take (whN partB l))) ⟨#[]⟩ none 0 0 false HD.out ((HK.out _ _ H1.out).store5 HS.out _ _ _ _ _)
    | true =>
      have HD : Hid (refP l = some (⟨8, bytes (l.take (whN partB l)), ⟨#[]⟩, [], false⟩, (l.drop (whN partB l)).drop 1)) := Lib.hid (by unfold refP; rw [if_pos ⟨hnc, hs⟩]; rfl)
      have HT := Lib.hid (fun w1 (h1 : RAt n b (w.alloc zeroT) w1 (l.drop (whN partB l))) => take_yes [59] h1 hs)
      clear h h0 hnc hs
      go_enter Tryz.func91, Tryz.ntmps91
      go_wp2_with fail
      refine C.out.mono ?_
      rintro e w1 ⟨rfl, h1⟩
      go_wp2_with fail
      refine (CN.out _ _ h1).mono ?_
      rintro e w2 ⟨rfl, hb⟩
      have h2 := h1.other hb
      clear h1 hb
      go_wp2_with fail
      refine (HT.out _ h2).mono ?_
      rintro e w3 ⟨rfl, h3⟩
      clear h2
      have hr := HB.out _ _ h3
      have f0 := hr.frozen 0
      have f1 := hr.frozen 1
      have f2 := hr.frozen 2
      have f3 := hr.frozen 3
      have f4 := hr.frozen 4
      have c0 := hr.cell (i := 0) (by decide)
      have c1 := hr.cell (i := 1) (by decide)
      have c2 := hr.cell (i := 2) (by decide)
      have c3 := hr.cell (i := 3) (by decide)
      have c4 := hr.cell (i := 4) (by decide)
      have HR := Lib.hid hr
      have H1 := Lib.hid h3
      clear hr h3
      go_wp2
      have hs5 := store5 HR.out (.int .i64 8) (.string (bytes (l.take (whN partB l)))) (.string ⟨#[]⟩) (.slice none 0 0) (.bool false)
      have d0 : World.cell? _ ⟨w.heap.size, 0, none⟩ = some (.int .i64 8) := hs5.cell (i := 0) (by decide)
      have d1 : World.cell? _ ⟨w.heap.size, 1, none⟩ = some (.string (bytes (l.take (whN partB l)))) := hs5.cell (i := 1) (by decide)
      have d2 : World.cell? _ ⟨w.heap.size, 2, none⟩ = some (.string ⟨#[]⟩) := hs5.cell (i := 2) (by decide)
      have d3 : World.cell? _ ⟨w.heap.size, 3, none⟩ = some (.slice none 0 0) := hs5.cell (i := 3) (by decide)
      have d4 : World.cell? _ ⟨w.heap.size, 4, none⟩ = some (.bool false) := hs5.cell (i := 4) (by decide)
      refine bodyPost_ret (by simp [results, Tryz.results91, d0, d1, d2, d3, d4, go_sem]; try rfl) rfl ?_
      exact giveK_yes 8 (bytes (l.take (whN partB l))) ⟨#[]⟩ false HD.out ((HK.out _ _ H1.out).store5 HS.out _ _ _ _ _)

set_option maxHeartbeats 8000000 in
set_option maxRecDepth 100000 in
theorem text_k (h : RAt n b w0 w l) (B : Nat) : Calls Tryz.prog 92 #[.pointer (some ⟨b, 0, none⟩)] w (GiveK n b w0 B (plainP l)) := by
  have h0 := h.boxed
  have HS : Hid (w0.heap.size ≤ w.heap.size) := Lib.hid h.since.size
  have HB := Lib.hid (fun w' l' (h' : RAt n b (w.alloc zeroT) w' l') => h.box h')
  have HK := Lib.hid (fun w' l' (h' : RAt n b (w.alloc zeroT) w' l') => h.back h')
  have hsm := h.small
  have C := Lib.hid (while_any textP _ #[] enter_textP h0 (textP_k _))
  rw [wh_text] at C
  have CN := Lib.hid (fun w1 l1 (h1 : RAt n b (w.alloc zeroT) w1 l1) => contains_k h1 (l.take (plainN l)) [93, 93, 62] (by rw [List.length_take]; omega))
  cases hf : findL [93, 93, 62] (l.take (plainN l)) with
  | none =>
    have HD : Hid (plainP l = some (⟨1, ⟨#[]⟩, bytes (l.take (plainN l)), [], false⟩, l.drop (plainN l))) := Lib.hid (by unfold plainP; rw [if_pos hf])
    have hcn : Lib.contains (l.take (plainN l)) [93, 93, 62] = false := by rw [contains_find (by decide), hf]; rfl
    rw [hcn] at CN
    clear h h0 hf hcn
    go_enter Tryz.func92, Tryz.ntmps92
    go_wp2_with fail
    refine C.out.mono ?_
    rintro e w1 ⟨rfl, h1⟩
    go_wp2_with fail
    refine (CN.out _ _ h1).mono ?_
    rintro e w2 ⟨rfl, rfl⟩
    have hr := HB.out _ _ h1
    have f0 := hr.frozen 0
    have f1 := hr.frozen 1
    have f2 := hr.frozen 2
    have f3 := hr.frozen 3
    have f4 := hr.frozen 4
    have c0 := hr.cell (i := 0) (by decide)
    have c1 := hr.cell (i := 1) (by decide)
    have c2 := hr.cell (i := 2) (by decide)
    have c3 := hr.cell (i := 3) (by decide)
    have c4 := hr.cell (i := 4) (by decide)
    have HR := Lib.hid hr
    have H1 := Lib.hid h1
    clear hr h1
    go_wp2
    have hs5 := store5 HR.out (.int .i64 1) (.string ⟨#[]⟩) (.string (bytes (l.take (plainN l)))) (.slice none 0 0) (.bool false)
    have d0 : World.cell? _ ⟨w.heap.size, 0, none⟩ = some (.int .i64 1) := hs5.cell (i := 0) (by decide)
    have d1 : World.cell? _ ⟨w.heap.size, 1, none⟩ = some (.string ⟨#[]⟩) := hs5.cell (i := 1) (by decide)
    have d2 : World.cell? _ ⟨w.heap.size, 2, none⟩ = some (.string (bytes (l.take (plainN l)))) := hs5.cell (i := 2) (by decide)
    have d3 : World.cell? _ ⟨w.heap.size, 3, none⟩ = some (.slice none 0 0) := hs5.cell (i := 3) (by decide)
    have d4 : World.cell? _ ⟨w.heap.size, 4, none⟩ = some (.bool false) := hs5.cell (i := 4) (by decide)
    refine bodyPost_ret (by simp [results, Tryz.results92, d0, d1, d2, d3, d4, go_sem]; try rfl) rfl ?_
    exact giveK_yes 1 ⟨#[]⟩ (bytes (l.take (plainN l))) false HD.out ((HK.out _ _ H1.out).store5 HS.out _ _ _ _ _)
  | some k =>
    have HD : Hid (plainP l = none) := Lib.hid (by unfold plainP; rw [if_neg (by rw [hf]; exact fun e => by cases e)])
    have hcn : Lib.contains (l.take (plainN l)) [93, 93, 62] = true := by rw [contains_find (by decide), hf]; rfl
    rw [hcn] at CN
    clear h h0 hf hcn
    go_enter Tryz.func92, Tryz.ntmps92
    go_wp2_with fail
    refine C.out.mono ?_
    rintro e w1 ⟨rfl, h1⟩
    go_wp2_with fail
    refine (CN.out _ _ h1).mono ?_
    rintro e w2 ⟨rfl, rfl⟩
    have hr := HB.out _ _ h1
    have f0 := hr.frozen 0
    have f1 := hr.frozen 1
    have f2 := hr.frozen 2
    have f3 := hr.frozen 3
    have f4 := hr.frozen 4
    have c0 := hr.cell (i := 0) (by decide)
    have c1 := hr.cell (i := 1) (by decide)
    have c2 := hr.cell (i := 2) (by decide)
    have c3 := hr.cell (i := 3) (by decide)
    have c4 := hr.cell (i := 4) (by decide)
    have HR := Lib.hid hr
    have H1 := Lib.hid h1
    clear hr h1
    go_wp2
    have hs5 := store5 HR.out (.int .i64 1) (.string ⟨#[]⟩) (.string (bytes (l.take (plainN l)))) (.slice none 0 0) (.bool false)
    have d0 : World.cell? _ ⟨w.heap.size, 0, none⟩ = some (.int .i64 1) := hs5.cell (i := 0) (by decide)
    have d1 : World.cell? _ ⟨w.heap.size, 1, none⟩ = some (.string ⟨#[]⟩) := hs5.cell (i := 1) (by decide)
    have d2 : World.cell? _ ⟨w.heap.size, 2, none⟩ = some (.string (bytes (l.take (plainN l)))) := hs5.cell (i := 2) (by decide)
    have d3 : World.cell? _ ⟨w.heap.size, 3, none⟩ = some (.slice none 0 0) := hs5.cell (i := 3) (by decide)
    have d4 : World.cell? _ ⟨w.heap.size, 4, none⟩ = some (.bool false) := hs5.cell (i := 4) (by decide)
    refine bodyPost_ret (by simp [results, Tryz.results92, d0, d1, d2, d3, d4, go_sem]; try rfl) rfl ?_
    exact giveK_no 1 ⟨#[]⟩ (bytes (l.take (plainN l))) none 0 0 false HD.out ((HK.out _ _ H1.out).store5 HS.out _ _ _ _ _)

set_option maxHeartbeats 8000000 in
set_option maxRecDepth 100000 in
theorem end_k (h : RAt n b w0 w l) (B : Nat) : Calls Tryz.prog 88 #[.pointer (some ⟨b, 0, none⟩)] w (GiveK n b w0 B (endP l)) := by
  have h0 := h.boxed
  have HS : Hid (w0.heap.size ≤ w.heap.size) := Lib.hid h.since.size
  have HB := Lib.hid (fun w' l' (h' : RAt n b (w.alloc zeroT) w' l') => h.box h')
  have HK := Lib.hid (fun w' l' (h' : RAt n b (w.alloc zeroT) w' l') => h.back h')
  have hsm := h.small
  have C := Lib.hid (name_take h0)
  have CS := Lib.hid (fun w1 (h1 : RAt n b (w.alloc zeroT) w1 (l.drop (whN partB l))) => space_take h1)
  generalize hgz : decide (gapL (l.drop (whN partB l)) ≠ 0) = gz at CS
  cases hnm : isName (nameT l) with
  | false =>
    have HD : Hid (endP l = none) := Lib.hid (by unfold endP; simp only; rw [if_neg]; rintro ⟨e, _⟩; rw [hnm] at e; cases e)
    rw [hnm] at C
    clear h h0 hnm hgz
    go_enter Tryz.func88, Tryz.ntmps88
    go_wp2_with fail
    refine C.out.mono ?_
    rintro e w1 ⟨rfl, h1⟩
    go_wp2_with fail
    refine (CS.out _ h1).mono ?_
    rintro e w2 ⟨rfl, h2⟩
    clear h1
    have hr := HB.out _ _ h2
    have f0 := hr.frozen 0
    have f1 := hr.frozen 1
    have f2 := hr.frozen 2
    have f3 := hr.frozen 3
    have f4 := hr.frozen 4
    have c0 := hr.cell (i := 0) (by decide)
    have c1 := hr.cell (i := 1) (by decide)
    have c2 := hr.cell (i := 2) (by decide)
    have c3 := hr.cell (i := 3) (by decide)
    have c4 := hr.cell (i := 4) (by decide)
    have HR := Lib.hid hr
    have H1 := Lib.hid h2
    clear hr h2
    go_wp2
    have hs5 := store5 HR.out (.int .i64 3) (.string (bytes (nameT l))) (.string ⟨#[]⟩) (.slice none 0 0) (.bool false)
    have d0 : World.cell? _ ⟨w.heap.size, 0, none⟩ = some (.int .i64 3) := hs5.cell (i := 0) (by decide)
    have d1 : World.cell? _ ⟨w.heap.size, 1, none⟩ = some (.string (bytes (nameT l))) := hs5.cell (i := 1) (by decide)
    have d2 : World.cell? _ ⟨w.heap.size, 2, none⟩ = some (.string ⟨#[]⟩) := hs5.cell (i := 2) (by decide)
    have d3 : World.cell? _ ⟨w.heap.size, 3, none⟩ = some (.slice none 0 0) := hs5.cell (i := 3) (by decide)
    have d4 : World.cell? _ ⟨w.heap.size, 4, none⟩ = some (.bool false) := hs5.cell (i := 4) (by decide)
    refine bodyPost_ret (by simp [results, Tryz.results88, d0, d1, d2, d3, d4, go_sem]; try rfl) rfl ?_
    exact giveK_no 3 (bytes (nameT l)) ⟨#[]⟩ none 0 0 false HD.out ((HK.out _ _ H1.out).store5 HS.out _ _ _ _ _)
  | true =>
    rw [hnm] at C
    cases hs : swB [62] ((l.drop (whN partB l)).drop (gapL (l.drop (whN partB l)))) with
    | false =>
      have HD : Hid (endP l = none) := Lib.hid (by unfold endP; simp only; rw [if_neg (by rintro ⟨_, e⟩; rw [hs] at e; cases e)])
      have HT := Lib.hid (fun w1 (h1 : RAt n b (w.alloc zeroT) w1 ((l.drop (whN partB l)).drop (gapL (l.drop (whN partB l))))) => take_no [62] h1 hs)
      clear h h0 hnm hs hgz
      go_enter Tryz.func88, Tryz.ntmps88
      go_wp2_with fail
      refine C.out.mono ?_
      rintro e w1 ⟨rfl, h1⟩
      go_wp2_with fail
      refine (CS.out _ h1).mono ?_
      rintro e w2 ⟨rfl, h2⟩
      clear h1
      go_wp2_with fail
      refine (HT.out _ h2).mono ?_
      rintro e w3 ⟨rfl, h3⟩
      clear h2
      have hr := HB.out _ _ h3
      have f0 := hr.frozen 0
      have f1 := hr.frozen 1
      have f2 := hr.frozen 2
      have f3 := hr.frozen 3
      have f4 := hr.frozen 4
      have c0 := hr.cell (i := 0) (by decide)
      have c1 := hr.cell (i := 1) (by decide)
      have c2 := hr.cell (i := 2) (by decide)
      have c3 := hr.cell (i := 3) (by decide)
      have c4 := hr.cell (i := 4) (by decide)
      have HR := Lib.hid hr
      have H1 := Lib.hid h3
      clear hr h3
      go_wp2
      have hs5 := store5 HR.out (.int .i64 3) (.string (bytes (nameT l))) (.string ⟨#[]⟩) (.slice none 0 0) (.bool false)
      have d0 : World.cell? _ ⟨w.heap.size, 0, none⟩ = some (.int .i64 3) := hs5.cell (i := 0) (by decide)
      have d1 : World.cell? _ ⟨w.heap.size, 1, none⟩ = some (.string (bytes (nameT l))) := hs5.cell (i := 1) (by decide)
      have d2 : World.cell? _ ⟨w.heap.size, 2, none⟩ = some (.string ⟨#[]⟩) := hs5.cell (i := 2) (by decide)
      have d3 : World.cell? _ ⟨w.heap.size, 3, none⟩ = some (.slice none 0 0) := hs5.cell (i := 3) (by decide)
      have d4 : World.cell? _ ⟨w.heap.size, 4, none⟩ = some (.bool false) := hs5.cell (i := 4) (by decide)
      refine bodyPost_ret (by simp [results, Tryz.results88, d0, d1, d2, d3, d4, go_sem]; try rfl) rfl ?_
      exact giveK_no 3 (bytes (nameT l)) ⟨#[]⟩ none 0 0 false HD.out ((HK.out _ _ H1.out).store5 HS.out _ _ _ _ _)
    | true =>
      have HD : Hid (endP l = some (⟨3, bytes (nameT l), ⟨#[]⟩, [], false⟩, ((l.drop (whN partB l)).drop (gapL (l.drop (whN partB l)))).drop 1)) := Lib.hid (by unfold endP; simp only; rw [if_pos ⟨hnm, hs⟩])
      have HT := Lib.hid (fun w1 (h1 : RAt n b (w.alloc zeroT) w1 ((l.drop (whN partB l)).drop (gapL (l.drop (whN partB l))))) => take_yes [62] h1 hs)
      clear h h0 hnm hs hgz
      go_enter Tryz.func88, Tryz.ntmps88
      go_wp2_with fail
      refine C.out.mono ?_
      rintro e w1 ⟨rfl, h1⟩
      go_wp2_with fail
      refine (CS.out _ h1).mono ?_
      rintro e w2 ⟨rfl, h2⟩
      clear h1
      go_wp2_with fail
      refine (HT.out _ h2).mono ?_
      rintro e w3 ⟨rfl, h3⟩
      clear h2
      have hr := HB.out _ _ h3
      have f0 := hr.frozen 0
      have f1 := hr.frozen 1
      have f2 := hr.frozen 2
      have f3 := hr.frozen 3
      have f4 := hr.frozen 4
      have c0 := hr.cell (i := 0) (by decide)
      have c1 := hr.cell (i := 1) (by decide)
      have c2 := hr.cell (i := 2) (by decide)
      have c3 := hr.cell (i := 3) (by decide)
      have c4 := hr.cell (i := 4) (by decide)
      have HR := Lib.hid hr
      have H1 := Lib.hid h3
      clear hr h3
      go_wp2
      have hs5 := store5 HR.out (.int .i64 3) (.string (bytes (nameT l))) (.string ⟨#[]⟩) (.slice none 0 0) (.bool false)
      have d0 : World.cell? _ ⟨w.heap.size, 0, none⟩ = some (.int .i64 3) := hs5.cell (i := 0) (by decide)
      have d1 : World.cell? _ ⟨w.heap.size, 1, none⟩ = some (.string (bytes (nameT l))) := hs5.cell (i := 1) (by decide)
      have d2 : World.cell? _ ⟨w.heap.size, 2, none⟩ = some (.string ⟨#[]⟩) := hs5.cell (i := 2) (by decide)
      have d3 : World.cell? _ ⟨w.heap.size, 3, none⟩ = some (.slice none 0 0) := hs5.cell (i := 3) (by decide)
      have d4 : World.cell? _ ⟨w.heap.size, 4, none⟩ = some (.bool false) := hs5.cell (i := 4) (by decide)
      refine bodyPost_ret (by simp [results, Tryz.results88, d0, d1, d2, d3, d4, go_sem]; try rfl) rfl ?_
      exact giveK_yes 3 (bytes (nameT l)) ⟨#[]⟩ false HD.out ((HK.out _ _ H1.out).store5 HS.out _ _ _ _ _)

set_option maxHeartbeats 8000000 in
set_option maxRecDepth 100000 in
theorem pi_k (h : RAt n b w0 w l) (B : Nat) : Calls Tryz.prog 87 #[.pointer (some ⟨b, 0, none⟩)] w (GiveK n b w0 B (piP l)) := by
  have h0 := h.boxed
  have HS : Hid (w0.heap.size ≤ w.heap.size) := Lib.hid h.since.size
  have HB := Lib.hid (fun w' l' (h' : RAt n b (w.alloc zeroT) w' l') => h.box h')
  have HK := Lib.hid (fun w' l' (h' : RAt n b (w.alloc zeroT) w' l') => h.back h')
  have hsm := h.small
  have C := Lib.hid (while_any partB _ #[] enter_part h0 (part_k _))
  have hnl : (nameT l).length ≤ 100000 := by rw [nameT_length]; have := wh_le partB l; omega
  have HNL := Lib.hid hnl
  have HN : Hid (nameT l = l.take (whN partB l)) := Lib.hid rfl
  have hnb : n ≤ b := h.nb
  rw [← HN.out] at C
  obtain ⟨tg, htg⟩ : ∃ tg, targetL (nameT l) = tg := ⟨_, rfl⟩
  have HTG := Lib.hid htg
  have HP : Hid (piP l = if targetL (nameT l) = true then (if swB [63, 62] (l.drop (whN partB l)) = true then some (⟨5, bytes (nameT l), ⟨#[]⟩, [], false⟩, (l.drop (whN partB l)).drop 2) else if gapL (l.drop (whN partB l)) = 0 then none else (findL [63, 62] ((l.drop (whN partB l)).drop (gapL (l.drop (whN partB l))))).bind fun k => some (⟨5, bytes (nameT l), bytes (((l.drop (whN partB l)).drop (gapL (l.drop (whN partB l)))).take k), [], false⟩, ((l.drop (whN partB l)).drop (gapL (l.drop (whN partB l)))).drop (k + 2))) else none) := Lib.hid rfl
  generalize hL : l.drop (whN partB l) = L at *
  clear h h0 hnl hL
  go_enter Tryz.func87, Tryz.ntmps87
  go_wp2_with fail
  refine C.out.mono ?_
  rintro e w1 ⟨rfl, h1⟩
  have hrow := HB.out _ _ h1
  have hK1 := HK.out _ _ h1
  have HKS : Hid (w0.heap.size ≤ w1.heap.size) := Lib.hid hK1.since.size
  have HLT : Hid (w.heap.size < w1.heap.size) := Lib.hid hrow.lt
  have hbH : w.heap.size ≠ b := by have := h1.b0; have := hK1.b0; have := HS.out; omega
  have hW := (h1.alloc (piT (nameT l))).start
  have HB2 : Hid (∀ w' l', RAt n b (w1.alloc (piT (nameT l))) w' l' → w'.rowIs w.heap.size 90 5 zero5 ∧ w'.rowIs w1.heap.size 90 5 (pi5 (nameT l))) := Lib.hid (fun w' l' h' =>
    ⟨(hrow.alloc _).of_block (h'.since.block _ (hrow.alloc (piT (nameT l))).lt hbH), (piT_row w1 (nameT l)).of_block (h'.since.block _ (piT_row w1 (nameT l)).lt (by have := h1.rd.lt; omega))⟩)
  have HK2 : Hid (∀ w' l', RAt n b (w1.alloc (piT (nameT l))) w' l' → RAt n b w0 w' l') := Lib.hid (fun w' l' h' => hK1.from ((hK1.start.alloc _).from h'))
  have HX : Hid (∀ w' l', RAt n b (w1.alloc (piT (nameT l))) w' l' → n ≤ w'.heap.size) := Lib.hid (fun w' l' h' => by have := h'.nb; have := h'.rd.lt; omega)
  clear hrow hK1 h1 hbH hnb
  have hr := (HB2.out _ _ hW).1
  have hk := (HB2.out _ _ hW).2
  have f0 := hr.frozen 0
  have f1 := hr.frozen 1
  have f2 := hr.frozen 2
  have f3 := hr.frozen 3
  have f4 := hr.frozen 4
  have c0 := hr.cell (i := 0) (by decide)
  have c1 := hr.cell (i := 1) (by decide)
  have c2 := hr.cell (i := 2) (by decide)
  have c3 := hr.cell (i := 3) (by decide)
  have c4 := hr.cell (i := 4) (by decide)
  have kf2 := hk.frozen 2
  have k0 : World.cell? _ ⟨w1.heap.size, 0, none⟩ = some (.int .i64 5) := hk.cell (i := 0) (by decide)
  have k1 : World.cell? _ ⟨w1.heap.size, 1, none⟩ = some (.string (bytes (nameT l))) := hk.cell (i := 1) (by decide)
  have k2 : World.cell? _ ⟨w1.heap.size, 2, none⟩ = some (.string ⟨#[]⟩) := hk.cell (i := 2) (by decide)
  have k3 : World.cell? _ ⟨w1.heap.size, 3, none⟩ = some (.slice none 0 0) := hk.cell (i := 3) (by decide)
  have k4 : World.cell? _ ⟨w1.heap.size, 4, none⟩ = some (.bool false) := hk.cell (i := 4) (by decide)
  have HW := Lib.hid hW
  clear hr hk hW
  go_wp2_with fail
  refine (target_any n (nameT l) _ HW.out.e (HX.out _ _ HW.out) HNL.out).mono ?_
  rintro e w2 ⟨rfl, hb⟩
  have h2 := HW.out.other hb
  clear hb k0 k1 k2 k3 k4 kf2 c0 c1 c2 c3 c4 f0 f1 f2 f3 f4
  have hr := (HB2.out _ _ h2).1
  have hk := (HB2.out _ _ h2).2
  have f0 := hr.frozen 0
  have f1 := hr.frozen 1
  have f2 := hr.frozen 2
  have f3 := hr.frozen 3
  have f4 := hr.frozen 4
  have c0 := hr.cell (i := 0) (by decide)
  have c1 := hr.cell (i := 1) (by decide)
  have c2 := hr.cell (i := 2) (by decide)
  have c3 := hr.cell (i := 3) (by decide)
  have c4 := hr.cell (i := 4) (by decide)
  have kf2 := hk.frozen 2
  have k0 : World.cell? _ ⟨w1.heap.size, 0, none⟩ = some (.int .i64 5) := hk.cell (i := 0) (by decide)
  have k1 : World.cell? _ ⟨w1.heap.size, 1, none⟩ = some (.string (bytes (nameT l))) := hk.cell (i := 1) (by decide)
  have k2 : World.cell? _ ⟨w1.heap.size, 2, none⟩ = some (.string ⟨#[]⟩) := hk.cell (i := 2) (by decide)
  have k3 : World.cell? _ ⟨w1.heap.size, 3, none⟩ = some (.slice none 0 0) := hk.cell (i := 3) (by decide)
  have k4 : World.cell? _ ⟨w1.heap.size, 4, none⟩ = some (.bool false) := hk.cell (i := 4) (by decide)
  rw [HTG.out]
  cases tg with
  | false =>
    have HD : Hid (piP l = none) := Lib.hid (by rw [HP.out, HTG.out]; rfl)
    have HR := Lib.hid hr
    have HKR := Lib.hid hk
    have H1 := Lib.hid h2
    clear hr hk h2
    go_wp2
    have hs5 := store5 HR.out (.int .i64 5) (.string (bytes (nameT l))) (.string ⟨#[]⟩) (.slice none 0 0) (.bool false)
    have d0 : World.cell? _ ⟨w.heap.size, 0, none⟩ = some (.int .i64 5) := hs5.cell (i := 0) (by decide)
    have d1 : World.cell? _ ⟨w.heap.size, 1, none⟩ = some (.string (bytes (nameT l))) := hs5.cell (i := 1) (by decide)
    have d2 : World.cell? _ ⟨w.heap.size, 2, none⟩ = some (.string ⟨#[]⟩) := hs5.cell (i := 2) (by decide)
    have d3 : World.cell? _ ⟨w.heap.size, 3, none⟩ = some (.slice none 0 0) := hs5.cell (i := 3) (by decide)
    have d4 : World.cell? _ ⟨w.heap.size, 4, none⟩ = some (.bool false) := hs5.cell (i := 4) (by decide)
    refine bodyPost_ret (by simp [results, Tryz.results87, d0, d1, d2, d3, d4, go_sem]; try rfl) rfl ?_
    exact giveK_no 5 (bytes (nameT l)) ⟨#[]⟩ none 0 0 false HD.out ((HK2.out _ _ H1.out).store5 HS.out _ _ _ _ _)
  | true =>
    rw [HTG.out] at HP
    cases hs : swB [63, 62] L with
    | true =>
      have HD : Hid (piP l = some (⟨5, bytes (nameT l), ⟨#[]⟩, [], false⟩, L.drop 2)) := Lib.hid (by rw [HP.out, if_pos rfl, if_pos hs])
      have CT := Lib.hid (take_yes [63, 62] h2 hs)
      clear hr hk h2 hs k0 k1 k2 k3 k4 kf2 c0 c1 c2 c3 c4 f0 f1 f2 f3 f4
      go_wp2_with fail
      refine CT.out.mono ?_
      rintro e w3 ⟨rfl, h3⟩
      have hr := (HB2.out _ _ h3).1
      have hk := (HB2.out _ _ h3).2
      have f0 := hr.frozen 0
      have f1 := hr.frozen 1
      have f2 := hr.frozen 2
      have f3 := hr.frozen 3
      have f4 := hr.frozen 4
      have c0 := hr.cell (i := 0) (by decide)
      have c1 := hr.cell (i := 1) (by decide)
      have c2 := hr.cell (i := 2) (by decide)
      have c3 := hr.cell (i := 3) (by decide)
      have c4 := hr.cell (i := 4) (by decide)
      have kf2 := hk.frozen 2
      have k0 : World.cell? _ ⟨w1.heap.size, 0, none⟩ = some (.int .i64 5) := hk.cell (i := 0) (by decide)
      have k1 : World.cell? _ ⟨w1.heap.size, 1, none⟩ = some (.string (bytes (nameT l))) := hk.cell (i := 1) (by decide)
      have k2 : World.cell? _ ⟨w1.heap.size, 2, none⟩ = some (.string ⟨#[]⟩) := hk.cell (i := 2) (by decide)
      have k3 : World.cell? _ ⟨w1.heap.size, 3, none⟩ = some (.slice none 0 0) := hk.cell (i := 3) (by decide)
      have k4 : World.cell? _ ⟨w1.heap.size, 4, none⟩ = some (.bool false) := hk.cell (i := 4) (by decide)
      have HR := Lib.hid hr
      have HKR := Lib.hid hk
      have H1 := Lib.hid h3
      clear hr hk h3
      go_wp2
      have hs5 := store5 HR.out (.int .i64 5) (.string (bytes (nameT l))) (.string ⟨#[]⟩) (.slice none 0 0) (.bool false)
      have d0 : World.cell? _ ⟨w.heap.size, 0, none⟩ = some (.int .i64 5) := hs5.cell (i := 0) (by decide)
      have d1 : World.cell? _ ⟨w.heap.size, 1, none⟩ = some (.string (bytes (nameT l))) := hs5.cell (i := 1) (by decide)
      have d2 : World.cell? _ ⟨w.heap.size, 2, none⟩ = some (.string ⟨#[]⟩) := hs5.cell (i := 2) (by decide)
      have d3 : World.cell? _ ⟨w.heap.size, 3, none⟩ = some (.slice none 0 0) := hs5.cell (i := 3) (by decide)
      have d4 : World.cell? _ ⟨w.heap.size, 4, none⟩ = some (.bool false) := hs5.cell (i := 4) (by decide)
      refine bodyPost_ret (by simp [results, Tryz.results87, d0, d1, d2, d3, d4, go_sem]; try rfl) rfl ?_
      exact giveK_yes 5 (bytes (nameT l)) ⟨#[]⟩ false HD.out ((HK2.out _ _ H1.out).store5 HS.out _ _ _ _ _)
    | false =>
      have CT := Lib.hid (take_no [63, 62] h2 hs)
      rw [if_pos rfl, if_neg (show ¬ swB [63, 62] L = true by rw [hs]; decide)] at HP
      clear hr hk h2 hs k0 k1 k2 k3 k4 kf2 c0 c1 c2 c3 c4 f0 f1 f2 f3 f4
      go_wp2_with fail
      refine CT.out.mono ?_
      rintro e w3 ⟨rfl, h3⟩
      have CS := Lib.hid (space_take h3)
      obtain ⟨gz, hgz⟩ : ∃ gz, decide (gapL L ≠ 0) = gz := ⟨_, rfl⟩
      rw [hgz] at CS
      have HGZ := Lib.hid hgz
      clear h3 hgz
      go_wp2_with fail
      refine CS.out.mono ?_
      rintro e w4 ⟨rfl, h4⟩
      cases hf : findL [63, 62] (L.drop (gapL L)) with
      | none =>
        have HD : Hid (piP l = none) := Lib.hid (by rw [HP.out, hf]; split <;> rfl)
        have CU := Lib.hid (upTo_no [63, 62] (by decide) h4 hf)
        clear h4 hf
        go_wp2_with fail
        refine CU.out.mono ?_
        rintro e w5 ⟨rfl, h5⟩
        have hr := (HB2.out _ _ h5).1
        have hk := (HB2.out _ _ h5).2
        have f0 := hr.frozen 0
        have f1 := hr.frozen 1
        have f2 := hr.frozen 2
        have f3 := hr.frozen 3
        have f4 := hr.frozen 4
        have c0 := hr.cell (i := 0) (by decide)
        have c1 := hr.cell (i := 1) (by decide)
        have c2 := hr.cell (i := 2) (by decide)
        have c3 := hr.cell (i := 3) (by decide)
        have c4 := hr.cell (i := 4) (by decide)
        have kf2 := hk.frozen 2
        have k0 : World.cell? _ ⟨w1.heap.size, 0, none⟩ = some (.int .i64 5) := hk.cell (i := 0) (by decide)
        have k1 : World.cell? _ ⟨w1.heap.size, 1, none⟩ = some (.string (bytes (nameT l))) := hk.cell (i := 1) (by decide)
        have k2 : World.cell? _ ⟨w1.heap.size, 2, none⟩ = some (.string ⟨#[]⟩) := hk.cell (i := 2) (by decide)
        have k3 : World.cell? _ ⟨w1.heap.size, 3, none⟩ = some (.slice none 0 0) := hk.cell (i := 3) (by decide)
        have k4 : World.cell? _ ⟨w1.heap.size, 4, none⟩ = some (.bool false) := hk.cell (i := 4) (by decide)
        have hk2 := hk.set 2 (.string (bytes (L.drop (gapL L))))
        have m0 : (w5.setCell ⟨w1.heap.size, 2, none⟩ (.string (bytes (L.drop (gapL L))))).cell? ⟨w1.heap.size, 0, none⟩ = some (.int .i64 5) := hk2.cell (i := 0) (by decide)
        have m1 : (w5.setCell ⟨w1.heap.size, 2, none⟩ (.string (bytes (L.drop (gapL L))))).cell? ⟨w1.heap.size, 1, none⟩ = some (.string (bytes (nameT l))) := hk2.cell (i := 1) (by decide)
        have m2 : (w5.setCell ⟨w1.heap.size, 2, none⟩ (.string (bytes (L.drop (gapL L))))).cell? ⟨w1.heap.size, 2, none⟩ = some (.string (bytes (L.drop (gapL L)))) := hk2.cell (i := 2) (by decide)
        have m3 : (w5.setCell ⟨w1.heap.size, 2, none⟩ (.string (bytes (L.drop (gapL L))))).cell? ⟨w1.heap.size, 3, none⟩ = some (.slice none 0 0) := hk2.cell (i := 3) (by decide)
        have m4 : (w5.setCell ⟨w1.heap.size, 2, none⟩ (.string (bytes (L.drop (gapL L))))).cell? ⟨w1.heap.size, 4, none⟩ = some (.bool false) := hk2.cell (i := 4) (by decide)
        have hr2 := hr.setOther (a := ⟨w1.heap.size, 2, none⟩) (by have := HLT.out; show w.heap.size ≠ w1.heap.size; omega) (.string (bytes (L.drop (gapL L))))
        have e0 := hr2.frozen 0
        have e1 := hr2.frozen 1
        have e2 := hr2.frozen 2
        have e3 := hr2.frozen 3
        have e4 := hr2.frozen 4
        have g0 := hr2.cell (i := 0) (by decide)
        have g1 := hr2.cell (i := 1) (by decide)
        have g2 := hr2.cell (i := 2) (by decide)
        have g3 := hr2.cell (i := 3) (by decide)
        have g4 := hr2.cell (i := 4) (by decide)
        have H1 := Lib.hid ((HK2.out _ _ h5).set (p := ⟨w1.heap.size, 2, none⟩) HKS.out (.string (bytes (L.drop (gapL L)))))
        have HR := Lib.hid hr2
        clear hr hk hr2 hk2 h5 c0 c1 c2 c3 c4
        cases gz
        all_goals
          (go_wp2
           have hs5 := store5 HR.out (.int .i64 5) (.string (bytes (nameT l))) (.string (bytes (L.drop (gapL L)))) (.slice none 0 0) (.bool false)
           have d0 : World.cell? _ ⟨w.heap.size, 0, none⟩ = some (.int .i64 5) := hs5.cell (i := 0) (by decide)
           have d1 : World.cell? _ ⟨w.heap.size, 1, none⟩ = some (.string (bytes (nameT l))) := hs5.cell (i := 1) (by decide)
           have d2 : World.cell? _ ⟨w.heap.size, 2, none⟩ = some (.string (bytes (L.drop (gapL L)))) := hs5.cell (i := 2) (by decide)
           have d3 : World.cell? _ ⟨w.heap.size, 3, none⟩ = some (.slice none 0 0) := hs5.cell (i := 3) (by decide)
           have d4 : World.cell? _ ⟨w.heap.size, 4, none⟩ = some (.bool false) := hs5.cell (i := 4) (by decide)
           refine bodyPost_ret (by simp [results, Tryz.results87, d0, d1, d2, d3, d4, go_sem]; try rfl) rfl ?_
           exact giveK_no 5 (bytes (nameT l)) (bytes (L.drop (gapL L))) none 0 0 false HD.out ((H1.out).store5 HS.out _ _ _ _ _))
      | some k =>
        have CU := Lib.hid (upTo_yes [63, 62] (by decide) h4 k hf)
        cases gz with
        | false =>
          have h0 : gapL L = 0 := by have := HGZ.out; simpa using this
          have HD : Hid (piP l = none) := Lib.hid (by rw [HP.out, if_pos h0])
          clear h4 hf h0
          go_wp2_with fail
          refine CU.out.mono ?_
          rintro e w5 ⟨rfl, h5⟩
          have hr := (HB2.out _ _ h5).1
          have hk := (HB2.out _ _ h5).2
          have f0 := hr.frozen 0
          have f1 := hr.frozen 1
          have f2 := hr.frozen 2
          have f3 := hr.frozen 3
          have f4 := hr.frozen 4
          have c0 := hr.cell (i := 0) (by decide)
          have c1 := hr.cell (i := 1) (by decide)
          have c2 := hr.cell (i := 2) (by decide)
          have c3 := hr.cell (i := 3) (by decide)
          have c4 := hr.cell (i := 4) (by decide)
          have kf2 := hk.frozen 2
          have k0 : World.cell? _ ⟨w1.heap.size, 0, none⟩ = some (.int .i64 5) := hk.cell (i := 0) (by decide)
          have k1 : World.cell? _ ⟨w1.heap.size, 1, none⟩ = some (.string (bytes (nameT l))) := hk.cell (i := 1) (by decide)
          have k2 : World.cell? _ ⟨w1.heap.size, 2, none⟩ = some (.string ⟨#[]⟩) := hk.cell (i := 2) (by decide)
          have k3 : World.cell? _ ⟨w1.heap.size, 3, none⟩ = some (.slice none 0 0) := hk.cell (i := 3) (by decide)
          have k4 : World.cell? _ ⟨w1.heap.size, 4, none⟩ = some (.bool false) := hk.cell (i := 4) (by decide)
          have hk2 := hk.set 2 (.string (bytes ((L.drop (gapL L)).take k)))
          have m0 : (w5.setCell ⟨w1.heap.size, 2, none⟩ (.string (bytes ((L.drop (gapL L)).take k)))).cell? ⟨w1.heap.size, 0, none⟩ = some (.int .i64 5) := hk2.cell (i := 0) (by decide)
          have m1 : (w5.setCell ⟨w1.heap.size, 2, none⟩ (.string (bytes ((L.drop (gapL L)).take k)))).cell? ⟨w1.heap.size, 1, none⟩ = some (.string (bytes (nameT l))) := hk2.cell (i := 1) (by decide)
          have m2 : (w5.setCell ⟨w1.heap.size, 2, none⟩ (.string (bytes ((L.drop (gapL L)).take k)))).cell? ⟨w1.heap.size, 2, none⟩ = some (.string (bytes ((L.drop (gapL L)).take k))) := hk2.cell (i := 2) (by decide)
          have m3 : (w5.setCell ⟨w1.heap.size, 2, none⟩ (.string (bytes ((L.drop (gapL L)).take k)))).cell? ⟨w1.heap.size, 3, none⟩ = some (.slice none 0 0) := hk2.cell (i := 3) (by decide)
          have m4 : (w5.setCell ⟨w1.heap.size, 2, none⟩ (.string (bytes ((L.drop (gapL L)).take k)))).cell? ⟨w1.heap.size, 4, none⟩ = some (.bool false) := hk2.cell (i := 4) (by decide)
          have hr2 := hr.setOther (a := ⟨w1.heap.size, 2, none⟩) (by have := HLT.out; show w.heap.size ≠ w1.heap.size; omega) (.string (bytes ((L.drop (gapL L)).take k)))
          have e0 := hr2.frozen 0
          have e1 := hr2.frozen 1
          have e2 := hr2.frozen 2
          have e3 := hr2.frozen 3
          have e4 := hr2.frozen 4
          have g0 := hr2.cell (i := 0) (by decide)
          have g1 := hr2.cell (i := 1) (by decide)
          have g2 := hr2.cell (i := 2) (by decide)
          have g3 := hr2.cell (i := 3) (by decide)
          have g4 := hr2.cell (i := 4) (by decide)
          have H1 := Lib.hid ((HK2.out _ _ h5).set (p := ⟨w1.heap.size, 2, none⟩) HKS.out (.string (bytes ((L.drop (gapL L)).take k))))
          have HR := Lib.hid hr2
          clear hr hk hr2 hk2 h5 c0 c1 c2 c3 c4
          go_wp2
          have hs5 := store5 HR.out (.int .i64 5) (.string (bytes (nameT l))) (.string (bytes ((L.drop (gapL L)).take k))) (.slice none 0 0) (.bool false)
          have d0 : World.cell? _ ⟨w.heap.size, 0, none⟩ = some (.int .i64 5) := hs5.cell (i := 0) (by decide)
          have d1 : World.cell? _ ⟨w.heap.size, 1, none⟩ = some (.string (bytes (nameT l))) := hs5.cell (i := 1) (by decide)
          have d2 : World.cell? _ ⟨w.heap.size, 2, none⟩ = some (.string (bytes ((L.drop (gapL L)).take k))) := hs5.cell (i := 2) (by decide)
          have d3 : World.cell? _ ⟨w.heap.size, 3, none⟩ = some (.slice none 0 0) := hs5.cell (i := 3) (by decide)
          have d4 : World.cell? _ ⟨w.heap.size, 4, none⟩ = some (.bool false) := hs5.cell (i := 4) (by decide)
          refine bodyPost_ret (by simp [results, Tryz.results87, d0, d1, d2, d3, d4, go_sem]; try rfl) rfl ?_
          exact giveK_no 5 (bytes (nameT l)) (bytes ((L.drop (gapL L)).take k)) none 0 0 false HD.out ((H1.out).store5 HS.out _ _ _ _ _)
        | true =>
          have h0 : gapL L ≠ 0 := by have := HGZ.out; simpa using this
          have HD : Hid (piP l = some (⟨5, bytes (nameT l), bytes ((L.drop (gapL L)).take k), [], false⟩, (L.drop (gapL L)).drop (k + 2))) := Lib.hid (by rw [HP.out, if_neg h0, hf]; rfl)
          clear h4 hf h0
          go_wp2_with fail
          refine CU.out.mono ?_
          rintro e w5 ⟨rfl, h5⟩
          have hr := (HB2.out _ _ h5).1
          have hk := (HB2.out _ _ h5).2
          have f0 := hr.frozen 0
          have f1 := hr.frozen 1
          have f2 := hr.frozen 2
          have f3 := hr.frozen 3
          have f4 := hr.frozen 4
          have c0 := hr.cell (i := 0) (by decide)
          have c1 := hr.cell (i := 1) (by decide)
          have c2 := hr.cell (i := 2) (by decide)
          have c3 := hr.cell (i := 3) (by decide)
          have c4 := hr.cell (i := 4) (by decide)
          have kf2 := hk.frozen 2
          have k0 : World.cell? _ ⟨w1.heap.size, 0, none⟩ = some (.int .i64 5) := hk.cell (i := 0) (by decide)
          have k1 : World.cell? _ ⟨w1.heap.size, 1, none⟩ = some (.string (bytes (nameT l))) := hk.cell (i := 1) (by decide)
          have k2 : World.cell? _ ⟨w1.heap.size, 2, none⟩ = some (.string ⟨#[]⟩) := hk.cell (i := 2) (by decide)
          have k3 : World.cell? _ ⟨w1.heap.size, 3, none⟩ = some (.slice none 0 0) := hk.cell (i := 3) (by decide)
          have k4 : World.cell? _ ⟨w1.heap.size, 4, none⟩ = some (.bool false) := hk.cell (i := 4) (by decide)
          have hk2 := hk.set 2 (.string (bytes ((L.drop (gapL L)).take k)))
          have m0 : (w5.setCell ⟨w1.heap.size, 2, none⟩ (.string (bytes ((L.drop (gapL L)).take k)))).cell? ⟨w1.heap.size, 0, none⟩ = some (.int .i64 5) := hk2.cell (i := 0) (by decide)
          have m1 : (w5.setCell ⟨w1.heap.size, 2, none⟩ (.string (bytes ((L.drop (gapL L)).take k)))).cell? ⟨w1.heap.size, 1, none⟩ = some (.string (bytes (nameT l))) := hk2.cell (i := 1) (by decide)
          have m2 : (w5.setCell ⟨w1.heap.size, 2, none⟩ (.string (bytes ((L.drop (gapL L)).take k)))).cell? ⟨w1.heap.size, 2, none⟩ = some (.string (bytes ((L.drop (gapL L)).take k))) := hk2.cell (i := 2) (by decide)
          have m3 : (w5.setCell ⟨w1.heap.size, 2, none⟩ (.string (bytes ((L.drop (gapL L)).take k)))).cell? ⟨w1.heap.size, 3, none⟩ = some (.slice none 0 0) := hk2.cell (i := 3) (by decide)
          have m4 : (w5.setCell ⟨w1.heap.size, 2, none⟩ (.string (bytes ((L.drop (gapL L)).take k)))).cell? ⟨w1.heap.size, 4, none⟩ = some (.bool false) := hk2.cell (i := 4) (by decide)
          have hr2 := hr.setOther (a := ⟨w1.heap.size, 2, none⟩) (by have := HLT.out; show w.heap.size ≠ w1.heap.size; omega) (.string (bytes ((L.drop (gapL L)).take k)))
          have e0 := hr2.frozen 0
          have e1 := hr2.frozen 1
          have e2 := hr2.frozen 2
          have e3 := hr2.frozen 3
          have e4 := hr2.frozen 4
          have g0 := hr2.cell (i := 0) (by decide)
          have g1 := hr2.cell (i := 1) (by decide)
          have g2 := hr2.cell (i := 2) (by decide)
          have g3 := hr2.cell (i := 3) (by decide)
          have g4 := hr2.cell (i := 4) (by decide)
          have H1 := Lib.hid ((HK2.out _ _ h5).set (p := ⟨w1.heap.size, 2, none⟩) HKS.out (.string (bytes ((L.drop (gapL L)).take k))))
          have HR := Lib.hid hr2
          clear hr hk hr2 hk2 h5 c0 c1 c2 c3 c4
          go_wp2
          have hs5 := store5 HR.out (.int .i64 5) (.string (bytes (nameT l))) (.string (bytes ((L.drop (gapL L)).take k))) (.slice none 0 0) (.bool false)
          have d0 : World.cell? _ ⟨w.heap.size, 0, none⟩ = some (.int .i64 5) := hs5.cell (i := 0) (by decide)
          have d1 : World.cell? _ ⟨w.heap.size, 1, none⟩ = some (.string (bytes (nameT l))) := hs5.cell (i := 1) (by decide)
          have d2 : World.cell? _ ⟨w.heap.size, 2, none⟩ = some (.string (bytes ((L.drop (gapL L)).take k))) := hs5.cell (i := 2) (by decide)
          have d3 : World.cell? _ ⟨w.heap.size, 3, none⟩ = some (.slice none 0 0) := hs5.cell (i := 3) (by decide)
          have d4 : World.cell? _ ⟨w.heap.size, 4, none⟩ = some (.bool false) := hs5.cell (i := 4) (by decide)
          refine bodyPost_ret (by simp [results, Tryz.results87, d0, d1, d2, d3, d4, go_sem]; try rfl) rfl ?_
          exact giveK_yes 5 (bytes (nameT l)) (bytes ((L.drop (gapL L)).take k)) false HD.out ((H1.out).store5 HS.out _ _ _ _ _)
end
end Go.Proofs.YtjijjmkeehdooaaGreatDoor
