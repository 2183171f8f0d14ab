/-
  THE LANDED PACKAGE token: the contract of start (a start and its attributes, which grow in a row of their own).
-/
import Derived.Test.YtjijjmkeehdooaaGreatDoorRunKAttr
import Derived.Deep.AppendLies
namespace Go.Proofs.YtjijjmkeehdooaaGreatDoor
open Go.RowKit

theorem info_raw : (Tryz.prog.info? 143).map (fun i => (i.zero, i.size, i.bytes)) = some (some (.agg #[.string ⟨#[]⟩, .string ⟨#[]⟩]), 2, 32) := by kernel_rfl
section
variable {n b H K : Nat} {wH w w' : World} {l r r' : List UInt8} {nm : ByteArray} {em : Bool} {A : List (ByteArray × ByteArray)} {sl : Value}
theorem owns_keep {B : Nat} {e : TypeId} {k m : Nat} {v : Value} {xs : List Value} (h : w.ownsRow B e k v m xs) (hb : ∀ g, v.ownBlock = some g → w'.heap[g]? = w.heap[g]?) : w'.ownsRow B e k v m xs := by
  refine ⟨h.1, ?_⟩
  rcases h.2 with h0 | ⟨g, cap, cur, rfl, hB, hg, h1, h2, h3, h4⟩
  · exact Or.inl h0
  · exact Or.inr ⟨g, cap, cur, rfl, hB, (hb g rfl).trans hg, h1, h2, h3, h4⟩
theorem owns_mono {B B' : Nat} {e : TypeId} {k m : Nat} {v : Value} {xs : List Value} (h : w.ownsRow B e k v m xs) (hB : B' ≤ B) : w.ownsRow B' e k v m xs := by
  refine ⟨h.1, ?_⟩
  rcases h.2 with h0 | ⟨g, cap, cur, e1, h5, hg, h1, h2, h3, h4⟩
  · exact Or.inl h0
  · exact Or.inr ⟨g, cap, cur, e1, by omega, hg, h1, h2, h3, h4⟩
theorem owns_block {B : Nat} {e : TypeId} {k m : Nat} {v : Value} {xs : List Value} (h : w.ownsRow B e k v m xs) : ∀ g, v.ownBlock = some g → B ≤ g ∧ g < w.heap.size := by
  intro g hg
  rcases h.2 with ⟨rfl, _⟩ | ⟨g', cap, cur, rfl, hB, hh, _⟩
  · cases hg
  · simp only [Value.ownBlock, Option.some.injEq] at hg
    subst hg
    exact ⟨hB, (Array.getElem?_eq_some_iff.1 hh).1⟩
theorem owns_slice {B : Nat} {e : TypeId} {k m : Nat} {v : Value} {xs : List Value} (h : w.ownsRow B e k v m xs) : ∃ a c, v = .slice a m c := by
  rcases h.2 with ⟨rfl, rfl⟩ | ⟨g, cap, cur, rfl, _⟩
  · exact ⟨none, 0, rfl⟩
  · exact ⟨_, cap, rfl⟩
theorem flatA_length (A : List (ByteArray × ByteArray)) : (flatA A).length = A.length * 2 := by
  unfold flatA
  induction A with
  | nil => rfl
  | cons a t ih =>
    rw [List.flatMap_cons, List.length_append, ih]
    show 2 + t.length * 2 = (t.length + 1) * 2
    omega
theorem flatA_next (A : List (ByteArray × ByteArray)) (a : ByteArray × ByteArray) : flatA (A ++ [a]) = flatA A ++ [.string a.1, .string a.2] := by
  unfold flatA
  rw [List.flatMap_append]
  rfl

/-- the box of a start's piece -/
def st5 (nm : ByteArray) (sl : Value) (em : Bool) : Nat → Value := fun i => if i = 0 then .int .i64 2 else if i = 1 then .string nm else if i = 2 then .string ⟨#[]⟩ else if i = 3 then sl else .bool em
def stT (nm : ByteArray) : Obj := .cells #[.int .i64 2, .string nm, .string ⟨#[]⟩, .slice none 0 0, .bool false] 90
theorem stT_row (w : World) (nm : ByteArray) : (w.alloc (stT nm)).rowIs w.heap.size 90 5 (st5 nm (.slice none 0 0) false) := World.rowIs_alloc w #[.int .i64 2, .string nm, .string ⟨#[]⟩, .slice none 0 0, .bool false] 90 (st5 nm (.slice none 0 0) false) (by
  intro i hi
  rcases (show i = 0 ∨ i = 1 ∨ i = 2 ∨ i = 3 ∨ i = 4 by have : i < 5 := hi; omega) with rfl | rfl | rfl | rfl | rfl <;> rfl)
/-- A START HALF READ: its box K, the attributes A so far in a row of their own, r left. -/
structure StAt (n b K : Nat) (wH w : World) (nm : ByteArray) (em : Bool) (A : List (ByteArray × ByteArray)) (sl : Value) (r : List UInt8) : Prop where
  rat : RAt n b wH w r
  row : w.rowIs K 90 5 (st5 nm sl em)
  own : w.ownsRow (K + 1) 143 2 sl A.length (flatA A)
  hK : wH.heap.size ≤ K
theorem StAt.ne (h : StAt n b K wH w nm em A sl r) : K ≠ b := by have := h.rat.b0; have := h.hK; omega
/-- behind a call that turns the reader alone -/
theorem StAt.call (h : StAt n b K wH w nm em A sl r) (h' : RAt n b w w' r') : StAt n b K wH w' nm em A sl r' :=
  ⟨h.rat.from h', h.row.of_block (h'.since.block _ h.row.lt h.ne), owns_keep h.own fun g hg => h'.since.block _ (owns_block h.own g hg).2 (by have := (owns_block h.own g hg).1; have := h.rat.b0; have := h.hK; omega), h.hK⟩
theorem StAt.other (h : StAt n b K wH w nm em A sl r) (hb : Below w.heap.size w w') : StAt n b K wH w' nm em A sl r := h.call (h.rat.start.other hb)
theorem StAt.alloc (h : StAt n b K wH w nm em A sl r) (o : Obj) : StAt n b K wH (w.alloc o) nm em A sl r := h.other ((Below.refl _ _).alloc (Nat.le_refl _) o)
theorem StAt.empty (h : StAt n b K wH w nm em A sl r) (e : Bool) : StAt n b K wH (w.setCell ⟨K, 4, none⟩ (.bool e)) nm e A sl r :=
  ⟨h.rat.set (p := ⟨K, 4, none⟩) h.hK _, (World.rowIs.set h.row 4 _).congr fun i hi => by
    rcases (show i = 0 ∨ i = 1 ∨ i = 2 ∨ i = 3 ∨ i = 4 by omega) with rfl | rfl | rfl | rfl | rfl <;> rfl,
   owns_keep h.own fun g hg => by
    have := (owns_block h.own g hg).1
    exact Below.heap_setCell _ _ _ _ (by show g ≠ K; omega), h.hK⟩
theorem StAt.grown (h : StAt n b K wH w nm em A sl r) {sl2 : Value} {A2 : List (ByteArray × ByteArray)} (hg : w.grownBy w' sl.ownBlock) (ho : w'.ownsRow (K + 1) 143 2 sl2 A2.length (flatA A2)) :
    StAt n b K wH (w'.setCell ⟨K, 3, none⟩ sl2) nm em A2 sl2 r := by
  have hne : ∀ g, sl.ownBlock = some g → K < g := fun g h1 => (owns_block h.own g h1).1
  have hk : w'.heap[K]? = w.heap[K]? := hg.block K h.row.lt fun e => by have := hne K e.symm; omega
  have hb : w'.heap[b]? = w.heap[b]? := hg.block b h.rat.rd.lt fun e => by have := hne b e.symm; have := h.rat.b0; have := h.hK; omega
  have hT : Turns (fun k => k = b) wH w' := h.rat.since.grown hg fun k e => Or.inr (by have := hne k e; have := h.hK; omega)
  have hB : Below n w w' := ⟨hg.os, hg.tape, hg.output, hg.size, fun k hk => hg.block k (by have := h.rat.nb; have := h.rat.rd.lt; omega) fun e => by have := hne k e.symm; have := h.rat.b0; have := h.rat.nb; have := h.hK; omega⟩
  have hr : RAt n b wH w' r := ⟨h.rat.e.stay hB, h.rat.nb, h.rat.rd.of_block hb, h.rat.b0, hT, h.rat.small⟩
  refine ⟨hr.set (p := ⟨K, 3, none⟩) h.hK _, (World.rowIs.set (h.row.of_block hk) 3 _).congr fun i hi => ?_, owns_keep ho fun g hg => ?_, h.hK⟩
  · rcases (show i = 0 ∨ i = 1 ∨ i = 2 ∨ i = 3 ∨ i = 4 by omega) with rfl | rfl | rfl | rfl | rfl <;> rfl
  · have := (owns_block ho g hg).1
    exact Below.heap_setCell _ _ _ _ (by show g ≠ K; omega)
/-- a measure of the loop: whether it goes on, and how much is left -/
def stMu (b : Nat) (v : Value) (w : World) : Nat := match v with
  | .bool true => 1 + (match w.cell? ⟨b, 0, none⟩ with | some (.string s) => s.size | _ => 0)
  | _ => 0
theorem stMu_true (h : RAt n b wH w r) : stMu b (.bool true) w = 1 + r.length := by unfold stMu; rw [h.cell]; show 1 + (bytes r).size = _; rw [bytes_len]
theorem stMu_false : stMu b (.bool false) w = 0 := rfl
theorem attrP_len {l : List UInt8} {x : (ByteArray × ByteArray) × List UInt8} (h : attrP l = some x) : x.2.length ≤ l.length := by
  rw [← rst_attr] at h
  unfold rst at h
  obtain ⟨y, _, hy⟩ := Option.map_eq_some_iff.1 h
  subst hy
  show (l.drop _).length ≤ _
  rw [List.length_drop]
  omega
theorem giveK_att {B : Nat} {w0 : World} {d : Option (Tok × List UInt8)} {a : Option Addr} {c : Nat} (hd : d = some (⟨2, nm, ⟨#[]⟩, A, em⟩, r)) (h : RAt n b w0 w r) (ho : w.ownsRow B 143 2 (.slice a A.length c) A.length (flatA A)) :
    GiveK n b w0 B d (.returned (.tuple #[.agg #[.int .i64 2, .string nm, .string ⟨#[]⟩, .slice a A.length c, .bool em], .bool true])) w :=
  ⟨2, nm, ⟨#[]⟩, a, A.length, c, em, true, r, rfl, h, fun e => (by rw [hd] at e; cases e), fun t r' h => by
    rw [hd] at h
    injection h with h
    injection h with h1 h2
    subst h1; subst h2
    exact ⟨rfl, rfl, rfl, rfl, rfl, rfl, ho⟩⟩
theorem owns_store5 {B : Nat} {e : TypeId} {k m : Nat} {v : Value} {xs : List Value} (h : w.ownsRow B e k v m xs) (hH : H < B) (v0 v1 v2 v3 v4 : Value) :
    (((((w.setCell ⟨H, 0, none⟩ v0).setCell ⟨H, 1, none⟩ v1).setCell ⟨H, 2, none⟩ v2).setCell ⟨H, 3, none⟩ v3).setCell ⟨H, 4, none⟩ v4).ownsRow B e k v m xs :=
  owns_keep h fun g hg => by
    have hne : g ≠ H := by have := (owns_block h g hg).1; omega
    exact (Below.heap_setCell _ _ _ _ hne).trans ((Below.heap_setCell _ _ _ _ hne).trans ((Below.heap_setCell _ _ _ _ hne).trans ((Below.heap_setCell _ _ _ _ hne).trans (Below.heap_setCell _ _ _ _ hne))))
def StInv (n b K : Nat) (wH : World) (nm : ByteArray) (d : Option (Tok × List UInt8)) (isv : Value) (wr : World) : Prop :=
  ∃ (is : Bool) (A : List (ByteArray × ByteArray)) (sl : Value) (r : List UInt8), isv = .bool is ∧ StAt n b K wH wr nm false A sl r ∧ (is = true → A.length + r.length ≤ 100000) ∧
    (is = true → d = (attrsR r).bind fun x => some (⟨2, nm, ⟨#[]⟩, A ++ x.1, x.2.1⟩, x.2.2)) ∧ (is = false → d = none)
def rawO (x y : ByteArray) : Obj := .cells #[.string x, .string y] 143
theorem raw_new (w : World) (x y : ByteArray) : (w.alloc (rawO x y)).heap[w.heap.size]? = some (.cells #[.string x, .string y] 143 (0, 0)) := by
  show (w.heap.push _)[w.heap.size]? = _
  rw [Array.getElem?_push_size]
  rfl
theorem raw_row (w : World) (x y : ByteArray) : (w.alloc (rawO x y)).rowIs w.heap.size 143 2 (fun i => if i = 0 then .string x else .string y) := World.rowIs_alloc w #[.string x, .string y] 143 (fun i => if i = 0 then .string x else .string y) (by
  intro i hi
  rcases (show i = 0 ∨ i = 1 by have : i < 2 := hi; omega) with rfl | rfl <;> rfl)
set_option maxHeartbeats 16000000 in
set_option maxRecDepth 100000 in
theorem start_k {w0 : World} (h : RAt n b w0 w l) (B : Nat) (hB : B ≤ w.heap.size) : Calls Tryz.prog 89 #[.pointer (some ⟨b, 0, none⟩)] w (GiveK n b w0 B (startP l)) := by
  have h0 := h.boxed
  have HS : Hid (w0.heap.size ≤ w.heap.size) := Lib.hid h.since.size
  have HB := Lib.hid (fun w' l' (h' : RAt n b (w.alloc zeroT) w' l') => h.box h')
  have HK := Lib.hid (fun w' l' (h' : RAt n b (w.alloc zeroT) w' l') => h.back h')
  have C := Lib.hid (name_take h0)
  have hsp : startP l = if isName (nameT l) = true then (attrsR (l.drop (whN partB l))).bind fun x => some (⟨2, bytes (nameT l), ⟨#[]⟩, x.1, x.2.1⟩, x.2.2) else none := rfl
  have HSP := Lib.hid hsp
  have hLl : (l.drop (whN partB l)).length ≤ 100000 := by rw [List.length_drop]; have := h.small; omega
  clear hsp
  generalize l.drop (whN partB l) = L at *
  generalize bytes (nameT l) = nm at *
  generalize isName (nameT l) = is at *
  have HLL := Lib.hid hLl
  have HBB := Lib.hid hB
  clear h h0 hLl hB
  obtain ⟨i0, hi, hz⟩ := Option.map_eq_some_iff.1 info_raw
  simp only [Prod.mk.injEq] at hz
  obtain ⟨hz0, hz1, hz2⟩ := hz
  go_enter Tryz.func89, Tryz.ntmps89
  go_wp2_with fail
  refine C.out.mono ?_
  rintro e w1 ⟨rfl, h1⟩
  have HLT : Hid (w.heap.size < w1.heap.size) := Lib.hid (HB.out _ _ h1).lt
  have H2 : Hid (StAt n b w1.heap.size (w.alloc zeroT) (w1.alloc (stT nm)) nm false [] (.slice none 0 0) L) := Lib.hid ⟨h1.alloc _, stT_row w1 nm, ⟨rfl, Or.inl ⟨rfl, rfl⟩⟩, h1.since.size⟩
  have HI : Hid ((is = true → startP l = (attrsR L).bind fun x => some (⟨2, nm, ⟨#[]⟩, [] ++ x.1, x.2.1⟩, x.2.2)) ∧ (is = false → startP l = none)) := Lib.hid ⟨fun e => by rw [HSP.out, if_pos e]; rfl, fun e => by rw [HSP.out, if_neg (by rw [e]; decide)]⟩
  clear h1 C HSP
  go_wp2
  go_loopw [5] (fun isv wr => StInv n b w1.heap.size (w.alloc zeroT) nm (startP l) isv wr) (fun isv wr => stMu b isv wr)
  case atStart => exact ⟨is, [], .slice none 0 0, L, rfl, H2.out, fun _ => by have := HLL.out; simpa using this, HI.out⟩
  case round =>
    obtain ⟨is, A, sl, r, rfl, hst, hln, hinv⟩ := hrel
    have HST := Lib.hid hst
    have HLN := Lib.hid hln
    have HI := Lib.hid hinv
    clear H2 hst hln hinv
    obtain ⟨sa, sc, rfl⟩ := owns_slice HST.out.own
    cases is with
    | false =>
      have HD : Hid (startP l = none) := Lib.hid (HI.out.2 rfl)
      have hr := HB.out _ _ HST.out.rat
      have f0 := hr.frozen 0
      have f1 := hr.frozen 1
      have f2 := hr.frozen 2
      have f3 := hr.frozen 3
      have f4 := hr.frozen 4
      have c0 := hr.cell (i := 0) (by decide)
      have c1 := hr.cell (i := 1) (by decide)
      have c2 := hr.cell (i := 2) (by decide)
      have c3 := hr.cell (i := 3) (by decide)
      have c4 := hr.cell (i := 4) (by decide)
      have hk := HST.out.row
      have k0 : World.cell? _ ⟨w1.heap.size, 0, none⟩ = some (.int .i64 2) := hk.cell (i := 0) (by decide)
      have k1 : World.cell? _ ⟨w1.heap.size, 1, none⟩ = some (.string nm) := hk.cell (i := 1) (by decide)
      have k2 : World.cell? _ ⟨w1.heap.size, 2, none⟩ = some (.string ⟨#[]⟩) := hk.cell (i := 2) (by decide)
      have k3 : World.cell? _ ⟨w1.heap.size, 3, none⟩ = some (.slice sa A.length sc) := hk.cell (i := 3) (by decide)
      have k4 : World.cell? _ ⟨w1.heap.size, 4, none⟩ = some (.bool false) := hk.cell (i := 4) (by decide)
      have kf4 := hk.frozen 4
      have HR := Lib.hid hr
      clear hr hk
      go_wp2
      have hs5 := store5 HR.out (.int .i64 2) (.string nm) (.string ⟨#[]⟩) (.slice sa A.length sc) (.bool false)
      have d0 : World.cell? _ ⟨w.heap.size, 0, none⟩ = some (.int .i64 2) := hs5.cell (i := 0) (by decide)
      have d1 : World.cell? _ ⟨w.heap.size, 1, none⟩ = some (.string nm) := hs5.cell (i := 1) (by decide)
      have d2 : World.cell? _ ⟨w.heap.size, 2, none⟩ = some (.string ⟨#[]⟩) := hs5.cell (i := 2) (by decide)
      have d3 : World.cell? _ ⟨w.heap.size, 3, none⟩ = some (.slice sa A.length sc) := hs5.cell (i := 3) (by decide)
      have d4 : World.cell? _ ⟨w.heap.size, 4, none⟩ = some (.bool false) := hs5.cell (i := 4) (by decide)
      refine bodyPost_ret (by simp [results, Tryz.results89, d0, d1, d2, d3, d4, go_sem]; try rfl) rfl ?_
      exact giveK_no 2 nm _ sa A.length sc false HD.out ((HK.out _ _ HST.out.rat).store5 HS.out _ _ _ _ _)
    | true =>
      have HLN2 := Lib.hid (HLN.out rfl)
      have HI2 := Lib.hid (HI.out.1 rfl)
      rw [attrsR_step] at HI2
      have HMU := Lib.hid (stMu_true HST.out.rat)
      have CS := Lib.hid (space_take HST.out.rat.start)
      obtain ⟨gz, hgz⟩ : ∃ gz, decide (gapL r ≠ 0) = gz := ⟨_, rfl⟩
      rw [hgz] at CS
      have HGZ := Lib.hid hgz
      have HG : Hid (gapL r ≤ r.length) := Lib.hid (gap_le r)
      clear hgz HLN HI
      go_wp2_with fail
      refine CS.out.mono ?_
      rintro e w2 ⟨rfl, h2⟩
      have HS2 := Lib.hid (HST.out.call h2)
      clear h2 CS HST
      cases hs1 : swB [47, 62] (r.drop (gapL r)) with
      | true =>
        have CT := Lib.hid (take_yes [47, 62] HS2.out.rat.start hs1)
        rw [if_pos hs1] at HI2
        have HD : Hid (startP l = some (⟨2, nm, ⟨#[]⟩, A, true⟩, (r.drop (gapL r)).drop 2)) := Lib.hid (by rw [HI2.out, Option.bind_some, List.append_nil])
        clear HI2 hs1
        go_wp2_with fail
        refine CT.out.mono ?_
        rintro e w3 ⟨rfl, h3⟩
        have hS3 := HS2.out.call h3
        have HS3 := Lib.hid hS3
        have HS4 := Lib.hid (hS3.empty true)
        clear h3 hS3 CT
        have hkk := HS3.out.row
        have kf4 := hkk.frozen 4
        have kk4 := hkk.cell (i := 4) (by decide)
        clear hkk
        have hr := HB.out _ _ HS4.out.rat
        have f0 := hr.frozen 0
        have f1 := hr.frozen 1
        have f2 := hr.frozen 2
        have f3 := hr.frozen 3
        have f4 := hr.frozen 4
        have c0 := hr.cell (i := 0) (by decide)
        have c1 := hr.cell (i := 1) (by decide)
        have c2 := hr.cell (i := 2) (by decide)
        have c3 := hr.cell (i := 3) (by decide)
        have c4 := hr.cell (i := 4) (by decide)
        have hk := HS4.out.row
        have k0 : World.cell? _ ⟨w1.heap.size, 0, none⟩ = some (.int .i64 2) := hk.cell (i := 0) (by decide)
        have k1 : World.cell? _ ⟨w1.heap.size, 1, none⟩ = some (.string nm) := hk.cell (i := 1) (by decide)
        have k2 : World.cell? _ ⟨w1.heap.size, 2, none⟩ = some (.string ⟨#[]⟩) := hk.cell (i := 2) (by decide)
        have k3 : World.cell? _ ⟨w1.heap.size, 3, none⟩ = some (.slice sa A.length sc) := hk.cell (i := 3) (by decide)
        have k4 : World.cell? _ ⟨w1.heap.size, 4, none⟩ = some (.bool true) := hk.cell (i := 4) (by decide)
        have HR := Lib.hid hr
        clear hr hk
        go_wp2
        have hs5 := store5 HR.out (.int .i64 2) (.string nm) (.string ⟨#[]⟩) (.slice sa A.length sc) (.bool true)
        have d0 : World.cell? _ ⟨w.heap.size, 0, none⟩ = some (.int .i64 2) := hs5.cell (i := 0) (by decide)
        have d1 : World.cell? _ ⟨w.heap.size, 1, none⟩ = some (.string nm) := hs5.cell (i := 1) (by decide)
        have d2 : World.cell? _ ⟨w.heap.size, 2, none⟩ = some (.string ⟨#[]⟩) := hs5.cell (i := 2) (by decide)
        have d3 : World.cell? _ ⟨w.heap.size, 3, none⟩ = some (.slice sa A.length sc) := hs5.cell (i := 3) (by decide)
        have d4 : World.cell? _ ⟨w.heap.size, 4, none⟩ = some (.bool true) := hs5.cell (i := 4) (by decide)
        refine bodyPost_ret (by simp [results, Tryz.results89, d0, d1, d2, d3, d4, go_sem]; try rfl) rfl ?_
        exact giveK_att HD.out ((HK.out _ _ HS4.out.rat).store5 HS.out _ _ _ _ _) (owns_mono (owns_store5 HS4.out.own (by have := HLT.out; omega) _ _ _ _ _) (by have := HBB.out; have := HLT.out; omega))
      | false =>
        have CT := Lib.hid (take_no [47, 62] HS2.out.rat.start hs1)
        rw [if_neg (show ¬ swB [47, 62] (r.drop (gapL r)) = true by rw [hs1]; decide)] at HI2
        clear hs1
        go_wp2_with fail
        refine CT.out.mono ?_
        rintro e w3 ⟨rfl, h3⟩
        have hS3 := HS2.out.call h3
        have HS3 := Lib.hid hS3
        have HS5 := Lib.hid (hS3.empty false)
        clear h3 hS3 CT HS2
        have hkk := HS3.out.row
        have kf4 := hkk.frozen 4
        have kk4 := hkk.cell (i := 4) (by decide)
        have kk5 : (w3.setCell ⟨w1.heap.size, 4, none⟩ (.bool false)).cell? ⟨w1.heap.size, 4, none⟩ = some (.bool false) := HS5.out.row.cell (i := 4) (by decide)
        clear hkk
        cases hs2 : swB [62] (r.drop (gapL r)) with
        | true =>
          have CT := Lib.hid (take_yes [62] HS5.out.rat.start hs2)
          rw [if_pos hs2] at HI2
          have HD : Hid (startP l = some (⟨2, nm, ⟨#[]⟩, A, false⟩, (r.drop (gapL r)).drop 1)) := Lib.hid (by rw [HI2.out, Option.bind_some, List.append_nil])
          clear HI2 hs2
          go_wp2_with fail
          refine CT.out.mono ?_
          rintro e w4 ⟨rfl, h4⟩
          have HS4 := Lib.hid (HS5.out.call h4)
          clear h4 CT kf4 kk4 kk5
          have hr := HB.out _ _ HS4.out.rat
          have f0 := hr.frozen 0
          have f1 := hr.frozen 1
          have f2 := hr.frozen 2
          have f3 := hr.frozen 3
          have f4 := hr.frozen 4
          have c0 := hr.cell (i := 0) (by decide)
          have c1 := hr.cell (i := 1) (by decide)
          have c2 := hr.cell (i := 2) (by decide)
          have c3 := hr.cell (i := 3) (by decide)
          have c4 := hr.cell (i := 4) (by decide)
          have hk := HS4.out.row
          have k0 : World.cell? _ ⟨w1.heap.size, 0, none⟩ = some (.int .i64 2) := hk.cell (i := 0) (by decide)
          have k1 : World.cell? _ ⟨w1.heap.size, 1, none⟩ = some (.string nm) := hk.cell (i := 1) (by decide)
          have k2 : World.cell? _ ⟨w1.heap.size, 2, none⟩ = some (.string ⟨#[]⟩) := hk.cell (i := 2) (by decide)
          have k3 : World.cell? _ ⟨w1.heap.size, 3, none⟩ = some (.slice sa A.length sc) := hk.cell (i := 3) (by decide)
          have k4 : World.cell? _ ⟨w1.heap.size, 4, none⟩ = some (.bool false) := hk.cell (i := 4) (by decide)
          have kf4 := hk.frozen 4
          have HR := Lib.hid hr
          clear hr hk
          go_wp2
          have hs5 := store5 HR.out (.int .i64 2) (.string nm) (.string ⟨#[]⟩) (.slice sa A.length sc) (.bool false)
          have d0 : World.cell? _ ⟨w.heap.size, 0, none⟩ = some (.int .i64 2) := hs5.cell (i := 0) (by decide)
          have d1 : World.cell? _ ⟨w.heap.size, 1, none⟩ = some (.string nm) := hs5.cell (i := 1) (by decide)
          have d2 : World.cell? _ ⟨w.heap.size, 2, none⟩ = some (.string ⟨#[]⟩) := hs5.cell (i := 2) (by decide)
          have d3 : World.cell? _ ⟨w.heap.size, 3, none⟩ = some (.slice sa A.length sc) := hs5.cell (i := 3) (by decide)
          have d4 : World.cell? _ ⟨w.heap.size, 4, none⟩ = some (.bool false) := hs5.cell (i := 4) (by decide)
          refine bodyPost_ret (by simp [results, Tryz.results89, d0, d1, d2, d3, d4, go_sem]; try rfl) rfl ?_
          exact giveK_att HD.out ((HK.out _ _ HS4.out.rat).store5 HS.out _ _ _ _ _) (owns_mono (owns_store5 HS4.out.own (by have := HLT.out; omega) _ _ _ _ _) (by have := HBB.out; have := HLT.out; omega))
        | false =>
          have CT := Lib.hid (take_no [62] HS5.out.rat.start hs2)
          rw [if_neg (show ¬ swB [62] (r.drop (gapL r)) = true by rw [hs2]; decide)] at HI2
          clear hs2
          go_wp2_with fail
          refine CT.out.mono ?_
          rintro e w4 ⟨rfl, h4⟩
          have HS6 := Lib.hid (HS5.out.call h4)
          clear h4 CT kf4 kk4 kk5 HS5 HS3
          have CA := Lib.hid (attr_k HS6.out.rat.start)
          go_wp2_with fail
          refine CA.out.mono ?_
          rintro e w5 ⟨x, y, ok, r', rfl, h5, hno, hyes⟩
          have HS7 := Lib.hid (HS6.out.call h5)
          have HNO := Lib.hid hno
          have HYES := Lib.hid hyes
          clear h5 hno hyes CA HS6
          have HR1 := Lib.hid (raw_row w5 x y)
          have HS8 := Lib.hid (HS7.out.alloc (.cells #[.string x, .string y] 143))
          have HR2 : Hid (((w5.alloc (.cells #[.string x, .string y] 143)).alloc (.cells #[.string x, .string y] 143)).heap[w5.heap.size + 1]? = some (.cells #[.string x, .string y] 143 (0, 0))) := Lib.hid (by have := raw_new (w5.alloc (rawO x y)) x y; rw [Deep.nblk_alloc] at this; exact this)
          have HS9 := Lib.hid (HS8.out.alloc (.cells #[.string x, .string y] 143))
          have hk8 := HS8.out.row
          have k3 : (w5.alloc (.cells #[.string x, .string y] 143)).cell? ⟨w1.heap.size, 3, none⟩ = some (.slice sa A.length sc) := hk8.cell (i := 3) (by decide)
          have r0 : (w5.alloc (.cells #[.string x, .string y] 143)).cell? ⟨w5.heap.size, 0, none⟩ = some (.string x) := HR1.out.cell (i := 0) (by decide)
          have r1 : (w5.alloc (.cells #[.string x, .string y] 143)).cell? ⟨w5.heap.size, 1, none⟩ = some (.string y) := HR1.out.cell (i := 1) (by decide)
          clear hk8
          have key : (gz = false ∧ startP l = none) ∨ (gz = true ∧ ok = false ∧ startP l = none) ∨ (gz = true ∧ ok = true ∧ (startP l = (attrsR r').bind fun x_1 => some (⟨2, nm, ⟨#[]⟩, (A ++ [(x, y)]) ++ x_1.1, x_1.2.1⟩, x_1.2.2)) ∧ (A ++ [(x, y)]).length + r'.length ≤ 100000 ∧ r'.length < r.length) := by
            cases gz with
            | false => exact Or.inl ⟨rfl, by rw [HI2.out, if_pos (show gapL r = 0 by have := HGZ.out; simpa using this)]; rfl⟩
            | true =>
              have hg0 : gapL r ≠ 0 := by have := HGZ.out; simpa using this
              rw [if_neg hg0] at HI2
              cases ok with
              | false =>
                refine Or.inr (Or.inl ⟨rfl, rfl, ?_⟩)
                rw [HI2.out]
                cases ha : attrP (r.drop (gapL r)) with
                | none => rfl
                | some z => have := (HYES.out z.1 z.2 ha).1; cases this
              | true =>
                obtain ⟨z, ha⟩ : ∃ z, attrP (r.drop (gapL r)) = some z := by
                  cases ha : attrP (r.drop (gapL r)) with
                  | none => have := HNO.out ha; cases this
                  | some z => exact ⟨z, rfl⟩
                obtain ⟨_, g2, g3⟩ := HYES.out z.1 z.2 ha
                have hlen : r'.length ≤ r.length - gapL r := by
                  have := attrP_len ha
                  rw [List.length_drop, g3] at this
                  exact this
                refine Or.inr (Or.inr ⟨rfl, rfl, ?_, ?_, ?_⟩)
                · rw [HI2.out, ha, Option.bind_some, g2, g3]
                  cases attrsR r' with
                  | none => rfl
                  | some q =>
                    rw [Option.bind_some, Option.bind_some, Option.bind_some]
                    simp only [List.append_assoc, List.cons_append, List.nil_append]
                · have := HLN2.out
                  have := HG.out
                  rw [List.length_append]
                  show A.length + 1 + r'.length ≤ _
                  omega
                · have := HG.out
                  omega
          clear HI2 HGZ HNO HYES
          rcases key with ⟨rfl, HN⟩ | ⟨rfl, rfl, HN⟩ | ⟨rfl, rfl, HN, HLN3, HLT2⟩
          · have HNH := Lib.hid HN
            clear HN
            go_wp2_with (at_builtin; refine wpList_append_lies _ rfl _ _ 88 rfl (w1.heap.size + 1) 143 i0 (.agg #[.string ⟨#[]⟩, .string ⟨#[]⟩]) 2 32 Tryz.underlying88 hi hz0 hz1 hz2 rfl (by decide) _ _ _ rfl HS9.out.own ⟨w5.heap.size + 1, 0, none⟩ 1 1 [.string x, .string y] rfl rfl (World.news_of_block HR2.out) (by intro u hu; simp at hu; rcases hu with rfl | rfl <;> rfl) (by decide) (by have := HLN2.out; unfold maxLen; omega) (by have := HLN2.out; omega) (by have := HS9.out.row.lt; omega) _ rfl ?_; intro g cap w6 hown hgrow _ _; have hSF := HS9.out.grown (A2 := A ++ [(x, y)]) (sl2 := .slice (some ⟨g, 0, none⟩) (A.length + 1) cap) hgrow (by rw [List.length_append, flatA_next]; exact hown); have HSF := Lib.hid hSF; have kr := HS9.out.row.of_block (hgrow.block _ HS9.out.row.lt (fun e => by have := (owns_block HS9.out.own _ e.symm).1; omega)); have kf3 := kr.frozen 3; have kc3 := kr.cell (i := 3) (by decide); clear hown hgrow hSF kr)
            go_roundw
            case rel => exact ⟨false, _, _, r', rfl, HSF.out, fun e => (by cases e), fun e => (by cases e), fun _ => HNH.out⟩
            case measure => rw [HMU.out, stMu_false]; omega
          · have HNH := Lib.hid HN
            clear HN
            go_wp2_with (at_builtin; refine wpList_append_lies _ rfl _ _ 88 rfl (w1.heap.size + 1) 143 i0 (.agg #[.string ⟨#[]⟩, .string ⟨#[]⟩]) 2 32 Tryz.underlying88 hi hz0 hz1 hz2 rfl (by decide) _ _ _ rfl HS9.out.own ⟨w5.heap.size + 1, 0, none⟩ 1 1 [.string x, .string y] rfl rfl (World.news_of_block HR2.out) (by intro u hu; simp at hu; rcases hu with rfl | rfl <;> rfl) (by decide) (by have := HLN2.out; unfold maxLen; omega) (by have := HLN2.out; omega) (by have := HS9.out.row.lt; omega) _ rfl ?_; intro g cap w6 hown hgrow _ _; have hSF := HS9.out.grown (A2 := A ++ [(x, y)]) (sl2 := .slice (some ⟨g, 0, none⟩) (A.length + 1) cap) hgrow (by rw [List.length_append, flatA_next]; exact hown); have HSF := Lib.hid hSF; have kr := HS9.out.row.of_block (hgrow.block _ HS9.out.row.lt (fun e => by have := (owns_block HS9.out.own _ e.symm).1; omega)); have kf3 := kr.frozen 3; have kc3 := kr.cell (i := 3) (by decide); clear hown hgrow hSF kr)
            go_roundw
            case rel => exact ⟨false, _, _, r', rfl, HSF.out, fun e => (by cases e), fun e => (by cases e), fun _ => HNH.out⟩
            case measure => rw [HMU.out, stMu_false]; omega
          · have HNH := Lib.hid HN
            have HLH := Lib.hid HLN3
            have HTH := Lib.hid HLT2
            clear HN HLN3 HLT2
            go_wp2_with (at_builtin; refine wpList_append_lies _ rfl _ _ 88 rfl (w1.heap.size + 1) 143 i0 (.agg #[.string ⟨#[]⟩, .string ⟨#[]⟩]) 2 32 Tryz.underlying88 hi hz0 hz1 hz2 rfl (by decide) _ _ _ rfl HS9.out.own ⟨w5.heap.size + 1, 0, none⟩ 1 1 [.string x, .string y] rfl rfl (World.news_of_block HR2.out) (by intro u hu; simp at hu; rcases hu with rfl | rfl <;> rfl) (by decide) (by have := HLN2.out; unfold maxLen; omega) (by have := HLN2.out; omega) (by have := HS9.out.row.lt; omega) _ rfl ?_; intro g cap w6 hown hgrow _ _; have hSF := HS9.out.grown (A2 := A ++ [(x, y)]) (sl2 := .slice (some ⟨g, 0, none⟩) (A.length + 1) cap) hgrow (by rw [List.length_append, flatA_next]; exact hown); have HSF := Lib.hid hSF; have kr := HS9.out.row.of_block (hgrow.block _ HS9.out.row.lt (fun e => by have := (owns_block HS9.out.own _ e.symm).1; omega)); have kf3 := kr.frozen 3; have kc3 := kr.cell (i := 3) (by decide); clear hown hgrow hSF kr)
            go_roundw
            case rel => exact ⟨true, _, _, r', rfl, HSF.out, fun _ => HLH.out, fun _ => HNH.out, fun e => (by cases e)⟩
            case measure => rw [HMU.out, stMu_true HSF.out.rat]; have := HTH.out; omega
end
end Go.Proofs.YtjijjmkeehdooaaGreatDoor
