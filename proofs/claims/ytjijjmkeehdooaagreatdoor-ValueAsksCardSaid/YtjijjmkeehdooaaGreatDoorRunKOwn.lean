/-
  THE LANDED PACKAGE token: the contract of own (a piece with copies of its texts: each of them says the same).
-/
import Derived.Test.YtjijjmkeehdooaaGreatDoorRunKTok
import Derived.Deep.RegionHeld3
namespace Go.Proofs.YtjijjmkeehdooaaGreatDoor
open Go.RowKit

/-- what is stored where it lies changes nothing -/
theorem set_self {w : World} {b i : Nat} {t : TypeId} {c : Array Value} {v : Value} (hc : w.heap[b]? = some (.cells c t (0, 0))) (hv : c[i]? = some v) : w.setCell ⟨b, i, none⟩ v = w := by
  have e : c.setIfInBounds i v = c := by
    apply Array.ext_getElem?
    intro j
    rw [Array.getElem?_setIfInBounds]
    split
    · rename_i hj
      subst hj
      rw [if_pos (Array.getElem?_eq_some_iff.1 hv).1, hv]
    · rfl
  have hh : (w.setCell ⟨b, i, none⟩ v).heap = w.heap := by
    apply Array.ext_getElem?
    intro k
    by_cases hk : k = b
    · subst hk
      rw [heap_setCell_same w k i c t v hc, hc, e]
    · exact heap_setCell_other w ⟨b, i, none⟩ k v hk
  calc w.setCell ⟨b, i, none⟩ v = { w with heap := (w.setCell ⟨b, i, none⟩ v).heap } := rfl
    _ = { w with heap := w.heap } := by rw [hh]
    _ = w := rfl
theorem row_set_self {w : World} {b : Nat} {t : TypeId} {n : Nat} {f : Nat → Value} (h : w.rowIs b t n f) (i : Nat) (hi : i < n) : w.setCell ⟨b, i, none⟩ (f i) = w := by
  obtain ⟨c, hc, hn, hf⟩ := h
  exact set_self hc (hf i hi)
/-- a text is copied -/
theorem clonek_any (s : ByteArray) (w : World) (hs : s.size ≤ 281474976710656) :
    Calls Tryz.prog 35 #[.string s] w fun e w' => e = .returned (.string s) ∧ Below w.heap.size w w' := by
  have c := Tryz.clone_laid s w hs
  go_enter Tryz.func35, Tryz.ntmps35
  go_wp2_with (go_at_call 52; refine c.mono ?_; rintro e w' ⟨rfl, hb⟩)
  go_ret
  exact ⟨rfl, hb⟩
/-- the cells of a piece -/
def tok5 (kd : Nat) (nm tx : ByteArray) (sl : Value) (em : Bool) : Nat → Value := fun i => if i = 0 then .int .i64 (kd : Int) else if i = 1 then .string nm else if i = 2 then .string tx else if i = 3 then sl else .bool em
def tokO (kd : Nat) (nm tx : ByteArray) (sl : Value) (em : Bool) : Obj := .cells #[.int .i64 (kd : Int), .string nm, .string tx, sl, .bool em] 90
theorem tokO_row (w : World) (kd : Nat) (nm tx : ByteArray) (sl : Value) (em : Bool) : (w.alloc (tokO kd nm tx sl em)).rowIs w.heap.size 90 5 (tok5 kd nm tx sl em) := World.rowIs_alloc w #[.int .i64 (kd : Int), .string nm, .string tx, sl, .bool em] 90 (tok5 kd nm tx sl em) (by
  intro i hi
  rcases (show i = 0 ∨ i = 1 ∨ i = 2 ∨ i = 3 ∨ i = 4 by have : i < 5 := hi; omega) with rfl | rfl | rfl | rfl | rfl <;> rfl)
/-- WHERE own STANDS: its parameter's box P and its result's box Q lie; all that was there lies. -/
structure OwnS (w0 : World) (P : Nat) (F : Nat → Value) (w : World) : Prop where
  row : w.rowIs P 90 5 F
  res : w.rowIs (P + 1) 90 5 zero5
  low : w0.heap.size ≤ P
  since : Below w0.heap.size w0 w
theorem OwnS.other {w0 w w' : World} {P : Nat} {F : Nat → Value} (h : OwnS w0 P F w) (hb : Below w.heap.size w w') : OwnS w0 P F w' :=
  ⟨h.row.of_block (hb.block _ h.row.lt), h.res.of_block (hb.block _ h.res.lt), h.low, h.since.trans (hb.mono h.since.size)⟩
theorem OwnS.parts {w0 w : World} {P : Nat} {kd : Nat} {nm tx : ByteArray} {sl : Value} {em : Bool} (h : OwnS w0 P (tok5 kd nm tx sl em) w) :
    w.cell? ⟨P, 1, none⟩ = some (.string nm) ∧ w.cell? ⟨P, 2, none⟩ = some (.string tx) ∧ w.frozen? ⟨P, 1, none⟩ = false ∧ w.frozen? ⟨P, 2, none⟩ = false :=
  ⟨h.row.cell (i := 1) (by decide), h.row.cell (i := 2) (by decide), h.row.frozen 1, h.row.frozen 2⟩
theorem OwnS.set1 {w0 w : World} {P : Nat} {kd : Nat} {nm tx : ByteArray} {sl : Value} {em : Bool} (h : OwnS w0 P (tok5 kd nm tx sl em) w) : w.setCell ⟨P, 1, none⟩ (.string nm) = w := row_set_self h.row 1 (by decide)
theorem OwnS.set2 {w0 w : World} {P : Nat} {kd : Nat} {nm tx : ByteArray} {sl : Value} {em : Bool} (h : OwnS w0 P (tok5 kd nm tx sl em) w) : w.setCell ⟨P, 2, none⟩ (.string tx) = w := row_set_self h.row 2 (by decide)
theorem OwnS.parts1 {w0 w : World} {P : Nat} {kd : Nat} {nm tx : ByteArray} {sl : Value} {em : Bool} (h : OwnS w0 P (tok5 kd nm tx sl em) w) :
    (w.setCell ⟨P, 1, none⟩ (.string nm)).cell? ⟨P, 1, none⟩ = some (.string nm) ∧ (w.setCell ⟨P, 1, none⟩ (.string nm)).cell? ⟨P, 2, none⟩ = some (.string tx) ∧ (w.setCell ⟨P, 1, none⟩ (.string nm)).frozen? ⟨P, 1, none⟩ = false ∧ (w.setCell ⟨P, 1, none⟩ (.string nm)).frozen? ⟨P, 2, none⟩ = false := by rw [h.set1]; exact h.parts
theorem OwnS.parts2 {w0 w : World} {P : Nat} {kd : Nat} {nm tx : ByteArray} {sl : Value} {em : Bool} (h : OwnS w0 P (tok5 kd nm tx sl em) w) :
    (w.setCell ⟨P, 2, none⟩ (.string tx)).cell? ⟨P, 1, none⟩ = some (.string nm) ∧ (w.setCell ⟨P, 2, none⟩ (.string tx)).cell? ⟨P, 2, none⟩ = some (.string tx) ∧ (w.setCell ⟨P, 2, none⟩ (.string tx)).frozen? ⟨P, 1, none⟩ = false ∧ (w.setCell ⟨P, 2, none⟩ (.string tx)).frozen? ⟨P, 2, none⟩ = false := by rw [h.set2]; exact h.parts
theorem OwnS.parts12 {w0 w : World} {P : Nat} {kd : Nat} {nm tx : ByteArray} {sl : Value} {em : Bool} (h : OwnS w0 P (tok5 kd nm tx sl em) w) :
    ((w.setCell ⟨P, 1, none⟩ (.string nm)).setCell ⟨P, 2, none⟩ (.string tx)).cell? ⟨P, 1, none⟩ = some (.string nm) ∧ ((w.setCell ⟨P, 1, none⟩ (.string nm)).setCell ⟨P, 2, none⟩ (.string tx)).cell? ⟨P, 2, none⟩ = some (.string tx) ∧ ((w.setCell ⟨P, 1, none⟩ (.string nm)).setCell ⟨P, 2, none⟩ (.string tx)).frozen? ⟨P, 1, none⟩ = false ∧ ((w.setCell ⟨P, 1, none⟩ (.string nm)).setCell ⟨P, 2, none⟩ (.string tx)).frozen? ⟨P, 2, none⟩ = false := by rw [h.set1, h.set2]; exact h.parts
theorem OwnS.parts21 {w0 w : World} {P : Nat} {kd : Nat} {nm tx : ByteArray} {sl : Value} {em : Bool} (h : OwnS w0 P (tok5 kd nm tx sl em) w) :
    ((w.setCell ⟨P, 2, none⟩ (.string tx)).setCell ⟨P, 1, none⟩ (.string nm)).cell? ⟨P, 1, none⟩ = some (.string nm) ∧ ((w.setCell ⟨P, 2, none⟩ (.string tx)).setCell ⟨P, 1, none⟩ (.string nm)).cell? ⟨P, 2, none⟩ = some (.string tx) ∧ ((w.setCell ⟨P, 2, none⟩ (.string tx)).setCell ⟨P, 1, none⟩ (.string nm)).frozen? ⟨P, 1, none⟩ = false ∧ ((w.setCell ⟨P, 2, none⟩ (.string tx)).setCell ⟨P, 1, none⟩ (.string nm)).frozen? ⟨P, 2, none⟩ = false := by rw [h.set2, h.set1]; exact h.parts
theorem OwnS.clone {w0 w : World} {P : Nat} {F : Nat → Value} (h : OwnS w0 P F w) (s : ByteArray) (hs : s.size ≤ 281474976710656) :
    Calls Tryz.prog 35 #[.string s] w fun e w' => e = .returned (.string s) ∧ OwnS w0 P F w' :=
  (clonek_any s w hs).mono fun _ _ hg => ⟨hg.1, h.other hg.2⟩
theorem OwnS.drew {w0 w : World} {P : Nat} {F : Nat → Value} (h : OwnS w0 P F w) : OwnS w0 P F w.drew := h.other (Below.refl _ _).drew
theorem flatA_get : ∀ (A : List (ByteArray × ByteArray)) (i : Nat), i < A.length → (flatA A)[i * 2]? = some (.string (att A i).1) ∧ (flatA A)[i * 2 + 1]? = some (.string (att A i).2)
  | [], i, h => by simp at h
  | a :: t, 0, _ => ⟨rfl, rfl⟩
  | a :: t, i + 1, h => by
    have ih := flatA_get t i (by simpa using h)
    have e : flatA (a :: t) = .string a.1 :: .string a.2 :: flatA t := rfl
    rw [e, show (i + 1) * 2 = i * 2 + 1 + 1 by omega]
    exact ih
/-- WHERE own's LOOP STANDS: at the attribute i, in its box X. -/
structure OwnR (w0 : World) (P : Nat) (F : Nat → Value) (X g i : Nat) (x y : ByteArray) (sl : Value) (w : World) : Prop where
  own : OwnS w0 P F w
  box : w.rowIs X 143 2 (fun k => if k = 0 then .string x else .string y)
  row : ∃ cur, w.heap[g]? = some (.cells cur 143 (0, 0)) ∧ cur[i * 2]? = some (.string x) ∧ cur[i * 2 + 1]? = some (.string y)
  part : F 3 = sl
section
variable {w0 w w' : World} {P X g i : Nat} {F : Nat → Value} {x y : ByteArray} {sl : Value}
theorem OwnR.other (h : OwnR w0 P F X g i x y sl w) (hb : Below w.heap.size w w') : OwnR w0 P F X g i x y sl w' := by
  obtain ⟨cur, h1, h2, h3⟩ := h.row
  exact ⟨h.own.other hb, h.box.of_block (hb.block _ h.box.lt), ⟨cur, (hb.block _ (Array.getElem?_eq_some_iff.1 h1).1).trans h1, h2, h3⟩, h.part⟩
theorem OwnR.drew (h : OwnR w0 P F X g i x y sl w) : OwnR w0 P F X g i x y sl w.drew := h.other (Below.refl _ _).drew
theorem OwnR.clone (h : OwnR w0 P F X g i x y sl w) (s : ByteArray) (hs : s.size ≤ 281474976710656) :
    Calls Tryz.prog 35 #[.string s] w fun e w' => e = .returned (.string s) ∧ OwnR w0 P F X g i x y sl w' :=
  (clonek_any s w hs).mono fun _ _ hg => ⟨hg.1, h.other hg.2⟩
theorem OwnR.set (h : OwnR w0 P F X g i x y sl w) : (w.setCell ⟨g, i * 2, none⟩ (.string x)).setCell ⟨g, i * 2 + 1, none⟩ (.string y) = w := by
  obtain ⟨cur, h1, h2, h3⟩ := h.row
  rw [set_self h1 h2, set_self h1 h3]
theorem OwnR.parts (h : OwnR w0 P F X g i x y sl w) : w.cell? ⟨P, 3, none⟩ = some sl ∧ w.cell? ⟨X, 0, none⟩ = some (.string x) ∧ w.cell? ⟨X, 1, none⟩ = some (.string y) ∧ w.cell? ⟨g, i * 2, none⟩ = some (.string x) ∧ w.cell? ⟨g, i * 2 + 1, none⟩ = some (.string y) ∧ w.frozen? ⟨g, i * 2, none⟩ = false ∧ w.frozen? ⟨g, i * 2 + 1, none⟩ = false := by
  obtain ⟨cur, h1, h2, h3⟩ := h.row
  refine ⟨by rw [← h.part]; exact h.own.row.cell (i := 3) (by decide), h.box.cell (i := 0) (by decide), h.box.cell (i := 1) (by decide), ?_, ?_, ?_, ?_⟩
  · simp [World.cell?, h1, h2]
  · simp [World.cell?, h1, h3]
  · simp [World.frozen?, h1]
  · simp [World.frozen?, h1]
theorem OwnR.parts12 (h : OwnR w0 P F X g i x y sl w) : let W := (w.setCell ⟨g, i * 2, none⟩ (.string x)).setCell ⟨g, i * 2 + 1, none⟩ (.string y)
    W.cell? ⟨P, 3, none⟩ = some sl ∧ W.cell? ⟨X, 0, none⟩ = some (.string x) ∧ W.cell? ⟨X, 1, none⟩ = some (.string y) ∧ W.cell? ⟨g, i * 2, none⟩ = some (.string x) ∧ W.cell? ⟨g, i * 2 + 1, none⟩ = some (.string y) ∧ W.frozen? ⟨g, i * 2, none⟩ = false ∧ W.frozen? ⟨g, i * 2 + 1, none⟩ = false := by
  intro W
  rw [show W = w from h.set]
  exact h.parts
end
set_option maxHeartbeats 8000000 in
set_option maxRecDepth 100000 in
theorem own_any (kd : Nat) (nm tx : ByteArray) (a : Option Addr) (c : Nat) (em : Bool) (A : List (ByteArray × ByteArray)) (B : Nat) (w : World) (hn : nm.size ≤ 1000000) (ht : tx.size ≤ 1000000) (hl : A.length ≤ 1000000)
    (hA : ∀ i, i < A.length → (att A i).1.size ≤ 1000000 ∧ (att A i).2.size ≤ 1000000) (ho : w.ownsRow B 143 2 (.slice a A.length c) A.length (flatA A)) :
    Calls Tryz.prog 77 #[.agg #[.int .i64 (kd : Int), .string nm, .string tx, .slice a A.length c, .bool em]] w fun e w' => e = .returned (.agg #[.int .i64 (kd : Int), .string nm, .string tx, .slice a A.length c, .bool em]) ∧ Below w.heap.size w w' := by
  have H0 : OwnS w w.heap.size (tok5 kd nm tx (.slice a A.length c) em) ((w.alloc (tokO kd nm tx (.slice a A.length c) em)).alloc zeroT) := by
    have hsz : (w.alloc (tokO kd nm tx (.slice a A.length c) em)).heap.size = w.heap.size + 1 := Deep.nblk_alloc _ _
    have hz := zeroT_row (w.alloc (tokO kd nm tx (.slice a A.length c) em))
    rw [hsz] at hz
    exact ⟨(tokO_row w kd nm tx _ em).alloc _, hz, Nat.le_refl _, ((Below.refl _ _).alloc (Nat.le_refl _) _).alloc (by rw [hsz]; omega) _⟩
  have H0H := Lib.hid H0
  have HO := Lib.hid ho
  have HAA := Lib.hid hA
  clear ho hA H0
  go_enter Tryz.func77, Tryz.ntmps77
  go_wp2_with fail
  have hS0 := H0H.out.drew
  have hp0 := H0H.out.parts
  obtain ⟨q1, q2, q3, q4⟩ := hS0.parts
  have hn2 : nm.size ≤ 281474976710656 := by omega
  have ht2 : tx.size ≤ 281474976710656 := by omega
  go_region_held3 (fun W => W.cell? ⟨w.heap.size, 1, none⟩ = some (.string nm) ∧ W.cell? ⟨w.heap.size, 2, none⟩ = some (.string tx) ∧ W.frozen? ⟨w.heap.size, 1, none⟩ = false ∧ W.frozen? ⟨w.heap.size, 2, none⟩ = false)
    (first | exact (‹OwnS w w.heap.size (tok5 kd nm tx (.slice a A.length c) em) _›).parts | exact (‹OwnS w w.heap.size (tok5 kd nm tx (.slice a A.length c) em) _›).parts1 | exact (‹OwnS w w.heap.size (tok5 kd nm tx (.slice a A.length c) em) _›).parts12 | exact (‹OwnS w w.heap.size (tok5 kd nm tx (.slice a A.length c) em) _›).parts2 | exact (‹OwnS w w.heap.size (tok5 kd nm tx (.slice a A.length c) em) _›).parts21 | assumption)
    (first | (go_at_call 35; refine (OwnS.clone ‹OwnS w w.heap.size (tok5 kd nm tx (.slice a A.length c) em) _› _ (by first | exact hn2 | exact ht2)).mono ?_; rintro o u ⟨rfl, hS2⟩))
  rw [hS2.set1, hS2.set2]
  have hk := hS2.row.cell (i := 3) (by decide)
  have k3 : u.cell? ⟨w.heap.size, 3, none⟩ = some (.slice a A.length c) := hk
  have HS2 := Lib.hid hS2
  clear hk hS0 hp0 q1 q2 q3 q4 hn2 ht2 hS2
  go_wp2
  go_loopw [16] (fun iv wr => ∃ i : Nat, iv = .int .i64 (i : Int) ∧ i ≤ A.length ∧ OwnS w w.heap.size (tok5 kd nm tx (.slice a A.length c) em) wr) (fun iv _ => A.length - (intOf iv).toNat)
  case atStart => exact ⟨0, rfl, Nat.zero_le _, HS2.out⟩
  case round =>
    obtain ⟨i, rfl, hil, hS⟩ := hrel
    have HS := Lib.hid hS
    clear hS HS2 k3
    by_cases hlt : i < A.length
    · have hown : wr.ownsRow B 143 2 (.slice a A.length c) A.length (flatA A) := owns_keep HO.out fun g hg => HS.out.since.block g (owns_block HO.out g hg).2
      obtain ⟨g, cur, rfl, hg, hcur⟩ : ∃ g cur, a = some ⟨g, 0, none⟩ ∧ wr.heap[g]? = some (.cells cur 143 (0, 0)) ∧ cur.toList.take (A.length * 2) = flatA A := by
        rcases hown.2 with ⟨_, h0⟩ | ⟨g, cap, cur, e, _, hg, _, _, _, h4⟩
        · omega
        · injection e with e1 _ _
          exact ⟨g, cur, e1, hg, h4⟩
      obtain ⟨v1, v2⟩ := flatA_get A i hlt
      obtain ⟨hx, hy⟩ := HAA.out i hlt
      generalize (att A i).1 = x at v1 hx
      generalize (att A i).2 = y at v2 hy
      have hx2 : x.size ≤ 281474976710656 := by omega
      have hy2 : y.size ≤ 281474976710656 := by omega
      have hcx : cur[i * 2]? = some (.string x) := by
        rw [← hcur, List.getElem?_take, if_pos (by omega)] at v1
        rw [← Array.getElem?_toList]; exact v1
      have hcy : cur[i * 2 + 1]? = some (.string y) := by
        rw [← hcur, List.getElem?_take, if_pos (by omega)] at v2
        rw [← Array.getElem?_toList]; exact v2
      have p1 : wr.cell? ⟨g, i * 2, none⟩ = some (.string x) := by simp [World.cell?, hg, hcx]
      have p2 : wr.cell? ⟨g, i * 2 + 1, none⟩ = some (.string y) := by simp [World.cell?, hg, hcy]
      have hglt := (Array.getElem?_eq_some_iff.1 hg).1
      have hbA : Below wr.heap.size wr (wr.alloc (.cells #[.string x, .string y] 143)) := (Below.refl _ _).alloc (Nat.le_refl _) _
      have hR0 : OwnR w w.heap.size (tok5 kd nm tx (.slice (some ⟨g, 0, none⟩) A.length c) em) wr.heap.size g i x y (.slice (some ⟨g, 0, none⟩) A.length c) (wr.alloc (.cells #[.string x, .string y] 143)) :=
        ⟨HS.out.other hbA, raw_row wr x y, ⟨cur, (hbA.block _ hglt).trans hg, hcx, hcy⟩, rfl⟩
      have hRd := hR0.drew
      obtain ⟨q1, q2, q3, q4, q5, q6, q7⟩ := hRd.parts
      have HR0 := Lib.hid hR0
      clear v1 v2 hx hy hcx hcy hg hcur hown hbA hR0
      go_wp2_with fail
      go_region_held3 (fun W => W.cell? ⟨w.heap.size, 3, none⟩ = some (.slice (some ⟨g, 0, none⟩) A.length c) ∧ W.cell? ⟨wr.heap.size, 0, none⟩ = some (.string x) ∧ W.cell? ⟨wr.heap.size, 1, none⟩ = some (.string y) ∧ W.cell? ⟨g, i * 2, none⟩ = some (.string x) ∧ W.cell? ⟨g, i * 2 + 1, none⟩ = some (.string y) ∧ W.frozen? ⟨g, i * 2, none⟩ = false ∧ W.frozen? ⟨g, i * 2 + 1, none⟩ = false)
        (first | exact (OwnR.parts ‹OwnR w w.heap.size (tok5 kd nm tx (.slice (some ⟨g, 0, none⟩) A.length c) em) wr.heap.size g i x y (.slice (some ⟨g, 0, none⟩) A.length c) _›) | exact (OwnR.parts12 ‹OwnR w w.heap.size (tok5 kd nm tx (.slice (some ⟨g, 0, none⟩) A.length c) em) wr.heap.size g i x y (.slice (some ⟨g, 0, none⟩) A.length c) _›) | assumption)
        (first | (go_at_call 35; refine (OwnR.clone ‹OwnR w w.heap.size (tok5 kd nm tx (.slice (some ⟨g, 0, none⟩) A.length c) em) wr.heap.size g i x y (.slice (some ⟨g, 0, none⟩) A.length c) _› _ (by first | exact hx2 | exact hy2)).mono ?_; rintro o u2 ⟨rfl, hR2⟩))
      all_goals
        rw [hR2.set]
        have HN := Lib.hid hR2.own
        clear hRd hR2 q1 q2 q3 q4 q5 q6 q7
        go_wp2
        go_roundw
        case rel => exact ⟨i + 1, by go_num, hlt, HN.out⟩
        case measure => simp [intOf]; omega
    · obtain rfl : i = A.length := by omega
      have hr := HS.out.res
      have hp := HS.out.row
      have f0 := hr.frozen 0
      have f1 := hr.frozen 1
      have f2 := hr.frozen 2
      have f3 := hr.frozen 3
      have f4 := hr.frozen 4
      have c0 := hr.cell (i := 0) (by decide)
      have c1 := hr.cell (i := 1) (by decide)
      have c2 := hr.cell (i := 2) (by decide)
      have c3 := hr.cell (i := 3) (by decide)
      have c4 := hr.cell (i := 4) (by decide)
      have p0 : wr.cell? ⟨w.heap.size, 0, none⟩ = some (.int .i64 (kd : Int)) := hp.cell (i := 0) (by decide)
      have p1 : wr.cell? ⟨w.heap.size, 1, none⟩ = some (.string nm) := hp.cell (i := 1) (by decide)
      have p2 : wr.cell? ⟨w.heap.size, 2, none⟩ = some (.string tx) := hp.cell (i := 2) (by decide)
      have p3 : wr.cell? ⟨w.heap.size, 3, none⟩ = some (.slice a A.length c) := hp.cell (i := 3) (by decide)
      have p4 : wr.cell? ⟨w.heap.size, 4, none⟩ = some (.bool em) := hp.cell (i := 4) (by decide)
      clear hr hp
      go_wp2
      have hs5 := store5 HS.out.res (.int .i64 (kd : Int)) (.string nm) (.string tx) (.slice a A.length c) (.bool em)
      have d0 : World.cell? _ ⟨w.heap.size + 1, 0, none⟩ = some (.int .i64 (kd : Int)) := hs5.cell (i := 0) (by decide)
      have d1 : World.cell? _ ⟨w.heap.size + 1, 1, none⟩ = some (.string nm) := hs5.cell (i := 1) (by decide)
      have d2 : World.cell? _ ⟨w.heap.size + 1, 2, none⟩ = some (.string tx) := hs5.cell (i := 2) (by decide)
      have d3 : World.cell? _ ⟨w.heap.size + 1, 3, none⟩ = some (.slice a A.length c) := hs5.cell (i := 3) (by decide)
      have d4 : World.cell? _ ⟨w.heap.size + 1, 4, none⟩ = some (.bool em) := hs5.cell (i := 4) (by decide)
      refine bodyPost_ret (by simp [results, Tryz.results77, d0, d1, d2, d3, d4, go_sem]; try rfl) rfl ?_
      refine ⟨rfl, ?_⟩
      have hT : Turns (fun _ => False) w wr := ⟨HS.out.since.os, HS.out.since.tape, HS.out.since.output, HS.out.since.size, fun k hk _ => HS.out.since.block k hk⟩
      have hle : ∀ j, (fun _ => False) (⟨w.heap.size + 1, j, none⟩ : Addr).block ∨ w.heap.size ≤ (⟨w.heap.size + 1, j, none⟩ : Addr).block := fun j => Or.inr (Nat.le_succ _)
      exact (((((hT.setCell (hle 0) _).setCell (hle 1) _).setCell (hle 2) _).setCell (hle 3) _).setCell (hle 4) _).below (Nat.le_refl _) (fun k h => h.elim)
end Go.Proofs.YtjijjmkeehdooaaGreatDoor
