/-
  PLAIN MATHEMATICS FOR LAYER 11: an entity's text, gone over rune by rune. No program stands in this text.
  THE LANDED PACKAGE decl: the contract of Entity.
-/
import Derived.Test.YtmecigainilocaaGreatDoorRunDRead
import Derived.Test.YtmecigainilocaaGreatDoorRunKNext
import Derived.Test.YtmecigainilocaaGreatDoorShelfB
import Derived.Lib.OthersKept
namespace Go.Proofs.YtmecigainilocaaGreatDoor
open Go Go.Lib

/-- a byte that begins nothing in an entity's text, and is a character -/
def DullU (b : UInt8) : Prop := b.toNat < 128 ∧ b ≠ 38 ∧ b ≠ 37
theorem dec_dull {b : UInt8} {v : Nat} (h : decV b = some v) : DullU b := by
  unfold decV at h
  split at h
  · exact ⟨by omega, fun e => by subst e; simp at *, fun e => by subst e; simp at *⟩
  · cases h
theorem hex_dull {b : UInt8} {v : Nat} (h : hexV b = some v) : DullU b := by
  unfold hexV at h
  repeat' split at h
  · exact ⟨by omega, fun e => by subst e; simp at *, fun e => by subst e; simp at *⟩
  · exact ⟨by omega, fun e => by subst e; simp at *, fun e => by subst e; simp at *⟩
  · exact ⟨by omega, fun e => by subst e; simp at *, fun e => by subst e; simp at *⟩
  · cases h
theorem num_dull {dig : UInt8 → Option Nat} (hd : ∀ b v, dig b = some v → DullU b) (base : Nat) : ∀ (l : List UInt8) (a r : Nat), numL dig base a l = some r → ∀ b ∈ l, DullU b
  | [], _, _, _, b, hb => by cases hb
  | x :: t, a, r, h, b, hb => by
    unfold numL at h
    cases hx : dig x with
    | none => rw [hx] at h; cases h
    | some v =>
      rw [hx] at h
      rcases List.mem_cons.1 hb with rfl | hb
      · exact hd _ _ hx
      · exact num_dull hd base t _ _ h b hb
theorem refV_dull {d : List UInt8} {r : Nat} (h : refV d = some r) : ∀ b ∈ d, DullU b := by
  unfold refV at h
  split at h
  · cases h
  · cases h
  · rename_i t _
    obtain ⟨v, hv, _⟩ := Option.bind_eq_some_iff.1 h
    intro b hb
    rcases List.mem_cons.1 hb with rfl | hb
    · exact ⟨by decide, by decide, by decide⟩
    · exact num_dull (fun _ _ => hex_dull) 16 _ _ _ hv b hb
  · obtain ⟨v, hv, _⟩ := Option.bind_eq_some_iff.1 h
    exact num_dull (fun _ _ => dec_dull) 10 _ _ _ hv
/-- a reference: its kind, and that what stands in one by number is dull -/
theorem ref_said (tl : List UInt8) (t : Tok) (m : Nat) (h : refL (38 :: tl) = some (t, m)) : 1 ≤ m ∧ m ≤ tl.length + 1 ∧ (t.kind = 7 ∨ t.kind = 8) ∧ (t.kind = 7 → ∀ j, 1 ≤ j → j < m → ∃ b, (38 :: tl)[j]? = some b ∧ DullU b) := by
  by_cases hs : ∃ u, tl = 35 :: u
  · obtain ⟨u, rfl⟩ := hs
    rw [char_is] at h
    obtain ⟨k, hk, h2⟩ := Option.bind_eq_some_iff.1 h
    obtain ⟨r, hr, h3⟩ := Option.bind_eq_some_iff.1 h2
    simp only [Option.some.injEq, Prod.mk.injEq] at h3
    obtain ⟨rfl, rfl⟩ := h3
    obtain ⟨g1, g2, _⟩ := find_some hk
    rw [sw_one, List.getElem?_drop, Nat.add_zero] at g2
    refine ⟨by omega, by simp; omega, Or.inl rfl, fun _ j hj1 hj2 => ?_⟩
    by_cases e1 : j = 1
    · subst e1
      exact ⟨35, rfl, by decide, by decide, by decide⟩
    · by_cases e2 : j = k + 2
      · subst e2
        exact ⟨59, by simp only [List.getElem?_cons_succ]; exact g2, by decide, by decide, by decide⟩
      · obtain ⟨i, rfl⟩ : ∃ i, j = i + 2 := ⟨j - 2, by omega⟩
        have hi : i < k := by omega
        refine ⟨u[i]'(by omega), by simp only [List.getElem?_cons_succ]; exact List.getElem?_eq_getElem (by omega), refV_dull hr _ ?_⟩
        exact List.mem_iff_getElem?.2 ⟨i, by rw [List.getElem?_take, if_pos hi]; exact List.getElem?_eq_getElem (by omega)⟩
  · unfold refL at h
    obtain ⟨k, hk, h2⟩ := Option.bind_eq_some_iff.1 h
    have hn : ¬ swB [38, 35] (38 :: tl) = true := by
      intro e
      rw [sw_two] at e
      cases tl with
      | nil => simp at e
      | cons a u =>
        simp at e
        exact hs ⟨u, by rw [e]⟩
    rw [if_neg hn] at h2
    split at h2
    · simp only [Option.some.injEq, Prod.mk.injEq] at h2
      obtain ⟨rfl, rfl⟩ := h2
      have := (find_some hk).1
      simp only [List.length_cons] at this
      exact ⟨by omega, by omega, Or.inr rfl, fun e => by cases e⟩
    · cases h2

/-! ### the steps of an entity's text -/
theorem ent_perc (k : Nat) (t : List UInt8) : entS k (37 :: t) = none := by unfold entS; rw [if_pos rfl]
theorem ent_amp (k : Nat) (t : List UInt8) : entS k (38 :: t) = (refL (38 :: t)).bind fun r => if r.1.kind = 7 then (entS (r.2 - 1) t).map (r.1.text.data.toList ++ ·) else (entS 0 t).map (38 :: ·) := by
  rw [entS.eq_2, if_neg (by decide), if_pos rfl]
theorem ent_dull {b : UInt8} (h1 : b ≠ 38) (h2 : b ≠ 37) (t : List UInt8) : entS 0 (b :: t) = (entS 0 t).map (b :: ·) := by
  rw [entS.eq_2, if_neg h2, if_neg h1, if_pos rfl]
theorem ent_skip {b : UInt8} (h1 : b ≠ 38) (h2 : b ≠ 37) (k : Nat) (t : List UInt8) : entS (k + 1) (b :: t) = entS k t := by
  rw [entS.eq_2, if_neg h2, if_neg h1, if_neg (by omega)]
  rfl
theorem ent_run : ∀ (k : Nat) (l : List UInt8), k ≤ l.length → (∀ j, j < k → ∃ b, l[j]? = some b ∧ b ≠ 38 ∧ b ≠ 37) → entS 0 l = (entS 0 (l.drop k)).map (l.take k ++ ·)
  | 0, l, _, _ => by simp
  | k + 1, [], h, _ => by simp at h
  | k + 1, b :: t, h, hd => by
    obtain ⟨b', hb, h1, h2⟩ := hd 0 (by omega)
    simp only [List.getElem?_cons_zero, Option.some.injEq] at hb
    subst hb
    rw [ent_dull h1 h2, ent_run k t (by simpa using h) (fun j hj => hd (j + 1) (by omega))]
    simp [Function.comp_def]
theorem drop_cons (s : List UInt8) (pos : Nat) (b : UInt8) (h : s[pos]? = some b) : s.drop pos = b :: s.drop (pos + 1) := by
  obtain ⟨h1, h2⟩ := List.getElem?_eq_some_iff.1 h
  rw [List.drop_eq_getElem_cons h1, h2]
theorem pend_more (s : List UInt8) (done pos k : Nat) (h : done ≤ pos) : (s.drop done).take (pos + k - done) = (s.drop done).take (pos - done) ++ (s.drop pos).take k := by
  rw [show pos + k - done = (pos - done) + k by omega, List.take_add, List.drop_drop, show done + (pos - done) = pos by omega]
/-- WHERE Entity's LOOP STANDS: O was written, all up to done counts as told. -/
structure EnInv (s : List UInt8) (pos dn : Nat) (O : List UInt8) : Prop where
  le : pos ≤ s.length
  dle : dn ≤ s.length
  size : O.length ≤ pos * 300000
  told : entL s = (entS (dn - pos) (s.drop pos)).map ((O ++ (s.drop dn).take (pos - dn)) ++ ·)
  dull : ∀ j, pos ≤ j → j < dn → ∃ b, s[j]? = some b ∧ DullU b
theorem enInv_start (s : List UInt8) : EnInv s 0 0 [] := ⟨Nat.zero_le _, Nat.zero_le _, Nat.le_refl _, by simp [entL], fun j h1 h2 => by omega⟩
theorem EnInv.perc {s : List UInt8} {pos dn : Nat} {O : List UInt8} (h : EnInv s pos dn O) (hb : s[pos]? = some 37) : entT s = ([], false) := by
  unfold entT
  rw [h.told, drop_cons s pos 37 hb, ent_perc]
  rfl
theorem EnInv.amp_at {s : List UInt8} {pos dn : Nat} {O : List UInt8} (h : EnInv s pos dn O) (hb : s[pos]? = some 38) : dn ≤ pos := by
  rcases Nat.lt_or_ge pos dn with h1 | h1
  · obtain ⟨b, hb2, _, h3, _⟩ := h.dull pos (Nat.le_refl _) h1
    rw [hb] at hb2
    injection hb2 with hb2
    exact absurd hb2.symm h3
  · exact h1
theorem EnInv.amp_no {s : List UInt8} {pos dn : Nat} {O : List UInt8} (h : EnInv s pos dn O) (hb : s[pos]? = some 38) (hr : refL (s.drop pos) = none) : entT s = ([], false) := by
  unfold entT
  rw [drop_cons s pos 38 hb] at hr
  rw [h.told, drop_cons s pos 38 hb, ent_amp, hr]
  rfl
theorem EnInv.amp_ref {s : List UInt8} {pos dn m : Nat} {O : List UInt8} {t : Tok} (h : EnInv s pos dn O) (hb : s[pos]? = some 38) (hr : refL (s.drop pos) = some (t, m)) (hk : t.kind ≠ 7) : EnInv s (pos + 1) dn O := by
  have hd := h.amp_at hb
  have hlt := (List.getElem?_eq_some_iff.1 hb).1
  have hr2 := hr
  rw [drop_cons s pos 38 hb] at hr2
  refine ⟨hlt, h.dle, Nat.le_trans h.size (Nat.mul_le_mul_right _ (Nat.le_succ _)), ?_, fun j h1 h2 => by omega⟩
  rw [h.told, show dn - pos = 0 by omega, show dn - (pos + 1) = 0 by omega, drop_cons s pos 38 hb, ent_amp, hr2, Option.bind_some, if_neg hk, pend_more s dn pos 1 hd, drop_cons s pos 38 hb]
  simp [Function.comp_def]
theorem EnInv.amp_char {s : List UInt8} {pos dn m : Nat} {O : List UInt8} {t : Tok} (h : EnInv s pos dn O) (hb : s[pos]? = some 38) (hr : refL (s.drop pos) = some (t, m)) (hk : t.kind = 7) (ht : t.text.size ≤ 200000) (hs : s.length ≤ 100000) :
    EnInv s (pos + 1) (pos + m) (O ++ (s.drop dn).take (pos - dn) ++ t.text.data.toList) := by
  have hd := h.amp_at hb
  have hlt := (List.getElem?_eq_some_iff.1 hb).1
  have hr2 := hr
  rw [drop_cons s pos 38 hb] at hr2
  obtain ⟨h1, h2, _, h4⟩ := ref_said _ _ _ hr2
  rw [List.length_drop] at h2
  refine ⟨hlt, by omega, ?_, ?_, fun j h5 h6 => ?_⟩
  · have hz := h.size
    have hz2 : t.text.data.toList.length = t.text.size := by rw [Array.length_toList]; rfl
    rw [List.length_append, List.length_append, List.length_take, List.length_drop, hz2, Nat.succ_mul]
    omega
  · rw [h.told, show dn - pos = 0 by omega, drop_cons s pos 38 hb, ent_amp, hr2, Option.bind_some, if_pos hk, show pos + m - (pos + 1) = m - 1 by omega, show pos + 1 - (pos + m) = 0 by omega]
    simp [Function.comp_def]
  · obtain ⟨b, hb2, hb3⟩ := h4 hk (j - pos) (by omega) (by omega)
    rw [← drop_cons s pos 38 hb, List.getElem?_drop, show pos + (j - pos) = j by omega] at hb2
    exact ⟨b, hb2, hb3⟩
/-- a character that is no sign -/
theorem EnInv.on {s : List UInt8} {pos dn k : Nat} {O : List UInt8} (h : EnInv s pos dn O) (hk1 : 1 ≤ k) (hk : pos + k ≤ s.length) (hc : (k = 1 ∧ ∃ b, s[pos]? = some b ∧ b ≠ 38 ∧ b ≠ 37) ∨ (∀ j, pos ≤ j → j < pos + k → ∃ b, s[j]? = some b ∧ 128 ≤ b.toNat)) : EnInv s (pos + k) dn O := by
  have hsz : O.length ≤ (pos + k) * 300000 := Nat.le_trans h.size (Nat.mul_le_mul_right _ (Nat.le_add_right _ _))
  rcases Nat.lt_or_ge pos dn with h1 | h1
  · obtain ⟨b, hb, hb2⟩ := h.dull pos (Nat.le_refl _) h1
    have hk1 : k = 1 := by
      rcases hc with ⟨e, _⟩ | hc
      · exact e
      · obtain ⟨b', hb', hb3⟩ := hc pos (Nat.le_refl _) (by omega)
        rw [hb] at hb'
        injection hb' with hb'
        subst hb'
        have := hb2.1
        omega
    subst hk1
    refine ⟨hk, h.dle, hsz, ?_, fun j h5 h6 => h.dull j (by omega) h6⟩
    rw [h.told, drop_cons s pos b hb, show dn - pos = (dn - (pos + 1)) + 1 by omega, ent_skip hb2.2.1 hb2.2.2, show pos - dn = 0 by omega, show pos + 1 - dn = 0 by omega]
  · refine ⟨hk, h.dle, hsz, ?_, fun j h5 h6 => by omega⟩
    have hr := ent_run k (s.drop pos) (by rw [List.length_drop]; omega) (fun j hj => by
      rw [List.getElem?_drop]
      rcases hc with ⟨rfl, b, hb, hb2⟩ | hc
      · obtain rfl : j = 0 := by omega
        exact ⟨b, hb, hb2⟩
      · obtain ⟨b, hb, hb2⟩ := hc (pos + j) (by omega) (by omega)
        exact ⟨b, hb, fun e => by subst e; revert hb2; decide, fun e => by subst e; revert hb2; decide⟩)
    rw [h.told, show dn - pos = 0 by omega, show dn - (pos + k) = 0 by omega, hr, List.drop_drop, pend_more s dn pos k h1]
    simp [Function.comp_def]
theorem EnInv.done {s : List UInt8} {dn : Nat} {O : List UInt8} (h : EnInv s s.length dn O) : entT s = (O ++ s.drop dn, true) := by
  unfold entT
  have hd := h.dle
  rw [h.told, List.drop_length, show dn - s.length = 0 by omega]
  have e : (s.drop dn).take (s.length - dn) = s.drop dn := by rw [← List.length_drop, List.take_length]
  rw [e]
  simp [entS]
end Go.Proofs.YtmecigainilocaaGreatDoor

namespace Go.Proofs.YtmecigainilocaaGreatDoor
open Go.RowKit

theorem build_below {T e : TypeId} {B b : Nat} {bs : List Value} {w w' : World} (h : Lib.IsBuilderF T e B b bs w) (hb : Below w.heap.size w w') : Lib.IsBuilderF T e B b bs w' := by
  have one : ∀ p, Lib.BuilderAtF T e B b p bs w → Lib.BuilderAtF T e B b p bs w' := by
    rintro p ⟨hB, v, hbk, hown, hne⟩
    refine ⟨hB, v, (hb.block _ (Array.getElem?_eq_some_iff.1 hbk).1).trans hbk, ⟨hown.1, ?_⟩, hne⟩
    rcases hown.2 with hn | ⟨g, cap, cur, fz, hv, hbg, hg, rest⟩
    · exact .inl hn
    · exact .inr ⟨g, cap, cur, fz, hv, hbg, (hb.block _ (Array.getElem?_eq_some_iff.1 hg).1).trans hg, rest⟩
  rcases h with h | h
  · exact Or.inl (one _ h)
  · exact Or.inr (one _ h)
/-- THE WORLD IN Entity's LOOP: the builder's box, the iterator behind it. -/
structure EnW (s : List UInt8) (w wr : World) (pos : Nat) (O : List UInt8) : Prop where
  iter : wr.heap[w.heap.size + 1]? = some (.stringIter (bytes s) pos)
  bld : Lib.IsBuilderF 62 5 w.heap.size w.heap.size (Lib.byteCells O) wr
  below : Below w.heap.size w wr
section
variable {s O x : List UInt8} {w wr w' : World} {pos : Nat}
theorem EnW.other (h : EnW s w wr pos O) (hb : Below wr.heap.size wr w') : EnW s w w' pos O :=
  ⟨(hb.block _ (Array.getElem?_eq_some_iff.1 h.iter).1).trans h.iter, build_below h.bld hb, h.below.trans (hb.mono h.below.size)⟩
theorem EnW.next (h : EnW s w wr pos O) (p : Nat) : EnW s w (wr.iterAt (w.heap.size + 1) (bytes s) p) p O :=
  ⟨Lib.iterAt_heap wr _ _ pos p h.iter, h.bld.iterAt h.iter p, Lib.below_iterAt h.below (by omega) _ _⟩
theorem cells_more (O x : List UInt8) : Lib.byteCells O ++ Lib.strCells (bytes x) = Lib.byteCells (O ++ x) := by
  rw [Lib.strCells_eq]
  unfold Lib.byteCells
  rw [List.map_append]
  rfl
theorem EnW.write (h : EnW s w wr pos O) (hl : O.length + x.length ≤ 140737488355328) :
    Calls Tryz.prog 22 #[.pointer (some ⟨w.heap.size, 0, none⟩), .string (bytes x)] wr fun e w' => (∃ v, e = .returned v) ∧ EnW s w w' pos (O ++ x) ∧ Lib.OthersKept 5 (some w.heap.size) wr w' := by
  refine (Tryz.Builder_WriteString_k w.heap.size w.heap.size (Lib.byteCells O) (bytes x) wr h.bld (by rw [Lib.byteCells_length, bytes_len]; omega) h.below.size).mono ?_
  rintro e w' ⟨he, h2, hb, ho⟩
  rw [cells_more] at h2
  exact ⟨⟨_, he⟩, ⟨ho.iter h.iter (by omega), Or.inr h2, h.below.trans hb⟩, ho⟩
end
def EntG (s : List UInt8) (w : World) (e : Ending) (w' : World) : Prop := e = .returned (.tuple #[.string (bytes (entT s).1), .bool (entT s).2]) ∧ Below w.heap.size w w'
theorem entG_no {s : List UInt8} {w w' : World} (h : entT s = ([], false)) (hb : Below w.heap.size w w') : EntG s w (.returned (.tuple #[.string ⟨#[]⟩, .bool false])) w' := by
  unfold EntG
  rw [h]
  exact ⟨rfl, hb⟩
theorem entG_yes {s t : List UInt8} {w w' : World} (h : entT s = (t, true)) (hb : Below w.heap.size w w') : EntG s w (.returned (.tuple #[.string ⟨t.toArray⟩, .bool true])) w' := by
  unfold EntG
  rw [h]
  exact ⟨rfl, hb⟩
theorem next_amp (tl : List UInt8) : nextL (38 :: tl) = refL (38 :: tl) := rfl
theorem next_amp_no (s : List UInt8) (pos : Nat) (hb : s[pos]? = some 38) (hr : refL (s.drop pos) = none) : nextT (bytes s) (pos : Int) = (tok0, (pos : Int), 2) := by
  have hlt := (List.getElem?_eq_some_iff.1 hb).1
  refine nextT_none (bytes s) pos (by rw [bytes_len]; exact hlt) ?_
  show nextL (s.drop pos) = none
  rw [drop_cons s pos 38 hb] at hr ⊢
  exact hr
theorem next_amp_yes (s : List UInt8) (pos : Nat) (hb : s[pos]? = some 38) (t : Tok) (m : Nat) (hr : refL (s.drop pos) = some (t, m)) : nextT (bytes s) (pos : Int) = (t, ((pos + m : Nat) : Int), 0) ∧ t.text.size ≤ s.length + 4 := by
  have hlt := (List.getElem?_eq_some_iff.1 hb).1
  have h : nextL ((bytes s).data.toList.drop pos) = some (t, m) := by
    show nextL (s.drop pos) = _
    rw [drop_cons s pos 38 hb] at hr ⊢
    exact hr
  refine ⟨nextT_at (bytes s) pos (by rw [bytes_len]; exact hlt) t m h, ?_⟩
  have := next_small _ t m h
  rw [List.length_drop] at this
  have h2 : (bytes s).data.toList.length = s.length := rfl
  omega
theorem tok_new (w : World) (v0 v1 v2 v3 v4 : Value) (t : TypeId) : (w.alloc (.cells #[v0, v1, v2, v3, v4] t)).heap[w.heap.size]? = some (.cells #[v0, v1, v2, v3, v4] t (0, 0)) := by
  show (w.heap.push _)[w.heap.size]? = _
  rw [Array.getElem?_push_size]
theorem string_of (x : ByteArray) : x = bytes x.data.toList := by
  apply ByteArray.ext
  show x.data = x.data.toList.toArray
  rw [Array.toArray_toList]
set_option maxHeartbeats 8000000 in
set_option maxRecDepth 100000 in
theorem ent_any (n : Nat) (s : List UInt8) (w : World) (hE : DE n w) (hn : n ≤ w.heap.size) (hs : s.length ≤ 100000) : Calls Tryz.prog 14 #[.string (bytes s)] w (EntG s w) := by
  have hsz : (bytes s).size = s.length := bytes_len s
  have HE := Lib.hid (fun W (hb : Below w.heap.size w W) => (hE.stay (hb.mono hn)).ke)
  have HW0 : Hid (EnW s w ((w.alloc (.cells #[.pointer none, .slice none 0 0] 62)).iter (bytes s) 0) 0 []) := by
    have hz : (w.alloc (.cells #[.pointer none, .slice none 0 0] 62)).heap.size = w.heap.size + 1 := Deep.nblk_alloc _ _
    have hI : Lib.IsBuilderF 62 5 w.heap.size w.heap.size (Lib.byteCells []) (w.alloc (.cells #[.pointer none, .slice none 0 0] 62)) := by
      refine Or.inl ⟨Nat.le_refl _, .slice none 0 0, ?_, ⟨rfl, Or.inl ⟨rfl, rfl⟩⟩, fun e => by cases e⟩
      show (w.heap.push _)[w.heap.size]? = _
      rw [Array.getElem?_push_size]
    have hb1 : Below w.heap.size w (w.alloc (.cells #[.pointer none, .slice none 0 0] 62)) := (Below.refl _ _).alloc (Nat.le_refl _) _
    have hb2 := iter_below (w.alloc (.cells #[.pointer none, .slice none 0 0] 62)) (bytes s) 0
    refine Lib.hid ⟨?_, build_below hI hb2, hb1.trans (hb2.mono hb1.size)⟩
    rw [← hz]
    exact World.iter_heap _ _ _
  clear hE
  go_enter Tryz.func14, Tryz.ntmps14
  go_wp2
  go_loopw [5] (fun dv wr => ∃ (pos dn : Nat) (O : List UInt8), dv = .int .i64 (dn : Int) ∧ EnW s w wr pos O ∧ EnInv s pos dn O) (fun _ wr => s.length - wr.iterPos (w.heap.size + 1))
  case atStart => exact ⟨0, 0, [], rfl, HW0.out, enInv_start s⟩
  case round =>
    obtain ⟨pos, dn, O, rfl, hw, hi⟩ := hrel
    have HW := Lib.hid hw
    have HI := Lib.hid hi
    have hpl := hi.le
    have hdl := hi.dle
    clear HW0 hw hi
    have HM : Hid (wr.iterPos (w.heap.size + 1) = pos) := Lib.hid (by unfold World.iterPos; rw [HW.out.iter])
    by_cases hlt : pos < s.length
    · obtain ⟨hwd, hwl, hrune⟩ := rune_at s pos hlt
      rw [show Lib.decodeL (s.drop pos) = Utf8.decode (bytes s) pos from Lib.decodeL_drop (bytes s) pos] at hwd hwl hrune
      have hnx : ∀ ty, (Instr.next (.pointer (some ⟨w.heap.size + 1, 0, none⟩)) true ty).run Tryz.prog wr = _ := fun ty => Lib.run_next_any_at wr (w.heap.size + 1) (bytes s) pos ty HW.out.iter (by rw [hsz]; exact hlt)
      have HN := Lib.hid (HW.out.next (pos + (Utf8.decode (bytes s) pos).2))
      obtain ⟨r, hr⟩ : ∃ r : Nat, (Utf8.decode (bytes s) pos).1 = r := ⟨_, rfl⟩
      obtain ⟨k, hk⟩ : ∃ k : Nat, (Utf8.decode (bytes s) pos).2 = k := ⟨_, rfl⟩
      simp only [hr, hk] at hnx hwd hwl hrune HN
      obtain ⟨W, hWW⟩ : ∃ W, wr.iterAt (w.heap.size + 1) (bytes s) (pos + k) = W := ⟨_, rfl⟩
      rw [hWW] at HN
      simp only [hWW] at hnx
      clear hr hk hWW HW
      have HR := Lib.hid hrune
      clear hrune
      have hcase : (r = 37 ∧ s[pos]? = some 37) ∨ (r = 38 ∧ k = 1 ∧ s[pos]? = some 38) ∨ (((r : Int) == 37) = false ∧ ((r : Int) == 38) = false ∧ EnInv s (pos + k) dn O) := by
        rcases HR.out with ⟨b, hb, hb2, _, rfl⟩ | ⟨h128, hall⟩
        · by_cases e1 : r = 37
          · refine Or.inl ⟨e1, ?_⟩
            rw [hb]; congr 1; exact UInt8.toNat_inj.1 (hb2.trans e1)
          · by_cases e2 : r = 38
            · refine Or.inr (Or.inl ⟨e2, rfl, ?_⟩)
              rw [hb]; congr 1; exact UInt8.toNat_inj.1 (hb2.trans e2)
            · refine Or.inr (Or.inr ⟨beq_eq_false_iff_ne.2 (by omega), beq_eq_false_iff_ne.2 (by omega), HI.out.on hwd hwl (Or.inl ⟨rfl, b, hb, fun e => e2 (by rw [← hb2, e]; rfl), fun e => e1 (by rw [← hb2, e]; rfl)⟩)⟩)
        · exact Or.inr (Or.inr ⟨beq_eq_false_iff_ne.2 (by omega), beq_eq_false_iff_ne.2 (by omega), HI.out.on hwd hwl (Or.inr hall)⟩)
      clear HR
      rcases hcase with ⟨rfl, hb⟩ | ⟨rfl, rfl, hb⟩ | ⟨g1, g2, hon⟩
      · have HV := Lib.hid (HI.out.perc hb)
        clear hb HI
        go_wp2
        go_ret2
        exact entG_no HV.out HN.out.below
      · -- a reference
        have CN := Lib.hid (next_any n (bytes s) (pos : Int) W (HE.out W HN.out.below) (Nat.le_trans hn HN.out.below.size) (by rw [hsz]; exact hs))
        cases hr : refL (s.drop pos) with
        | none =>
          have HV := Lib.hid (HI.out.amp_no hb hr)
          have hT := next_amp_no s pos hb hr
          unfold NextG at CN
          rw [hT] at CN
          clear hT hr hb HI
          go_wp2_with fail
          refine CN.out.mono ?_
          rintro e w2 ⟨sl, rfl, hown, hb2⟩
          obtain ⟨sa, sc, rfl⟩ := owns_slice hown
          have HB2 := Lib.hid (HN.out.other hb2)
          clear CN hb2 hown
          go_wp2
          go_ret2
          exact entG_no HV.out (HB2.out.below.alloc (HB2.out.below.size) _)
        | some z =>
          obtain ⟨t, m⟩ := z
          obtain ⟨hT, htx⟩ := next_amp_yes s pos hb t m hr
          have hrs := hr
          rw [drop_cons s pos 38 hb] at hrs
          obtain ⟨hm1, hm2, hk78, _⟩ := ref_said _ _ _ hrs
          rw [List.length_drop] at hm2
          clear hrs
          unfold NextG at CN
          rw [hT] at CN
          clear hT
          have HR := Lib.hid hr
          have HB := Lib.hid hb
          clear hr hb
          go_wp2_with fail
          refine CN.out.mono ?_
          rintro e w2 ⟨sl, rfl, hown, hb2⟩
          obtain ⟨sa, sc, rfl⟩ := owns_slice hown
          have HB2 := Lib.hid (HN.out.other hb2)
          clear CN hb2 hown
          obtain ⟨tk, tn, tt, ta, te⟩ := t
          obtain ⟨tz, htz⟩ : ∃ z, ta.length = z := ⟨_, rfl⟩
          simp only [htz]
          have hw2 : w.heap.size < w2.heap.size := by have := (Array.getElem?_eq_some_iff.1 HB2.out.iter).1; omega
          have hk78' : tk = 7 ∨ tk = 8 := hk78
          rcases hk78' with rfl | rfl
          · have hd := HI.out.amp_at HB.out
            have HC := Lib.hid (tok_new w2 (.int .i64 7) (.string tn) (.string tt) (.slice sa tz sc) (.bool te) 65)
            have HB3 := Lib.hid (HB2.out.other ((Below.refl _ _).alloc (Nat.le_refl _) (.cells #[.int .i64 7, .string tn, .string tt, .slice sa tz sc, .bool te] 65)))
            have HN2 := Lib.hid (HI.out.amp_char HB.out HR.out rfl (by show tt.size ≤ 200000; have : tt.size ≤ s.length + 4 := htx; omega) hs)
            have hq : (bytes s).extract dn pos = bytes ((s.drop dn).take (pos - dn)) := by
              apply ByteArray.ext
              apply Array.ext'
              rw [ByteArray.data_extract, Array.toList_extract, List.extract_eq_take_drop]
              rfl
            have hO : O.length ≤ 30000000000 := Nat.le_trans HI.out.size (Nat.mul_le_mul_right _ (show pos ≤ 100000 by omega))
            have hpl2 : ((s.drop dn).take (pos - dn)).length ≤ 100000 := by rw [List.length_take, List.length_drop]; omega
            have htt : tt.size ≤ 100004 := by have : tt.size ≤ s.length + 4 := htx; omega
            obtain ⟨pd, hpd⟩ : ∃ pd, (s.drop dn).take (pos - dn) = pd := ⟨_, rfl⟩
            rw [hpd] at hq HN2 hpl2
            have z1 : (0 : Int) ≤ (dn : Int) := by omega
            have z2 : (dn : Int) ≤ (pos : Int) := by omega
            have z3 : (pos : Int) ≤ ((bytes s).size : Int) := by rw [hsz]; omega
            have z4 : (pos : Int) ≤ (s.length : Int) := by omega
            clear hpd HI HR HB
            have CW := Lib.hid (HB3.out.write (x := pd) (by omega))
            go_wp2_with fail
            refine CW.out.mono ?_
            rintro e w4 ⟨⟨v4, rfl⟩, h4, ho⟩
            have HC4 : Hid (w4.heap[w2.heap.size]? = some (.cells #[.int .i64 7, .string tn, .string tt, .slice sa tz sc, .bool te] 65 (0, 0))) := Lib.hid (ho _ _ HC.out (fun e => by injection e with e; omega) (fun c fz e => by injection e with _ e _; revert e; decide))
            have hc2 : w4.cell? ⟨w2.heap.size, 2, none⟩ = some (.string tt) := by simp [World.cell?, HC4.out]
            have HB4 := Lib.hid h4
            clear CW h4 ho
            have hts : tt = bytes tt.data.toList := string_of tt
            have hOP : (O ++ pd).length + tt.data.toList.length ≤ 140737488355328 := by
              have e1 : tt.data.toList.length = tt.size := by rw [Array.length_toList]; rfl
              rw [List.length_append, e1]
              omega
            have CW := Lib.hid (HB4.out.write (x := tt.data.toList) hOP)
            rw [← hts] at CW
            clear hts hOP hO
            go_wp2_with fail
            refine CW.out.mono ?_
            rintro e w5 ⟨⟨v5, rfl⟩, h5, _⟩
            have HB5 := Lib.hid h5
            clear CW h5
            go_wp2
            go_roundw
            case rel => exact ⟨pos + 1, pos + m, _, rfl, HB5.out, HN2.out⟩
            case measure => rw [HM.out, show w5.iterPos (w.heap.size + 1) = pos + 1 by unfold World.iterPos; rw [HB5.out.iter]]; omega
          · have HN2 := Lib.hid (HI.out.amp_ref HB.out HR.out (show (8 : Nat) ≠ 7 by decide))
            have HB3 := Lib.hid (HB2.out.other ((Below.refl _ _).alloc (Nat.le_refl _) (.cells #[.int .i64 8, .string tn, .string tt, .slice sa tz sc, .bool te] 65)))
            clear HI HR HB
            go_wp2
            go_roundw
            case rel => exact ⟨pos + 1, dn, O, rfl, HB3.out, HN2.out⟩
            case measure => rw [HM.out, show (w2.alloc (.cells #[.int .i64 8, .string tn, .string tt, .slice sa tz sc, .bool te] 65)).iterPos (w.heap.size + 1) = pos + 1 by unfold World.iterPos; rw [HB3.out.iter]]; omega
      · have HON := Lib.hid hon
        clear hon HI
        go_wp2
        go_roundw
        case rel => exact ⟨pos + k, dn, O, rfl, HN.out, HON.out⟩
        case measure => rw [HM.out, show W.iterPos (w.heap.size + 1) = pos + k by unfold World.iterPos; rw [HN.out.iter]]; omega
    · have hnx : ∀ ty, (Instr.next (.pointer (some ⟨w.heap.size + 1, 0, none⟩)) true ty).run Tryz.prog wr = _ := fun ty => Lib.run_next_end_at wr (w.heap.size + 1) (bytes s) pos ty HW.out.iter (by rw [hsz]; exact hlt)
      obtain rfl : pos = s.length := by omega
      have HV := Lib.hid HI.out.done
      have hO : O.length ≤ 30000000000 := Nat.le_trans HI.out.size (Nat.mul_le_mul_right _ hs)
      have hq : (bytes s).extract dn s.length = bytes (s.drop dn) := by rw [← hsz]; exact bytes_drop s dn
      have z2 : (dn : Int) ≤ ((bytes s).size : Int) := by rw [hsz]; omega
      have z3 : (dn : Int) ≤ (s.length : Int) := by omega
      have CW := Lib.hid (HW.out.write (x := s.drop dn) (by rw [List.length_drop]; omega))
      generalize s.drop dn = q at *
      clear HI
      go_wp2_with fail
      refine CW.out.mono ?_
      rintro e w4 ⟨⟨v4, rfl⟩, h4, _⟩
      have HB4 := Lib.hid h4
      have CS := Lib.hid (Tryz.Builder_String_any_k w.heap.size w.heap.size _ w4 h4.bld h4.below.size)
      clear CW h4
      go_wp2_with fail
      refine CS.out.mono ?_
      rintro e w5 ⟨rfl, _, hb5, _⟩
      have HB5 := Lib.hid (HB4.out.below.trans hb5)
      clear CS hb5
      go_wp2
      go_ret2
      exact entG_yes HV.out HB5.out
end Go.Proofs.YtmecigainilocaaGreatDoor
