/-
  PLAIN MATHEMATICS FOR LAYER 11: what a reader that goes over a row of bytes rune by rune finds: a literal, an entity's text. No program stands in this text.
  THE LANDED PACKAGE decl: what of package-level variables is read (DE), a reader in its box (DR: an XML declaration's own, or the first two cells of a document type's), and the contract of take.
  THE LANDED PACKAGE decl: the contracts of while (with whatever function is handed in), space, parts, perhaps.
  THE LANDED PACKAGE decl: the contract of while, handed a function that may make blocks of its own.
  THE LANDED PACKAGE decl: the contracts of Literal and of the reader's literal.
  THE LANDED PACKAGE decl: the contracts of spacedName, qualified, word, list, spacedLiteral, external.
  THE LANDED PACKAGE decl: the contracts of spacedLiteral, external, equals, setting, settings and its parts, XML.
  PLAIN MATHEMATICS FOR LAYER 11: what is left behind a step is no longer than what stood ahead. No program stands in this text.
  THE LANDED PACKAGE decl: the maps of names that are declared already: what a set of names is (NamesM), what leads from elements to their sets (ElemsM), and the contract of add.
-/
import Derived.Test.YtmecigainilocaaGreatDoorTokStart
import Derived.Test.YtmecigainilocaaGreatDoorDeclDefs
import Derived.Test.YtmecigainilocaaGreatDoorRunKRef
import Derived.Test.YtmecigainilocaaGreatDoorRuneSplitK
import Derived.Test.YtmecigainilocaaGreatDoorDeclSaid
import Derived.BigQuiet
import Derived.Deep.QuietTactic
import Derived.Lib.OthersKept
import Derived.IntWalk
import Derived.Deep.RegionHeld3
import Derived.Deep.LoopGhost
import Derived.Maps.OwnSet
import Derived.Carry
import Derived.StringKeys
namespace Go.Proofs.YtmecigainilocaaGreatDoor
open Go Go.Lib

/-- the character at a place: a byte below 128, or bytes above -/
theorem rune_at (l : List UInt8) (pos : Nat) (hlt : pos < l.length) : 1 ≤ (decodeL (l.drop pos)).2 ∧ pos + (decodeL (l.drop pos)).2 ≤ l.length ∧
    ((∃ b, l[pos]? = some b ∧ b.toNat = (decodeL (l.drop pos)).1 ∧ (decodeL (l.drop pos)).1 < 128 ∧ (decodeL (l.drop pos)).2 = 1) ∨
     (128 ≤ (decodeL (l.drop pos)).1 ∧ ∀ j, pos ≤ j → j < pos + (decodeL (l.drop pos)).2 → ∃ b, l[j]? = some b ∧ 128 ≤ b.toNat)) := by
  obtain ⟨b, t, hbt⟩ : ∃ b t, l.drop pos = b :: t := by
    cases hd : l.drop pos with
    | nil => have := congrArg List.length hd; rw [List.length_drop, List.length_nil] at this; omega
    | cons b t => exact ⟨b, t, rfl⟩
  have hne : l.drop pos ≠ [] := by rw [hbt]; simp
  have hw := decodeL_width (l.drop pos)
  have hle := decodeL_le (l.drop pos) hne
  rw [List.length_drop] at hle
  have hb0 : l[pos]? = some b := by
    have : (l.drop pos)[0]? = some b := by rw [hbt]; rfl
    rwa [List.getElem?_drop, Nat.add_zero] at this
  refine ⟨hw, by omega, ?_⟩
  by_cases hb : b.toNat < 128
  · refine Or.inl ⟨b, hb0, ?_⟩
    rw [hbt, decodeL_ascii b t hb]
    exact ⟨rfl, hb, rfl⟩
  · obtain ⟨h1, h2⟩ := decodeL_high hne (by rw [hbt]; show 128 ≤ b.toNat; omega)
    refine Or.inr ⟨h1, fun j hj hj2 => ?_⟩
    have := h2 (j - pos) (by omega)
    have hjl : j < l.length := by omega
    refine ⟨l[j], List.getElem?_eq_getElem hjl, ?_⟩
    rw [List.getD_eq_getElem?_getD, List.getElem?_drop, show pos + (j - pos) = j by omega, List.getElem?_eq_getElem hjl] at this
    exact this

/-! ### a literal -/
theorem lit_head {l : List UInt8} {b : UInt8} (h : l[0]? = some b) (h34 : b ≠ 34) (h39 : b ≠ 39) : literalL l = none := by
  cases l with
  | nil => rfl
  | cons a t =>
    simp only [List.getElem?_cons_zero, Option.some.injEq] at h
    subst h
    show (if a = 34 ∨ a = 39 then _ else none) = none
    rw [if_neg (by rintro (e | e); exact h34 e; exact h39 e)]
theorem lit_found {l : List UInt8} {q : UInt8} (hq : q = 34 ∨ q = 39) (h0 : l[0]? = some q) {pos : Nat} (h1 : 1 ≤ pos) (hp : l[pos]? = some q) (hn : ∀ j, 1 ≤ j → j < pos → l[j]? ≠ some q) :
    literalL l = some ((l.drop 1).take (pos - 1), pos + 1) := by
  cases l with
  | nil => cases h0
  | cons a t =>
    simp only [List.getElem?_cons_zero, Option.some.injEq] at h0
    subst h0
    obtain ⟨m, rfl⟩ : ∃ m, pos = m + 1 := ⟨pos - 1, by omega⟩
    rw [List.getElem?_cons_succ] at hp
    have hf : findL [a] t = some m := find_at (by
      rcases Nat.lt_or_ge m t.length with h | h
      · exact h
      · rw [List.getElem?_eq_none h] at hp; cases hp) (by rw [sw_one, List.getElem?_drop]; exact hp) (fun j hj => by
      rw [Bool.eq_false_iff]
      intro e
      rw [sw_one, List.getElem?_drop, Nat.add_zero] at e
      exact hn (j + 1) (by omega) (by omega) (by rw [List.getElem?_cons_succ]; exact e))
    show (if a = 34 ∨ a = 39 then (findL [a] t).bind fun k => some (t.take k, k + 2) else none) = _
    rw [if_pos hq, hf]
    rfl
theorem lit_open {l : List UInt8} {q : UInt8} (h0 : l[0]? = some q) (hn : ∀ j, 1 ≤ j → j < l.length → l[j]? ≠ some q) : literalL l = none := by
  cases l with
  | nil => rfl
  | cons a t =>
    simp only [List.getElem?_cons_zero, Option.some.injEq] at h0
    subst h0
    have hf : findL [a] t = none := find_none.2 fun j hj => by
      rw [Bool.eq_false_iff]
      intro e
      rw [sw_one, List.getElem?_drop, Nat.add_zero] at e
      exact hn (j + 1) (by omega) (by simp; omega) (by rw [List.getElem?_cons_succ]; exact e)
    show (if a = 34 ∨ a = 39 then (findL [a] t).bind fun k => some (t.take k, k + 2) else none) = none
    rw [hf]
    simp
theorem litT_in (s : List UInt8) (k : Nat) (hk : k ≤ s.length) : litT s (k : Int) = match literalL (s.drop k) with
    | none => ([], (k : Int), false)
    | some (v, n) => (v, (k : Int) + n, true) := by
  unfold litT
  rw [if_neg (by omega)]
  rfl
theorem litT_out (s : List UInt8) (k : Int) (hk : k < 0 ∨ (s.length : Int) < k) : litT s k = ([], k, false) := by
  unfold litT
  rw [if_pos hk]
end Go.Proofs.YtmecigainilocaaGreatDoor

namespace Go.Proofs.YtmecigainilocaaGreatDoor
open Go.RowKit

/-- WHAT THE CODE READS OF PACKAGE-LEVEL VARIABLES, in blocks below n. -/
structure DE (n : Nat) (w : World) : Prop where
  ke : KE n w
  fold : ∀ i : Nat, i ∈ [45, 56, 70, 84, 85, 102, 116, 117] → w.cell? ⟨0, i, none⟩ = some (.int .u16 (if i < 60 then (i : Int) else if i < 96 then (i : Int) + 32 else (i : Int) - 32))
theorem DE.stay {n : Nat} {w w' : World} (h : DE n w) (hb : Below n w w') : DE n w' := ⟨h.ke.stay hb, fun i hi => (hb.cell h.ke.low.2.2.1).trans (h.fold i hi)⟩

/-- what stays of a reader's box -/
structure Rd where
  n : Nat
  b : Nat
  T : TypeId
  m : Nat
  f : Nat → Value
  s : List UInt8
def Rd.at (c : Rd) (l : List UInt8) : Nat := c.s.length - l.length
def Rd.v (c : Rd) (l : List UInt8) : Nat → Value := fun i => if i = 0 then .string (bytes c.s) else if i = 1 then .int .i64 (c.at l : Int) else c.f i
/-- A READER in the block c.b, before which l lies; since w0 nothing has turned but that box. -/
structure DR (c : Rd) (w0 w : World) (l : List UInt8) : Prop where
  e : DE c.n w
  nb : c.n ≤ c.b
  rd : w.rowIs c.b c.T c.m (c.v l)
  m2 : 2 ≤ c.m
  b0 : c.b < w0.heap.size
  since : Turns (fun k => k = c.b) w0 w
  small : c.s.length ≤ 100000
  suf : l <:+ c.s
section
variable {c : Rd} {w0 w w' : World} {l l' : List UInt8}
theorem DR.len (h : DR c w0 w l) : l.length ≤ c.s.length := h.suf.length_le
theorem DR.short (h : DR c w0 w l) : l.length ≤ 100000 := Nat.le_trans h.len h.small
theorem DR.at_le (h : DR c w0 w l) : c.at l + l.length = c.s.length := by have := h.len; unfold Rd.at; omega
theorem DR.drop (h : DR c w0 w l) : c.s.drop (c.at l) = l := (List.suffix_iff_eq_drop.1 h.suf).symm
theorem DR.cut (h : DR c w0 w l) : (bytes c.s).extract (c.at l) c.s.length = bytes l := by
  have := bytes_drop c.s (c.at l)
  rw [h.drop, bytes_len] at this
  exact this
theorem DR.c0 (h : DR c w0 w l) : w.cell? ⟨c.b, 0, none⟩ = some (.string (bytes c.s)) := h.rd.cell (i := 0) (by have := h.m2; omega)
theorem DR.c1 (h : DR c w0 w l) : w.cell? ⟨c.b, 1, none⟩ = some (.int .i64 (c.at l : Int)) := h.rd.cell (i := 1) (by have := h.m2; omega)
theorem DR.fro (h : DR c w0 w l) (i : Nat) : w.frozen? ⟨c.b, i, none⟩ = false := h.rd.frozen i
theorem DR.other (h : DR c w0 w l) (hb : Below w.heap.size w w') : DR c w0 w' l :=
  ⟨h.e.stay (hb.mono (by have := h.nb; have := h.rd.lt; omega)), h.nb, h.rd.of_block (hb.block _ h.rd.lt), h.m2, h.b0, h.since.other hb, h.small, h.suf⟩
theorem DR.alloc (h : DR c w0 w l) (o : Obj) : DR c w0 (w.alloc o) l := h.other ((Below.refl _ _).alloc (Nat.le_refl _) o)
theorem DR.drewN (h : DR c w0 w l) (k : Nat) : DR c w0 (w.drewN k) l := h.other (drewN_below w k)
theorem DR.turned (h : DR c w0 w l) (hT : Turns (fun k => k = c.b) w w') (hr : w'.rowIs c.b c.T c.m (c.v l')) (hs : l' <:+ c.s) : DR c w0 w' l' :=
  ⟨h.e.stay (hT.below (by have := h.nb; have := h.rd.lt; omega) (fun k hk => by have := h.nb; omega)), h.nb, hr, h.m2, h.b0, h.since.trans hT, h.small, hs⟩
theorem DR.put (h : DR c w0 w l) (hs : l' <:+ c.s) {k : Int} (hk : k = (c.at l' : Int)) : DR c w0 (w.setCell ⟨c.b, 1, none⟩ (.int .i64 k)) l' := by
  subst hk
  refine h.turned ((Turns.refl (fun k => k = c.b) w).setCell (p := ⟨c.b, 1, none⟩) (Or.inl rfl) _) ((World.rowIs.set h.rd 1 _).congr fun i hi => ?_) hs
  unfold Rd.v
  by_cases h1 : i = 1
  · subst h1; rfl
  · simp only [h1, if_false]
theorem DR.start (h : DR c w0 w l) : DR c w w l := ⟨h.e, h.nb, h.rd, h.m2, h.rd.lt, Turns.refl _ _, h.small, h.suf⟩
theorem DR.from {w1 : World} (h : DR c w0 w l) (h' : DR c w w1 l') : DR c w0 w1 l' := ⟨h'.e, h'.nb, h'.rd, h'.m2, h.b0, h.since.trans h'.since, h'.small, h'.suf⟩
theorem DR.suf_drop (h : DR c w0 w l) (k : Nat) : l.drop k <:+ c.s := (List.drop_suffix k l).trans h.suf
theorem DR.at_drop (h : DR c w0 w l) {k : Nat} (hk : k ≤ l.length) : c.at (l.drop k) = c.at l + k := by
  have := h.len
  unfold Rd.at
  rw [List.length_drop]
  omega
theorem DR.below (h : DR c w0 w l) (hn : w'.heap.size ≤ c.b) (hw : Below w'.heap.size w' w0) : Below w'.heap.size w' w := hw.trans (h.since.below hw.size (fun k hk => by omega))

theorem hasPrefix_d (l m : List UInt8) (w : World) : Calls Tryz.prog 24 #[.string (bytes l), .string (bytes m)] w fun e w' => e = .returned (.bool (swB m l)) ∧ w' = w := Tryz.hasPrefix_laid (bytes l) (bytes m) w
set_option maxHeartbeats 1000000 in
theorem take_d (m : List UInt8) (h : DR c w0 w l) (hm0 : m.length ≤ 100) :
    Calls Tryz.prog 16 #[.pointer (some ⟨c.b, 0, none⟩), .string (bytes m)] w fun e w' => e = .returned (.bool (swB m l)) ∧ (swB m l = true → DR c w0 w' (l.drop m.length)) ∧ (swB m l = false → DR c w0 w' l) := by
  have c0 := h.c0
  have c1 := h.c1
  have hf := h.fro 1
  have hcut := h.cut
  have hat := h.at_le
  have hsm := h.small
  have CP := Lib.hid (fun k : Nat => (hasPrefix_d l m (w.drewN k)).mono (fun e w' (hg : e = .returned (.bool (swB m l)) ∧ w' = w.drewN k) => (show e = .returned (.bool (swB m l)) ∧ ∃ x, w' = (w.drewN k).drewN x from ⟨hg.1, 0, hg.2⟩)))
  have HD := Lib.hid (fun k : Nat => h.drewN k)
  have HP := Lib.hid (fun (k : Nat) (hk : m.length ≤ l.length) => (h.drewN k).put (h.suf_drop m.length) (k := (c.at l : Int) + (m.length : Int)) (by rw [h.at_drop hk]; omega))
  have HL : Hid (swB m l = true → m.length ≤ l.length) := Lib.hid sw_length
  have hbl : (bytes m).size = m.length := bytes_len m
  have hbs : (bytes c.s).size = c.s.length := bytes_len c.s
  clear h
  generalize c.at l = a at *
  have q1 : (a : Int) ≤ ((bytes c.s).size : Int) := by rw [hbs]; omega
  cases hm : swB m l with
  | false =>
    rw [hm] at CP
    clear HP HL
    go_enter Tryz.func16, Tryz.ntmps16
    go_wp2
    go_quiet ((go_at_call 24; exact Calls.quiet_of (CP.out _)))
    go_wp2
    go_ret
    exact ⟨rfl, fun e => (by cases e), fun _ => HD.out _⟩
  | true =>
    rw [hm] at CP
    have hle := HL.out hm
    have HP2 := Lib.hid (fun k => HP.out k hle)
    clear HP HL
    go_enter Tryz.func16, Tryz.ntmps16
    go_wp2
    go_quiet ((go_at_call 24; exact Calls.quiet_of (CP.out _)))
    go_wp2
    go_ret
    exact ⟨rfl, fun _ => HP2.out _, fun e => (by cases e)⟩
end
end Go.Proofs.YtmecigainilocaaGreatDoor

namespace Go.Proofs.YtmecigainilocaaGreatDoor
open Go.RowKit

section
variable {c : Rd} {w0 w w' : World} {l l' : List UInt8}
set_option maxHeartbeats 4000000 in
set_option maxRecDepth 100000 in
theorem while_d (p : Int → Bool) (g : Nat) (lb : Array Value) (eg : ∀ args w, (callFunc g args).run Tryz.prog w = .ok (.enter g args) w) (h : DR c w0 w l) (hp : PredK g lb p w) :
    Calls Tryz.prog 31 #[.pointer (some ⟨c.b, 0, none⟩), .func (.func g) #[] lb] w fun e w' => e = .returned (.string (bytes (l.take (whN p l)))) ∧ DR c w0 w' (l.drop (whN p l)) := by
  have c0 := h.c0
  have c1 := h.c1
  have hcut := h.cut
  have hat := h.at_le
  have hsm := h.small
  have hsz : (bytes l).size = l.length := bytes_len l
  have hbs : (bytes c.s).size = c.s.length := bytes_len c.s
  have hcW : ∀ q pos, ((w.drewN q).iter (bytes l) pos).cell? ⟨c.b, 1, none⟩ = some (.int .i64 (c.at l : Int)) := fun q pos => ((h.drewN q).other (iter_below (w.drewN q) (bytes l) pos)).c1
  have hfW : ∀ q pos, ((w.drewN q).iter (bytes l) pos).frozen? ⟨c.b, 1, none⟩ = false := fun q pos => ((h.drewN q).other (iter_below (w.drewN q) (bytes l) pos)).fro 1
  have H := Lib.hid (fun q pos k (hk : k ≤ l.length) => ((h.drewN q).other (iter_below (w.drewN q) (bytes l) pos)).put (h.suf_drop k) (k := (c.at l : Int) + (k : Int)) (by rw [h.at_drop hk]; omega))
  have HP := Lib.hid (fun q pos r => hp ((w.drewN q).iter (bytes l) pos) r ((drewN_below w q).trans (iter_below (w.drewN q) (bytes l) pos)))
  clear h hp
  generalize c.at l = a at *
  have q1 : (a : Int) ≤ ((bytes c.s).size : Int) := by rw [hbs]; omega
  go_enter Tryz.func31, Tryz.ntmps31
  go_wp2
  go_quiet (fail)
  go_wp2
  go_loopw [5] (fun tv wr => ∃ pos f : Nat, tv = .string (bytes l) ∧ wr = (w.drewN nq).iter (bytes l) pos ∧ pos ≤ l.length ∧ pos + whL p f (l.drop pos) = whN p l ∧ l.length ≤ pos + f) (fun _ wr => l.length - wr.iterPos w.heap.size)
  case atStart => exact ⟨0, l.length, rfl, rfl, Nat.zero_le _, by rw [Nat.zero_add, List.drop_zero]; rfl, by omega⟩
  case round =>
    obtain ⟨pos, f, rfl, rfl, hpl, ha, hf⟩ := hrel
    have HA := Lib.hid ha
    clear ha
    by_cases hlt : pos < l.length
    · have hnx : ∀ ty, (Instr.next (.pointer (some ⟨w.heap.size, 0, none⟩)) true ty).run Tryz.prog ((w.drewN nq).iter (bytes l) pos) = _ := fun ty => run_next_any (w.drewN nq) (bytes l) pos ty (by rw [hsz]; exact hlt)
      have hw := Lib.width_pos (bytes l) pos
      have hwl := width_le (bytes l) pos (by rw [hsz]; exact hlt)
      rw [hsz] at hwl
      obtain ⟨f, rfl⟩ : ∃ g, f = g + 1 := ⟨f - 1, by omega⟩
      have hne : l.drop pos ≠ [] := by
        intro e
        have := congrArg List.length e
        rw [List.length_drop, List.length_nil] at this
        omega
      have hst : whL p (f + 1) (l.drop pos) = if p ((Utf8.decode (bytes l) pos).1 : Int) = true then (Utf8.decode (bytes l) pos).2 + whL p f (l.drop (pos + (Utf8.decode (bytes l) pos).2)) else 0 := by
        show (if l.drop pos = [] then 0 else _) = _
        rw [if_neg hne, show Lib.decodeL (l.drop pos) = Utf8.decode (bytes l) pos from Lib.decodeL_drop (bytes l) pos, List.drop_drop]
      have HST := Lib.hid hst
      obtain ⟨r, hr⟩ : ∃ r : Nat, (Utf8.decode (bytes l) pos).1 = r := ⟨_, rfl⟩
      obtain ⟨k, hk⟩ : ∃ k : Nat, (Utf8.decode (bytes l) pos).2 = k := ⟨_, rfl⟩
      simp only [hr, hk] at HST hnx hw hwl
      clear hr hk hst hne
      have hcall := fun q => HP.out nq q r
      cases hpr : p (r : Int) with
      | true =>
        have HA' : Hid (pos + k + whL p f (l.drop (pos + k)) = whN p l) := Lib.hid (by rw [← HA.out, HST.out, if_pos hpr]; omega)
        rw [hpr] at hcall
        clear HST HA hpr
        go_wp2_with (go_at_fn g; refine (hcall _).mono ?_; rintro e w' ⟨rfl, rfl⟩)
        go_roundw
        case rel => exact ⟨pos + k, f, rfl, rfl, hwl, HA'.out, by omega⟩
        case measure =>
          have e1 : ∀ p, ((w.drewN nq).iter (bytes l) p).iterPos w.heap.size = p := fun p => World.iterPos_iter (w.drewN nq) (bytes l) p
          simp only [e1]
          omega
      | false =>
        have HN : Hid (whN p l = pos) := Lib.hid (by rw [← HA.out, HST.out, if_neg (by rw [hpr]; decide)]; rfl)
        rw [hpr] at hcall
        have hfro := hfW nq (pos + k)
        have hcell2 := hcW nq (pos + k)
        have HH := Lib.hid (H.out nq (pos + k) pos hpl)
        have q1 : (0 : Int) ≤ (pos : Int) := by omega
        have q2 : (pos : Int) ≤ ((bytes l).size : Int) := by omega
        have q3 : (bytes (l.take pos)).size = pos := by rw [bytes_len, List.length_take]; omega
        have q4 := bytes_take l pos
        clear HST HA hpr H HP hcW hfW hcut
        go_wp2_with (go_at_fn g; refine (hcall _).mono ?_; rintro e w' ⟨rfl, rfl⟩)
        go_ret
        rw [HN.out]
        exact ⟨rfl, HH.out⟩
    · have hnx : ∀ ty, (Instr.next (.pointer (some ⟨w.heap.size, 0, none⟩)) true ty).run Tryz.prog ((w.drewN nq).iter (bytes l) pos) = _ := fun ty => run_next_end (w.drewN nq) (bytes l) pos ty (by rw [hsz]; exact hlt)
      obtain rfl : pos = l.length := by omega
      have HN : Hid (whN p l = l.length) := Lib.hid (by rw [← HA.out, List.drop_length, whL_nil]; rfl)
      have hfro := hfW nq l.length
      have hcell2 := hcW nq l.length
      have HH := Lib.hid (H.out nq l.length l.length (Nat.le_refl _))
      clear HA H HP hcW hfW hcut
      go_wp2
      go_ret
      rw [HN.out, List.take_length]
      exact ⟨rfl, HH.out⟩
/-- the spaces ahead are taken: are there any? -/
theorem space_d (h : DR c w0 w l) :
    Calls Tryz.prog 18 #[.pointer (some ⟨c.b, 0, none⟩)] w fun e w' => e = .returned (.bool (decide (gapL l ≠ 0))) ∧ DR c w0 w' (mayL l) := by
  have C := while_d spaceB _ #[] enter_space h (space_k w)
  rw [wh_space] at C
  have hg : gapL l ≤ l.length := gap_le l
  have hm : mayL l = l.drop (gapL l) := rfl
  rw [hm]
  obtain ⟨k, hk⟩ : ∃ k, gapL l = k := ⟨_, rfl⟩
  rw [hk] at C hg ⊢
  have hb : (bytes (l.take k)).toList.isEmpty = decide (k = 0) := by
    rw [Lib.toList_data, bytes_list]
    by_cases h0 : k = 0
    · subst h0; rfl
    · rw [decide_eq_false h0, List.isEmpty_eq_false_iff]
      intro e
      have := congrArg List.length e
      rw [List.length_take, List.length_nil] at this
      omega
  clear hk h hm
  obtain ⟨z, hz⟩ : ∃ z, decide (k = 0) = z := ⟨_, rfl⟩
  have HZ : Hid (decide (k ≠ 0) = !z) := Lib.hid (by rw [← hz]; simp)
  rw [hz] at hb
  clear hz
  go_enter Tryz.func18, Tryz.ntmps18
  go_wp2_with (go_at_call 31; refine C.mono ?_; rintro e w' ⟨rfl, h⟩)
  go_ret
  exact ⟨by rw [HZ.out]; rfl, h⟩
/-- the Parts ahead are taken -/
theorem parts_d (h : DR c w0 w l) :
    Calls Tryz.prog 44 #[.pointer (some ⟨c.b, 0, none⟩)] w fun e w' => e = .returned (.string (bytes (nameT l))) ∧ DR c w0 w' (partR l) := by
  have C := while_d partB _ #[] enter_part h (part_k w)
  rw [show l.take (whN partB l) = nameT l from rfl, show l.drop (whN partB l) = partR l from rfl] at C
  clear h
  go_enter Tryz.func44, Tryz.ntmps44
  go_wp2_with (go_at_call 31; refine C.mono ?_; rintro e w' ⟨rfl, h⟩)
  go_ret
  exact ⟨rfl, h⟩
/-- WHAT perhaps GIVES: taken, or all as it was ahead. -/
def PerhG (c : Rd) (w0 : World) (l : List UInt8) (X : Bool → List UInt8 → World → Prop) (e : Ending) (w' : World) : Prop :=
  (∃ l', e = .returned (.bool true) ∧ DR c w0 w' l' ∧ X true l' w') ∨
  ∃ l' W, e = .returned (.bool false) ∧ DR c w0 w' l ∧ X false l' W ∧ w' = W.setCell ⟨c.b, 1, none⟩ (.int .i64 (c.at l : Int))
def PartG (c : Rd) (w0 : World) (X : Bool → List UInt8 → World → Prop) (e : Ending) (w' : World) : Prop := ∃ is l', e = .returned (.bool is) ∧ DR c w0 w' l' ∧ X is l' w'
set_option maxHeartbeats 1000000 in
theorem perhaps_d (X : Bool → List UInt8 → World → Prop) (g : Nat) (lb : Array Value) (eg : ∀ args w, (callFunc g args).run Tryz.prog w = .ok (.enter g args) w) (h : DR c w0 w l) (hp : Calls Tryz.prog g lb w (PartG c w0 X)) :
    Calls Tryz.prog 27 #[.pointer (some ⟨c.b, 0, none⟩), .func (.func g) #[] lb] w (PerhG c w0 l X) := by
  have c1 := h.c1
  have hs := h.suf
  have HP := Lib.hid hp
  clear h hp
  go_enter Tryz.func27, Tryz.ntmps27
  go_wp2_with fail
  refine HP.out.mono ?_
  rintro e w' ⟨is, l', rfl, h, hX⟩
  cases is with
  | true =>
    go_wp2
    go_ret
    exact Or.inl ⟨l', rfl, h, hX⟩
  | false =>
    have c2 := h.c1
    have f2 := h.fro 1
    have HH := Lib.hid (h.put hs rfl)
    clear h
    go_wp2
    go_ret
    exact Or.inr ⟨l', w', rfl, HH.out, hX, rfl⟩
end
end Go.Proofs.YtmecigainilocaaGreatDoor

namespace Go.Proofs.YtmecigainilocaaGreatDoor
open Go.RowKit

/-- WHAT IS ASKED OF THE FUNCTION THAT while IS HANDED: it tells p of a character, and leaves what there is alone. -/
def PredD (g : Nat) (p : Int → Bool) : Prop :=
  ∀ (W : World) (r : Nat), r ≤ 1114111 → Calls Tryz.prog g #[.int .i32 (r : Int)] W fun e W' => e = .returned (.bool (p (r : Int))) ∧ Below W.heap.size W W'
/-- where while's loop stands: the iterator is in block I -/
structure WhW (c : Rd) (w0 : World) (l : List UInt8) (I : Nat) (wr : World) (pos : Nat) : Prop where
  rd : DR c w0 wr l
  iter : wr.heap[I]? = some (.stringIter (bytes l) pos)
  low : w0.heap.size ≤ I
section
variable {c : Rd} {w0 w w' wr : World} {l l' : List UInt8} {I pos : Nat}
theorem WhW.other (h : WhW c w0 l I wr pos) (hb : Below wr.heap.size wr w') : WhW c w0 l I w' pos :=
  ⟨h.rd.other hb, (hb.block _ (Array.getElem?_eq_some_iff.1 h.iter).1).trans h.iter, h.low⟩
theorem WhW.next (h : WhW c w0 l I wr pos) (p : Nat) : WhW c w0 l I (wr.iterAt I (bytes l) p) p := by
  have hl := h.low
  have hb0 := h.rd.b0
  have hw := h.rd.since.size
  have hcb : c.b ≠ I := by omega
  have hB : Below c.n wr (wr.iterAt I (bytes l) p) := Lib.below_iterAt (Below.refl _ _) (by have := h.rd.nb; omega) _ _
  have hB0 : Below w0.heap.size wr (wr.iterAt I (bytes l) p) := Lib.below_iterAt (Below.refl _ _) hl _ _
  have hs := h.rd.since
  refine ⟨⟨h.rd.e.stay hB, h.rd.nb, h.rd.rd.of_block (Lib.iterAt_other wr I c.b _ _ hcb), h.rd.m2, h.rd.b0, ⟨hB0.os.trans hs.os, hB0.tape.trans hs.tape, hB0.output.trans hs.output, Nat.le_trans hs.size hB0.size, fun q hq hf => (hB0.block q hq).trans (hs.block q hq hf)⟩, h.rd.small, h.rd.suf⟩, Lib.iterAt_heap wr _ _ pos p h.iter, hl⟩
theorem decode_le (l : List UInt8) (pos : Nat) : (Utf8.decode (bytes l) pos).1 ≤ 1114111 := by
  generalize bytes l = s
  have h256 : ∀ k, (s.get! (pos + k)).toNat < 256 := fun k => UInt8.toNat_lt _
  have a0 := h256 0
  have a1 := h256 1
  have a2 := h256 2
  have a3 := h256 3
  unfold Utf8.decode
  dsimp only
  repeat' split
  all_goals simp_all [Utf8.valid, Utf8.runeError]
  all_goals omega
set_option maxHeartbeats 4000000 in
set_option maxRecDepth 100000 in
theorem while_dB (p : Int → Bool) (g : Nat) (eg : ∀ args w, (callFunc g args).run Tryz.prog w = .ok (.enter g args) w) (h : DR c w0 w l) (hp : PredD g p) :
    Calls Tryz.prog 31 #[.pointer (some ⟨c.b, 0, none⟩), .func (.func g) #[] #[]] w fun e w' => e = .returned (.string (bytes (l.take (whN p l)))) ∧ DR c w0 w' (l.drop (whN p l)) := by
  have c0 := h.c0
  have c1 := h.c1
  have hcut := h.cut
  have hat := h.at_le
  have hsm := h.small
  have hsz : (bytes l).size = l.length := bytes_len l
  have hbs : (bytes c.s).size = c.s.length := bytes_len c.s
  have HP := Lib.hid hp
  have HW0 : Hid (∀ q, WhW c w0 l w.heap.size ((w.drewN q).iter (bytes l) 0) 0) := Lib.hid (fun q => ⟨(h.drewN q).other (iter_below (w.drewN q) (bytes l) 0), World.iter_heap (w.drewN q) (bytes l) 0, h.since.size⟩)
  have hsu := h.suf_drop
  have H := Lib.hid (fun W k (hk : k ≤ l.length) (hW : DR c w0 W l) => hW.put (h.suf_drop k) (k := (c.at l : Int) + (k : Int)) (by rw [h.at_drop hk]; omega))
  clear h hp hsu
  generalize hca : c.at l = a at *
  have q1 : (a : Int) ≤ ((bytes c.s).size : Int) := by rw [hbs]; omega
  go_enter Tryz.func31, Tryz.ntmps31
  go_wp2
  go_quiet (fail)
  go_wp2
  go_loopw [5] (fun tv wr => ∃ pos f : Nat, tv = .string (bytes l) ∧ WhW c w0 l w.heap.size wr pos ∧ pos ≤ l.length ∧ pos + whL p f (l.drop pos) = whN p l ∧ l.length ≤ pos + f) (fun _ wr => l.length - wr.iterPos w.heap.size)
  case atStart => exact ⟨0, l.length, rfl, HW0.out nq, Nat.zero_le _, by rw [Nat.zero_add, List.drop_zero]; rfl, by omega⟩
  case round =>
    obtain ⟨pos, f, rfl, hw, hpl, ha, hf⟩ := hrel
    have HA := Lib.hid ha
    have HW := Lib.hid hw
    have HM : Hid (wr.iterPos w.heap.size = pos) := Lib.hid (by unfold World.iterPos; rw [hw.iter])
    clear ha hw HW0 c0 c1
    by_cases hlt : pos < l.length
    · have hnx : ∀ ty, (Instr.next (.pointer (some ⟨w.heap.size, 0, none⟩)) true ty).run Tryz.prog wr = _ := fun ty => Lib.run_next_any_at wr w.heap.size (bytes l) pos ty HW.out.iter (by rw [hsz]; exact hlt)
      have hw := Lib.width_pos (bytes l) pos
      have hwl := width_le (bytes l) pos (by rw [hsz]; exact hlt)
      rw [hsz] at hwl
      obtain ⟨f, rfl⟩ : ∃ g, f = g + 1 := ⟨f - 1, by omega⟩
      have hne : l.drop pos ≠ [] := by
        intro e
        have := congrArg List.length e
        rw [List.length_drop, List.length_nil] at this
        omega
      have hst : whL p (f + 1) (l.drop pos) = if p ((Utf8.decode (bytes l) pos).1 : Int) = true then (Utf8.decode (bytes l) pos).2 + whL p f (l.drop (pos + (Utf8.decode (bytes l) pos).2)) else 0 := by
        show (if l.drop pos = [] then 0 else _) = _
        rw [if_neg hne, show Lib.decodeL (l.drop pos) = Utf8.decode (bytes l) pos from Lib.decodeL_drop (bytes l) pos, List.drop_drop]
      have HST := Lib.hid hst
      have HN := Lib.hid (HW.out.next (pos + (Utf8.decode (bytes l) pos).2))
      have hle := decode_le l pos
      obtain ⟨r, hr⟩ : ∃ r : Nat, (Utf8.decode (bytes l) pos).1 = r := ⟨_, rfl⟩
      obtain ⟨k, hk⟩ : ∃ k : Nat, (Utf8.decode (bytes l) pos).2 = k := ⟨_, rfl⟩
      simp only [hr, hk] at HST hnx hw hwl hle HN
      obtain ⟨W, hWW⟩ : ∃ W, wr.iterAt w.heap.size (bytes l) (pos + k) = W := ⟨_, rfl⟩
      rw [hWW] at HN
      simp only [hWW] at hnx
      clear hr hk hst hne hWW
      have hcall := HP.out W r hle
      cases hpr : p (r : Int) with
      | true =>
        have HA' : Hid (pos + k + whL p f (l.drop (pos + k)) = whN p l) := Lib.hid (by rw [← HA.out, HST.out, if_pos hpr]; omega)
        rw [hpr] at hcall
        clear HST HA hpr HW
        go_wp2_with (go_at_fn g; refine hcall.mono ?_; rintro e w' ⟨rfl, hb⟩)
        have HN2 := Lib.hid (HN.out.other hb)
        go_roundw
        case rel => exact ⟨pos + k, f, rfl, HN2.out, hwl, HA'.out, by omega⟩
        case measure =>
          have e1 : w'.iterPos w.heap.size = pos + k := by unfold World.iterPos; rw [HN2.out.iter]
          have e2 := HM.out
          simp only [e1, e2]
          omega
      | false =>
        have HNN : Hid (whN p l = pos) := Lib.hid (by rw [← HA.out, HST.out, if_neg (by rw [hpr]; decide)]; rfl)
        rw [hpr] at hcall
        have q1 : (0 : Int) ≤ (pos : Int) := by omega
        have q2 : (pos : Int) ≤ ((bytes l).size : Int) := by omega
        have q3 : (bytes (l.take pos)).size = pos := by rw [bytes_len, List.length_take]; omega
        have q4 := bytes_take l pos
        clear HST HA hpr hcut HW
        go_wp2_with fail
        refine hcall.mono ?_
        rintro e w5 ⟨rfl, hb⟩
        have HN2 := Lib.hid (HN.out.other hb)
        have k1 := HN2.out.rd.c1
        have k2 := HN2.out.rd.fro 1
        rw [hca] at k1
        have HH := Lib.hid (H.out w5 pos hpl HN2.out.rd)
        clear hcall hb H
        go_wp2
        go_ret
        rw [HNN.out]
        exact ⟨rfl, HH.out⟩
    · have hnx : ∀ ty, (Instr.next (.pointer (some ⟨w.heap.size, 0, none⟩)) true ty).run Tryz.prog wr = _ := fun ty => Lib.run_next_end_at wr w.heap.size (bytes l) pos ty HW.out.iter (by rw [hsz]; exact hlt)
      obtain rfl : pos = l.length := by omega
      have HN : Hid (whN p l = l.length) := Lib.hid (by rw [← HA.out, List.drop_length, whL_nil]; rfl)
      have k1 := HW.out.rd.c1
      have k2 := HW.out.rd.fro 1
      rw [hca] at k1
      have HH := Lib.hid (H.out wr l.length (Nat.le_refl _) HW.out.rd)
      clear HA H hcut
      go_wp2
      go_ret
      rw [HN.out, List.take_length]
      exact ⟨rfl, HH.out⟩
end
end Go.Proofs.YtmecigainilocaaGreatDoor

namespace Go.Proofs.YtmecigainilocaaGreatDoor
open Go.RowKit

/-- where Literal's loop stands: at pos, with the quote that was read -/
def LitInv (l : List UInt8) (pos : Nat) (qv : Value) : Prop :=
  (pos = 0 ∧ qv = .int .i32 0) ∨ (0 < pos ∧ ∃ q : UInt8, (q = 34 ∨ q = 39) ∧ qv = .int .i32 (q.toNat : Int) ∧ l[0]? = some q ∧ ∀ j, 1 ≤ j → j < pos → l[j]? ≠ some q)
def LitG (s : List UInt8) (k : Int) (w : World) (e : Ending) (w' : World) : Prop :=
  e = .returned (.tuple #[.string (bytes (litT s k).1), .int .i64 (litT s k).2.1, .bool (litT s k).2.2]) ∧ Below w.heap.size w w'
theorem litG_no {s : List UInt8} {k : Int} {w w' : World} (h : litT s k = ([], k, false)) (hb : Below w.heap.size w w') : LitG s k w (.returned (.tuple #[.string ⟨#[]⟩, .int .i64 k, .bool false])) w' := by
  unfold LitG
  rw [h]
  exact ⟨rfl, hb⟩
theorem litG_yes {s v : List UInt8} {k t : Int} {w w' : World} (h : litT s k = (v, t, true)) (hb : Below w.heap.size w w') : LitG s k w (.returned (.tuple #[.string (bytes v), .int .i64 t, .bool true])) w' := by
  unfold LitG
  rw [h]
  exact ⟨rfl, hb⟩
set_option maxHeartbeats 8000000 in
set_option maxRecDepth 100000 in
theorem lit_any (s : List UInt8) (k : Int) (w : World) (hs : s.length ≤ 100000) : Calls Tryz.prog 13 #[.string (bytes s), .int .i64 k] w (LitG s k w) := by
  have hsz : (bytes s).size = s.length := bytes_len s
  by_cases h1 : k < 0 ∨ (s.length : Int) < k
  · have HT := Lib.hid (litT_out s k h1)
    obtain ⟨x1, x2, hg1, hg2, hg3⟩ : ∃ x1 x2 : Bool, decide (k < 0) = x1 ∧ decide ((s.length : Int) < k) = x2 ∧ (x1 = true ∨ x1 = false ∧ x2 = true) := ⟨_, _, rfl, rfl, by
      rcases (show k < 0 ∨ (¬ k < 0 ∧ (s.length : Int) < k) by omega) with e | ⟨e1, e2⟩
      · exact Or.inl (decide_eq_true e)
      · exact Or.inr ⟨decide_eq_false e1, decide_eq_true e2⟩⟩
    clear h1
    rcases hg3 with rfl | ⟨rfl, rfl⟩
    all_goals
      (go_enter Tryz.func13, Tryz.ntmps13
       go_wp2
       go_ret3
       exact litG_no HT.out (Below.refl _ _))
  · obtain ⟨a, rfl⟩ := Int.eq_ofNat_of_zero_le (show (0 : Int) ≤ k by omega)
    have ha : a ≤ s.length := by omega
    have hL := litT_in s a ha
    have hcut : (bytes s).extract a s.length = bytes (s.drop a) := by rw [← hsz]; exact bytes_drop s a
    have HX : Hid (∀ pos, 1 ≤ pos → pos ≤ (s.drop a).length → (bytes s).extract (a + 1) (a + pos) = bytes (((s.drop a).drop 1).take (pos - 1))) := Lib.hid (fun pos h1 h2 => by
      rw [List.length_drop] at h2
      apply ByteArray.ext
      apply Array.ext'
      rw [ByteArray.data_extract, Array.toList_extract, List.extract_eq_take_drop, List.drop_drop, show a + pos - (a + 1) = pos - 1 by omega]
      rfl)
    have hlen : (s.drop a).length + a = s.length := by rw [List.length_drop]; omega
    have HT := Lib.hid hL
    generalize s.drop a = l at *
    have hlz : (bytes l).size = l.length := bytes_len l
    have q1 : (a : Int) ≤ ((bytes s).size : Int) := by rw [hsz]; omega
    have q2 : (a : Int) ≤ (s.length : Int) := by omega
    clear hL h1
    go_enter Tryz.func13, Tryz.ntmps13
    go_wp2
    go_loopw [7] (fun qv wr => ∃ pos : Nat, wr = w.iter (bytes l) pos ∧ pos ≤ l.length ∧ LitInv l pos qv) (fun _ wr => l.length - wr.iterPos w.heap.size)
    case atStart => exact ⟨0, rfl, Nat.zero_le _, Or.inl ⟨rfl, rfl⟩⟩
    case round =>
      obtain ⟨pos, rfl, hpl, hinv⟩ := hrel
      have HI := Lib.hid hinv
      clear hinv
      by_cases hlt : pos < l.length
      · have hnx : ∀ ty, (Instr.next (.pointer (some ⟨w.heap.size, 0, none⟩)) true ty).run Tryz.prog (w.iter (bytes l) pos) = _ := fun ty => run_next_any w (bytes l) pos ty (by rw [hlz]; exact hlt)
        obtain ⟨hw, hwl, hrune⟩ := rune_at l pos hlt
        rw [show Lib.decodeL (l.drop pos) = Utf8.decode (bytes l) pos from Lib.decodeL_drop (bytes l) pos] at hw hwl hrune
        obtain ⟨r, hr⟩ : ∃ r : Nat, (Utf8.decode (bytes l) pos).1 = r := ⟨_, rfl⟩
        obtain ⟨k, hk⟩ : ∃ k : Nat, (Utf8.decode (bytes l) pos).2 = k := ⟨_, rfl⟩
        simp only [hr, hk] at hnx hw hwl hrune
        have HB : Hid (∀ p, Below w.heap.size w (w.iter (bytes l) p)) := Lib.hid (fun p => iter_below w (bytes l) p)
        have HR := Lib.hid hrune
        have HME : Hid (∀ p, (w.iter (bytes l) p).iterPos w.heap.size = p) := Lib.hid (fun p => World.iterPos_iter w (bytes l) p)
        clear hr hk hrune
        rcases HI.out with ⟨rfl, rfl⟩ | ⟨hp0, q, hq, rfl, h0, hno⟩
        · -- the first character
          have hcase : r = 34 ∨ r = 39 ∨ (((r : Int) != 34) = true ∧ ((r : Int) != 39) = true ∧ literalL l = none) := by
            by_cases e1 : r = 34
            · exact Or.inl e1
            · by_cases e2 : r = 39
              · exact Or.inr (Or.inl e2)
              · refine Or.inr (Or.inr ⟨bne_iff_ne.2 (by omega), bne_iff_ne.2 (by omega), ?_⟩)
                rcases HR.out with ⟨b, hb, hb2, _, _⟩ | ⟨h128, hall⟩
                · exact lit_head hb (fun e => e1 (by rw [← hb2, e]; rfl)) (fun e => e2 (by rw [← hb2, e]; rfl))
                · obtain ⟨b, hb, hb2⟩ := hall 0 (Nat.le_refl _) (by omega)
                  exact lit_head hb (fun e => by rw [e] at hb2; revert hb2; decide) (fun e => by rw [e] at hb2; revert hb2; decide)
          rcases hcase with rfl | rfl | ⟨g1, g2, hnone⟩
          · have HN : Hid (LitInv l (0 + k) (.int .i32 34)) := Lib.hid (by
              rcases HR.out with ⟨b, hb, hb2, _, rfl⟩ | ⟨h128, _⟩
              · refine Or.inr ⟨by omega, 34, Or.inl rfl, rfl, ?_, fun j hj1 hj2 => by omega⟩
                rw [hb]; congr 1; exact UInt8.toNat_inj.1 hb2
              · omega)
            clear HI HT HX
            go_wp2
            go_roundw
            case rel => exact ⟨0 + k, by first | rfl | simp, by omega, by first | exact HN.out | (have := HN.out; simpa using this)⟩
            case measure => have := HME.out; simp only [this]; omega
          · have HN : Hid (LitInv l (0 + k) (.int .i32 39)) := Lib.hid (by
              rcases HR.out with ⟨b, hb, hb2, _, rfl⟩ | ⟨h128, _⟩
              · refine Or.inr ⟨by omega, 39, Or.inr rfl, rfl, ?_, fun j hj1 hj2 => by omega⟩
                rw [hb]; congr 1; exact UInt8.toNat_inj.1 hb2
              · omega)
            clear HI HT HX
            go_wp2
            go_roundw
            case rel => exact ⟨0 + k, by first | rfl | simp, by omega, by first | exact HN.out | (have := HN.out; simpa using this)⟩
            case measure => have := HME.out; simp only [this]; omega
          · have HV : Hid (litT s (a : Int) = ([], (a : Int), false)) := Lib.hid (by rw [HT.out, hnone])
            clear HI HT HX hnone
            go_wp2
            go_ret3
            exact litG_no HV.out (HB.out _)
        · have hpe : ((pos : Int) == 0) = false := beq_eq_false_iff_ne.2 (by omega)
          by_cases hrq : r = q.toNat
          · -- the second one
            subst hrq
            have hpq : l[pos]? = some q := by
              rcases HR.out with ⟨b, hb, hb2, _, _⟩ | ⟨h128, _⟩
              · rw [hb]; congr 1; exact UInt8.toNat_inj.1 hb2
              · rcases hq with rfl | rfl <;> exact absurd h128 (by decide)
            have HV : Hid (litT s (a : Int) = ((l.drop 1).take (pos - 1), (a : Int) + ((pos + 1 : Nat) : Int), true)) := Lib.hid (by rw [HT.out, lit_found hq h0 hp0 hpq hno])
            have hx := HX.out pos (by omega) (by omega)
            obtain ⟨v, hv⟩ : ∃ v, (l.drop 1).take (pos - 1) = v := ⟨_, rfl⟩
            rw [hv] at hx HV
            have hvl : v.length ≤ 100000 := by rw [← hv, List.length_take, List.length_drop]; omega
            have hvs : (bytes v).size ≤ 4294967280 := by rw [bytes_len]; omega
            have CC := Lib.hid (fun W => clone_any (bytes v) W hvs)
            have z1 : (0 : Int) ≤ (a : Int) + 1 := by omega
            have z2 : (a : Int) + 1 ≤ (a : Int) + (pos : Int) := by omega
            have z3 : (a : Int) + (pos : Int) ≤ ((bytes s).size : Int) := by rw [hsz]; omega
            have z4 : (a : Int) + (pos : Int) ≤ (s.length : Int) := by omega
            clear HI HT HX hv hno h0 hpq hq
            go_wp2_with (go_at_call 20; refine (CC.out _).mono ?_; rintro e w' ⟨rfl, hb⟩)
            go_ret3
            refine litG_yes (v := v) (by first | exact HV.out | (rw [HV.out]; congr 2; omega)) ((HB.out _).trans (hb.mono (HB.out _).size))
          · have hre : ((r : Int) == (q.toNat : Int)) = false := beq_eq_false_iff_ne.2 (by omega)
            have HN : Hid (LitInv l (pos + k) (.int .i32 (q.toNat : Int))) := Lib.hid (by
              refine Or.inr ⟨by omega, q, hq, rfl, h0, fun j hj1 hj2 e => ?_⟩
              rcases Nat.lt_or_ge j pos with hjp | hjp
              · exact hno j hj1 hjp e
              · rcases HR.out with ⟨b, hb, hb2, _, rfl⟩ | ⟨_, hall⟩
                · obtain rfl : j = pos := by omega
                  rw [hb] at e
                  injection e with e
                  exact hrq (by rw [← hb2, e])
                · obtain ⟨b, hb, hb2⟩ := hall j hjp hj2
                  rw [hb] at e
                  injection e with e
                  subst e
                  rcases hq with rfl | rfl <;> revert hb2 <;> decide)
            clear HI HT HX hno h0 hq
            go_wp2
            go_roundw
            case rel => exact ⟨pos + k, by first | rfl | simp, by omega, by first | exact HN.out | (have := HN.out; simpa using this)⟩
            case measure => have := HME.out; simp only [this]; omega
      · have hnx : ∀ ty, (Instr.next (.pointer (some ⟨w.heap.size, 0, none⟩)) true ty).run Tryz.prog (w.iter (bytes l) pos) = _ := fun ty => run_next_end w (bytes l) pos ty (by rw [hlz]; exact hlt)
        obtain rfl : pos = l.length := by omega
        have hnone : literalL l = none := by
          rcases HI.out with ⟨e, _⟩ | ⟨_, q, _, _, h0, hno⟩
          · rw [List.eq_nil_of_length_eq_zero e]; rfl
          · exact lit_open h0 hno
        have HV : Hid (litT s (a : Int) = ([], (a : Int), false)) := Lib.hid (by rw [HT.out, hnone])
        have HB : Hid (∀ p, Below w.heap.size w (w.iter (bytes l) p)) := Lib.hid (fun p => iter_below w (bytes l) p)
        clear HI HT HX hnone
        go_wp2
        go_ret3
        exact litG_no HV.out (HB.out _)
section
variable {c : Rd} {w0 w w' : World} {l l' : List UInt8}
theorem litT_at (h : DR c w0 w l) : litT c.s (c.at l : Int) = match literalL l with
    | none => ([], (c.at l : Int), false)
    | some (v, n) => (v, (c.at l : Int) + n, true) := by
  have := litT_in c.s (c.at l) (by have := h.at_le; omega)
  rw [h.drop] at this
  exact this
theorem DR.drew (h : DR c w0 w l) : DR c w0 w.drew l := h.other ((Below.refl _ _).drew)
/-- WHAT literal GIVES. -/
def LiG (c : Rd) (w0 : World) (l : List UInt8) (e : Ending) (w' : World) : Prop :=
  (litL l = none ∧ e = .returned (.tuple #[.string ⟨#[]⟩, .bool false]) ∧ DR c w0 w' l) ∨
  ∃ v r, litL l = some (v, r) ∧ e = .returned (.tuple #[.string (bytes v), .bool true]) ∧ DR c w0 w' r ∧ v.length ≤ l.length ∧ r.length < l.length
theorem literal_size {l v : List UInt8} {n : Nat} (h : literalL l = some (v, n)) : v.length + 2 = n ∧ n ≤ l.length := by
  have h1 := literal_len h
  refine ⟨?_, h1⟩
  cases l with
  | nil => cases h
  | cons q t =>
    have h' : (if q = 34 ∨ q = 39 then (findL [q] t).bind fun k => some (t.take k, k + 2) else none) = some (v, n) := h
    split at h'
    · cases hf : findL [q] t with
      | none => rw [hf] at h'; cases h'
      | some k =>
        rw [hf] at h'
        simp only [Option.bind_some, Option.some.injEq, Prod.mk.injEq] at h'
        obtain ⟨rfl, rfl⟩ := h'
        have := (find_some hf).1
        rw [List.length_take]
        omega
    · cases h'
set_option maxHeartbeats 1000000 in
set_option maxRecDepth 100000 in
theorem literal_d (h : DR c w0 w l) : Calls Tryz.prog 49 #[.pointer (some ⟨c.b, 0, none⟩)] w (LiG c w0 l) := by
  have hT := litT_at h
  have C : ∀ W, Calls Tryz.prog 13 #[.string (bytes c.s), .int .i64 (c.at l : Int)] W _ := fun W => lit_any c.s (c.at l : Int) W h.small
  unfold LitG at C
  have hS0 := h.drew
  have q1 := hS0.c0
  have q2 := hS0.c1
  have p1 := h.c0
  have p2 := h.c1
  have HS := Lib.hid h
  clear h
  cases hl : literalL l with
  | none =>
    rw [hT, hl] at C
    have HN : Hid (litL l = none) := Lib.hid (by unfold litL; rw [hl]; rfl)
    clear hT hl
    go_enter Tryz.func49, Tryz.ntmps49
    go_wp2_with fail
    go_region_held3 (fun W => W.cell? ⟨c.b, 0, none⟩ = some (.string (bytes c.s)) ∧ W.cell? ⟨c.b, 1, none⟩ = some (.int .i64 (c.at l : Int)))
      (first | exact ⟨(‹DR c w0 _ l›).c0, (‹DR c w0 _ l›).c1⟩ | exact ⟨p1, p2⟩ | assumption)
      (first | (go_at_call 13; refine (C _).mono ?_; rintro o u ⟨rfl, hb⟩; have hS2 := hS0.other hb))
    have f2 := hS2.fro 1
    have HP := Lib.hid (hS2.put HS.out.suf rfl)
    clear hS2 hS0
    go_wp2
    go_ret2
    exact Or.inl ⟨HN.out, rfl, HP.out⟩
  | some x =>
    obtain ⟨v, n⟩ := x
    obtain ⟨n1, n2⟩ := literal_size hl
    rw [hT, hl] at C
    have HN : Hid (litL l = some (v, l.drop n)) := Lib.hid (by unfold litL; rw [hl]; rfl)
    have hat := HS.out.at_drop n2
    have HV : Hid (v.length ≤ l.length ∧ (l.drop n).length < l.length) := Lib.hid ⟨by omega, by rw [List.length_drop]; omega⟩
    clear hT hl
    go_enter Tryz.func49, Tryz.ntmps49
    go_wp2_with fail
    go_region_held3 (fun W => W.cell? ⟨c.b, 0, none⟩ = some (.string (bytes c.s)) ∧ W.cell? ⟨c.b, 1, none⟩ = some (.int .i64 (c.at l : Int)))
      (first | exact ⟨(‹DR c w0 _ l›).c0, (‹DR c w0 _ l›).c1⟩ | exact ⟨p1, p2⟩ | assumption)
      (first | (go_at_call 13; refine (C _).mono ?_; rintro o u ⟨rfl, hb⟩; have hS2 := hS0.other hb))
    have f2 := hS2.fro 1
    have hc2 := hS2.c1
    have HP := Lib.hid (hS2.put (HS.out.suf_drop n) (k := (c.at l : Int) + (n : Int)) (by rw [hat]; omega))
    clear hS2 hS0
    go_wp2
    go_ret2
    exact Or.inr ⟨v, _, HN.out, rfl, HP.out, HV.out⟩
end
end Go.Proofs.YtmecigainilocaaGreatDoor

namespace Go.Proofs.YtmecigainilocaaGreatDoor
open Go.RowKit

/-- WHAT A STEP GIVES that tells whether it was taken: d is what is left behind it. -/
def GiveB (c : Rd) (w0 : World) (d : Option (List UInt8)) (e : Ending) (w' : World) : Prop :=
  (d = none ∧ ∃ l', e = .returned (.bool false) ∧ DR c w0 w' l') ∨ ∃ r, d = some r ∧ e = .returned (.bool true) ∧ DR c w0 w' r
/-- WHAT spacedName GIVES. -/
def SpG (c : Rd) (w0 : World) (so : List UInt8 → Bool) (l : List UInt8) (e : Ending) (w' : World) : Prop :=
  (spNameL so l = none ∧ ∃ x l', e = .returned (.tuple #[.string x, .bool false]) ∧ DR c w0 w' l') ∨
  ∃ nm r, spNameL so l = some (nm, r) ∧ e = .returned (.tuple #[.string (bytes nm), .bool true]) ∧ DR c w0 w' r ∧ nm.length ≤ l.length ∧ r.length < l.length
/-- what is asked of the function that spacedName and setting are handed -/
def PredS (n g : Nat) (p : List UInt8 → Bool) : Prop :=
  ∀ (W : World) (x : List UInt8), DE n W → n ≤ W.heap.size → x.length ≤ 100000 → Calls Tryz.prog g #[.string (bytes x)] W fun e W' => e = .returned (.bool (p x)) ∧ Below W.heap.size W W'
theorem part_len (l : List UInt8) : (nameT l).length ≤ l.length := by rw [nameT_length]; exact wh_le _ _
theorem partR_len (l : List UInt8) : (partR l).length + (nameT l).length = l.length := by
  have := wh_le partB l
  unfold partR
  rw [nameT_length, List.length_drop]
  omega
theorem may_len (l : List UInt8) : (mayL l).length + gapL l = l.length := by
  have := gap_le l
  unfold mayL
  rw [List.length_drop]
  omega
theorem spc_some {l : List UInt8} (h : gapL l ≠ 0) : spcL l = some (mayL l) := by unfold spcL; rw [if_neg h]; rfl
theorem spc_none {l : List UInt8} (h : gapL l = 0) : spcL l = none := by unfold spcL; rw [if_pos h]
theorem may_none {l : List UInt8} (h : gapL l = 0) : mayL l = l := by unfold mayL; rw [h]; rfl
theorem mark_some {m l : List UInt8} (h : swB m l = true) : markL m l = some (l.drop m.length) := by unfold markL; rw [if_pos h]
theorem mark_none {m l : List UInt8} (h : swB m l = false) : markL m l = none := by unfold markL; rw [if_neg (by rw [h]; decide)]
section
variable {c : Rd} {w0 w w' : World} {l l' : List UInt8}
theorem DR.n_le (h : DR c w0 w l) : c.n ≤ w.heap.size := by have := h.nb; have := h.rd.lt; omega
theorem take_y (m : List UInt8) (h : DR c w0 w l) (hm0 : m.length ≤ 100) (hm : swB m l = true) :
    Calls Tryz.prog 16 #[.pointer (some ⟨c.b, 0, none⟩), .string (bytes m)] w fun e w' => e = .returned (.bool true) ∧ DR c w0 w' (l.drop m.length) :=
  (take_d m h hm0).mono fun _ _ hg => ⟨by rw [hg.1, hm], hg.2.1 hm⟩
theorem take_n (m : List UInt8) (h : DR c w0 w l) (hm0 : m.length ≤ 100) (hm : swB m l = false) :
    Calls Tryz.prog 16 #[.pointer (some ⟨c.b, 0, none⟩), .string (bytes m)] w fun e w' => e = .returned (.bool false) ∧ DR c w0 w' l :=
  (take_d m h hm0).mono fun _ _ hg => ⟨by rw [hg.1, hm], hg.2.2 hm⟩
theorem space_y (h : DR c w0 w l) (hg : gapL l ≠ 0) :
    Calls Tryz.prog 18 #[.pointer (some ⟨c.b, 0, none⟩)] w fun e w' => e = .returned (.bool true) ∧ DR c w0 w' (mayL l) :=
  (space_d h).mono fun _ _ h2 => ⟨by rw [h2.1, decide_eq_true hg], h2.2⟩
theorem space_n (h : DR c w0 w l) (hg : gapL l = 0) :
    Calls Tryz.prog 18 #[.pointer (some ⟨c.b, 0, none⟩)] w fun e w' => e = .returned (.bool false) ∧ DR c w0 w' l :=
  (space_d h).mono fun _ _ h2 => ⟨by rw [h2.1, decide_eq_false (by simp [hg])], by have := h2.2; rwa [may_none hg] at this⟩
theorem space_may (h : DR c w0 w l) :
    Calls Tryz.prog 18 #[.pointer (some ⟨c.b, 0, none⟩)] w fun e w' => (∃ z, e = .returned (.bool z)) ∧ DR c w0 w' (mayL l) :=
  (space_d h).mono fun _ _ h2 => ⟨⟨_, h2.1⟩, h2.2⟩

set_option maxHeartbeats 1000000 in
set_option maxRecDepth 100000 in
theorem spacedName_d (p : List UInt8 → Bool) (g : Nat) (eg : ∀ args w, (callFunc g args).run Tryz.prog w = .ok (.enter g args) w) (h : DR c w0 w l) (hp : PredS c.n g p) :
    Calls Tryz.prog 25 #[.pointer (some ⟨c.b, 0, none⟩), .func (.func g) #[] #[]] w (SpG c w0 p l) := by
  have CS := Lib.hid (space_d h)
  have hsh := h.short
  have hml := may_len l
  have hpl := partR_len (mayL l)
  have HG : Hid (∀ z, decide (gapL l ≠ 0) = z → (z = false → spNameL p l = none) ∧ (z = true → (spNameL p l = if p (nameT (mayL l)) = true then some (nameT (mayL l), partR (mayL l)) else none) ∧ gapL l ≠ 0)) := Lib.hid (by
    rintro z rfl
    refine ⟨fun e => ?_, fun e => ?_⟩
    · have hg : gapL l = 0 := by simpa using e
      unfold spNameL
      rw [spc_none hg]; rfl
    · have hg : gapL l ≠ 0 := by simpa using e
      unfold spNameL
      rw [spc_some hg]
      exact ⟨rfl, hg⟩)
  clear h
  have HPP := Lib.hid hp
  clear hp
  obtain ⟨z, hz⟩ : ∃ z, decide (gapL l ≠ 0) = z := ⟨_, rfl⟩
  obtain ⟨g1, g2⟩ := HG.out z hz
  rw [hz] at CS
  have G1 := Lib.hid g1
  have G2 := Lib.hid g2
  clear HG hz g1 g2
  go_enter Tryz.func25, Tryz.ntmps25
  go_wp2_with fail
  refine CS.out.mono ?_
  rintro e w1 ⟨rfl, h1⟩
  have CP := Lib.hid (parts_d h1)
  clear CS h1
  go_wp2_with fail
  refine CP.out.mono ?_
  rintro e w2 ⟨rfl, h2⟩
  have CC := Lib.hid (clone_any (bytes (nameT (mayL l))) w2 (by rw [bytes_len]; omega))
  have H2 := Lib.hid h2
  clear CP h2
  go_wp2_with fail
  refine CC.out.mono ?_
  rintro e w3 ⟨rfl, hb⟩
  have H3 := Lib.hid (H2.out.other hb)
  clear CC H2 hb
  cases z with
  | false =>
    have HN := Lib.hid (G1.out rfl)
    clear G1 G2
    go_wp2
    go_ret2
    exact Or.inl ⟨HN.out, _, _, rfl, H3.out⟩
  | true =>
    obtain ⟨g3, g4⟩ := G2.out rfl
    have HN := Lib.hid g3
    have HQ : Hid ((nameT (mayL l)).length ≤ l.length ∧ (partR (mayL l)).length < l.length) := Lib.hid ⟨by omega, by omega⟩
    have CQ := Lib.hid (HPP.out w3 (nameT (mayL l)) H3.out.e H3.out.n_le (by omega))
    clear G1 G2 g3 g4
    go_wp2_with fail
    refine CQ.out.mono ?_
    rintro e w4 ⟨rfl, hb⟩
    have H4 := Lib.hid (H3.out.other hb)
    clear CQ H3 hb
    cases hpr : p (nameT (mayL l)) with
    | false =>
      have HN2 : Hid (spNameL p l = none) := Lib.hid (by rw [HN.out, if_neg (by rw [hpr]; decide)])
      clear hpr
      go_wp2
      go_ret2
      exact Or.inl ⟨HN2.out, _, _, rfl, H4.out⟩
    | true =>
      have HN2 : Hid (spNameL p l = some (nameT (mayL l), partR (mayL l))) := Lib.hid (by rw [HN.out, if_pos hpr])
      clear hpr
      go_wp2
      go_ret2
      exact Or.inr ⟨_, _, HN2.out, rfl, H4.out, HQ.out⟩
theorem qualified_s (n : Nat) : PredS n 26 splitB := fun W x hE hn hx => by
  have C := split_any (bytes x) W (by rw [bytes_len]; omega) hE.ke.tabs
  have HB : Hid (splitB x = (splitV (bytes x)).2.2) := Lib.hid rfl
  generalize splitV (bytes x) = v at *
  obtain ⟨v1, v2, v3⟩ := v
  clear hE
  go_enter Tryz.func26, Tryz.ntmps26
  go_wp2_with (go_at_call 45; refine C.mono ?_; rintro e w1 ⟨rfl, hb⟩)
  go_ret
  exact ⟨by rw [HB.out]; rfl, hb⟩
theorem ncname_s (n : Nat) : PredS n 63 ncBL := fun W x hE hn hx => nc_any (bytes x) W (by rw [bytes_len]; omega) hE.ke.tabs
theorem enter_qualified : ∀ args w, (callFunc 26 args).run Tryz.prog w = .ok (.enter 26 args) w := enters_of Tryz.func26 (by kernel_rfl) rfl
theorem enter_ncname : ∀ args w, (callFunc 63 args).run Tryz.prog w = .ok (.enter 63 args) w := enters_of Tryz.func63 (by kernel_rfl) rfl
/-! ### words, lists, where a text stands -/
set_option maxHeartbeats 1000000 in
theorem word_d (h : DR c w0 w l) : Calls Tryz.prog 115 #[.pointer (some ⟨c.b, 0, none⟩)] w fun e w' => e = .returned (.bool (decide (nameT l ≠ []) && Lib.validD (nameT l))) ∧ DR c w0 w' (partR l) := by
  have CP := Lib.hid (parts_d h)
  have hsh := h.short
  have hpl := part_len l
  clear h
  generalize nameT l = x at *
  go_enter Tryz.func115, Tryz.ntmps115
  go_wp2_with fail
  refine CP.out.mono ?_
  rintro e w1 ⟨rfl, h1⟩
  have H1 := Lib.hid h1
  clear CP h1
  have CV := Lib.hid (Tryz.valid_laid (bytes x) w1 (by rw [bytes_len]; omega) H1.out.e.ke.tabs)
  cases x with
  | nil =>
    have hb : (bytes []).toList.isEmpty = true := by rw [Lib.toList_data, bytes_list]; rfl
    clear CV
    go_wp2
    go_ret
    exact ⟨rfl, H1.out⟩
  | cons a t =>
    have hb : (bytes (a :: t)).toList.isEmpty = false := by rw [Lib.toList_data, bytes_list]; rfl
    go_wp2_with fail
    refine CV.out.mono ?_
    rintro e w2 ⟨rfl, hb2⟩
    have H2 := Lib.hid (H1.out.other hb2)
    clear CV hb2 H1
    go_wp2
    go_ret
    exact ⟨by simp; rfl, H2.out⟩
theorem words_nil (f : Nat) : wordsL f [] = none := by cases f <;> rfl
theorem words_no {f : Nat} {l : List UInt8} (h : (decide (nameT (mayL l) ≠ []) && Lib.validD (nameT (mayL l))) = false) : wordsL f l = none := by
  cases f with
  | zero => rfl
  | succ f => show (if _ then _ else none) = none; rw [if_neg (by rw [h]; decide)]
theorem words_step {f : Nat} {l : List UInt8} (h : (decide (nameT (mayL l) ≠ []) && Lib.validD (nameT (mayL l))) = true) : wordsL (f + 1) l = if swB [41] (mayL (partR (mayL l))) = true then some ((mayL (partR (mayL l))).drop 1) else if swB [124] (mayL (partR (mayL l))) = true then wordsL f ((mayL (partR (mayL l))).drop 1) else none := by
  show (if _ then _ else none) = _
  rw [if_pos h]
/-- where list's loop stands -/
def LsInv (c : Rd) (w0 : World) (l : List UInt8) (f : Nat) (sv : Value) (wr : World) : Prop :=
  (sv = .bool false ∧ listL l = none ∧ ∃ l', DR c w0 wr l') ∨ ∃ r, sv = .bool true ∧ DR c w0 wr r ∧ listL l = wordsL f r ∧ r.length ≤ f
set_option maxHeartbeats 2000000 in
set_option maxRecDepth 100000 in
theorem list_d (h : DR c w0 w l) : Calls Tryz.prog 110 #[.pointer (some ⟨c.b, 0, none⟩)] w (GiveB c w0 (listL l)) := by
  have CT := Lib.hid (take_d [40] h (by decide))
  have HH : Hid (∀ w' b, b = swB [40] l → (swB [40] l = true → DR c w0 w' (l.drop 1)) → (swB [40] l = false → DR c w0 w' l) → LsInv c w0 l l.length (.bool b) w') := Lib.hid (by
    rintro w' b rfl g1 g2
    cases hm : swB [40] l with
    | false => exact Or.inl ⟨rfl, by unfold listL; rw [if_neg (by rw [hm]; decide)], _, g2 hm⟩
    | true => exact Or.inr ⟨_, rfl, g1 hm, by unfold listL; rw [if_pos hm], by rw [List.length_drop]; omega⟩)
  clear h
  go_enter Tryz.func110, Tryz.ntmps110
  go_wp2_with fail
  refine CT.out.mono ?_
  rintro e w1 ⟨rfl, h1, h2⟩
  have HI := Lib.hid (HH.out w1 _ rfl h1 h2)
  clear CT HH h1 h2
  generalize swB [40] l = z at *
  go_wp2
  go_loopg [3] l.length (fun g sv wr => LsInv c w0 l g sv wr)
  case atStart => exact HI.out
  case round =>
    rcases hrel with ⟨rfl, hn, l', hd⟩ | ⟨r, rfl, hd, hw, hr⟩
    · have HD := Lib.hid hd
      have HN := Lib.hid hn
      clear HI hd hn
      go_wp2
      go_ret
      exact Or.inl ⟨HN.out, _, rfl, HD.out⟩
    · have HW := Lib.hid hw
      have CS := Lib.hid (space_may hd)
      have hml := may_len r
      have hpl := partR_len (mayL r)
      have hml2 := may_len (partR (mayL r))
      clear HI hd hw
      go_wp2_with fail
      refine CS.out.mono ?_
      rintro e w2 ⟨⟨z1, rfl⟩, h2⟩
      have CW := Lib.hid (word_d h2)
      clear CS h2
      go_wp2_with fail
      refine CW.out.mono ?_
      rintro e w3 ⟨rfl, h3⟩
      have H3 := Lib.hid h3
      clear CW h3
      cases hwd : (decide (nameT (mayL r) ≠ []) && Lib.validD (nameT (mayL r))) with
      | false =>
        have HN : Hid (listL l = none) := Lib.hid (by rw [HW.out, words_no hwd])
        clear hwd HW
        go_wp2
        go_ret
        exact Or.inl ⟨HN.out, _, rfl, H3.out⟩
      | true =>
        have hne : 0 < (nameT (mayL r)).length := by
          have : nameT (mayL r) ≠ [] := by
            intro e
            rw [e] at hwd
            simp at hwd
          exact List.length_pos_iff.2 this
        cases gk with
        | zero => exfalso; omega
        | succ g =>
          rw [words_step hwd] at HW
          clear hwd
          have CS := Lib.hid (space_may H3.out)
          clear H3
          go_wp2_with fail
          refine CS.out.mono ?_
          rintro e w4 ⟨⟨z2, rfl⟩, h4⟩
          have H4 := Lib.hid h4
          clear CS h4
          generalize mayL (partR (mayL r)) = q at *
          cases hs1 : swB [41] q with
          | true =>
            have CT := Lib.hid (take_y [41] H4.out (by decide) hs1)
            have HN : Hid (listL l = some (q.drop 1)) := Lib.hid (by rw [HW.out, if_pos hs1])
            clear hs1 HW
            go_wp2_with fail
            refine CT.out.mono ?_
            rintro e w5 ⟨rfl, h5⟩
            have H5 := Lib.hid h5
            clear CT h5
            go_wp2
            go_ret
            exact Or.inr ⟨_, HN.out, rfl, H5.out⟩
          | false =>
            have CT := Lib.hid (take_n [41] H4.out (by decide) hs1)
            rw [if_neg (show ¬ swB [41] q = true by rw [hs1]; decide)] at HW
            clear hs1
            go_wp2_with fail
            refine CT.out.mono ?_
            rintro e w5 ⟨rfl, h5⟩
            have CT2 := Lib.hid (take_d [124] h5 (by decide))
            clear CT h5
            go_wp2_with fail
            refine CT2.out.mono ?_
            rintro e w6 ⟨rfl, h6, h7⟩
            have HI2 : Hid (LsInv c w0 l g (.bool (swB [124] q)) w6) := Lib.hid (by
              cases hm : swB [124] q with
              | false => exact Or.inl ⟨rfl, by rw [HW.out, if_neg (by rw [hm]; decide)], _, h7 hm⟩
              | true => exact Or.inr ⟨_, rfl, h6 hm, by rw [HW.out, if_pos hm]; rfl, by simp only [List.length_cons, List.length_nil, List.length_drop]; omega⟩)
            clear CT2 h6 h7 HW
            generalize swB [124] q = z3 at *
            go_wp2
            go_roundg g
            case measure => omega
            case rel => exact HI2.out
end
end Go.Proofs.YtmecigainilocaaGreatDoor

namespace Go.Proofs.YtmecigainilocaaGreatDoor
open Go.RowKit

section
variable {c : Rd} {w0 w w' : World} {l l' : List UInt8}
theorem giveB_no {d : Option (List UInt8)} (hd : d = none) (h : DR c w0 w l') : GiveB c w0 d (.returned (.bool false)) w := Or.inl ⟨hd, _, rfl, h⟩
theorem giveB_yes {d : Option (List UInt8)} {r : List UInt8} (hd : d = some r) (h : DR c w0 w r) : GiveB c w0 d (.returned (.bool true)) w := Or.inr ⟨_, hd, rfl, h⟩
set_option maxHeartbeats 1000000 in
theorem spLit_d (h : DR c w0 w l) : Calls Tryz.prog 46 #[.pointer (some ⟨c.b, 0, none⟩)] w (GiveB c w0 (spLitL l)) := by
  have CS := Lib.hid (space_d h)
  have HG : Hid (∀ z, decide (gapL l ≠ 0) = z → (z = false → spLitL l = none) ∧ (z = true → spLitL l = (litL (mayL l)).map (·.2))) := Lib.hid (by
    rintro z rfl
    refine ⟨fun e => ?_, fun e => ?_⟩
    · have hg : gapL l = 0 := by simpa using e
      unfold spLitL
      rw [spc_none hg]; rfl
    · have hg : gapL l ≠ 0 := by simpa using e
      unfold spLitL
      rw [spc_some hg]
      rfl)
  clear h
  obtain ⟨z, hz⟩ : ∃ z, decide (gapL l ≠ 0) = z := ⟨_, rfl⟩
  obtain ⟨g1, g2⟩ := HG.out z hz
  rw [hz] at CS
  have G1 := Lib.hid g1
  have G2 := Lib.hid g2
  clear HG hz g1 g2
  go_enter Tryz.func46, Tryz.ntmps46
  go_wp2_with fail
  refine CS.out.mono ?_
  rintro e w1 ⟨rfl, h1⟩
  have CL := Lib.hid (literal_d h1)
  clear CS h1
  go_wp2_with fail
  refine CL.out.mono ?_
  rintro e w2 (⟨hn, rfl, h2⟩ | ⟨v, r, hn, rfl, h2, _, _⟩)
  · have H2 := Lib.hid h2
    have HN : Hid (spLitL l = none) := Lib.hid (by
      cases z with
      | false => exact G1.out rfl
      | true => rw [G2.out rfl, hn]; rfl)
    clear CL h2 hn G1 G2
    cases z
    all_goals
      (go_wp2
       go_ret
       exact giveB_no HN.out H2.out)
  · have H2 := Lib.hid h2
    have HN := Lib.hid hn
    clear CL h2 hn
    cases z with
    | false =>
      have HN2 := Lib.hid (G1.out rfl)
      clear HN G1 G2
      go_wp2
      go_ret
      exact giveB_no HN2.out H2.out
    | true =>
      have HN2 : Hid (spLitL l = some r) := Lib.hid (by rw [G2.out rfl, HN.out]; rfl)
      clear HN G1 G2
      go_wp2
      go_ret
      exact giveB_yes HN2.out H2.out
set_option maxHeartbeats 1000000 in
theorem external_d (h : DR c w0 w l) : Calls Tryz.prog 29 #[.pointer (some ⟨c.b, 0, none⟩)] w (GiveB c w0 (extL l)) := by
  cases hs1 : swB systemW l with
  | true =>
    have CT := Lib.hid (take_y systemW h (by decide) hs1)
    have HD : Hid (extL l = spLitL (l.drop 6)) := Lib.hid (by unfold extL; rw [if_pos hs1])
    clear h hs1
    go_enter Tryz.func29, Tryz.ntmps29
    go_wp2_with fail
    refine CT.out.mono ?_
    rintro e w1 ⟨rfl, h1⟩
    have CL := Lib.hid (spLit_d h1)
    clear CT h1
    go_wp2_with fail
    refine CL.out.mono ?_
    rintro e w2 (⟨hn, l', rfl, h2⟩ | ⟨r, hn, rfl, h2⟩)
    · have HN : Hid (extL l = none) := Lib.hid (HD.out.trans hn)
      have H2 := Lib.hid h2
      clear CL hn h2 HD
      go_wp2
      go_ret
      exact giveB_no HN.out H2.out
    · have HN : Hid (extL l = some r) := Lib.hid (HD.out.trans hn)
      have H2 := Lib.hid h2
      clear CL hn h2 HD
      go_wp2
      go_ret
      exact giveB_yes HN.out H2.out
  | false =>
    have CT := Lib.hid (take_n systemW h (by decide) hs1)
    cases hs2 : swB publicW l with
    | false =>
      have HD : Hid (extL l = none) := Lib.hid (by unfold extL; rw [if_neg (by rw [hs1]; decide), if_neg (by rw [hs2]; decide)])
      clear h hs1
      go_enter Tryz.func29, Tryz.ntmps29
      go_wp2_with fail
      refine CT.out.mono ?_
      rintro e w1 ⟨rfl, h1⟩
      have CT2 := Lib.hid (take_n publicW h1 (by decide) hs2)
      clear CT h1 hs2
      go_wp2_with fail
      refine CT2.out.mono ?_
      rintro e w2 ⟨rfl, h2⟩
      have H2 := Lib.hid h2
      clear CT2 h2
      go_wp2
      go_ret
      exact giveB_no HD.out H2.out
    | true =>
      have HD : Hid (extL l = (spLitL (l.drop 6)).bind spLitL) := Lib.hid (by unfold extL; rw [if_neg (by rw [hs1]; decide), if_pos hs2])
      clear h hs1
      go_enter Tryz.func29, Tryz.ntmps29
      go_wp2_with fail
      refine CT.out.mono ?_
      rintro e w1 ⟨rfl, h1⟩
      have CT2 := Lib.hid (take_y publicW h1 (by decide) hs2)
      clear CT h1 hs2
      go_wp2_with fail
      refine CT2.out.mono ?_
      rintro e w2 ⟨rfl, h2⟩
      have CL := Lib.hid (spLit_d h2)
      clear CT2 h2
      go_wp2_with fail
      refine CL.out.mono ?_
      rintro e w3 (⟨hn, l', rfl, h3⟩ | ⟨r, hn, rfl, h3⟩)
      · have HN : Hid (extL l = none) := Lib.hid (by rw [HD.out]; show (spLitL (l.drop publicW.length)).bind _ = none; rw [hn]; rfl)
        have H3 := Lib.hid h3
        clear CL hn h3 HD
        go_wp2
        go_ret
        exact giveB_no HN.out H3.out
      · have HN : Hid (extL l = spLitL r) := Lib.hid (by rw [HD.out]; show (spLitL (l.drop publicW.length)).bind _ = _; rw [hn]; rfl)
        have CL2 := Lib.hid (spLit_d h3)
        clear CL hn h3 HD
        go_wp2_with fail
        refine CL2.out.mono ?_
        rintro e w4 (⟨hn, l', rfl, h4⟩ | ⟨r2, hn, rfl, h4⟩)
        · have HN2 : Hid (extL l = none) := Lib.hid (HN.out.trans hn)
          have H4 := Lib.hid h4
          clear CL2 hn h4 HN
          go_wp2
          go_ret
          exact giveB_no HN2.out H4.out
        · have HN2 : Hid (extL l = some r2) := Lib.hid (HN.out.trans hn)
          have H4 := Lib.hid h4
          clear CL2 hn h4 HN
          go_wp2
          go_ret
          exact giveB_yes HN2.out H4.out
theorem equals_d (h : DR c w0 w l) : Calls Tryz.prog 48 #[.pointer (some ⟨c.b, 0, none⟩)] w (GiveB c w0 (eqL l)) := by
  have CS := Lib.hid (space_may h)
  have HD : Hid (eqL l = (markL [61] (mayL l)).map mayL) := Lib.hid rfl
  clear h
  generalize mayL l = q at *
  go_enter Tryz.func48, Tryz.ntmps48
  go_wp2_with fail
  refine CS.out.mono ?_
  rintro e w1 ⟨⟨z, rfl⟩, h1⟩
  have H1 := Lib.hid h1
  clear CS h1
  cases hm : swB [61] q with
  | false =>
    have CT := Lib.hid (take_n [61] H1.out (by decide) hm)
    have HN : Hid (eqL l = none) := Lib.hid (by rw [HD.out, mark_none hm]; rfl)
    clear hm HD H1
    go_wp2_with fail
    refine CT.out.mono ?_
    rintro e w2 ⟨rfl, h2⟩
    have CS := Lib.hid (space_may h2)
    clear CT h2
    go_wp2_with fail
    refine CS.out.mono ?_
    rintro e w3 ⟨⟨z3, rfl⟩, h3⟩
    have H3 := Lib.hid h3
    clear CS h3
    go_wp2
    go_ret
    exact giveB_no HN.out H3.out
  | true =>
    have CT := Lib.hid (take_y [61] H1.out (by decide) hm)
    have HN : Hid (eqL l = some (mayL (q.drop 1))) := Lib.hid (by rw [HD.out, mark_some hm]; rfl)
    clear hm HD H1
    go_wp2_with fail
    refine CT.out.mono ?_
    rintro e w2 ⟨rfl, h2⟩
    have CS := Lib.hid (space_may h2)
    clear CT h2
    go_wp2_with fail
    refine CS.out.mono ?_
    rintro e w3 ⟨⟨z3, rfl⟩, h3⟩
    have H3 := Lib.hid h3
    clear CS h3
    go_wp2
    go_ret
    exact giveB_yes HN.out H3.out
set_option maxHeartbeats 1000000 in
theorem setting_d (m : List UInt8) (hm0 : m.length ≤ 100) (p : List UInt8 → Bool) (g : Nat) (eg : ∀ args w, (callFunc g args).run Tryz.prog w = .ok (.enter g args) w) (h : DR c w0 w l) (hp : PredS c.n g p) :
    Calls Tryz.prog 33 #[.pointer (some ⟨c.b, 0, none⟩), .string (bytes m), .func (.func g) #[] #[]] w (GiveB c w0 (setL m p l)) := by
  have hsh := h.small
  have HPP := Lib.hid hp
  clear hp
  cases hm : swB m l with
  | false =>
    have CT := Lib.hid (take_n m h hm0 hm)
    have HN : Hid (setL m p l = none) := Lib.hid (by unfold setL; rw [mark_none hm]; rfl)
    clear h hm
    go_enter Tryz.func33, Tryz.ntmps33
    go_wp2_with fail
    refine CT.out.mono ?_
    rintro e w1 ⟨rfl, h1⟩
    have H1 := Lib.hid h1
    clear CT h1
    go_wp2
    go_ret
    exact giveB_no HN.out H1.out
  | true =>
    have CT := Lib.hid (take_y m h hm0 hm)
    have HN : Hid (setL m p l = (eqL (l.drop m.length)).bind fun m => (litL m).bind fun v => if p v.1 = true then some v.2 else none) := Lib.hid (by unfold setL; rw [mark_some hm]; rfl)
    clear h hm
    go_enter Tryz.func33, Tryz.ntmps33
    go_wp2_with fail
    refine CT.out.mono ?_
    rintro e w1 ⟨rfl, h1⟩
    have CE := Lib.hid (equals_d h1)
    clear CT h1
    go_wp2_with fail
    refine CE.out.mono ?_
    rintro e w2 (⟨hn, l', rfl, h2⟩ | ⟨r, hn, rfl, h2⟩)
    · have HN2 : Hid (setL m p l = none) := Lib.hid (by rw [HN.out, hn]; rfl)
      have H2 := Lib.hid h2
      clear CE hn h2 HN
      go_wp2
      go_ret
      exact giveB_no HN2.out H2.out
    · have HN2 : Hid (setL m p l = (litL r).bind fun v => if p v.1 = true then some v.2 else none) := Lib.hid (by rw [HN.out, hn]; rfl)
      have CL := Lib.hid (literal_d h2)
      have hrs := h2.short
      clear CE hn h2 HN
      go_wp2_with fail
      refine CL.out.mono ?_
      rintro e w3 (⟨hn, rfl, h3⟩ | ⟨v, r2, hn, rfl, h3, hv, _⟩)
      · have HN : Hid (setL m p l = none) := Lib.hid (by rw [HN2.out, hn]; rfl)
        have H3 := Lib.hid h3
        clear CL hn h3 HN2
        go_wp2
        go_ret
        exact giveB_no HN.out H3.out
      · have HN : Hid (setL m p l = if p v = true then some r2 else none) := Lib.hid (by rw [HN2.out, hn]; rfl)
        have H3 := Lib.hid h3
        have CP := Lib.hid (HPP.out w3 v h3.e h3.n_le (by omega))
        clear CL hn h3 HN2
        go_wp2_with fail
        refine CP.out.mono ?_
        rintro e w4 ⟨rfl, hb⟩
        have H4 := Lib.hid (H3.out.other hb)
        clear CP hb H3
        cases hpv : p v with
        | false =>
          have HN2 : Hid (setL m p l = none) := Lib.hid (by rw [HN.out, if_neg (by rw [hpv]; decide)])
          clear hpv HN
          go_wp2
          go_ret
          exact giveB_no HN2.out H4.out
        | true =>
          have HN2 : Hid (setL m p l = some r2) := Lib.hid (by rw [HN.out, if_pos hpv])
          clear hpv HN
          go_wp2
          go_ret
          exact giveB_yes HN2.out H4.out
end
end Go.Proofs.YtmecigainilocaaGreatDoor

namespace Go.Proofs.YtmecigainilocaaGreatDoor
open Go Go.Lib

theorem gap_len (l : List UInt8) : (l.drop (gapL l)).length ≤ l.length := by rw [List.length_drop]; omega
theorem spc_len {l r : List UInt8} (h : spcL l = some r) : r.length < l.length := by
  unfold spcL at h
  split at h
  · cases h
  · injection h with h
    subst h
    have := gap_le l
    rw [List.length_drop]
    omega
theorem lit_len {l v r : List UInt8} (h : litL l = some (v, r)) : r.length < l.length := by
  unfold litL at h
  obtain ⟨y, hy, h2⟩ := Option.map_eq_some_iff.1 h
  simp only [Prod.mk.injEq] at h2
  obtain ⟨rfl, rfl⟩ := h2
  obtain ⟨v, n⟩ := y
  obtain ⟨h1, h2⟩ := literal_size hy
  rw [List.length_drop]
  show l.length - n < _
  omega
theorem spLit_len {l r : List UInt8} (h : spLitL l = some r) : r.length < l.length := by
  unfold spLitL at h
  obtain ⟨m, hm, h2⟩ := Option.bind_eq_some_iff.1 h
  obtain ⟨y, hy, rfl⟩ := Option.map_eq_some_iff.1 h2
  have := spc_len hm
  have := lit_len (v := y.1) (r := y.2) hy
  omega
theorem ext_len {l r : List UInt8} (h : extL l = some r) : r.length < l.length := by
  unfold extL at h
  split at h
  · have := spLit_len h
    rw [List.length_drop] at this
    omega
  · split at h
    · obtain ⟨m, hm, h2⟩ := Option.bind_eq_some_iff.1 h
      have := spLit_len hm
      have := spLit_len h2
      rw [List.length_drop] at *
      omega
    · cases h
theorem spName_len {so : List UInt8 → Bool} {l x r : List UInt8} (h : spNameL so l = some (x, r)) : r.length < l.length := by
  unfold spNameL at h
  obtain ⟨m, hm, h2⟩ := Option.bind_eq_some_iff.1 h
  have h3 := spc_len hm
  split at h2
  · simp only [Option.some.injEq, Prod.mk.injEq] at h2
    obtain ⟨_, rfl⟩ := h2
    have := partR_len m
    omega
  · cases h2
theorem ndata_len {l r : List UInt8} (h : ndataL l = some r) : r.length < l.length := by
  unfold ndataL at h
  obtain ⟨m, hm, h2⟩ := Option.bind_eq_some_iff.1 h
  obtain ⟨m2, hm2, h3⟩ := Option.bind_eq_some_iff.1 h2
  obtain ⟨y, hy, rfl⟩ := Option.map_eq_some_iff.1 h3
  have h4 := spc_len hm
  have h5 := spName_len (x := y.1) (r := y.2) hy
  unfold markL at hm2
  split at hm2
  · injection hm2 with hm2
    subst hm2
    rw [List.length_drop] at h5
    omega
  · cases hm2
theorem content_len {l t r : List UInt8} {x : Bool} (h : contentL l = some ((t, x), r)) : r.length ≤ l.length := by
  unfold contentL at h
  cases hl : litL l with
  | some v =>
    rw [hl] at h
    obtain ⟨u, _, h2⟩ := Option.map_eq_some_iff.1 h
    simp only [Prod.mk.injEq] at h2
    obtain ⟨_, rfl⟩ := h2
    have := lit_len (v := v.1) (r := v.2) hl
    omega
  | none =>
    rw [hl] at h
    obtain ⟨u, hu, h2⟩ := Option.map_eq_some_iff.1 h
    simp only [Prod.mk.injEq] at h2
    obtain ⟨_, rfl⟩ := h2
    have := ext_len hu
    unfold perL
    cases hn : ndataL u with
    | none => show u.length ≤ _; omega
    | some v =>
      have := ndata_len hn
      show v.length ≤ _
      omega
theorem words_len : ∀ (f : Nat) (l r : List UInt8), wordsL f l = some r → r.length < l.length
  | 0, _, _, h => by cases h
  | f + 1, l, r, h => by
    have e : wordsL (f + 1) l = if (decide (nameT (mayL l) ≠ []) && validD (nameT (mayL l))) = true then (if swB [41] (mayL (partR (mayL l))) = true then some ((mayL (partR (mayL l))).drop 1) else if swB [124] (mayL (partR (mayL l))) = true then wordsL f ((mayL (partR (mayL l))).drop 1) else none) else none := rfl
    rw [e] at h
    have h1 := may_len l
    have h2 := partR_len (mayL l)
    have h3 := may_len (partR (mayL l))
    split at h
    · split at h
      · rename_i hs
        injection h with h
        subst h
        have := sw_length hs
        rw [List.length_drop]
        simp only [List.length_cons, List.length_nil] at this
        omega
      · split at h
        · rename_i hs
          have := words_len f _ _ h
          rw [List.length_drop] at this
          omega
        · cases h
    · cases h
theorem list_len {l r : List UInt8} (h : listL l = some r) : r.length < l.length := by
  unfold listL at h
  split at h
  · have := words_len _ _ _ h
    rw [List.length_drop] at this
    omega
  · cases h
theorem kind_len {l r : List UInt8} {n : Nat} (h : kindL l = some (n, r)) : r.length ≤ l.length := by
  have hp := partR_len l
  unfold kindL at h
  split at h
  · simp only [Option.some.injEq, Prod.mk.injEq] at h
    obtain ⟨_, rfl⟩ := h
    omega
  · split at h
    · simp only [Option.some.injEq, Prod.mk.injEq] at h
      obtain ⟨_, rfl⟩ := h
      omega
    · split at h
      · obtain ⟨m, hm, h2⟩ := Option.map_eq_some_iff.1 h
        obtain ⟨m2, hm2, h3⟩ := Option.bind_eq_some_iff.1 hm
        simp only [Prod.mk.injEq] at h2
        obtain ⟨_, rfl⟩ := h2
        have := spc_len hm2
        have := list_len h3
        omega
      · split at h
        · obtain ⟨m, hm, h2⟩ := Option.map_eq_some_iff.1 h
          simp only [Prod.mk.injEq] at h2
          obtain ⟨_, rfl⟩ := h2
          have := list_len hm
          omega
        · cases h
theorem stand_len {l v r : List UInt8} {b : Bool} (h : standL l = some ((b, v), r)) : r.length ≤ l.length := by
  unfold standL at h
  split at h
  · simp only [Option.some.injEq, Prod.mk.injEq] at h
    obtain ⟨_, rfl⟩ := h
    rw [List.length_drop]
    omega
  · split at h
    · simp only [Option.some.injEq, Prod.mk.injEq] at h
      obtain ⟨_, rfl⟩ := h
      rw [List.length_drop]
      omega
    · obtain ⟨m, hm, h2⟩ := Option.bind_eq_some_iff.1 h
      obtain ⟨y, hy, h3⟩ := Option.bind_eq_some_iff.1 h2
      have h4 : m.length ≤ l.length := by
        split at hm
        · have := spc_len hm
          rw [List.length_drop] at this
          omega
        · injection hm with hm
          subst hm
          exact Nat.le_refl _
      have h5 := lit_len (v := y.1) (r := y.2) hy
      split at h3
      · cases h3
      · simp only [Option.some.injEq, Prod.mk.injEq] at h3
        obtain ⟨_, rfl⟩ := h3
        omega
theorem att_len11 {el l r : List UInt8} {a : AttD} (h : attD el l = some (a, r)) : r.length < l.length ∧ a.elem = el := by
  unfold attD at h
  obtain ⟨x, hx, h2⟩ := Option.bind_eq_some_iff.1 h
  obtain ⟨m, hm, h3⟩ := Option.bind_eq_some_iff.1 h2
  obtain ⟨y, hy, h4⟩ := Option.bind_eq_some_iff.1 h3
  obtain ⟨m2, hm2, h5⟩ := Option.bind_eq_some_iff.1 h4
  obtain ⟨d, hd, h6⟩ := Option.map_eq_some_iff.1 h5
  simp only [Prod.mk.injEq] at h6
  obtain ⟨h6, rfl⟩ := h6
  have := spName_len (x := x.1) (r := x.2) hx
  have := spc_len hm
  have := kind_len (n := y.1) (r := y.2) hy
  have := spc_len hm2
  have := stand_len (b := d.1.1) (v := d.1.2) (r := d.2) hd
  exact ⟨by omega, by rw [← h6]⟩
theorem ign_len : ∀ (f : Nat) (l r : List UInt8), ignF f l = some r → r.length < l.length
  | 0, _, _, h => by cases h
  | f + 1, l, r, h => by
    have e : ignF (f + 1) l = if swB [62] (l.drop (leadN outU l)) = true then some ((l.drop (leadN outU l)).drop 1) else (litL (l.drop (leadN outU l))).bind fun v => ignF f v.2 := rfl
    rw [e] at h
    split at h
    · rename_i hs
      injection h with h
      subst h
      have := sw_length hs
      simp only [List.length_cons, List.length_nil, List.length_drop] at this
      rw [List.length_drop, List.length_drop]
      omega
    · obtain ⟨v, hv, h2⟩ := Option.bind_eq_some_iff.1 h
      have h3 := lit_len (v := v.1) (r := v.2) hv
      have := ign_len f _ _ h2
      rw [List.length_drop] at h3
      omega
theorem ignL_len {l r : List UInt8} (h : ignL l = some r) : r.length < l.length := by
  unfold ignL at h
  obtain ⟨m, hm, h2⟩ := Option.bind_eq_some_iff.1 h
  have := spc_len hm
  have := ign_len _ _ _ h2
  omega
theorem aside_len {l r : List UInt8} (h : asideL l = some r) : r.length < l.length := by
  unfold asideL at h
  split at h
  · cases h
  · rename_i hne
    obtain ⟨t, ht, h2⟩ := Option.bind_eq_some_iff.1 h
    have hp := next_piece l hne t.1 t.2 ht
    split at h2
    · injection h2 with h2
      subst h2
      have := hp.pos
      have := hp.le
      rw [List.length_drop]
      omega
    · cases h2
end Go.Proofs.YtmecigainilocaaGreatDoor

namespace Go.Proofs.YtmecigainilocaaGreatDoor
open Go.RowKit

theorem und_names : Tryz.prog.underlying 54 = some (.map 9 118) := by kernel_rfl
theorem und_elems : Tryz.prog.underlying 55 = some (.map 9 54) := by kernel_rfl
theorem zero_unit (w : World) : (zeroValue 118).run Tryz.prog w = .ok (.agg #[]) w := by kernel_rfl
theorem zero_names (w : World) : (zeroValue 54).run Tryz.prog w = .ok (.map none) w := by kernel_rfl
theorem key_law : Maps.Keyed Tryz.prog 9 := Maps.string_keyed Tryz.underlying9
theorem key_of (x : List UInt8) (hx : x.length ≤ 100000) : keyOf Tryz.prog 9 (.string (bytes x)) = some (.string x) := WideMaps.keyOf_string_mk Tryz.underlying9 (by rw [bytes_len]; unfold maxLen; omega)
/-- BLOCK q IS A SET OF NAMES: those that P tells. -/
def NamesM (w : World) (q : Nat) (P : List UInt8 → Bool) (N : Nat) : Prop := ∃ D : DataW Unit, w.ownsMap Tryz.prog 9 unitElem q N D ∧ ∀ x, Maps.has D (.string x) = P x
/-- how a set of names reads as an element: by its block -/
def mapElem : Value → Option (DataW Unit × List MemPlace)
  | .map none => some (.lit (.int .i64 (-1)), [])
  | .map (some b) => some (.lit (.int .i64 (b : Int)), [])
  | _ => none
def elemOf (d : Option Nat) (z : DataW Unit) : DataW Unit := match d with
  | none => z
  | some q => .lit (.int .i64 (q : Int))
/-- BLOCK m LEADS FROM ELEMENTS TO THEIR SETS: to the block g tells. -/
def ElemsM (w : World) (m : Nat) (g : List UInt8 → Option Nat) (N : Nat) : Prop := ∃ D : DataW Unit, w.ownsMap Tryz.prog 9 mapElem m N D ∧ ∀ x z, D.atKey (.string x) z = elemOf (g x) z
section
variable {w w' : World} {q m N : Nat} {P : List UInt8 → Bool} {g : List UInt8 → Option Nat}
theorem NamesM.lt (h : NamesM w q P N) : q < w.heap.size := by obtain ⟨D, h1, _⟩ := h; exact h1.lt
theorem NamesM.mono {M : Nat} (h : NamesM w q P N) (hM : N ≤ M) : NamesM w q P M := by obtain ⟨D, h1, h2⟩ := h; exact ⟨D, h1.mono hM, h2⟩
theorem NamesM.congr {Q : List UInt8 → Bool} (h : NamesM w q P N) (e : ∀ x, P x = Q x) : NamesM w q Q N := by obtain ⟨D, h1, h2⟩ := h; exact ⟨D, h1, fun x => (h2 x).trans (e x)⟩
theorem NamesM.of_block (h : NamesM w q P N) (hb : w'.heap[q]? = w.heap[q]?) : NamesM w' q P N := by
  obtain ⟨D, ⟨es, clock, h1, r⟩, h2⟩ := h
  exact ⟨D, ⟨es, clock, hb.trans h1, r⟩, h2⟩
theorem NamesM.made (w : World) : NamesM (w.alloc (.map #[] 0)) w.heap.size (fun _ => false) 0 := ⟨_, World.ownsMap_made w _ _ _, fun _ => rfl⟩
theorem ElemsM.lt (h : ElemsM w m g N) : m < w.heap.size := by obtain ⟨D, h1, _⟩ := h; exact h1.lt
theorem ElemsM.mono {M : Nat} (h : ElemsM w m g N) (hM : N ≤ M) : ElemsM w m g M := by obtain ⟨D, h1, h2⟩ := h; exact ⟨D, h1.mono hM, h2⟩
theorem ElemsM.of_block (h : ElemsM w m g N) (hb : w'.heap[m]? = w.heap[m]?) : ElemsM w' m g N := by
  obtain ⟨D, ⟨es, clock, h1, r⟩, h2⟩ := h
  exact ⟨D, ⟨es, clock, hb.trans h1, r⟩, h2⟩
theorem ElemsM.made (w : World) : ElemsM (w.alloc (.map #[] 0)) w.heap.size (fun _ => none) 0 := ⟨_, World.ownsMap_made w _ _ _, fun _ _ => rfl⟩
theorem elem_value {v : Value} {d : Option Nat} {ps : List MemPlace} (h : mapElem v = some (elemOf d (.lit (.int .i64 (-1))), ps)) : v = .map d := by
  unfold mapElem at h
  split at h
  · cases d with
    | none => rfl
    | some q =>
      simp only [elemOf, Option.some.injEq, Prod.mk.injEq, DataW.lit.injEq, Lit.int.injEq, true_and] at h
      omega
  · cases d with
    | none =>
      simp only [elemOf, Option.some.injEq, Prod.mk.injEq, DataW.lit.injEq, Lit.int.injEq, true_and] at h
      omega
    | some q =>
      simp only [elemOf, Option.some.injEq, Prod.mk.injEq, DataW.lit.injEq, Lit.int.injEq, true_and] at h
      rename_i b
      rw [show b = q by omega]
  · cases h
/-- an element's set is looked up -/
theorem ElemsM.look (h : ElemsM w m g N) (x : List UInt8) (hx : x.length ≤ 100000) : (Instr.lookup 55 (.map (some m)) (.string (bytes x)) false).run Tryz.prog w = .ok (.map (g x)) w := by
  obtain ⟨D, h1, h2⟩ := h
  obtain ⟨v, ps, hr, hv⟩ := h1.lookup key_law und_elems (zero_names w) (R := mapElem) (zd := .lit (.int .i64 (-1))) (zp := []) rfl (key_of x hx)
  rw [h2] at hv
  rw [hr, elem_value hv]
theorem string_ne {x y : List UInt8} (h : x ≠ y) : (Lit.string x) ≠ .string y := fun e => h (by injection e)
theorem NamesM.put {D : DataW Unit} (hm : Maps.IsMap D) (h2 : ∀ x, Maps.has D (.string x) = P x) (y : List UInt8) (x : List UInt8) : Maps.has (D.put (.string y) (.agg [])) (.string x) = (P x || decide (x = y)) := by
  by_cases e : x = y
  · subst e
    rw [Maps.has_put_same hm (show WideAt.IsKeyLit (.string x) from trivial), decide_eq_true rfl, Bool.or_true]
  · rw [Maps.has_put_other (string_ne e), h2, decide_eq_false e, Bool.or_false]
theorem ElemsM.put {D : DataW Unit} (hm : Maps.IsMap D) (h2 : ∀ x z, D.atKey (.string x) z = elemOf (g x) z) (y : List UInt8) (b : Nat) (x : List UInt8) (z : DataW Unit) : (D.put (.string y) (.lit (.int .i64 (b : Int)))).atKey (.string x) z = elemOf (if x = y then some b else g x) z := by
  by_cases e : x = y
  · subst e
    rw [Maps.atKey_put_same hm (show WideAt.IsKeyLit (.string x) from trivial), if_pos rfl]; rfl
  · rw [Maps.atKey_put_other (string_ne e), h2, if_neg e]
set_option maxHeartbeats 1000000 in
set_option maxRecDepth 100000 in
theorem add_m (x : List UInt8) (h : NamesM w q P N) (hN : N ≤ 1000000) (hx : x.length ≤ 100000) :
    Calls Tryz.prog 86 #[.map (some q), .string (bytes x)] w fun e w' => e = .returned (.bool (!P x)) ∧ NamesM w' q (fun y => P y || decide (y = x)) (N + 1) ∧ Turns (fun k => k = q) w w' := by
  obtain ⟨D, hown, hP⟩ := h
  have hPx := hP x
  have HM := Lib.hid (hown.isMap)
  have HP := Lib.hid hP
  have hkey := key_of x hx
  have hlt := hown.lt
  have hn : N < maxLen := by unfold maxLen; omega
  clear hP
  cases hpx : P x with
  | true =>
    rw [hpx] at hPx
    have HR : Hid (∀ y, P y = (P y || decide (y = x))) := Lib.hid (fun y => by
      by_cases e : y = x
      · subst e; rw [hpx]; rfl
      · rw [decide_eq_false e, Bool.or_false])
    have hownA := hown.alloc (.cells #[] 118)
    go_enter Tryz.func86, Tryz.ntmps86
    go_wp2_with (at_lookup; refine wpList_lookup_own_unit (H := Unit) _ rfl _ _ 54 rfl 9 118 key_law und_names (zero_unit _) q N D rfl hown _ _ rfl hkey ?_; rw [hPx])
    go_ret
    exact ⟨rfl, NamesM.mono (NamesM.congr ⟨D, hownA, HP.out⟩ HR.out) (Nat.le_succ _), (Turns.refl _ _).alloc _⟩
  | false =>
    rw [hpx] at hPx
    have hownA := hown.alloc (.cells #[] 118)
    go_enter Tryz.func86, Tryz.ntmps86
    go_wp2_with (first
      | (at_lookup; refine wpList_lookup_own_unit (H := Unit) _ rfl _ _ 54 rfl 9 118 key_law und_names (zero_unit _) q N D rfl hown _ _ rfl hkey ?_; rw [hPx])
      | (at_mapUpdate; refine wpList_mapUpdate_own (H := Unit) _ rfl _ _ _ 54 rfl 9 118 key_law und_names unitElem q N D rfl hownA hn _ _ _ rfl rfl hkey (.agg []) [] unitElem_mk ?_; intro w1 hown1 hgrow1))
    go_ret
    exact ⟨rfl, ⟨_, hown1, fun y => NamesM.put HM.out HP.out x y⟩, ((Turns.refl _ _).alloc _).grown hgrow1 (fun k e => Or.inl (by injection e with e; exact e.symm))⟩
end
end Go.Proofs.YtmecigainilocaaGreatDoor
