/-
  THE LANDED PACKAGE decl: the contract of attlist (attributes that are declared are listed, if none of their element and name is).
-/
import Derived.Test.YtmecigainilocaaGreatDoorRunDEntity
namespace Go.Proofs.YtmecigainilocaaGreatDoor
open Go.RowKit

theorem att_name_len {el l r : List UInt8} {a : AttD} (h : attD el l = some (a, r)) : a.name.length ≤ l.length := by
  unfold attD at h
  obtain ⟨x, hx, h2⟩ := Option.bind_eq_some_iff.1 h
  obtain ⟨m, hm, h3⟩ := Option.bind_eq_some_iff.1 h2
  obtain ⟨y, hy, h4⟩ := Option.bind_eq_some_iff.1 h3
  obtain ⟨m2, hm2, h5⟩ := Option.bind_eq_some_iff.1 h4
  obtain ⟨d, hd, h6⟩ := Option.map_eq_some_iff.1 h5
  simp only [Prod.mk.injEq] at h6
  obtain ⟨h6, _⟩ := h6
  rw [← h6]
  show x.1.length ≤ _
  unfold spNameL at hx
  obtain ⟨q, hq, hx2⟩ := Option.bind_eq_some_iff.1 hx
  have := spc_len hq
  split at hx2
  · simp only [Option.some.injEq] at hx2
    rw [← hx2]
    have := part_len q
    show (nameT q).length ≤ _
    omega
  · cases hx2
theorem enter_attfn : ∀ args w, (callFunc 87 args).run Tryz.prog w = .ok (.enter 87 args) w := enters_of Tryz.func87 (by kernel_rfl) rfl
theorem info_att : (Tryz.prog.info? 39).map (fun i => (i.zero, i.size, i.bytes)) = some (some (.agg #[.string ⟨#[]⟩, .string ⟨#[]⟩, .int .i64 0, .bool false, .string ⟨#[]⟩]), 5, 64) := by kernel_rfl
theorem att_row (w : World) (el : ByteArray) : (w.alloc (.cells #[.string el, .string ⟨#[]⟩, .int .i64 0, .bool false, .string ⟨#[]⟩] 39)).rowIs w.heap.size 39 5 (attFn el ⟨#[]⟩ 0 false ⟨#[]⟩) := World.rowIs_alloc w #[.string el, .string ⟨#[]⟩, .int .i64 0, .bool false, .string ⟨#[]⟩] 39 (attFn el ⟨#[]⟩ 0 false ⟨#[]⟩) (by
  intro i hi
  rcases (show i = 0 ∨ i = 1 ∨ i = 2 ∨ i = 3 ∨ i = 4 by have : i < 5 := hi; omega) with rfl | rfl | rfl | rfl | rfl <;> rfl)
/-- the box that attlist's closure looks into -/
def BoxD (B b : Nat) (w : World) : Prop := w.heap[B]? = some (.cells #[.pointer (some ⟨b, 0, none⟩)] 49 (0, 0))
theorem BoxD.cell {B b : Nat} {w : World} (h : BoxD B b w) : w.cell? ⟨B, 0, none⟩ = some (.pointer (some ⟨b, 0, none⟩)) := by
  unfold BoxD at h
  simp [World.cell?, h]
theorem BoxD.lt {B b : Nat} {w : World} (h : BoxD B b w) : B < w.heap.size := (Array.getElem?_eq_some_iff.1 h).1
theorem boxD_new (w : World) (b : Nat) : BoxD w.heap.size b (w.alloc (.cells #[.pointer (some ⟨b, 0, none⟩)] 49)) := by
  show (w.heap.push _)[w.heap.size]? = _
  rw [Array.getElem?_push_size]
theorem BoxD.of_block {B b : Nat} {w w' : World} (h : BoxD B b w) (e : w'.heap[B]? = w.heap[B]?) : BoxD B b w' := e.trans h
section
variable {c : Rd} {w0 w w' : World} {l l' : List UInt8}
theorem attfn_d (B ab : Nat) (el : List UInt8) (h : DR c w0 w l) (hB : w.cell? ⟨B, 0, none⟩ = some (.pointer (some ⟨c.b, 0, none⟩))) (hab : w0.heap.size ≤ ab) (hA : w.rowIs ab 39 5 (attFn (bytes el) ⟨#[]⟩ 0 false ⟨#[]⟩)) :
    Calls Tryz.prog 87 #[.pointer (some ⟨B, 0, none⟩), .pointer (some ⟨ab, 0, none⟩)] w (AtG c w0 ab el l) := by
  have CA := Lib.hid (att_d ab el h hab hA)
  clear h hA
  go_enter Tryz.func87, Tryz.ntmps87
  go_wp2_with fail
  refine CA.out.mono ?_
  rintro e w1 (⟨hd, l', rfl, h1⟩ | ⟨a, r, hd, rfl, h1, h2⟩)
  · have H1 := Lib.hid (And.intro hd h1)
    clear CA hd h1
    go_wp2
    go_ret
    exact atG_no H1.out.1 H1.out.2
  · have H1 := Lib.hid (And.intro hd (And.intro h1 h2))
    clear CA hd h1 h2
    go_wp2
    go_ret
    exact atG_yes H1.out.1 H1.out.2.1 H1.out.2.2
end
/-- an attribute's box, filled -/
abbrev AttRow (w : World) (ab : Nat) (a : AttD) : Prop := w.rowIs ab 39 5 (attFn (bytes a.elem) (bytes a.name) (a.type : Int) a.has (bytes a.value))
/-- what perhaps gives of it -/
def AtP (ab : Nat) (el l : List UInt8) (is : Bool) (l' : List UInt8) (w : World) : Prop := (is = true ∧ ∃ a, attD el l = some (a, l') ∧ AttRow w ab a) ∨ (is = false ∧ attD el l = none)
/-- what the appending of an attribute reads -/
def AttS (B X k : Nat) (el : List UInt8) (a : AttD) (W : World) : Prop :=
  W.cell? ⟨B, 0, none⟩ = some (.pointer (some ⟨k, 0, none⟩)) ∧ W.cell? ⟨X, 0, none⟩ = some (.string (bytes el)) ∧ W.cell? ⟨X, 1, none⟩ = some (.string (bytes a.name)) ∧ W.cell? ⟨X, 2, none⟩ = some (.int .i64 (a.type : Int)) ∧ W.cell? ⟨X, 3, none⟩ = some (.bool a.has) ∧ W.cell? ⟨X, 4, none⟩ = some (.string (bytes a.value))
theorem attS_of {B X k : Nat} {el : List UInt8} {a : AttD} {W : World} (he : a.elem = el) (h1 : W.cell? ⟨B, 0, none⟩ = some (.pointer (some ⟨k, 0, none⟩))) (h3 : W.rowIs X 39 5 (attFn (bytes a.elem) (bytes a.name) (a.type : Int) a.has (bytes a.value))) : AttS B X k el a W := by
  subst he
  exact ⟨h1, h3.cell (i := 0) (by decide), h3.cell (i := 1) (by decide), h3.cell (i := 2) (by decide), h3.cell (i := 3) (by decide), h3.cell (i := 4) (by decide)⟩
section
variable {k : Dk} {W0 w w' : World} {l l' : List UInt8} {nm : ByteArray} {E : List EntD} {A : List AttD} {s1 s2 : Value} {g : List UInt8 → Option Nat}
/-- what attlist gives -/
def AlG (k : Dk) (W0 : World) (l : List UInt8) (nm : ByteArray) (E : List EntD) (A : List AttD) (s1 : Value) (e : Ending) (w' : World) : Prop :=
  (attlistL l = none ∧ e = .returned (.bool false) ∧ Below W0.heap.size W0 w') ∨
  ∃ ts r s2 g, attlistL l = some (ts, r) ∧ e = .returned (.bool true) ∧ DocAt k W0 w' r nm E (ts.foldl addA A) (PE E) (PT (ts.foldl addA A)) s1 s2 g ∧ (∀ e, g e = none → ∀ y, PT (ts.foldl addA A) e y = false) ∧ r.length < l.length
theorem alG_no (hd : attlistL l = none) (h : Below W0.heap.size W0 w) : AlG k W0 l nm E A s1 (.returned (.bool false)) w := Or.inl ⟨hd, rfl, h⟩
theorem alG_yes {ts : List AttD} {r : List UInt8} {A2 : List AttD} (hd : attlistL l = some (ts, r)) (h : DocAt k W0 w r nm E A2 (PE E) (PT A2) s1 s2 g) (hA : A2 = ts.foldl addA A) (hg : ∀ e, g e = none → ∀ y, PT A2 e y = false) (hl : r.length < l.length) : AlG k W0 l nm E A s1 (.returned (.bool true)) w := by
  subst hA
  exact Or.inr ⟨_, _, _, _, hd, rfl, h, hg, hl⟩
/-- where the loop stands -/
structure AlInv (k : Dk) (W0 wr : World) (B : Nat) (nm : ByteArray) (E : List EntD) (A0 : List AttD) (s1 : Value) (g : List UInt8 → Option Nat) (el r0 : List UInt8) (f0 f : Nat) (r : List UInt8) (A : List AttD) (s2 : Value) : Prop where
  doc : DocAt k W0 wr r nm E A (PE E) (PT A) s1 s2 g
  box : BoxD B k.b wr
  ts : (attsF el f0 r0).1.foldl addA A0 = (attsF el f r).1.foldl addA A
  rest : (attsF el f0 r0).2 = (attsF el f r).2
  fuel : r.length ≤ f
  len : r.length ≤ r0.length
theorem atts_none {el r : List UInt8} (f : Nat) (h : attD el r = none) : attsF el f r = ([], r) := by
  cases f with
  | zero => rfl
  | succ f => unfold attsF; rw [h]
theorem atts_some {el r r2 : List UInt8} {a : AttD} (f : Nat) (h : attD el r = some (a, r2)) : attsF el (f + 1) r = (a :: (attsF el f r2).1, (attsF el f r2).2) := by
  show (match attD el r with | none => _ | some a => _) = _
  rw [h]
theorem PT_put (A : List AttD) (a : AttD) (el : List UInt8) (he : a.elem = el) : (fun e => if e = el then fun y => PT A el y || decide (y = a.name) else PT A e) = PT (addA A a) := by
  subst he
  funext e y
  rw [← PT_add A a e y]
  by_cases h : e = a.elem
  · rw [if_pos h, if_pos h]
  · rw [if_neg h, if_neg h]
theorem PT_mono (A : List AttD) (a : AttD) (e y : List UInt8) (h : PT (addA A a) e y = false) : PT A e y = false := by
  rw [← PT_add] at h
  by_cases he : e = a.elem
  · rw [if_pos he, Bool.or_eq_false_iff] at h
    rw [he]; exact h.1
  · rwa [if_neg he] at h
theorem PT_none {A : List AttD} {ts : List AttD} {el : List UInt8} : ∀ (_ : ∀ a ∈ ts, a.elem = el) (e y : List UInt8) (_ : e ≠ el), PT (ts.foldl addA A) e y = PT A e y := by
  induction ts generalizing A with
  | nil => intro _ e y _; rfl
  | cons a t ih =>
    intro ha e y he
    show PT (t.foldl addA (addA A a)) e y = _
    rw [ih (fun x hx => ha x (List.mem_cons_of_mem _ hx)) e y he, ← PT_add, if_neg (by rw [ha a List.mem_cons_self]; exact he)]
theorem atts_elem (el : List UInt8) : ∀ (f : Nat) (r : List UInt8), ∀ a ∈ (attsF el f r).1, a.elem = el
  | 0, _, a, h => by cases h
  | f + 1, r, a, h => by
    cases hd : attD el r with
    | none =>
      rw [atts_none (f + 1) hd] at h
      cases h
    | some x =>
      obtain ⟨b, r2⟩ := x
      rw [atts_some f hd] at h
      rcases List.mem_cons.1 h with rfl | h
      · exact (att_len11 hd).2
      · exact atts_elem el f r2 a h

/-- a round's end: the attribute is listed, or another of its name is -/
theorem AlInv.on {wr : World} {B : Nat} {A0 : List AttD} {el r0 r r2 : List UInt8} {f0 f : Nat} {s2' : Value} {a : AttD} (h : AlInv k W0 wr B nm E A0 s1 g el r0 f0 (f + 1) r A s2) (ha : attD el r = some (a, r2)) (hd : DocAt k W0 w' r2 nm E (addA A a) (PE E) (PT (addA A a)) s1 s2' g) (hb : BoxD B k.b w') : AlInv k W0 w' B nm E A0 s1 g el r0 f0 f r2 (addA A a) s2' := by
  have hl := (att_len11 ha).1
  refine ⟨hd, hb, ?_, ?_, by have := h.fuel; omega, by have := h.len; omega⟩
  · rw [h.ts, atts_some f ha]; rfl
  · rw [h.rest, atts_some f ha]
/-- the end of it all -/
theorem AlInv.done {wr : World} {B : Nat} {A0 : List AttD} {el r0 r : List UInt8} {f0 f : Nat} {q0 : Nat} {g0 : List UInt8 → Option Nat} (h : AlInv k W0 wr B nm E A0 s1 g el r0 f0 f r A s2) (ha : attD el r = none) (hg : g = fun x => if x = el then some q0 else g0 x) (hng : ∀ e, g0 e = none → ∀ y, PT A0 e y = false) :
    A = (attsF el f0 r0).1.foldl addA A0 ∧ (attsF el f0 r0).2 = r ∧ ∀ e, g e = none → ∀ y, PT A e y = false := by
  have h1 := h.ts
  have h2 := h.rest
  rw [atts_none f ha] at h1 h2
  refine ⟨h1.symm, h2, fun e he y => ?_⟩
  subst hg
  by_cases hel : e = el
  · simp only [if_pos hel] at he; cases he
  · simp only [if_neg hel] at he
    rw [show A = (attsF el f0 r0).1.foldl addA A0 from h1.symm, PT_none (atts_elem el f0 r0) e y hel]
    exact hng e he y
/-- an element's set is made -/
theorem al_fresh {w2 w3 : World} {B : Nat} {r el : List UInt8} {D : DataW Unit} (hn : k.n ≤ W0.heap.size) (hgel : g el = none) (hrl : r.length < l.length) (hsh : l.length ≤ 100000) (hng : ∀ e, g e = none → ∀ y, PT A e y = false) (H2 : DocAt k W0 w2 r nm E A (PE E) (PT A) s1 s2 g) (HB2 : BoxD B k.b w2) (hws : k.b < B)
    (hm : Maps.IsMap D) (hD : ∀ x z, D.atKey (.string x) z = elemOf (g x) z) (hown3 : w3.ownsMap Tryz.prog 9 mapElem k.m2 (200000 - l.length + 1) (D.put (.string el) (.lit (.int .i64 (w2.heap.size : Int))))) (hgrow3 : (w2.alloc (.map #[] 0)).grownBy w3 (some k.m2)) (helk : el.length ≤ 100000) :
    ∃ g', Hid (DocAt k W0 w3 r nm E A (PE E) (PT A) s1 s2 g') ∧ Hid (BoxD B k.b w3) ∧ Hid (g' = fun x => if x = el then some w2.heap.size else g x) ∧
      (Instr.lookup 55 (.map (some k.m2)) (.string (bytes el)) false).run Tryz.prog w3 = .ok (.map (some w2.heap.size)) w3 ∧ w3.cell? ⟨B, 0, none⟩ = some (.pointer (some ⟨k.b, 0, none⟩)) ∧ w3.cell? ⟨k.b, 6, none⟩ = some (.map (some k.m2)) := by
  have hT3 : Turns (fun q => q = k.m2) w2 w3 := ((Turns.refl (fun q => q = k.m2) w2).alloc (.map #[] 0)).grown hgrow3 (fun q e => Or.inl (by injection e with e; exact e.symm))
  have hE3 : ElemsM w3 k.m2 (fun x => if x = el then some w2.heap.size else g x) (200000 - l.length + 1) := ⟨_, hown3, fun x z => ElemsM.put hm hD el w2.heap.size x z⟩
  have hmade := NamesM.made w2
  have h2lt := H2.lt2
  have h2b := H2.blt
  have hN3 : NamesM w3 w2.heap.size (fun _ => false) 0 := hmade.of_block (hgrow3.block w2.heap.size hmade.lt (fun e => by injection e with e; omega))
  have H3 := H2.fresh hn hgel (Nat.le_refl _) hrl hsh hT3 hE3 hN3
  rw [show (fun e => if e = el then (fun _ => false) else PT A e) = PT A from by
    funext e y
    by_cases he : e = el
    · rw [if_pos he, he]; exact (hng el hgel y).symm
    · rw [if_neg he]] at H3
  have HB3 : BoxD B k.b w3 := HB2.of_block (hT3.block B HB2.lt (fun e => by have e2 : B = k.m2 := e; omega))
  have hlk3 := hE3.look el helk
  rw [if_pos rfl] at hlk3
  exact ⟨_, Lib.hid H3, Lib.hid HB3, Lib.hid rfl, hlk3, HB3.cell, H3.c1.2.2.2⟩
set_option maxHeartbeats 16000000 in
set_option maxRecDepth 100000 in
theorem attlist_d (hn : k.n ≤ W0.heap.size) (h : DocAt k W0 w l nm E A (PE E) (PT A) s1 s2 g) (hng : ∀ e, g e = none → ∀ y, PT A e y = false) : Calls Tryz.prog 66 #[.pointer (some ⟨k.b, 0, none⟩)] w (AlG k W0 l nm E A s1) := by
  obtain ⟨i0, hi, hz⟩ := Option.map_eq_some_iff.1 info_att
  simp only [Prod.mk.injEq] at hz
  obtain ⟨hz0, hz1, hz2⟩ := hz
  have hsh := h.rd.short
  have HNG := Lib.hid hng
  have hbl := h.blt
  have hlt2 := h.lt2
  have HD := Lib.hid (h.other ((Below.refl _ _).alloc (Nat.le_refl _) (.cells #[.pointer (some ⟨k.b, 0, none⟩)] 49)))
  have HB := Lib.hid (boxD_new w k.b)
  have CN := Lib.hid (spacedName_d splitB _ enter_qualified HD.out.rd (qualified_s k.n))
  have hBb : w.heap.size ≠ k.b := by omega
  have HKB := Lib.hid (fun w' l' (h' : DR (k.c nm s1 s2) (w.alloc (.cells #[.pointer (some ⟨k.b, 0, none⟩)] 49)) w' l') => HB.out.of_block (h'.since.block w.heap.size HB.out.lt (show w.heap.size ≠ k.b from hBb)))
  have hmm := @run_makeMap Tryz.prog
  have qT : ∀ (w : World) (r : Option Nat), (binOp .eql 54 (.map r) (.map none)).run Tryz.prog w = .ok (.bool r.isNone) w := fun w r => run_eql_map_nil w _ _ _ r und_names
  clear h hng
  go_enter Tryz.func66, Tryz.ntmps66
  go_wp2_with fail
  refine CN.out.mono ?_
  rintro e w2 (⟨hx, x, l', rfl, h1⟩ | ⟨el, r, hx, rfl, h1, hnl, hrl⟩)
  · have HN : Hid (attlistL l = none) := Lib.hid (by unfold attlistL; rw [hx]; rfl)
    have H1 := Lib.hid (HD.out.far h1)
    clear CN hx h1
    go_wp2
    go_ret
    exact alG_no HN.out H1.out
  · have HN : Hid (attlistL l = (endL11 (attsF el l.length r).2).map fun q => ((attsF el l.length r).1, q)) := Lib.hid (by unfold attlistL; rw [hx]; rfl)
    have H2 := Lib.hid (HD.out.step h1 (by omega))
    have HB2 := Lib.hid (HKB.out _ _ h1)
    have HS2 : Hid (ElemsM w2 k.m2 g (200000 - l.length)) := Lib.hid (HD.out.set2.of_block (h1.since.block k.m2 HD.out.set2.lt (show k.m2 ≠ k.b by omega)))
    have hws : w.heap.size < w2.heap.size := HB2.out.lt
    have hll : l.length ≤ 100000 := hsh
    have helk : el.length ≤ 100000 := by omega
    clear CN hx h1 HKB HB
    cases hgel : g el with
    | none =>
      have hlk := HS2.out.look el helk
      rw [hgel] at hlk
      have bx := HB2.out.cell
      have c6 := H2.out.c1.2.2.2
      have HMADE := Lib.hid (NamesM.made w2)
      obtain ⟨D, hown, hD⟩ := HS2.out
      have hownA := hown.alloc (.map #[] 0)
      have HIM := Lib.hid hown.isMap
      have HDD := Lib.hid hD
      have hNm : 200000 - l.length < maxLen := by unfold maxLen; omega
      have hcA : (w2.alloc (.map #[] 0)).cell? ⟨k.b, 6, none⟩ = some (.map (some k.m2)) := (H2.out.other ((Below.refl _ _).alloc (Nat.le_refl _) (.map #[] 0))).c1.2.2.2
      clear hown hD
      go_wp2_with (first
        | (at_mapUpdate; refine wpList_mapUpdate_own (H := Unit) _ rfl _ _ _ 55 rfl 9 54 key_law und_elems mapElem k.m2 (200000 - l.length) D rfl hownA hNm _ _ _ rfl rfl (key_of el helk) (.lit (.int .i64 (w2.heap.size : Int))) [] rfl ?_; intro w3 hown3 hgrow3; obtain ⟨g', H3, HB3, HG, hlk3, bx3, c63⟩ := al_fresh hn hgel hrl hsh HNG.out H2.out HB2.out hbl HIM.out HDD.out hown3 hgrow3 helk))
      generalize w2.heap.size = q0 at *
      have HG0 := HG.out
      have hq0 : g' el = some q0 := by rw [HG0]; exact if_pos rfl
      clear HG0
      go_loopg [6] l.length (fun f _ wr => ∃ r' A' s2', AlInv k W0 wr w.heap.size nm E A s1 g' el r l.length f r' A' s2')
      case atStart => exact ⟨r, A, s2, ⟨H3.out, HB3.out, rfl, rfl, by omega, Nat.le_refl _⟩⟩
      case round =>
        obtain ⟨r', A', s2', hinv⟩ := hrel
        obtain ⟨ta, tc, rfl⟩ := owns_slice hinv.doc.own2
        have HI := Lib.hid hinv
        have hRl := hinv.doc.rd.short
        have hbl2 := hinv.doc.blt
        have hfu := hinv.fuel
        have hBlt := hinv.box.lt
        clear hinv H3 HB3 hlk hlk3 bx3 c63 c6 hcA hownA HMADE HIM HDD
        have HH := Lib.hid (HI.out.doc.rd.alloc (.cells #[.string (bytes el), .string ⟨#[]⟩, .int .i64 0, .bool false, .string ⟨#[]⟩] 39))
        have bx := (HI.out.box.of_block (((Below.refl _ _).alloc (Nat.le_refl wr.heap.size) (.cells #[.string (bytes el), .string ⟨#[]⟩, .int .i64 0, .bool false, .string ⟨#[]⟩] 39)).block w.heap.size hBlt)).cell
        have CF := Lib.hid (perhaps_d (AtP wr.heap.size el r') _ #[.pointer (some ⟨w.heap.size, 0, none⟩), .pointer (some ⟨wr.heap.size, 0, none⟩)] enter_attfn HH.out ((attfn_d w.heap.size wr.heap.size el HH.out bx (Nat.le_refl _) (att_row wr (bytes el))).mono (fun e w' hg => by
          rcases hg with ⟨h1, l', h2, h3⟩ | ⟨a, r2, h1, h2, h3, h4⟩
          · exact ⟨false, l', h2, h3, Or.inr ⟨rfl, h1⟩⟩
          · exact ⟨true, r2, h2, h3, Or.inl ⟨rfl, a, h1, h4⟩⟩)))
        go_wp2_with fail
        refine CF.out.mono ?_
        rintro e w5 (⟨l', rfl, h5, hX⟩ | ⟨l', W5, rfl, h5, hX, hW5⟩)
        · obtain ⟨a, ha, hrow⟩ : ∃ a, attD el r' = some (a, l') ∧ AttRow w5 wr.heap.size a := by
            rcases hX with ⟨_, h⟩ | ⟨h, _⟩
            · exact h
            · cases h
          obtain ⟨hla, hel3⟩ := att_len11 ha
          have HEL := Lib.hid hel3
          clear hel3
          have hnl2 := att_name_len ha
          cases gk with
          | zero => exfalso; omega
          | succ f =>
            have H5 := Lib.hid (HI.out.doc.step h5 (by omega))
            have HB5 := Lib.hid (HI.out.box.of_block (h5.since.block w.heap.size hBlt (show w.heap.size ≠ k.b by omega)))
            have hq9 := HI.out.doc.inn el q0 hq0
            have hns := hq9.2.of_block (h5.since.block q0 hq9.2.lt (show q0 ≠ k.b by have := hq9.1; omega))
            have CA := Lib.hid (add_m a.name hns (by omega) (by omega))
            have HR5 := Lib.hid hrow
            have hQ : Hid (q0 ≠ w.heap.size ∧ q0 < wr.heap.size) := Lib.hid (And.intro (fun e => by
              obtain ⟨es, cl, hm9⟩ := names_map hq9.2
              have hb9 := HI.out.box
              unfold BoxD at hb9
              rw [e, hb9] at hm9
              cases hm9) hq9.2.lt)
            have hx1 : w5.cell? ⟨wr.heap.size, 1, none⟩ = some (.string (bytes a.name)) := hrow.cell (i := 1) (by decide)
            clear CF h5 hX hrow hns hq9 HH bx
            go_wp2_with fail
            refine CA.out.mono ?_
            rintro e w6 ⟨rfl, hM, hT⟩
            have h6 := H5.out.put2 hn hq0 (l2 := r') hla hT hM hRl
            rw [PT_put A' a el HEL.out] at h6
            have HB6 := Lib.hid (HB5.out.of_block (hT.block w.heap.size HB5.out.lt (fun e => hQ.out.1 (by have e2 : w.heap.size = q0 := e; exact e2.symm))))
            have HR6 : Hid (AttRow w6 wr.heap.size a) := Lib.hid (HR5.out.of_block (hT.block wr.heap.size (World.rowIs.lt HR5.out) (fun e => by have e2 : wr.heap.size = q0 := e; have := hQ.out.2; omega)))
            have H6 := Lib.hid h6
            clear CA hM hT h6 H5 HB5 HR5 hx1
            cases hpe : PT A' el a.name with
            | true =>
              have hA2 : addA A' a = A' := addA_old (by rw [HEL.out]; exact hpe)
              have HE : Hid (DocAt k W0 w6 l' nm E (addA A' a) (PE E) (PT (addA A' a)) s1 (.slice ta A'.length tc) g') := Lib.hid (by
                have h9 := H6.out
                rw [hA2] at h9 ⊢
                exact h9)
              clear hA2 hpe H6 HR6
              go_wp2
              go_roundg f
              case measure => omega
              case rel => exact ⟨l', addA A' a, _, HI.out.on ha HE.out HB6.out⟩
            | false =>
              have hA2 : addA A' a = A' ++ [a] := addA_new (by rw [HEL.out]; exact hpe)
              have hd4 := H6.out.other ((Below.refl _ _).drew)
              have hd5 := hd4.other ((Below.refl w6.drew.heap.size w6.drew).alloc (Nat.le_refl _) (.cells #[.string (bytes el), .string (bytes a.name), .int .i64 (a.type : Int), .bool a.has, .string (bytes a.value)] 39))
              have hx0 : w6.cell? ⟨wr.heap.size, 0, none⟩ = some (.string (bytes el)) := by have := HR6.out.cell (i := 0) (by decide); rw [HEL.out] at this; exact this
              have hx1 : w6.cell? ⟨wr.heap.size, 1, none⟩ = some (.string (bytes a.name)) := HR6.out.cell (i := 1) (by decide)
              have hx2 : w6.cell? ⟨wr.heap.size, 2, none⟩ = some (.int .i64 (a.type : Int)) := HR6.out.cell (i := 2) (by decide)
              have hx3 : w6.cell? ⟨wr.heap.size, 3, none⟩ = some (.bool a.has) := HR6.out.cell (i := 3) (by decide)
              have hx4 : w6.cell? ⟨wr.heap.size, 4, none⟩ = some (.string (bytes a.value)) := HR6.out.cell (i := 4) (by decide)
              have c4 := H6.out.c1.2.1
              have bx6 := HB6.out.cell
              have hcn0 := HI.out.doc.cnt2
              have hlt9 := (att_len11 ha).1
              have hbl9 := H6.out.blt
              have HB9 := Lib.hid (show BoxD w.heap.size k.b (w6.drew.alloc (.cells #[.string (bytes el), .string (bytes a.name), .int .i64 (a.type : Int), .bool a.has, .string (bytes a.value)] 39)) from HB6.out.of_block (((Below.refl w6.drew.heap.size w6.drew).alloc (Nat.le_refl _) (.cells #[.string (bytes el), .string (bytes a.name), .int .i64 (a.type : Int), .bool a.has, .string (bytes a.value)] 39)).block w.heap.size HB6.out.lt))
              have HRB : Hid (∀ q, (Value.slice ta A'.length tc).ownBlock = some q → q ≠ w.heap.size) := Lib.hid (fun q hq e => by
                obtain ⟨cur, hcur⟩ := own_cells hd5.own2 q hq
                have hbb := HB9.out
                unfold BoxD at hbb
                rw [e, hbb] at hcur
                injection hcur with hcur
                injection hcur with _ h9 _
                revert h9
                decide)
              have bx9 : (w6.alloc (.cells #[.string (bytes el), .string (bytes a.name), .int .i64 (a.type : Int), .bool a.has, .string (bytes a.value)] 39)).cell? ⟨w.heap.size, 0, none⟩ = some (.pointer (some ⟨k.b, 0, none⟩)) := HB9.out.cell
              have c49 : (w6.alloc (.cells #[.string (bytes el), .string (bytes a.name), .int .i64 (a.type : Int), .bool a.has, .string (bytes a.value)] 39)).cell? ⟨k.b, 4, none⟩ = some (.slice ta A'.length tc) := hd5.c1.2.1
              have KEY := Lib.hid (fun g2 cap2 (w7 : World) (hown7 : w7.ownsRow k.lo 39 5 (.slice (some ⟨g2, 0, none⟩) (A'.length + 1) cap2) (A'.length + 1) (flatT A' ++ [.string (bytes el), .string (bytes a.name), .int .i64 (a.type : Int), .bool a.has, .string (bytes a.value)])) (hgr7 : (w6.drew.alloc (.cells #[.string (bytes el), .string (bytes a.name), .int .i64 (a.type : Int), .bool a.has, .string (bytes a.value)] 39)).grownBy w7 (Value.slice ta A'.length tc).ownBlock) =>
                show AlInv k W0 (w7.setCell ⟨k.b, 4, none⟩ (.slice (some ⟨g2, 0, none⟩) (A'.length + 1) cap2)) w.heap.size nm E A s1 g' el r l.length f l' (addA A' a) (.slice (some ⟨g2, 0, none⟩) (A'.length + 1) cap2) from by
                  have HE := hd5.grew2 hn (A2 := A' ++ [a]) hgr7 (by rw [flatT_next, List.length_append, HEL.out]; exact hown7) (by rw [List.length_append]; show A'.length + 1 + l'.length ≤ 100000; omega)
                  have HB7 : BoxD w.heap.size k.b (w7.setCell ⟨k.b, 4, none⟩ (.slice (some ⟨g2, 0, none⟩) (A'.length + 1) cap2)) := HB9.out.of_block ((Below.heap_setCell _ _ _ _ (show w.heap.size ≠ k.b by omega)).trans (hgr7.block w.heap.size HB9.out.lt (fun e => HRB.out _ e.symm rfl)))
                  rw [← hA2] at HE
                  exact HI.out.on ha HE HB7)
              have KC := Lib.hid (fun (w7 : World) (hgr7 : (w6.drew.alloc (.cells #[.string (bytes el), .string (bytes a.name), .int .i64 (a.type : Int), .bool a.has, .string (bytes a.value)] 39)).grownBy w7 (Value.slice ta A'.length tc).ownBlock) =>
                show w7.cell? ⟨k.b, 4, none⟩ = some (.slice ta A'.length tc) ∧ w7.frozen? ⟨k.b, 4, none⟩ = false ∧ w7.cell? ⟨w.heap.size, 0, none⟩ = some (.pointer (some ⟨k.b, 0, none⟩)) from by
                  have hp7 := hd5.rd.rd.of_block (hgr7.block k.b hd5.rd.rd.lt (fun e => by have := hd5.row2 k.b e.symm; omega))
                  exact ⟨hp7.cell (i := 4) (show 4 < 7 by decide), hp7.frozen 4, (HB9.out.of_block (hgr7.block w.heap.size HB9.out.lt (fun e => HRB.out _ e.symm rfl))).cell⟩)
              have HO := Lib.hid (hd4.own2.alloc (.cells #[.string (bytes el), .string (bytes a.name), .int .i64 (a.type : Int), .bool a.has, .string (bytes a.value)] 39))
              have hL1 : A'.length + 1 ≤ maxLen := by unfold maxLen; omega
              have hL2 : (A'.length + 1) * 64 ≤ 140737488355328 := by omega
              have hL3 : k.lo ≤ (w6.drew.alloc (.cells #[.string (bytes el), .string (bytes a.name), .int .i64 (a.type : Int), .bool a.has, .string (bytes a.value)] 39)).heap.size := hd5.lole
              have hRr : l'.length < r'.length := hla
              clear hA2 hd4 hd5 H6 HR6 HB6 HB9 HRB hcn0 hlt9 hbl9 hpe qT hmm hla hnl2 hRl hfu hBlt hbl2 hsh hll helk hws hbl hlt2 hnl hrl
              go_wp2_with fail
              go_region_law (refine step_append_lies _ (by rfl) _ _ 25 (by rfl) k.lo 39 i0 (.agg #[.string ⟨#[]⟩, .string ⟨#[]⟩, .int .i64 0, .bool false, .string ⟨#[]⟩]) 5 64 Tryz.underlying25 hi hz0 hz1 hz2 rfl (by decide) _ _ _ (by rfl) HO.out ⟨w6.heap.size, 0, none⟩ 1 1 [.string (bytes el), .string (bytes a.name), .int .i64 (a.type : Int), .bool a.has, .string (bytes a.value)] (by rfl) rfl (World.news_of_block (tok_new _ _ _ _ _ _ _)) (by intro u hu; simp at hu; rcases hu with rfl | rfl | rfl | rfl | rfl <;> rfl) (by decide) hL1 hL2 hL3 (w6.heap.size + 1) (by simp) ?_; intro g2 cap2 w7 hown7 hgr7 hat7 hlt7; clear hat7 hlt7; obtain ⟨hc7, hf7, bx7⟩ := KC.out w7 hgr7)
              all_goals
                have HKK := Lib.hid (KEY.out g2 cap2 w7 hown7 hgr7)
                clear KEY KC HO hown7 hgr7 hc7 hf7 bx7 bx6 bx9 c4 c49 hx0 hx1 hx2 hx3 hx4
                generalize w7.setCell ⟨k.b, 4, none⟩ (.slice (some ⟨g2, 0, none⟩) (A'.length + 1) cap2) = W9 at HKK ⊢
                go_wp2
                go_roundg f
                case measure => omega
                case rel => exact ⟨l', addA A' a, _, HKK.out⟩
        · clear hW5
          have ha : attD el r' = none := by
            rcases hX with ⟨h, _⟩ | ⟨_, h⟩
            · cases h
            · exact h
          have HDN := Lib.hid (HI.out.done ha HG.out HNG.out)
          have H5 := Lib.hid (HI.out.doc.step h5 (Nat.le_refl _))
          have HB5 := Lib.hid (HI.out.box.of_block (h5.since.block w.heap.size hBlt (show w.heap.size ≠ k.b by omega)))
          have bx5 := HB5.out.cell
          have CS := Lib.hid (space_may H5.out.rd)
          clear CF h5 hX ha HH bx
          go_wp2_with fail
          refine CS.out.mono ?_
          rintro e w7 ⟨⟨z7, rfl⟩, h7⟩
          have H7 := Lib.hid (H5.out.step h7 (by have := may_len r'; omega))
          have HB7 := Lib.hid (HB5.out.of_block (h7.since.block w.heap.size HB5.out.lt (show w.heap.size ≠ k.b by omega)))
          clear CS h7 H5 HB5 bx5
          have hm9 := may_len r'
          cases hs : swB [62] (mayL r') with
          | false =>
            have CT := Lib.hid (take_n [62] H7.out.rd (by decide) hs)
            have HN9 : Hid (attlistL l = none) := Lib.hid (by rw [HN.out, HDN.out.2.1]; unfold endL11; rw [mark_none hs]; rfl)
            have bx7 := HB7.out.cell
            clear hs
            go_wp2_with fail
            refine CT.out.mono ?_
            rintro e w8 ⟨rfl, h8⟩
            have H8 := Lib.hid (H7.out.far h8)
            clear CT h8
            go_wp2
            go_ret
            exact alG_no HN9.out H8.out
          | true =>
            have CT := Lib.hid (take_y [62] H7.out.rd (by decide) hs)
            have HN9 : Hid (attlistL l = some ((attsF el l.length r).1, (mayL r').drop 1)) := Lib.hid (by rw [HN.out, HDN.out.2.1]; unfold endL11; rw [mark_some hs]; rfl)
            have hdl : ((mayL r').drop 1).length ≤ (mayL r').length := by rw [List.length_drop]; omega
            have bx7 := HB7.out.cell
            clear hs
            go_wp2_with fail
            refine CT.out.mono ?_
            rintro e w8 ⟨rfl, h8⟩
            have H8 := Lib.hid (H7.out.step h8 hdl)
            clear CT h8
            go_wp2
            go_ret
            have hlr := HI.out.len
            exact alG_yes HN9.out H8.out HDN.out.1 HDN.out.2.2 (show ((mayL r').drop 1).length < l.length by omega)
    | some q0 =>
      have HG : Hid (g = fun x => if x = el then some q0 else g x) := Lib.hid (funext fun x => by
        by_cases he : x = el
        · rw [if_pos he, he, hgel]
        · rw [if_neg he])
      have hlk := HS2.out.look el helk
      rw [hgel] at hlk
      have bx2 := HB2.out.cell
      have c62 := H2.out.c1.2.2.2
      obtain ⟨g', hg'⟩ : ∃ g', g' = g := ⟨_, rfl⟩
      have H3 : Hid (DocAt k W0 w2 r nm E A (PE E) (PT A) s1 s2 g') := Lib.hid (by rw [hg']; exact H2.out)
      have HG : Hid (g' = fun x => if x = el then some q0 else g x) := Lib.hid (by rw [hg']; exact HG.out)
      clear hg'
      go_wp2
      have HG0 := HG.out
      have hq0 : g' el = some q0 := by rw [HG0]; exact if_pos rfl
      clear HG0
      go_loopg [6] l.length (fun f _ wr => ∃ r' A' s2', AlInv k W0 wr w.heap.size nm E A s1 g' el r l.length f r' A' s2')
      case atStart => exact ⟨r, A, s2, ⟨H3.out, HB2.out, rfl, rfl, by omega, Nat.le_refl _⟩⟩
      case round =>
        obtain ⟨r', A', s2', hinv⟩ := hrel
        obtain ⟨ta, tc, rfl⟩ := owns_slice hinv.doc.own2
        have HI := Lib.hid hinv
        have hRl := hinv.doc.rd.short
        have hbl2 := hinv.doc.blt
        have hfu := hinv.fuel
        have hBlt := hinv.box.lt
        clear hinv H3 hlk bx2 c62
        have HH := Lib.hid (HI.out.doc.rd.alloc (.cells #[.string (bytes el), .string ⟨#[]⟩, .int .i64 0, .bool false, .string ⟨#[]⟩] 39))
        have bx := (HI.out.box.of_block (((Below.refl _ _).alloc (Nat.le_refl wr.heap.size) (.cells #[.string (bytes el), .string ⟨#[]⟩, .int .i64 0, .bool false, .string ⟨#[]⟩] 39)).block w.heap.size hBlt)).cell
        have CF := Lib.hid (perhaps_d (AtP wr.heap.size el r') _ #[.pointer (some ⟨w.heap.size, 0, none⟩), .pointer (some ⟨wr.heap.size, 0, none⟩)] enter_attfn HH.out ((attfn_d w.heap.size wr.heap.size el HH.out bx (Nat.le_refl _) (att_row wr (bytes el))).mono (fun e w' hg => by
          rcases hg with ⟨h1, l', h2, h3⟩ | ⟨a, r2, h1, h2, h3, h4⟩
          · exact ⟨false, l', h2, h3, Or.inr ⟨rfl, h1⟩⟩
          · exact ⟨true, r2, h2, h3, Or.inl ⟨rfl, a, h1, h4⟩⟩)))
        go_wp2_with fail
        refine CF.out.mono ?_
        rintro e w5 (⟨l', rfl, h5, hX⟩ | ⟨l', W5, rfl, h5, hX, hW5⟩)
        · obtain ⟨a, ha, hrow⟩ : ∃ a, attD el r' = some (a, l') ∧ AttRow w5 wr.heap.size a := by
            rcases hX with ⟨_, h⟩ | ⟨h, _⟩
            · exact h
            · cases h
          obtain ⟨hla, hel3⟩ := att_len11 ha
          have HEL := Lib.hid hel3
          clear hel3
          have hnl2 := att_name_len ha
          cases gk with
          | zero => exfalso; omega
          | succ f =>
            have H5 := Lib.hid (HI.out.doc.step h5 (by omega))
            have HB5 := Lib.hid (HI.out.box.of_block (h5.since.block w.heap.size hBlt (show w.heap.size ≠ k.b by omega)))
            have hq9 := HI.out.doc.inn el q0 hq0
            have hns := hq9.2.of_block (h5.since.block q0 hq9.2.lt (show q0 ≠ k.b by have := hq9.1; omega))
            have CA := Lib.hid (add_m a.name hns (by omega) (by omega))
            have HR5 := Lib.hid hrow
            have hQ : Hid (q0 ≠ w.heap.size ∧ q0 < wr.heap.size) := Lib.hid (And.intro (fun e => by
              obtain ⟨es, cl, hm9⟩ := names_map hq9.2
              have hb9 := HI.out.box
              unfold BoxD at hb9
              rw [e, hb9] at hm9
              cases hm9) hq9.2.lt)
            have hx1 : w5.cell? ⟨wr.heap.size, 1, none⟩ = some (.string (bytes a.name)) := hrow.cell (i := 1) (by decide)
            clear CF h5 hX hrow hns hq9 HH bx
            go_wp2_with fail
            refine CA.out.mono ?_
            rintro e w6 ⟨rfl, hM, hT⟩
            have h6 := H5.out.put2 hn hq0 (l2 := r') hla hT hM hRl
            rw [PT_put A' a el HEL.out] at h6
            have HB6 := Lib.hid (HB5.out.of_block (hT.block w.heap.size HB5.out.lt (fun e => hQ.out.1 (by have e2 : w.heap.size = q0 := e; exact e2.symm))))
            have HR6 : Hid (AttRow w6 wr.heap.size a) := Lib.hid (HR5.out.of_block (hT.block wr.heap.size (World.rowIs.lt HR5.out) (fun e => by have e2 : wr.heap.size = q0 := e; have := hQ.out.2; omega)))
            have H6 := Lib.hid h6
            clear CA hM hT h6 H5 HB5 HR5 hx1
            cases hpe : PT A' el a.name with
            | true =>
              have hA2 : addA A' a = A' := addA_old (by rw [HEL.out]; exact hpe)
              have HE : Hid (DocAt k W0 w6 l' nm E (addA A' a) (PE E) (PT (addA A' a)) s1 (.slice ta A'.length tc) g') := Lib.hid (by
                have h9 := H6.out
                rw [hA2] at h9 ⊢
                exact h9)
              clear hA2 hpe H6 HR6
              go_wp2
              go_roundg f
              case measure => omega
              case rel => exact ⟨l', addA A' a, _, HI.out.on ha HE.out HB6.out⟩
            | false =>
              have hA2 : addA A' a = A' ++ [a] := addA_new (by rw [HEL.out]; exact hpe)
              have hd4 := H6.out.other ((Below.refl _ _).drew)
              have hd5 := hd4.other ((Below.refl w6.drew.heap.size w6.drew).alloc (Nat.le_refl _) (.cells #[.string (bytes el), .string (bytes a.name), .int .i64 (a.type : Int), .bool a.has, .string (bytes a.value)] 39))
              have hx0 : w6.cell? ⟨wr.heap.size, 0, none⟩ = some (.string (bytes el)) := by have := HR6.out.cell (i := 0) (by decide); rw [HEL.out] at this; exact this
              have hx1 : w6.cell? ⟨wr.heap.size, 1, none⟩ = some (.string (bytes a.name)) := HR6.out.cell (i := 1) (by decide)
              have hx2 : w6.cell? ⟨wr.heap.size, 2, none⟩ = some (.int .i64 (a.type : Int)) := HR6.out.cell (i := 2) (by decide)
              have hx3 : w6.cell? ⟨wr.heap.size, 3, none⟩ = some (.bool a.has) := HR6.out.cell (i := 3) (by decide)
              have hx4 : w6.cell? ⟨wr.heap.size, 4, none⟩ = some (.string (bytes a.value)) := HR6.out.cell (i := 4) (by decide)
              have c4 := H6.out.c1.2.1
              have bx6 := HB6.out.cell
              have hcn0 := HI.out.doc.cnt2
              have hlt9 := (att_len11 ha).1
              have hbl9 := H6.out.blt
              have HB9 := Lib.hid (show BoxD w.heap.size k.b (w6.drew.alloc (.cells #[.string (bytes el), .string (bytes a.name), .int .i64 (a.type : Int), .bool a.has, .string (bytes a.value)] 39)) from HB6.out.of_block (((Below.refl w6.drew.heap.size w6.drew).alloc (Nat.le_refl _) (.cells #[.string (bytes el), .string (bytes a.name), .int .i64 (a.type : Int), .bool a.has, .string (bytes a.value)] 39)).block w.heap.size HB6.out.lt))
              have HRB : Hid (∀ q, (Value.slice ta A'.length tc).ownBlock = some q → q ≠ w.heap.size) := Lib.hid (fun q hq e => by
                obtain ⟨cur, hcur⟩ := own_cells hd5.own2 q hq
                have hbb := HB9.out
                unfold BoxD at hbb
                rw [e, hbb] at hcur
                injection hcur with hcur
                injection hcur with _ h9 _
                revert h9
                decide)
              have bx9 : (w6.alloc (.cells #[.string (bytes el), .string (bytes a.name), .int .i64 (a.type : Int), .bool a.has, .string (bytes a.value)] 39)).cell? ⟨w.heap.size, 0, none⟩ = some (.pointer (some ⟨k.b, 0, none⟩)) := HB9.out.cell
              have c49 : (w6.alloc (.cells #[.string (bytes el), .string (bytes a.name), .int .i64 (a.type : Int), .bool a.has, .string (bytes a.value)] 39)).cell? ⟨k.b, 4, none⟩ = some (.slice ta A'.length tc) := hd5.c1.2.1
              have KEY := Lib.hid (fun g2 cap2 (w7 : World) (hown7 : w7.ownsRow k.lo 39 5 (.slice (some ⟨g2, 0, none⟩) (A'.length + 1) cap2) (A'.length + 1) (flatT A' ++ [.string (bytes el), .string (bytes a.name), .int .i64 (a.type : Int), .bool a.has, .string (bytes a.value)])) (hgr7 : (w6.drew.alloc (.cells #[.string (bytes el), .string (bytes a.name), .int .i64 (a.type : Int), .bool a.has, .string (bytes a.value)] 39)).grownBy w7 (Value.slice ta A'.length tc).ownBlock) =>
                show AlInv k W0 (w7.setCell ⟨k.b, 4, none⟩ (.slice (some ⟨g2, 0, none⟩) (A'.length + 1) cap2)) w.heap.size nm E A s1 g' el r l.length f l' (addA A' a) (.slice (some ⟨g2, 0, none⟩) (A'.length + 1) cap2) from by
                  have HE := hd5.grew2 hn (A2 := A' ++ [a]) hgr7 (by rw [flatT_next, List.length_append, HEL.out]; exact hown7) (by rw [List.length_append]; show A'.length + 1 + l'.length ≤ 100000; omega)
                  have HB7 : BoxD w.heap.size k.b (w7.setCell ⟨k.b, 4, none⟩ (.slice (some ⟨g2, 0, none⟩) (A'.length + 1) cap2)) := HB9.out.of_block ((Below.heap_setCell _ _ _ _ (show w.heap.size ≠ k.b by omega)).trans (hgr7.block w.heap.size HB9.out.lt (fun e => HRB.out _ e.symm rfl)))
                  rw [← hA2] at HE
                  exact HI.out.on ha HE HB7)
              have KC := Lib.hid (fun (w7 : World) (hgr7 : (w6.drew.alloc (.cells #[.string (bytes el), .string (bytes a.name), .int .i64 (a.type : Int), .bool a.has, .string (bytes a.value)] 39)).grownBy w7 (Value.slice ta A'.length tc).ownBlock) =>
                show w7.cell? ⟨k.b, 4, none⟩ = some (.slice ta A'.length tc) ∧ w7.frozen? ⟨k.b, 4, none⟩ = false ∧ w7.cell? ⟨w.heap.size, 0, none⟩ = some (.pointer (some ⟨k.b, 0, none⟩)) from by
                  have hp7 := hd5.rd.rd.of_block (hgr7.block k.b hd5.rd.rd.lt (fun e => by have := hd5.row2 k.b e.symm; omega))
                  exact ⟨hp7.cell (i := 4) (show 4 < 7 by decide), hp7.frozen 4, (HB9.out.of_block (hgr7.block w.heap.size HB9.out.lt (fun e => HRB.out _ e.symm rfl))).cell⟩)
              have HO := Lib.hid (hd4.own2.alloc (.cells #[.string (bytes el), .string (bytes a.name), .int .i64 (a.type : Int), .bool a.has, .string (bytes a.value)] 39))
              have hL1 : A'.length + 1 ≤ maxLen := by unfold maxLen; omega
              have hL2 : (A'.length + 1) * 64 ≤ 140737488355328 := by omega
              have hL3 : k.lo ≤ (w6.drew.alloc (.cells #[.string (bytes el), .string (bytes a.name), .int .i64 (a.type : Int), .bool a.has, .string (bytes a.value)] 39)).heap.size := hd5.lole
              have hRr : l'.length < r'.length := hla
              clear hA2 hd4 hd5 H6 HR6 HB6 HB9 HRB hcn0 hlt9 hbl9 hpe qT hmm hla hnl2 hRl hfu hBlt hbl2 hsh hll helk hws hbl hlt2 hnl hrl
              go_wp2_with fail
              go_region_law (refine step_append_lies _ (by rfl) _ _ 25 (by rfl) k.lo 39 i0 (.agg #[.string ⟨#[]⟩, .string ⟨#[]⟩, .int .i64 0, .bool false, .string ⟨#[]⟩]) 5 64 Tryz.underlying25 hi hz0 hz1 hz2 rfl (by decide) _ _ _ (by rfl) HO.out ⟨w6.heap.size, 0, none⟩ 1 1 [.string (bytes el), .string (bytes a.name), .int .i64 (a.type : Int), .bool a.has, .string (bytes a.value)] (by rfl) rfl (World.news_of_block (tok_new _ _ _ _ _ _ _)) (by intro u hu; simp at hu; rcases hu with rfl | rfl | rfl | rfl | rfl <;> rfl) (by decide) hL1 hL2 hL3 (w6.heap.size + 1) (by simp) ?_; intro g2 cap2 w7 hown7 hgr7 hat7 hlt7; clear hat7 hlt7; obtain ⟨hc7, hf7, bx7⟩ := KC.out w7 hgr7)
              all_goals
                have HKK := Lib.hid (KEY.out g2 cap2 w7 hown7 hgr7)
                clear KEY KC HO hown7 hgr7 hc7 hf7 bx7 bx6 bx9 c4 c49 hx0 hx1 hx2 hx3 hx4
                generalize w7.setCell ⟨k.b, 4, none⟩ (.slice (some ⟨g2, 0, none⟩) (A'.length + 1) cap2) = W9 at HKK ⊢
                go_wp2
                go_roundg f
                case measure => omega
                case rel => exact ⟨l', addA A' a, _, HKK.out⟩
        · clear hW5
          have ha : attD el r' = none := by
            rcases hX with ⟨h, _⟩ | ⟨_, h⟩
            · cases h
            · exact h
          have HDN := Lib.hid (HI.out.done ha HG.out HNG.out)
          have H5 := Lib.hid (HI.out.doc.step h5 (Nat.le_refl _))
          have HB5 := Lib.hid (HI.out.box.of_block (h5.since.block w.heap.size hBlt (show w.heap.size ≠ k.b by omega)))
          have bx5 := HB5.out.cell
          have CS := Lib.hid (space_may H5.out.rd)
          clear CF h5 hX ha HH bx
          go_wp2_with fail
          refine CS.out.mono ?_
          rintro e w7 ⟨⟨z7, rfl⟩, h7⟩
          have H7 := Lib.hid (H5.out.step h7 (by have := may_len r'; omega))
          have HB7 := Lib.hid (HB5.out.of_block (h7.since.block w.heap.size HB5.out.lt (show w.heap.size ≠ k.b by omega)))
          clear CS h7 H5 HB5 bx5
          have hm9 := may_len r'
          cases hs : swB [62] (mayL r') with
          | false =>
            have CT := Lib.hid (take_n [62] H7.out.rd (by decide) hs)
            have HN9 : Hid (attlistL l = none) := Lib.hid (by rw [HN.out, HDN.out.2.1]; unfold endL11; rw [mark_none hs]; rfl)
            have bx7 := HB7.out.cell
            clear hs
            go_wp2_with fail
            refine CT.out.mono ?_
            rintro e w8 ⟨rfl, h8⟩
            have H8 := Lib.hid (H7.out.far h8)
            clear CT h8
            go_wp2
            go_ret
            exact alG_no HN9.out H8.out
          | true =>
            have CT := Lib.hid (take_y [62] H7.out.rd (by decide) hs)
            have HN9 : Hid (attlistL l = some ((attsF el l.length r).1, (mayL r').drop 1)) := Lib.hid (by rw [HN.out, HDN.out.2.1]; unfold endL11; rw [mark_some hs]; rfl)
            have hdl : ((mayL r').drop 1).length ≤ (mayL r').length := by rw [List.length_drop]; omega
            have bx7 := HB7.out.cell
            clear hs
            go_wp2_with fail
            refine CT.out.mono ?_
            rintro e w8 ⟨rfl, h8⟩
            have H8 := Lib.hid (H7.out.step h8 hdl)
            clear CT h8
            go_wp2
            go_ret
            have hlr := HI.out.len
            exact alG_yes HN9.out H8.out HDN.out.1 HDN.out.2.2 (show ((mayL r').drop 1).length < l.length by omega)
end
end Go.Proofs.YtmecigainilocaaGreatDoor
