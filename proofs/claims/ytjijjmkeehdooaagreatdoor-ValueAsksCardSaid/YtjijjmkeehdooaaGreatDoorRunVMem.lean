/-
  THE LANDED PACKAGE value: a strings.Builder that lies in the cells 3 and 4 of a reader's box (FB), and the contracts of copyCheck, WriteString, WriteByte and String at it.
  THE LANDED PACKAGE value: a reader in memory (VM): its box, its texts, its builder, its Refs; and what becomes of that by the calls that it makes.
  THE LANDED PACKAGE value: the contracts of end and begin.
-/
import Derived.Test.YtjijjmkeehdooaaGreatDoorChecked
import Derived.Test.YtjijjmkeehdooaaGreatDoorTurns
import Derived.Test.YtjijjmkeehdooaaGreatDoorShelfB
import Derived.Test.YtjijjmkeehdooaaGreatDoorBytesL
import Derived.Lib.FrozenHead
import Derived.Deep.AppendLies
import Derived.WalkKit
import Derived.WalkSpells
import Derived.WalkLawsBesides
import Derived.WalkMore
import Derived.Lib.Hide
import Derived.BigCall
import Derived.KernelRfl
import Derived.Test.YtjijjmkeehdooaaGreatDoorValDefs
import Derived.Test.YtjijjmkeehdooaaGreatDoorRefsSaid
import Derived.Test.YtjijjmkeehdooaaGreatDoorRunKBase
import Derived.Deep.Slices
import Derived.Deep.RegionHeld3
import Derived.IntWalk
namespace Go.Proofs.YtjijjmkeehdooaaGreatDoor
open Go.RowKit

/-- append(b, s...) onto a row that the call owns: where the new slice lies -/
theorem run_append_str_lies {P : Program} (w : World) (base : Nat) (t u ty e : TypeId) (i : TypeInfo) (ht : P.underlying t = some (.slice e)) (hu : P.underlying u = some .string) (hi : P.info? e = some i) (hz : i.zero = some (.int .u8 0))
    (hsize : i.size = 1) (hby : i.bytes = 1) (v : Value) (n : Nat) (xs : List Value) (hown : w.ownsRow base e 1 v n xs) (s : ByteArray) (h63 : n + s.size ≤ maxLen) (hbytes : n + s.size ≤ 140737488355328) (hbase : base ≤ w.heap.size) :
    ∃ v' w', (Builtin.append_ #[t, u] ty #[v, .string s]).run P w = .ok v' w' ∧ w'.ownsRow base e 1 v' (n + s.size) (xs ++ Lib.strCells s) ∧ w.grownBy w' v.ownBlock ∧ (v'.ownBlock = v.ownBlock ∨ ∀ k, v'.ownBlock = some k → w.heap.size ≤ k) ∧ (v = .slice none 0 0 → s.size = 0 → v' = .slice none 0 0) ∧ ∃ a m c, v' = .slice a m c := by
  obtain ⟨v', w', hr, h2, h3, hnil⟩ := Lib.run_append_own_string (P := P) w base t u ty e i ht hu hi hz hsize hby v n xs hown s h63 hbytes hbase
  have hform : ∃ a m c, v' = .slice a m c := by
    rcases h2.2 with ⟨hv, _⟩ | ⟨g, cap, cur, hv, _⟩
    · exact ⟨_, _, _, hv⟩
    · exact ⟨_, _, _, hv⟩
  refine ⟨v', w', hr, h2, h3, ?_, fun h1 h2 => hnil.2 ⟨h1, h2⟩, hform⟩
  have hxl : xs.length = n := by simpa using hown.1
  rcases hown.2 with ⟨rfl, rfl⟩ | ⟨g, cap, cur, rfl, hbg, hg, hnc, hcm, hcs, htake⟩
  · obtain ⟨v2, w2, hr2, h4, _⟩ := Lib.run_append_own_string (P := P) w w.heap.size t u ty e i ht hu hi hz hsize hby (.slice none 0 0) 0 [] (World.ownsRow_nil w _ e 1) s h63 hbytes (Nat.le_refl _)
    rw [hr] at hr2
    injection hr2 with e1 e2
    subst e1
    exact Or.inr fun k hk => (h4.lt k hk).1
  · by_cases hroom : n + s.size ≤ cap
    · have hcs' : cur.size = cap := by simpa using hcs
      have hr2 := Lib.run_append_room_string (P := P) w t u ty e i ht hu hi hsize g n cap cur hg s hroom (by omega)
      rw [hr] at hr2
      injection hr2 with e1 e2
      subst e1
      exact Or.inl rfl
    · have holds : ∀ j u, xs[j]? = some u → w.cell? ((⟨g, 0, none⟩ : Addr).add j) = some u := hown.cells (g := g) rfl
      have hr2 := Lib.run_append_grow_string (P := P) w t u ty e i (.int .u8 0) ht hu hi hz ⟨g, 0, none⟩ n cap xs (by rw [hsize]; simpa using hxl) holds s (by omega) (by unfold maxLen at h63; omega) (by rw [hby]; exact growslice_fits (by omega) (by omega))
      rw [hr] at hr2
      injection hr2 with e1 e2
      subst e1
      refine Or.inr fun k hk => ?_
      injection hk with hk
      rw [← hk]
      exact Nat.le_refl _
theorem wpList_append_str_lies {P : Program} {w : World} {ops : Array Oper} {rest : List Oper} {o : Oper} {a : Act} {Q : Exit → Act → World → Prop} (hgd : o.guard = none) (sl x : Operand) (t u : TypeId)
    (ho : o.op = .call { callee := .builtin .append, args := #[sl, x], argTypes := #[t, u] })
    (base : Nat) (e : TypeId) (i : TypeInfo) (ht : P.underlying t = some (.slice e)) (hu : P.underlying u = some .string) (hi : P.info? e = some i) (hz : i.zero = some (.int .u8 0))
    (hsize : i.size = 1) (hby : i.bytes = 1) (v : Value) (n : Nat) (xs : List Value) (hs : a.eval sl = v) (hown : w.ownsRow base e 1 v n xs) (s : ByteArray) (hx : a.eval x = .string s)
    (h63 : n + s.size ≤ maxLen) (hbytes : n + s.size ≤ 140737488355328) (hbase : base ≤ w.heap.size)
    (h : ∀ b m c w', w'.ownsRow base e 1 (.slice b m c) (n + s.size) (xs ++ Lib.strCells s) → w.grownBy w' v.ownBlock → ((Value.slice b m c).ownBlock = v.ownBlock ∨ ∀ k, (Value.slice b m c).ownBlock = some k → w.heap.size ≤ k) → (v = .slice none 0 0 → s.size = 0 → Value.slice b m c = .slice none 0 0) → wpList P ops Q rest (a.put o.dst (.slice b m c)) w') : wpList P ops Q (o :: rest) a w := by
  refine wpList_plain hgd fun K hK => ?_
  obtain ⟨v', w', hr, h2, h3, h4, h5, b, m, c, rfl⟩ := run_append_str_lies (P := P) w base t u o.type e i ht hu hi hz hsize hby v n xs hown s h63 hbytes hbase
  unfold Oper.wp execOp
  simp only [ho, resolve, invoke, builtin, Sem.run_bind, Sem.run_pure, Result.andThen_ok, List.map_toArray, List.map_cons, List.map_nil, hs, hx, hr]
  exact hK _ _ (h b m c w' h2 h3 h4 h5)

/-- THE BUILDER IN THE CELLS 3 AND 4 of the box b holds o -/
structure FB (B b : Nat) (f : Nat → Value) (o : List UInt8) (w : World) : Prop where
  box : w.rowIs b 61 5 f
  addr : f 3 = .pointer none ∨ f 3 = .pointer (some ⟨b, 3, none⟩)
  own : w.ownsRow B 5 1 (f 4) o.length (Lib.byteCells o)
  nil : o = [] → f 4 = .slice none 0 0
/-- the box with a builder that has been written -/
def wroteF (b : Nat) (f : Nat → Value) (v : Value) : Nat → Value := fun i => if i = 3 then .pointer (some ⟨b, 3, none⟩) else if i = 4 then v else f i
section
variable {B b : Nat} {f : Nat → Value} {o : List UInt8} {w w' : World}
theorem FB.c3 (h : FB B b f o w) : w.cell? ⟨b, 3, none⟩ = some (f 3) := h.box.cell (i := 3) (by decide)
theorem FB.c4 (h : FB B b f o w) : w.cell? ⟨b, 4, none⟩ = some (f 4) := h.box.cell (i := 4) (by decide)
theorem FB.shape (h : FB B b f o w) : w.shape? b = some (61, 5) := by
  obtain ⟨c, hb, hn, _⟩ := h.box
  simp [World.shape?, hb, hn]
theorem FB.ne (h : FB B b f o w) : (f 4).ownBlock ≠ some b := by
  obtain ⟨c, hb, _⟩ := h.box
  exact Lib.ownBlock_ne h.own hb (by decide)
theorem FB.keep (h : FB B b f o w) (hb : ∀ k, k = b ∨ (f 4).ownBlock = some k → w'.heap[k]? = w.heap[k]?) : FB B b f o w' := by
  refine ⟨h.box.of_block (hb b (Or.inl rfl)), h.addr, ⟨h.own.1, ?_⟩, h.nil⟩
  rcases h.own.2 with h1 | ⟨g, cap, cur, e, h1, h2, h3⟩
  · exact Or.inl h1
  · exact Or.inr ⟨g, cap, cur, e, h1, (hb g (Or.inr (by rw [e]; rfl))).trans h2, h3⟩
theorem ownsRow_keep {B n : Nat} {e : TypeId} {z : Nat} {v : Value} {xs : List Value} (h : w.ownsRow B e z v n xs) (hb : ∀ k, v.ownBlock = some k → w'.heap[k]? = w.heap[k]?) : w'.ownsRow B e z v n xs := by
  refine ⟨h.1, ?_⟩
  rcases h.2 with h1 | ⟨g, cap, cur, e, h1, h2, h3⟩
  · exact Or.inl h1
  · exact Or.inr ⟨g, cap, cur, e, h1, (hb g (by rw [e]; rfl)).trans h2, h3⟩
theorem info_reader : (Tryz.prog.info? 59).map (·.size) = some 2 := by kernel_rfl
theorem lies_builder : liesAt Tryz.prog Tryz.prog.depth 61 (5 / Tryz.prog.cellsOf 61) 3 59 1 = true := by kernel_rfl
theorem info_u8 : ∃ i0, Tryz.prog.info? 5 = some i0 ∧ i0.zero = some (.int .u8 0) ∧ i0.size = 1 ∧ i0.bytes = 1 := by
  obtain ⟨i0, hi, hz⟩ := Option.map_eq_some_iff.1 (show (Tryz.prog.info? 5).map (fun i => (i.zero, i.size, i.bytes)) = some (some (.int .u8 0), 1, 1) by kernel_rfl)
  simp only [Prod.mk.injEq] at hz
  exact ⟨i0, hi, hz.1, hz.2.1, hz.2.2⟩
/-- behind copyCheck -/
structure Checked13 (B b : Nat) (f : Nat → Value) (o : List UInt8) (w w' : World) : Prop where
  box : w'.rowIs b 61 5 (wroteF b f (f 4))
  own : w'.ownsRow B 5 1 (f 4) o.length (Lib.byteCells o)
  nil : o = [] → f 4 = .slice none 0 0
  turns : Turns (fun k => k = b) w w'
  size : w'.heap.size = w.heap.size
set_option maxHeartbeats 1000000 in
set_option maxRecDepth 100000 in
theorem check_v (h : FB B b f o w) : Calls Tryz.prog 49 #[.pointer (some ⟨b, 3, none⟩)] w fun e w' => e = .returned (.tuple #[]) ∧ Checked13 B b f o w w' := by
  obtain ⟨j, hj, hjs⟩ := Option.map_eq_some_iff.1 info_reader
  have c3 := h.c3
  have hsh := h.shape
  have hfz := h.box.frozen 3
  rcases h.addr with h3 | h3
  · rw [h3] at c3
    have H : Hid (Checked13 B b f o w (w.setCell ⟨b, 3, none⟩ (.pointer (some ⟨b, 3, none⟩)))) := Lib.hid ⟨(World.rowIs.set h.box 3 _).congr fun i hi => by
        unfold wroteF
        by_cases e : i = 3
        · rw [if_pos e, if_pos e]
        · rw [if_neg e, if_neg e]
          by_cases e4 : i = 4
          · rw [if_pos e4, e4]
          · rw [if_neg e4], ownsRow_keep h.own (fun k hk => Below.heap_setCell _ _ _ _ (fun e => h.ne (by rw [hk, e]))), h.nil, (Turns.refl (fun k => k = b) w).setCell (p := ⟨b, 3, none⟩) (Or.inl rfl) _, Deep.nblk_setCell _ _ _⟩
    clear h h3
    go_enter Tryz.func49, Tryz.ntmps49
    go_wp2
    rw [Lib.run_to_unsafe w ⟨b, 3, none⟩ Tryz.underlying56 Tryz.underlying118 hj (by rw [hjs]; decide) hsh (show 3 < 5 by decide)]
    simp only [Result.andThen]
    rw [Oper.upon_value]
    go_wp2
    rw [run_callFunc_extern Tryz.func66 (by kernel_rfl) (by kernel_rfl) (by kernel_rfl) (e := Extern.AbiNoEscape.same) (by kernel_rfl)]
    rw [Lib.run_noEscape]
    simp only [Result.andThen]
    rw [Oper.upon_value]
    go_wp2
    rw [Lib.run_from_unsafe w ⟨b, 3, none⟩ Tryz.underlying118 Tryz.underlying56 hj hsh lies_builder]
    simp only [Result.andThen]
    rw [Oper.upon_value]
    go_wp2
    go_end0
    exact ⟨rfl, H.out⟩
  · rw [h3] at c3
    have H : Hid (Checked13 B b f o w w) := Lib.hid ⟨h.box.congr fun i hi => by
        unfold wroteF
        by_cases e : i = 3
        · rw [if_pos e, e, h3]
        · rw [if_neg e]
          by_cases e4 : i = 4
          · rw [if_pos e4, e4]
          · rw [if_neg e4], h.own, h.nil, Turns.refl _ w, rfl⟩
    clear h h3
    go_enter Tryz.func49, Tryz.ntmps49
    go_wp2
    rw [Lib.run_neq_ptr_same w _ Tryz.underlying56 hj]
    go_wp2
    go_end0
    exact ⟨rfl, H.out⟩
/-- what a writing leaves: the builder holds y more; what has turned -/
def PutG (B b : Nat) (f : Nat → Value) (o y : List UInt8) (w w' : World) : Prop :=
  ∃ v, FB B b (wroteF b f v) (o ++ y) w' ∧ Turns (fun k => k = b ∨ (f 4).ownBlock = some k) w w' ∧ (v.ownBlock = (f 4).ownBlock ∨ ∀ k, v.ownBlock = some k → w.heap.size ≤ k)
theorem putG_of (hc : Checked13 B b f o w w') {w2 : World} {v : Value} {y : List UInt8} (hown : w2.ownsRow B 5 1 v (o ++ y).length (Lib.byteCells (o ++ y))) (hgr : w'.grownBy w2 (f 4).ownBlock) (hat : v.ownBlock = (f 4).ownBlock ∨ ∀ k, v.ownBlock = some k → w'.heap.size ≤ k) (hnil : o ++ y = [] → v = .slice none 0 0) :
    w2.rowIs b 61 5 (wroteF b f (f 4)) ∧ PutG B b f o y w (w2.setCell ⟨b, 4, none⟩ v) := by
  have hne : (f 4).ownBlock ≠ some b := by
    obtain ⟨c, hb, _⟩ := hc.box
    exact Lib.ownBlock_ne hc.own hb (by decide)
  have hbox := hc.box.of_block (hgr.block b hc.box.lt (fun e => hne e.symm))
  have hne2 : v.ownBlock ≠ some b := by
    obtain ⟨c, hb, _⟩ := hbox
    exact Lib.ownBlock_ne hown hb (by decide)
  refine ⟨hbox, v, ⟨?_, Or.inr rfl, ?_, hnil⟩, ?_, ?_⟩
  · refine (World.rowIs.set hbox 4 _).congr fun i hi => ?_
    unfold wroteF
    by_cases e4 : i = 4
    · rw [if_pos e4, if_neg (by omega), if_pos e4]
    · rw [if_neg e4]
      by_cases e3 : i = 3
      · rw [if_pos e3, if_pos e3]
      · rw [if_neg e3, if_neg e3, if_neg e4, if_neg e4]
  · exact ownsRow_keep hown fun k hk => Below.heap_setCell _ _ _ _ (fun e => hne2 (by rw [show v.ownBlock = some k from hk, e]))
  · have h1 : Turns (fun k => k = b ∨ (f 4).ownBlock = some k) w w' := ⟨hc.turns.os, hc.turns.tape, hc.turns.output, hc.turns.size, fun k hk hn => hc.turns.block k hk fun e => hn (Or.inl e)⟩
    exact (h1.grown hgr fun k hk => Or.inl (Or.inr hk)).setCell (p := ⟨b, 4, none⟩) (Or.inl (Or.inl rfl)) _
  · rw [hc.size] at hat
    exact hat
set_option maxHeartbeats 2000000 in
set_option maxRecDepth 100000 in
theorem wstr_v (h : FB B b f o w) (s : ByteArray) (hl : o.length + s.size ≤ 140737488355328) (hB : B ≤ w.heap.size) :
    Calls Tryz.prog 27 #[.pointer (some ⟨b, 3, none⟩), .string s] w fun e w' => e = .returned (.tuple #[.int .i64 s.size, .nilIface]) ∧ PutG B b f o s.data.toList w w' := by
  obtain ⟨i0, hi, hz0, hz1, hz2⟩ := info_u8
  have HC := Lib.hid (check_v h)
  clear h
  go_enter Tryz.func27, Tryz.ntmps27
  go_wp2_with fail
  refine HC.out.mono ?_
  rintro e w1 ⟨rfl, hc⟩
  have c4 : w1.cell? ⟨b, 4, none⟩ = some (f 4) := hc.box.cell (i := 4) (by decide)
  have HSZ := Lib.hid hc.size
  have HBZ : B ≤ w1.heap.size := by rw [HSZ.out]; exact hB
  have HK := Lib.hid hc
  have HO := Lib.hid hc.own
  clear hc HC
  obtain ⟨v4, hf4⟩ : ∃ v4, f 4 = v4 := ⟨_, rfl⟩
  rw [hf4] at c4 HO
  have HF := Lib.hid hf4
  clear hf4
  go_wp2_with (at_builtin; refine wpList_append_str_lies rfl _ _ 57 9 rfl B 5 i0 Tryz.underlying57 Tryz.underlying9 hi hz0 hz1 hz2 _ _ _ rfl HO.out s rfl ?c3 ?c4 ?c5 ?_)
  case c3 => unfold maxLen; omega
  case c4 => omega
  case c5 => exact HBZ
  intro a m c w2 hown hgr hat hnil
  have hlen : (o ++ s.data.toList).length = o.length + s.size := by
    rw [List.length_append, Array.length_toList]; rfl
  have hp := putG_of HK.out (w2 := w2) (v := .slice a m c) (y := s.data.toList) (by rw [hlen, Lib.byteCells_append, ← Lib.strCells_eq]; exact hown) (by rw [HF.out]; exact hgr) (by rw [HF.out]; exact hat) (fun he => by
    obtain ⟨h1, h2⟩ := List.append_eq_nil_iff.1 he
    have hn := hnil (by rw [← HF.out]; exact HK.out.nil h1) (by have h3 := congrArg List.length h2; rw [Array.length_toList] at h3; exact ByteArray.ext (Array.eq_empty_of_size_eq_zero (show s.data.size = 0 from h3)))
    obtain ⟨rfl, rfl, rfl⟩ := hn
    rfl)
  have d3 : w2.cell? ⟨b, 3, none⟩ = some (.pointer (some ⟨b, 3, none⟩)) := hp.1.cell (i := 3) (by decide)
  have f4 := hp.1.frozen 4
  have d4 : w2.cell? ⟨b, 4, none⟩ = some v4 := by
    have := hp.1.cell (i := 4) (by decide)
    rw [this]
    show some (f 4) = _
    rw [HF.out]
  have HP := Lib.hid hp.2
  clear hp hown hgr hat hlen hnil
  go_wp2
  go_ret2
  exact ⟨rfl, HP.out⟩
set_option maxHeartbeats 2000000 in
set_option maxRecDepth 100000 in
theorem wbyte_v (h : FB B b f o w) (x : UInt8) (hl : o.length + 1 ≤ 140737488355328) (hB : B ≤ w.heap.size) :
    Calls Tryz.prog 55 #[.pointer (some ⟨b, 3, none⟩), .int .u8 (x.toNat : Int)] w fun e w' => e = .returned .nilIface ∧ PutG B b f o [x] w w' := by
  obtain ⟨i0, hi, hz0, hz1, hz2⟩ := info_u8
  have HC := Lib.hid (check_v h)
  clear h
  go_enter Tryz.func55, Tryz.ntmps55
  go_wp2_with fail
  refine HC.out.mono ?_
  rintro e w1 ⟨rfl, hc⟩
  have c4 : w1.cell? ⟨b, 4, none⟩ = some (f 4) := hc.box.cell (i := 4) (by decide)
  have HSZ := Lib.hid hc.size
  have HBZ : B ≤ w1.heap.size := by rw [HSZ.out]; exact hB
  have HK := Lib.hid hc
  have HO := Lib.hid hc.own
  clear hc HC
  obtain ⟨v4, hf4⟩ : ∃ v4, f 4 = v4 := ⟨_, rfl⟩
  rw [hf4] at c4 HO
  have HF := Lib.hid hf4
  clear hf4
  have HNW : Hid (∀ j u, [Value.int .u8 (x.toNat : Int)][j]? = some u → (w1.alloc (.cells #[.int .u8 (x.toNat : Int)] 5)).cell? ((⟨w1.heap.size, 0, none⟩ : Addr).add j) = some u) := Lib.hid (cell_one_new w1 (.int .u8 (x.toNat : Int)) 5)
  have HPUT : Hid (∀ g cap w2, w2.ownsRow B 5 1 (.slice (some ⟨g, 0, none⟩) (o.length + 1) cap) (o.length + 1) (Lib.byteCells o ++ [Value.int .u8 (x.toNat : Int)]) → (w1.alloc (.cells #[.int .u8 (x.toNat : Int)] 5)).grownBy w2 v4.ownBlock → (v4.ownBlock = some g ∨ g = (w1.alloc (.cells #[.int .u8 (x.toNat : Int)] 5)).heap.size) →
      w2.rowIs b 61 5 (wroteF b f (f 4)) ∧ PutG B b f o [x] w (w2.setCell ⟨b, 4, none⟩ (.slice (some ⟨g, 0, none⟩) (o.length + 1) cap))) := Lib.hid (by
    intro g cap w2 hown hgr hat
    have hlen : (o ++ [x]).length = o.length + 1 := by rw [List.length_append]; rfl
    have hgr2 : w1.grownBy w2 v4.ownBlock := ⟨hgr.os, hgr.tape, hgr.output, by have := hgr.size; rw [Deep.nblk_alloc] at this; omega, fun k hk hn => (hgr.block k (by rw [Deep.nblk_alloc]; omega) hn).trans (Lib.alloc_old w1 _ k hk)⟩
    refine putG_of HK.out (w2 := w2) (v := .slice (some ⟨g, 0, none⟩) (o.length + 1) cap) (y := [x]) (by rw [hlen, Lib.byteCells_append]; exact hown) (by rw [HF.out]; exact hgr2) ?_ (fun he => by simp at he)
    rw [HF.out]
    rcases hat with h | h
    · exact Or.inl h.symm
    · refine Or.inr fun k hk => ?_
      injection hk with hk
      have hk' : g = k := hk
      rw [Deep.nblk_alloc] at h
      omega)
  have HV4 : Hid (∀ w2 : World, w2.rowIs b 61 5 (wroteF b f (f 4)) → w2.cell? ⟨b, 4, none⟩ = some v4) := Lib.hid (by
    intro w2 h
    rw [h.cell (i := 4) (by decide)]
    show some (f 4) = _
    rw [HF.out])
  go_wp2_with (at_builtin; refine wpList_append_lies _ rfl _ _ 57 rfl B 5 i0 (.int .u8 0) 1 1 Tryz.underlying57 hi hz0 hz1 hz2 rfl (by decide) _ _ _ rfl (HO.out.alloc _) ⟨w1.heap.size, 0, none⟩ 1 1 [.int .u8 (x.toNat : Int)] rfl rfl HNW.out (by intro u hu; simp at hu; subst hu; rfl) (by decide) (by unfold maxLen; omega) (by omega) (by rw [Deep.nblk_alloc]; omega) _ rfl ?_; intro g cap w2 hown hgr hat hlt; have hp := HPUT.out g cap w2 hown hgr hat; have d3 : w2.cell? ⟨b, 3, none⟩ = some (.pointer (some ⟨b, 3, none⟩)) := hp.1.cell (i := 3) (by decide); have f4 := hp.1.frozen 4; have d4 : w2.cell? ⟨b, 4, none⟩ = some v4 := HV4.out w2 hp.1; have HP := Lib.hid hp.2; clear hp hown hgr hat hlt)
  go_wp2
  go_ret
  exact ⟨rfl, HP.out⟩
set_option maxHeartbeats 2000000 in
set_option maxRecDepth 100000 in
theorem bstr_v (h : FB B b f o w) : Calls Tryz.prog 28 #[.pointer (some ⟨b, 3, none⟩)] w fun e w' => e = .returned (.string (bytes o)) ∧ Turns (fun k => (f 4).ownBlock = some k) w w' := by
  have c4 := h.c4
  by_cases ho : o = []
  · subst ho
    rw [h.nil rfl] at c4
    have HT : Hid (Turns (fun k => (f 4).ownBlock = some k) w w.drew) := Lib.hid (Turns.refl _ w).drew
    have d4 : w.drew.cell? ⟨b, 4, none⟩ = some (.slice none 0 0) := c4
    have hSD : ∀ W, (Builtin.unsafeSliceData_ #[57] 102 #[.slice none 0 0]).run Tryz.prog W = .ok (.pointer none) W := fun _ => rfl
    have hUS : ∀ W, (Builtin.unsafeString_ #[102, 3] 9 #[.pointer none, .int .i64 0]).run Tryz.prog W = .ok (.string .empty) W := fun W => Lib.run_unsafeString_none W _ _ _ none
    clear h
    go_enter Tryz.func28, Tryz.ntmps28
    go_wp2
    go_region
    all_goals (go_wp2; go_ret; exact ⟨rfl, HT.out⟩)
  · have hl0 : o.length ≠ 0 := by simpa using ho
    have hown := h.own
    obtain ⟨g, cap, cur, hv, hbg, hg, hnc, hcm, hcs, htake⟩ : ∃ g cap cur, f 4 = .slice (some ⟨g, 0, none⟩) o.length cap ∧ B ≤ g ∧ w.heap[g]? = some (.cells cur 5 (0, 0)) ∧ o.length ≤ cap ∧ cap ≤ maxLen ∧ cur.size = cap * 1 ∧ cur.toList.take (o.length * 1) = Lib.byteCells o := by
      rcases hown.2 with ⟨_, hz⟩ | ⟨g, cap, cur, hv, r⟩
      · exact absurd hz hl0
      · exact ⟨g, cap, cur, hv, r⟩
    rw [hv] at c4 hown
    have d4 : w.drew.cell? ⟨b, 4, none⟩ = some (.slice (some ⟨g, 0, none⟩) o.length cap) := c4
    have hSD : ∀ W, (Builtin.unsafeSliceData_ #[57] 102 #[.slice (some ⟨g, 0, none⟩) o.length cap]).run Tryz.prog W = .ok (.pointer (some ⟨g, 0, none⟩)) W :=
      fun W => Lib.run_unsafeSliceData_row _ _ _ _ _ _ (by omega)
    have hUS : (Builtin.unsafeString_ #[102, 3] 9 #[.pointer (some ⟨g, 0, none⟩), .int .i64 o.length]).run Tryz.prog w.drew = .ok (.string ⟨o.toArray⟩) (w.drew.freeze ⟨g, 0, none⟩ o.length) := by
      refine Lib.run_unsafeString_row w.drew 102 3 9 5 Tryz.underlying102 (by kernel_rfl) g cur.size (by have hg' : w.drew.heap[g]? = some (.cells cur 5 (0, 0)) := hg; simp [World.shape?, hg']) o ho (by omega) (by unfold maxLen at hcm; omega) ?_
      intro j x hx
      exact hown.cells (g := g) rfl j (.int .u8 x.toNat) (by simp [Lib.byteCells, hx])
    have HT : Hid (Turns (fun k => (f 4).ownBlock = some k) w (w.drew.freeze ⟨g, 0, none⟩ o.length)) := Lib.hid (by
      rw [hv]
      unfold World.freeze
      split
      · exact (Turns.refl _ w).drew
      · refine ⟨rfl, rfl, rfl, by simp, fun k hk hn => ?_⟩
        simp only [Array.getElem?_modify]
        split
        · rename_i e
          exact absurd (show (Value.slice (some ⟨g, 0, none⟩) o.length cap).ownBlock = some k by rw [← e]; rfl) hn
        · rfl)
    clear h hown hv hg hbg hnc hcs htake
    go_enter Tryz.func28, Tryz.ntmps28
    go_wp2
    go_region
    all_goals (go_wp2; go_ret; exact ⟨rfl, HT.out⟩)
end
end Go.Proofs.YtjijjmkeehdooaaGreatDoor

namespace Go.Proofs.YtjijjmkeehdooaaGreatDoor
open Go.RowKit

/-- where a value is read: the tables lie below n; the reader's box is b; w0: the world at the beginning; F0: the blocks of the Refs vr then -/
structure VC where
  n : Nat
  b : Nat
  w0 : World
  F0 : Nat → Prop
  vr : Value
  most : Int
def flatV (l : List (List UInt8 × List UInt8)) : List Value := l.flatMap fun p => [.string (bytes p.1), .string (bytes p.2)]
theorem flatV_app (a b : List (List UInt8 × List UInt8)) : flatV (a ++ b) = flatV a ++ flatV b := List.flatMap_append
theorem flatV_len : ∀ l, (flatV l).length = l.length * 2
  | [] => rfl
  | p :: t => by
    have := flatV_len t
    show (flatV t).length + 2 = _
    rw [this, List.length_cons]; omega
theorem flatV_rev (x s : List UInt8) (t : List (List UInt8 × List UInt8)) : flatV ((x, s) :: t).reverse = flatV t.reverse ++ [.string (bytes x), .string (bytes s)] := by
  rw [List.reverse_cons, flatV_app]; rfl
/-- A READER IN MEMORY: l: the texts that are begun (the innermost ahead), o: what is written, r: how references stand -/
structure VM (Is : (Nat → Prop) → World → Value → RefD → Prop) (c : VC) (F : Nat → Prop) (f : Nat → Value) (l : List (List UInt8 × List UInt8)) (o : List UInt8) (r : RefD) (w : World) : Prop where
  e : KE c.n w
  fb : FB c.w0.heap.size c.b f o w
  f0 : f 0 = c.vr
  f1 : f 1 = .int .i64 c.most
  tx : w.ownsRow c.w0.heap.size 87 2 (f 2) l.length (flatV l.reverse)
  is : Is F w c.vr r
  inn : ∀ k, F k → c.F0 k ∨ c.w0.heap.size ≤ k
  apart : ∀ k, F k → k ≠ c.b ∧ (f 2).ownBlock ≠ some k ∧ (f 4).ownBlock ≠ some k
  since : Turns c.F0 c.w0 w
  lo : c.w0.heap.size ≤ c.b
  nlo : c.n ≤ c.w0.heap.size
  flo : ∀ k, c.F0 k → c.n ≤ k
theorem own_types {w : World} {B C m n : Nat} {e e' : TypeId} {z z' : Nat} {v v' : Value} {xs ys : List Value} (h : w.ownsRow B e z v m xs) (h' : w.ownsRow C e' z' v' n ys) (he : e ≠ e') {k : Nat} (hk : v.ownBlock = some k) : v'.ownBlock ≠ some k := by
  intro hk'
  rcases h.2 with ⟨rfl, _⟩ | ⟨g, cap, cur, rfl, _, hg, _⟩
  · cases hk
  · rcases h'.2 with ⟨rfl, _⟩ | ⟨g', cap', cur', rfl, _, hg', _⟩
    · cases hk'
    · injection hk with hk
      injection hk' with hk'
      have e1 : g = k := hk
      have e2 : g' = k := hk'
      rw [e1] at hg
      rw [e2, hg] at hg'
      injection hg' with hg'
      injection hg' with _ h2 _
      exact he h2
theorem own_box {w : World} {B n z b m : Nat} {e T : TypeId} {v : Value} {xs : List Value} {g : Nat → Value} (h : w.ownsRow B e z v n xs) (hb : w.rowIs b T m g) (he : T ≠ e) : v.ownBlock ≠ some b := by
  intro hk
  obtain ⟨c, hc, _⟩ := hb
  rcases h.2 with ⟨rfl, _⟩ | ⟨g, cap, cur, rfl, _, hg, _⟩
  · cases hk
  · injection hk with hk
    have e1 : g = b := hk
    rw [e1, hc] at hg
    injection hg with hg
    injection hg with _ h2 _
    exact he h2
section
variable {Is : (Nat → Prop) → World → Value → RefD → Prop} {c : VC} {F : Nat → Prop} {f : Nat → Value} {l : List (List UInt8 × List UInt8)} {o : List UInt8} {r : RefD} {w w' : World}
theorem VM.txb (h : VM Is c F f l o r w) : (f 2).ownBlock ≠ some c.b := own_box h.tx h.fb.box (by decide)
theorem VM.tx4 (h : VM Is c F f l o r w) {k : Nat} (hk : (f 2).ownBlock = some k) : (f 4).ownBlock ≠ some k := own_types h.tx h.fb.own (by decide) hk
theorem VM.size (h : VM Is c F f l o r w) : c.w0.heap.size ≤ w.heap.size := h.since.size
theorem VM.n_le (h : VM Is c F f l o r w) : c.n ≤ w.heap.size := Nat.le_trans h.nlo h.size
theorem VM.blt (h : VM Is c F f l o r w) : c.b < w.heap.size := h.fb.box.lt
theorem VM.c0 (h : VM Is c F f l o r w) : w.cell? ⟨c.b, 0, none⟩ = some c.vr := by rw [← h.f0]; exact h.fb.box.cell (i := 0) (by decide)
theorem VM.c1 (h : VM Is c F f l o r w) : w.cell? ⟨c.b, 1, none⟩ = some (.int .i64 c.most) := by rw [← h.f1]; exact h.fb.box.cell (i := 1) (by decide)
theorem VM.c2 (h : VM Is c F f l o r w) : w.cell? ⟨c.b, 2, none⟩ = some (f 2) := h.fb.box.cell (i := 2) (by decide)
/-- something else was made -/
theorem VM.other (S : RefsSaid Is) (h : VM Is c F f l o r w) (hb : Below w.heap.size w w') : VM Is c F f l o r w' := by
  refine ⟨h.e.stay (hb.mono h.n_le), h.fb.keep fun k hk => hb.block k ?_, h.f0, h.f1, ownsRow_keep h.tx fun k hk => hb.block k (h.tx.lt k hk).2, S.keep F w w' _ _ h.is hb.size fun k hk => hb.block k (S.inn F w _ _ h.is k hk), h.inn, h.apart, h.since.other hb, h.lo, h.nlo, h.flo⟩
  rcases hk with rfl | hk
  · exact h.blt
  · exact (h.fb.own.lt k hk).2
/-- something was written -/
theorem VM.put (S : RefsSaid Is) (h : VM Is c F f l o r w) {y : List UInt8} (hp : PutG c.w0.heap.size c.b f o y w w') : ∃ f', VM Is c F f' l (o ++ y) r w' ∧ f' 2 = f 2 ∧ ∀ k, (f 2).ownBlock = some k → w'.heap[k]? = w.heap[k]? := by
  obtain ⟨v, hfb, ht, hv⟩ := hp
  have hkeep : ∀ k, k < w.heap.size → k ≠ c.b → (f 4).ownBlock ≠ some k → w'.heap[k]? = w.heap[k]? := fun k hk h1 h2 => ht.block k hk (fun e => e.elim h1 h2)
  have htx : ∀ k, (f 2).ownBlock = some k → w'.heap[k]? = w.heap[k]? := fun k hk => hkeep k (h.tx.lt k hk).2 (fun e => h.txb (by rw [hk, e])) (h.tx4 hk)
  have hB : Below c.n w w' := ht.below h.n_le fun k hk => by
    rcases hk with rfl | hk
    · exact Nat.le_trans h.nlo h.lo
    · exact Nat.le_trans h.nlo (h.fb.own.lt k hk).1
  refine ⟨wroteF c.b f v, ⟨h.e.stay hB, hfb, h.f0, h.f1, ownsRow_keep h.tx htx, S.keep F w w' _ _ h.is ht.size fun k hk => ?_, h.inn, fun k hk => ?_, ?_, h.lo, h.nlo, h.flo⟩, rfl, htx⟩
  · obtain ⟨a1, _, a3⟩ := h.apart k hk
    exact hkeep k (S.inn F w _ _ h.is k hk) a1 a3
  · obtain ⟨a1, a2, a3⟩ := h.apart k hk
    refine ⟨a1, a2, ?_⟩
    show v.ownBlock ≠ some k
    rcases hv with hv | hv
    · rw [hv]; exact a3
    · intro e
      have h1 := hv k e
      have h2 := S.inn F w _ _ h.is k hk
      omega
  · refine h.since.next ht fun i hi => Or.inr ?_
    rcases hi with rfl | hi
    · exact h.lo
    · exact (h.fb.own.lt i hi).1
/-- the Refs turned -/
theorem VM.refs (h : VM Is c F f l o r w) {r' : RefD} {a : Value} {e : Ending} (hg : GaveR Is F c.vr r' a w e w') : e = .returned a ∧ ∃ F', VM Is c F' f l o r' w' := by
  obtain ⟨rfl, F', hi, hs, ht⟩ := hg
  have hkb : w'.heap[c.b]? = w.heap[c.b]? := ht.block _ h.blt fun hk => (h.apart _ hk).1 rfl
  refine ⟨rfl, F', ⟨h.e.stay (ht.below h.n_le fun k hk => ?_), h.fb.keep fun k hk => ?_, h.f0, h.f1, ownsRow_keep h.tx fun k hk => ht.block k (h.tx.lt k hk).2 fun hF => (h.apart k hF).2.1 hk, hi, fun k hk => ?_, fun k hk => ?_, h.since.next ht fun i hi => h.inn i hi, h.lo, h.nlo, h.flo⟩⟩
  · rcases h.inn k hk with h1 | h1
    · exact h.flo k h1
    · exact Nat.le_trans h.nlo h1
  · rcases hk with rfl | hk
    · exact hkb
    · exact ht.block k (h.fb.own.lt k hk).2 fun hF => (h.apart k hF).2.2 hk
  · rcases hs k hk with h1 | h1
    · exact h.inn k h1
    · exact Or.inr (Nat.le_trans h.size h1.1)
  · rcases hs k hk with h1 | h1
    · exact h.apart k h1
    · exact ⟨fun e => by have := h.blt; omega, fun e => by have := (h.tx.lt k e).2; omega, fun e => by have := (h.fb.own.lt k e).2; omega⟩
/-- the row of texts, and the innermost one in it -/
theorem VM.inner {x s : List UInt8} {t : List (List UInt8 × List UInt8)} (h : VM Is c F f ((x, s) :: t) o r w) :
    ∃ p cap, f 2 = .slice (some ⟨p, 0, none⟩) (t.length + 1) cap ∧ t.length + 1 ≤ cap ∧ w.cell? ⟨p, t.length * 2, none⟩ = some (.string (bytes x)) ∧ w.cell? ⟨p, t.length * 2 + 1, none⟩ = some (.string (bytes s)) ∧ w.frozen? ⟨p, t.length * 2 + 1, none⟩ = false ∧ p < w.heap.size ∧ c.w0.heap.size ≤ p ∧ p ≠ c.b := by
  have htx := h.tx
  have hb := h.txb
  rcases htx.2 with ⟨_, h0⟩ | ⟨g, cap, cur, e, hlo, hg, hc, _⟩
  · cases h0
  · rw [e] at htx hb
    have hl : (flatV t.reverse).length = t.length * 2 := by rw [flatV_len, List.length_reverse]
    refine ⟨g, cap, e, hc, ?_, ?_, htx.frozenAt _, (Array.getElem?_eq_some_iff.1 hg).1, hlo, fun e => hb (by rw [e]; rfl)⟩
    · rw [htx.cellAt _ (by rw [List.length_cons]; omega), flatV_rev, List.getElem?_append_right (by omega), hl, Nat.sub_self]; rfl
    · rw [htx.cellAt _ (by rw [List.length_cons]; omega), flatV_rev, List.getElem?_append_right (by omega), hl, show t.length * 2 + 1 - t.length * 2 = 1 by omega]; rfl
/-- the innermost text is read on -/
theorem VM.rest (S : RefsSaid Is) {x s q : List UInt8} {t : List (List UInt8 × List UInt8)} (h : VM Is c F f ((x, s) :: t) o r w) {p cap : Nat} (hp : f 2 = .slice (some ⟨p, 0, none⟩) (t.length + 1) cap) :
    VM Is c F f ((x, q) :: t) o r (w.setCell ⟨p, t.length * 2 + 1, none⟩ (.string (bytes q))) := by
  have htx := h.tx
  have hb := h.txb
  have hlt := h.tx.lt p (by rw [hp]; rfl)
  have h4 := h.tx4 (k := p) (by rw [hp]; rfl)
  have hk : ∀ k, k ≠ p → (w.setCell ⟨p, t.length * 2 + 1, none⟩ (.string (bytes q))).heap[k]? = w.heap[k]? := fun k hk => Below.heap_setCell _ _ _ _ hk
  have hpb : p ≠ c.b := fun e => hb (by rw [hp, e]; rfl)
  have hT : Turns (fun k => k = p) w (w.setCell ⟨p, t.length * 2 + 1, none⟩ (.string (bytes q))) := (Turns.refl (fun k => k = p) w).setCell (p := ⟨p, t.length * 2 + 1, none⟩) (Or.inl rfl) _
  refine ⟨h.e.stay (hT.below h.n_le fun k hk => by rw [hk]; exact Nat.le_trans h.nlo hlt.1), h.fb.keep fun k hk2 => hk k ?_, h.f0, h.f1, ?_, S.keep F w _ _ _ h.is hT.size fun k hF => hk k ?_, h.inn, h.apart, h.since.next hT fun i hi => Or.inr (by rw [hi]; exact hlt.1), h.lo, h.nlo, h.flo⟩
  · rcases hk2 with rfl | hk2
    · exact hpb.symm
    · exact fun e => h4 (by rw [← e]; exact hk2)
  · rw [hp] at htx ⊢
    have h2 := (htx.stored (t.length * 2 + 1) (.string (bytes q))).1
    have hl : (flatV t.reverse).length = t.length * 2 := by rw [flatV_len, List.length_reverse]
    rw [flatV_rev, List.set_append_right _ _ (by omega), hl, show t.length * 2 + 1 - t.length * 2 = 1 by omega] at h2
    rw [flatV_rev]
    exact h2
  · exact fun e => (h.apart k hF).2.1 (by rw [hp, e]; rfl)
/-- the innermost text goes -/
theorem VM.pop (S : RefsSaid Is) {x s : List UInt8} {t : List (List UInt8 × List UInt8)} (h : VM Is c F f ((x, s) :: t) o r w) {p cap : Nat} (hp : f 2 = .slice (some ⟨p, 0, none⟩) (t.length + 1) cap) :
    VM Is c F (fun i => if i = 2 then .slice (some ⟨p, 0, none⟩) t.length cap else f i) t o r (w.setCell ⟨c.b, 2, none⟩ (.slice (some ⟨p, 0, none⟩) t.length cap)) := by
  have htx := h.tx
  have hb := h.txb
  have h4 := h.fb.ne
  have hk : ∀ k, k ≠ c.b → (w.setCell ⟨c.b, 2, none⟩ (.slice (some ⟨p, 0, none⟩) t.length cap)).heap[k]? = w.heap[k]? := fun k hk => Below.heap_setCell _ _ _ _ hk
  have hT : Turns (fun k => k = c.b) w (w.setCell ⟨c.b, 2, none⟩ (.slice (some ⟨p, 0, none⟩) t.length cap)) := (Turns.refl (fun k => k = c.b) w).setCell (p := ⟨c.b, 2, none⟩) (Or.inl rfl) _
  refine ⟨h.e.stay (hT.below h.n_le fun k hk => by rw [hk]; exact Nat.le_trans h.nlo h.lo), ⟨World.rowIs.set h.fb.box 2 _, h.fb.addr, ownsRow_keep h.fb.own fun k hk2 => hk k fun e => h4 (by rw [← e]; exact hk2), h.fb.nil⟩, h.f0, h.f1, ?_, S.keep F w _ _ _ h.is hT.size fun k hF => hk k (h.apart k hF).1, h.inn, fun k hF => ?_, h.since.next hT fun i hi => Or.inr (by rw [hi]; exact h.lo), h.lo, h.nlo, h.flo⟩
  · have h2 := ownsRow_keep htx (w' := w.setCell ⟨c.b, 2, none⟩ (.slice (some ⟨p, 0, none⟩) t.length cap)) fun k hk2 => hk k fun e => hb (by rw [← e]; exact hk2)
    rw [hp, flatV_rev] at h2
    have hl : (flatV t.reverse).length = t.length * 2 := by rw [flatV_len, List.length_reverse]
    refine ⟨hl, ?_⟩
    rcases h2.2 with ⟨h3, _⟩ | ⟨g', cap', cur, e, a1, a2, a3, a4, a5, a6⟩
    · cases h3
    · injection e with e1 e2 e3
      subst e3
      refine Or.inr ⟨g', cap, cur, by rw [if_pos rfl, e1], a1, a2, ?_, a4, a5, ?_⟩
      · rw [List.length_cons] at a3; omega
      · have a7 := congrArg (List.take (t.length * 2)) a6
        rw [List.take_take, List.length_cons, show min (t.length * 2) ((t.length + 1) * 2) = t.length * 2 by omega] at a7
        rw [a7, List.take_left' hl]
  · obtain ⟨a1, a2, a3⟩ := h.apart k hF
    refine ⟨a1, ?_, a3⟩
    rw [hp] at a2
    exact a2
/-- a text more -/
theorem VM.push0 (S : RefsSaid Is) (h : VM Is c F f l o r w) {x s : List UInt8} {g cap : Nat} {w2 : World} (hown : w2.ownsRow c.w0.heap.size 87 2 (.slice (some ⟨g, 0, none⟩) (l.length + 1) cap) (l.length + 1) (flatV l.reverse ++ [.string (bytes x), .string (bytes s)]))
    (hgr : w.grownBy w2 (f 2).ownBlock) (hat : (f 2).ownBlock = some g ∨ w.heap.size ≤ g) :
    w2.rowIs c.b 61 5 f ∧ VM Is c F (fun i => if i = 2 then .slice (some ⟨g, 0, none⟩) (l.length + 1) cap else f i) ((x, s) :: l) o r (w2.setCell ⟨c.b, 2, none⟩ (.slice (some ⟨g, 0, none⟩) (l.length + 1) cap)) := by
  have hkeep : ∀ k, k < w.heap.size → (f 2).ownBlock ≠ some k → w2.heap[k]? = w.heap[k]? := fun k hk hn => hgr.block k hk (fun e => hn e.symm)
  have hbox := h.fb.box.of_block (hkeep c.b h.blt h.txb)
  have h4 : ∀ k, (f 4).ownBlock = some k → w2.heap[k]? = w.heap[k]? := fun k hk => hkeep k (h.fb.own.lt k hk).2 (own_types h.fb.own h.tx (by decide) hk)
  have hown4 := ownsRow_keep h.fb.own h4
  have hgb : g ≠ c.b := fun e => own_box hown hbox (by decide) (by rw [e]; rfl)
  have hsz : w.heap.size ≤ w2.heap.size := hgr.size
  have hT1 : Turns (fun k => (f 2).ownBlock = some k) w w2 := ⟨hgr.os, hgr.tape, hgr.output, hsz, fun k hk hn => hkeep k hk hn⟩
  have hT : Turns (fun k => (f 2).ownBlock = some k ∨ k = c.b) w (w2.setCell ⟨c.b, 2, none⟩ (.slice (some ⟨g, 0, none⟩) (l.length + 1) cap)) :=
    (⟨hT1.os, hT1.tape, hT1.output, hT1.size, fun k hk hn => hT1.block k hk fun e => hn (Or.inl e)⟩ : Turns (fun k => (f 2).ownBlock = some k ∨ k = c.b) w w2).setCell (p := ⟨c.b, 2, none⟩) (Or.inl (Or.inr rfl)) _
  have hk2 : ∀ k, k ≠ c.b → (w2.setCell ⟨c.b, 2, none⟩ (.slice (some ⟨g, 0, none⟩) (l.length + 1) cap)).heap[k]? = w2.heap[k]? := fun k hk => Below.heap_setCell _ _ _ _ hk
  refine ⟨hbox, ⟨h.e.stay (hT.below h.n_le fun k hk => ?_), ⟨World.rowIs.set hbox 2 _, h.fb.addr, ownsRow_keep hown4 fun k hk => hk2 k fun e => h.fb.ne (by rw [← e]; exact hk), h.fb.nil⟩, h.f0, h.f1, ?_, S.keep F w _ _ _ h.is hT.size fun k hF => (hk2 k (h.apart k hF).1).trans (hkeep k (S.inn F w _ _ h.is k hF) (h.apart k hF).2.1), h.inn, fun k hF => ?_, h.since.next hT fun i hi => Or.inr ?_, h.lo, h.nlo, h.flo⟩⟩
  · rcases hk with hk | rfl
    · exact Nat.le_trans h.nlo (h.tx.lt k hk).1
    · exact Nat.le_trans h.nlo h.lo
  · rw [flatV_rev]
    exact ownsRow_keep hown fun k hk => hk2 k fun e => hgb (by injection hk with hk; rw [← e]; exact hk)
  · obtain ⟨a1, a2, a3⟩ := h.apart k hF
    refine ⟨a1, ?_, a3⟩
    show some g ≠ some k
    intro e
    injection e with e
    subst e
    rcases hat with h1 | h1
    · exact a2 h1
    · have := S.inn F w _ _ h.is _ hF
      omega
  · rcases hi with hi | rfl
    · exact (h.tx.lt i hi).1
    · exact h.lo
theorem VM.push (S : RefsSaid Is) (h : VM Is c F f l o r w) {x s : List UInt8} {O : Obj} {g cap : Nat} {w2 : World} (hown : w2.ownsRow c.w0.heap.size 87 2 (.slice (some ⟨g, 0, none⟩) (l.length + 1) cap) (l.length + 1) (flatV l.reverse ++ [.string (bytes x), .string (bytes s)]))
    (hgr : (w.alloc O).grownBy w2 (f 2).ownBlock) (hat : (f 2).ownBlock = some g ∨ g = (w.alloc O).heap.size) :
    w2.rowIs c.b 61 5 f ∧ VM Is c F (fun i => if i = 2 then .slice (some ⟨g, 0, none⟩) (l.length + 1) cap else f i) ((x, s) :: l) o r (w2.setCell ⟨c.b, 2, none⟩ (.slice (some ⟨g, 0, none⟩) (l.length + 1) cap)) :=
  h.push0 S hown ⟨hgr.os, hgr.tape, hgr.output, by have := hgr.size; rw [Deep.nblk_alloc] at this; omega, fun k hk hn => (hgr.block k (by rw [Deep.nblk_alloc]; omega) hn).trans (Lib.alloc_old w _ k hk)⟩ (hat.imp id fun h1 => by rw [Deep.nblk_alloc] at h1; omega)
end
end Go.Proofs.YtjijjmkeehdooaaGreatDoor

namespace Go.Proofs.YtjijjmkeehdooaaGreatDoor
open Go.RowKit
section
variable {Is : (Nat → Prop) → World → Value → RefD → Prop} {c : VC} {F : Nat → Prop} {f : Nat → Value} {l t : List (List UInt8 × List UInt8)} {o x s : List UInt8} {r : RefD} {w w' : World}

theorem VM.drew (S : RefsSaid Is) (h : VM Is c F f l o r w) : VM Is c F f l o r w.drew := h.other S (Below.refl _ _).drew
theorem empty_b : (bytes []).toList.isEmpty = true := by rw [bytesL_toList]; rfl
theorem empty_no {x : List UInt8} (h : x ≠ []) : (bytes x).toList.isEmpty = false := by
  rw [bytesL_toList]
  cases x with
  | nil => exact absurd rfl h
  | cons _ _ => rfl
set_option maxHeartbeats 2000000 in
set_option maxRecDepth 100000 in
theorem end_v (S : RefsSaid Is) (h : VM Is c F f ((x, s) :: t) o r w) (hx : x.length ≤ 1000000) (hl : t.length ≤ 2000000) :
    Calls Tryz.prog 56 #[.pointer (some ⟨c.b, 0, none⟩), .string (bytes x)] w fun e w' => e = .returned (.tuple #[]) ∧ ∃ F' f', VM Is c F' f' t o (if x = [] then r else closeS r x) w' := by
  obtain ⟨p, cap, hf2, hcap, _⟩ := h.inner
  have c2 := h.c2
  have fz := h.fb.box.frozen 2
  rw [hf2] at c2
  by_cases hxe : x = []
  · subst hxe
    have he := empty_b
    have HP := Lib.hid (h.pop S hf2)
    rw [if_pos rfl]
    clear h hf2
    generalize t.length = m at *
    have e1 : ((m + 1 : Nat) : Int) - 1 = (m : Int) := by omega
    go_enter Tryz.func56, Tryz.ntmps56
    go_wp2
    go_region
    go_end0
    exact ⟨rfl, _, _, HP.out.drew S⟩
  · have he := empty_no hxe
    have HC := Lib.hid (S.cls F c.vr r x w hx h.is)
    have c0 := h.c0
    have H := Lib.hid h
    rw [if_neg hxe]
    have HF := Lib.hid hf2
    clear h hxe hf2
    go_enter Tryz.func56, Tryz.ntmps56
    go_wp2_with fail
    refine HC.out.mono ?_
    intro e w2 hg
    obtain ⟨rfl, F', h2⟩ := H.out.refs hg
    have d2 := h2.c2
    have gz := h2.fb.box.frozen 2
    rw [HF.out] at d2
    have HP := Lib.hid (h2.pop S HF.out)
    clear h2 hg
    generalize t.length = m at *
    have e1 : ((m + 1 : Nat) : Int) - 1 = (m : Int) := by omega
    go_wp2
    go_region
    go_end0
    exact ⟨rfl, _, _, HP.out.drew S⟩
theorem info_text : ∃ i0, Tryz.prog.info? 87 = some i0 ∧ i0.zero = some (.agg #[.string ⟨#[]⟩, .string ⟨#[]⟩]) ∧ i0.size = 2 ∧ i0.bytes = 32 := by
  obtain ⟨i0, hi, hz⟩ := Option.map_eq_some_iff.1 (show (Tryz.prog.info? 87).map (fun i => (i.zero, i.size, i.bytes)) = some (some (.agg #[.string ⟨#[]⟩, .string ⟨#[]⟩]), 2, 32) by kernel_rfl)
  simp only [Prod.mk.injEq] at hz
  exact ⟨i0, hi, hz.1, hz.2.1, hz.2.2⟩
/-- what begin gives -/
def BegG (Is : (Nat → Prop) → World → Value → RefD → Prop) (c : VC) (l : List (List UInt8 × List UInt8)) (o : List UInt8) (r : RefD) (y : List UInt8) (e : Ending) (w' : World) : Prop :=
  ∃ F' f', ((openT r y c.most).2 = 0 ∧ e = .returned (.int .i64 0) ∧ VM Is c F' f' ((y, (openT r y c.most).1) :: l) o (openS r y c.most) w') ∨
    ((openT r y c.most).2 ≠ 0 ∧ e = .returned (.int .i64 (if (openT r y c.most).2 = 3 then 3 else 2)) ∧ VM Is c F' f' l o (openS r y c.most) w')
theorem open_codes (r : RefD) (y : List UInt8) (most : Int) : (openT r y most).2 = 0 ∨ (openT r y most).2 = 1 ∨ (openT r y most).2 = 3 ∨ (openT r y most).2 = 5 ∨ (openT r y most).2 = 6 := by
  unfold openT
  repeat' split
  all_goals first | exact Or.inl rfl | exact Or.inr (Or.inl rfl) | exact Or.inr (Or.inr (Or.inl rfl)) | exact Or.inr (Or.inr (Or.inr (Or.inl rfl))) | exact Or.inr (Or.inr (Or.inr (Or.inr rfl)))
set_option maxHeartbeats 4000000 in
set_option maxRecDepth 100000 in
theorem begin_v (S : RefsSaid Is) (h : VM Is c F f l o r w) (hm : FitsR c.most) (y : List UInt8) (hy : y.length ≤ 1000000) (hl : l.length ≤ 2000000) :
    Calls Tryz.prog 69 #[.pointer (some ⟨c.b, 0, none⟩), .string (bytes y)] w (BegG Is c l o r y) := by
  have HC := Lib.hid (S.opn F c.vr r y c.most w.drew hy hm (h.drew S).is)
  have c0 := h.c0
  have c1 := h.c1
  have H := Lib.hid (h.drew S)
  have hcs := open_codes r y c.most
  obtain ⟨T, cd, hT⟩ : ∃ T cd, openT r y c.most = (T, cd) := ⟨_, _, rfl⟩
  rw [hT] at hcs HC
  have HB : Hid (∀ e w', (∃ F' f', (cd = 0 ∧ e = .returned (.int .i64 0) ∧ VM Is c F' f' ((y, T) :: l) o (openS r y c.most) w') ∨ (cd ≠ 0 ∧ e = .returned (.int .i64 (if cd = 3 then 3 else 2)) ∧ VM Is c F' f' l o (openS r y c.most) w')) → BegG Is c l o r y e w') := Lib.hid (fun e w' hg => by
    unfold BegG
    rw [hT]
    exact hg)
  generalize openS r y c.most = r' at *
  clear h hT
  have hbad : cd = 1 ∨ cd = 5 ∨ cd = 6 ∨ cd = 0 ∨ cd = 3 := by
    have hcs' : cd = 0 ∨ cd = 1 ∨ cd = 3 ∨ cd = 5 ∨ cd = 6 := hcs
    omega
  clear hcs
  rcases hbad with rfl | rfl | rfl | rfl | rfl
  iterate 3
    · go_enter Tryz.func69, Tryz.ntmps69
      go_wp2
      go_region_held3 (fun W => W.cell? ⟨c.b, 0, none⟩ = some c.vr ∧ W.cell? ⟨c.b, 1, none⟩ = some (.int .i64 c.most))
        (first | exact ⟨c0, c1⟩ | exact ⟨(‹VM Is c _ f l o r' _›).c0, (‹VM Is c _ f l o r' _›).c1⟩)
        ((go_at_call 78; refine HC.out.mono ?_; intro e w2 hg; obtain ⟨rfl, F', h2⟩ := H.out.refs hg; clear hg))
      have H2 := Lib.hid h2
      clear h2
      go_wp2
      go_ret
      exact HB.out _ _ ⟨F', f, Or.inr ⟨by decide, rfl, H2.out⟩⟩
  · obtain ⟨i0, hi, hz0, hz1, hz2⟩ := info_text
    go_enter Tryz.func69, Tryz.ntmps69
    go_wp2
    go_region_held3 (fun W => W.cell? ⟨c.b, 0, none⟩ = some c.vr ∧ W.cell? ⟨c.b, 1, none⟩ = some (.int .i64 c.most))
      (first | exact ⟨c0, c1⟩ | exact ⟨(‹VM Is c _ f l o r' _›).c0, (‹VM Is c _ f l o r' _›).c1⟩)
      ((go_at_call 78; refine HC.out.mono ?_; intro e w2 hg; obtain ⟨rfl, F', h2⟩ := H.out.refs hg; clear hg))
    have H2 := Lib.hid h2
    have d2 := h2.c2
    obtain ⟨v2, hv2⟩ : ∃ v, f 2 = v := ⟨_, rfl⟩
    rw [hv2] at d2
    have HO := Lib.hid h2.tx
    have hsz := h2.size
    rw [hv2] at HO
    have HNW : Hid (∀ j u, [Value.string (bytes y), Value.string (bytes T)][j]? = some u → (w2.alloc (.cells #[.string (bytes y), .string (bytes T)] 87)).cell? ((⟨w2.heap.size, 0, none⟩ : Addr).add j) = some u) := Lib.hid (World.news_of_block (heap_alloc_new w2 _))
    have HPUT : Hid (∀ g cap w3, w3.ownsRow c.w0.heap.size 87 2 (.slice (some ⟨g, 0, none⟩) (l.length + 1) cap) (l.length + 1) (flatV l.reverse ++ [.string (bytes y), .string (bytes T)]) → (w2.alloc (.cells #[.string (bytes y), .string (bytes T)] 87)).grownBy w3 v2.ownBlock → (v2.ownBlock = some g ∨ g = (w2.alloc (.cells #[.string (bytes y), .string (bytes T)] 87)).heap.size) → _) := Lib.hid (fun g cap w3 h1 h3 h4 => H2.out.push S h1 (by rw [hv2]; exact h3) (by rw [hv2]; exact h4))
    clear h2 hv2
    go_wp2_with (at_builtin; refine wpList_append_lies _ rfl _ _ 55 rfl c.w0.heap.size 87 i0 (.agg #[.string ⟨#[]⟩, .string ⟨#[]⟩]) 2 32 Tryz.underlying55 hi hz0 hz1 hz2 rfl (by decide) _ _ _ rfl (HO.out.alloc _) ⟨w2.heap.size, 0, none⟩ 1 1 [.string (bytes y), .string (bytes T)] rfl rfl HNW.out (by intro u hu; simp at hu; rcases hu with rfl | rfl <;> rfl) (by decide) (by unfold maxLen; omega) (by omega) (by rw [Deep.nblk_alloc]; omega) _ rfl ?_; intro g cap w3 hown hgr hat hlt; have hp := HPUT.out g cap w3 hown hgr hat; have d3 := hp.1.cell (i := 2) (by decide); have f4 := hp.1.frozen 2; have HP := Lib.hid hp.2; clear hp hown hgr hat hlt)
    go_ret
    exact HB.out _ _ ⟨F', _, Or.inl ⟨by trivial, rfl, HP.out⟩⟩
  · go_enter Tryz.func69, Tryz.ntmps69
    go_wp2
    go_region_held3 (fun W => W.cell? ⟨c.b, 0, none⟩ = some c.vr ∧ W.cell? ⟨c.b, 1, none⟩ = some (.int .i64 c.most))
      (first | exact ⟨c0, c1⟩ | exact ⟨(‹VM Is c _ f l o r' _›).c0, (‹VM Is c _ f l o r' _›).c1⟩)
      ((go_at_call 78; refine HC.out.mono ?_; intro e w2 hg; obtain ⟨rfl, F', h2⟩ := H.out.refs hg; clear hg))
    have H2 := Lib.hid h2
    clear h2
    go_wp2
    go_ret
    exact HB.out _ _ ⟨F', f, Or.inr ⟨by decide, rfl, H2.out⟩⟩
end
end Go.Proofs.YtjijjmkeehdooaaGreatDoor
