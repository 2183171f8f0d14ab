/-
  THE LANDED PACKAGE refs: the contracts of Spend, Open, Close.
-/
import Derived.Test.YtjijjmkeehdooaaGreatDoorRunRGet
import Derived.Deep.AppendLies
import Derived.Maps.AppendAt
namespace Go.Proofs.YtjijjmkeehdooaaGreatDoor
open Go.RowKit

section
variable {b m sc N : Nat} {sa : Option Addr} {g : List UInt8 → Option (Option Nat)} {r : RefD} {w w' w0 : World}
/-- what is spent is stored -/
theorem RG.spend (h : RG b m sa sc g r N w) (n : Nat) (hn : n ≤ 9223372036854775807) : RG b m sa sc g ⟨r.look, r.opened, n⟩ N (w.setCell ⟨b, 2, none⟩ (.int .i64 (n : Int))) := by
  refine ⟨⟨h.ok.five, h.ok.nodup, h.ok.inn, h.ok.dom, h.ok.small, hn⟩, (World.rowIs.set h.box 2 _).congr fun i hi => ?_, h.map.of_block (Below.heap_setCell _ _ _ _ h.mb), ownR_same h.own (fun k hk => Below.heap_setCell _ _ _ _ (show k ≠ b from ?_)), fun x => ?_⟩
  · rcases (show i = 0 ∨ i = 1 ∨ i = 2 by omega) with rfl | rfl | rfl <;> rfl
  · cases sa with
    | none => cases hk
    | some a => injection hk with hk; rw [← hk]; exact h.ab a rfl
  · have hi := (h.inn x).keep (w' := w.setCell ⟨b, 2, none⟩ (.int .i64 (n : Int))) fun q hq => Below.heap_setCell _ _ _ _ (show q ≠ b from h.bq hq)
    exact hi
theorem FR.base : FR b m sa g b := Or.inl rfl
set_option maxHeartbeats 2000000 in
set_option maxRecDepth 100000 in
theorem spend_r (h : RG b m sa sc g r N w) (k most : Int) (hk : FitsR k) (hm : FitsR most) : Calls Tryz.prog 94 #[.pointer (some ⟨b, 0, none⟩), .int .i64 k, .int .i64 most] w fun e w' => e = .returned (.int .i64 (spendC r k most)) ∧ RG b m sa sc g (spendS r k most) N w' ∧ Turns (FR b m sa g) w w' := by
  have c2 := h.c2
  have f2 := h.box.frozen 2
  have hn := h.ok.fits
  have H := Lib.hid h
  obtain ⟨hk1, hk2⟩ := hk
  obtain ⟨hm1, hm2⟩ := hm
  obtain ⟨x, hx⟩ : ∃ x, k.toNat = x := ⟨_, rfl⟩
  have HSP : Hid (∀ y, r.n + x = y → (y : Int) ≤ most → spendC r k most = 0 ∧ spendS r k most = ⟨r.look, r.opened, y⟩) := Lib.hid (fun y hy hle => by
    unfold spendC spendS
    rw [hx, if_neg (by omega), if_neg (by omega), hy]
    exact ⟨rfl, rfl⟩)
  have HNO : Hid (most < (r.n : Int) + (x : Int) → spendC r k most = 3 ∧ spendS r k most = r) := Lib.hid (fun hlt => by
    unfold spendC spendS
    rw [hx, if_pos hlt, if_pos hlt]
    exact ⟨rfl, rfl⟩)
  clear h
  generalize r.n = n at *
  have hxk : (k < 0 ∧ x = 0) ∨ (0 ≤ k ∧ (x : Int) = k) := by omega
  have HT := Lib.hid (fun y : Nat => (Turns.refl (FR b m sa g) w).setCell (p := ⟨b, 2, none⟩) (Or.inl FR.base) (.int .i64 (y : Int)))
  rcases hxk with ⟨hk0, rfl⟩ | ⟨hk0, rfl⟩
  · by_cases h1 : most < (n : Int)
    · have HE := Lib.hid (HNO.out (by omega))
      have g1 : decide (most < (n : Int)) = true := decide_eq_true h1
      clear hx HNO HSP HT
      go_enter Tryz.func94, Tryz.ntmps94
      go_wp2
      go_ret
      exact ⟨by rw [HE.out.1]; rfl, by rw [HE.out.2]; exact H.out, Turns.refl _ _⟩
    · have g1 : decide (most < (n : Int)) = false := decide_eq_false h1
      have HE := Lib.hid (HSP.out n rfl (by omega))
      have HG := Lib.hid (H.out.spend n (by omega))
      have HT2 := Lib.hid (HT.out n)
      have g2 : decide (most - (n : Int) < 0) = false := decide_eq_false (by omega)
      have hmx : max k 0 = 0 := by omega
      clear hx HNO HSP HT
      go_enter Tryz.func94, Tryz.ntmps94
      go_wp2
      go_ret
      exact ⟨by rw [HE.out.1]; rfl, by rw [HE.out.2]; exact HG.out, HT2.out⟩
  · by_cases h1 : most < (n : Int)
    · have HE := Lib.hid (HNO.out (by omega))
      have g1 : decide (most < (n : Int)) = true := decide_eq_true h1
      clear hx HNO HSP HT
      go_enter Tryz.func94, Tryz.ntmps94
      go_wp2
      go_ret
      exact ⟨by rw [HE.out.1]; rfl, by rw [HE.out.2]; exact H.out, Turns.refl _ _⟩
    · have g1 : decide (most < (n : Int)) = false := decide_eq_false h1
      by_cases h2 : most - (n : Int) < (x : Int)
      · have HE := Lib.hid (HNO.out (by omega))
        have g2 : decide (most - (n : Int) < (x : Int)) = true := decide_eq_true h2
        clear hx HNO HSP HT
        go_enter Tryz.func94, Tryz.ntmps94
        go_wp2
        go_ret
        exact ⟨by rw [HE.out.1]; rfl, by rw [HE.out.2]; exact H.out, Turns.refl _ _⟩
      · obtain ⟨y, hy⟩ : ∃ y, n + x = y := ⟨_, rfl⟩
        have hyI : (n : Int) + (x : Int) = (y : Int) := by omega
        have HE := Lib.hid (HSP.out y hy (by omega))
        have HG := Lib.hid (H.out.spend y (by omega))
        have HT2 := Lib.hid (HT.out y)
        have g2 : decide (most - (n : Int) < (x : Int)) = false := decide_eq_false h2
        clear hx HNO HSP HT hy
        go_enter Tryz.func94, Tryz.ntmps94
        go_wp2
        go_ret
        exact ⟨by rw [HE.out.1]; rfl, by rw [HE.out.2]; exact HG.out, HT2.out⟩
theorem ptrG_in {x : List UInt8} {q : Nat} (hx : g x = some (some q)) : ptrG g x = .pointer (some ⟨q, 0, none⟩) := by unfold ptrG; rw [hx]
theorem innF_set (x t : List UInt8) (o o' : Bool) {q : Nat} {w : World} (h : w.rowIs q 84 3 (innF x t o)) : (w.setCell ⟨q, 2, none⟩ (.bool o')).rowIs q 84 3 (innF x t o') := by
  refine (World.rowIs.set h 2 _).congr fun i hi => ?_
  rcases (show i = 0 ∨ i = 1 ∨ i = 2 by omega) with rfl | rfl | rfl <;> rfl
/-- an entity is marked open, and put behind those that are -/
theorem RG.push (h : RG b m sa sc g r N w) {x t : List UInt8} {q : Nat} (hx : g x = some (some q)) (ht : r.look x = some (some t)) (hok : OkR ⟨r.look, r.opened ++ [x], r.n⟩) {g2 cap2 : Nat} {w3 : World}
    (hgr : ((w.setCell ⟨q, 2, none⟩ (.bool true)).alloc (.cells #[.pointer (some ⟨q, 0, none⟩)] 82)).grownBy w3 (Value.slice sa r.opened.length sc).ownBlock)
    (hown : w3.ownsRow 0 82 1 (.slice (some ⟨g2, 0, none⟩) (r.opened.length + 1) cap2) (r.opened.length + 1) (r.opened.map (ptrG g) ++ [.pointer (some ⟨q, 0, none⟩)])) :
    w3.rowIs b 53 3 (fun i => if i = 0 then .map (some m) else if i = 1 then .slice sa r.opened.length sc else .int .i64 (r.n : Int)) ∧
    RG b m (some ⟨g2, 0, none⟩) cap2 g ⟨r.look, r.opened ++ [x], r.n⟩ N (w3.setCell ⟨b, 1, none⟩ (.slice (some ⟨g2, 0, none⟩) (r.opened.length + 1) cap2)) ∧
    Turns (FR b m sa g) w (w3.setCell ⟨b, 1, none⟩ (.slice (some ⟨g2, 0, none⟩) (r.opened.length + 1) cap2)) := by
  have hsz : ∀ k, k < w.heap.size → k < ((w.setCell ⟨q, 2, none⟩ (.bool true)).alloc (.cells #[.pointer (some ⟨q, 0, none⟩)] 82)).heap.size := fun k hk => by
    show k < ((w.setCell ⟨q, 2, none⟩ (.bool true)).heap.push _).size
    rw [Array.size_push, Deep.nblk_setCell]; omega
  have hB : ∀ k, k < w.heap.size → (∀ p, sa = some p → p.block ≠ k) → w3.heap[k]? = (w.setCell ⟨q, 2, none⟩ (.bool true)).heap[k]? := fun k hk hp => (hgr.block k (hsz k hk) (fun e => by
    cases sa with
    | none => cases e
    | some p => injection e with e; exact hp p rfl e.symm)).trans (Below.heap_alloc _ _ k (by rw [Deep.nblk_setCell]; exact hk))
  have hC : ∀ k, k < w.heap.size → (∀ p, sa = some p → p.block ≠ k) → k ≠ q → w3.heap[k]? = w.heap[k]? := fun k hk hp hq => (hB k hk hp).trans (Below.heap_setCell _ _ _ _ hq)
  have hbox := h.box.of_block (hC b h.box.lt h.ab (fun e => h.bq hx e.symm))
  have hi := h.inn x
  rw [hx] at hi
  obtain ⟨t', ht', hrow⟩ := hi
  obtain rfl : t' = t := by rw [ht] at ht'; injection ht' with e; injection e with e; exact e.symm
  refine ⟨hbox, ⟨hok, ?_, ?_, ?_, fun y => ?_⟩, ?_⟩
  · refine (World.rowIs.set hbox 1 _).congr fun i hi => ?_
    rcases (show i = 0 ∨ i = 1 ∨ i = 2 by omega) with rfl | rfl | rfl
    · rfl
    · show _ = Value.slice _ (r.opened ++ [x]).length _
      rw [List.length_append]; rfl
    · rfl
  · exact h.map.of_block ((Below.heap_setCell _ _ _ _ h.mb).trans (hC m h.map.lt h.am (fun e => h.mq hx e.symm)))
  · have h2 := ownR_same hown (w' := w3.setCell ⟨b, 1, none⟩ (.slice (some ⟨g2, 0, none⟩) (r.opened.length + 1) cap2)) (fun k hk => Below.heap_setCell _ _ _ _ (show k ≠ b by
      injection hk with hk
      rw [← hk]
      exact ownR_ne hbox hown (by decide) ⟨g2, 0, none⟩ rfl))
    show World.ownsRow _ 0 _ 1 (.slice (some ⟨g2, 0, none⟩) (r.opened ++ [x]).length cap2) (r.opened ++ [x]).length ((r.opened ++ [x]).map (ptrG g))
    rw [List.length_append, List.map_append, List.map_cons, List.map_nil, ptrG_in hx]
    exact h2
  · have hy := h.inn y
    cases hgy : g y with
    | none => rw [hgy] at hy; exact hy
    | some d =>
      cases d with
      | none => rw [hgy] at hy; exact hy
      | some q' =>
        rw [hgy] at hy
        obtain ⟨u, hu, hr⟩ := hy
        refine ⟨u, hu, ?_⟩
        by_cases e : y = x
        · subst e
          rw [hx] at hgy
          injection hgy with hgy
          injection hgy with hgy
          subst hgy
          rw [ht] at hu
          injection hu with hu
          injection hu with hu
          subst hu
          rw [show decide (y ∈ (⟨r.look, r.opened ++ [y], r.n⟩ : RefD).opened) = true from decide_eq_true (List.mem_append_right _ (List.mem_singleton.2 rfl))]
          exact (innF_set y t' _ true hrow).of_block ((Below.heap_setCell _ _ _ _ (h.bq hx)).trans (hB q hrow.lt (h.aq hx)))
        · have hne : q' ≠ q := fun e2 => e (h.one hgy (by rw [hx, e2]))
          rw [show decide (y ∈ (⟨r.look, r.opened ++ [x], r.n⟩ : RefD).opened) = decide (y ∈ r.opened) from by
            refine decide_eq_decide.2 (show y ∈ r.opened ++ [x] ↔ _ from ?_)
            rw [List.mem_append, List.mem_singleton]
            exact ⟨fun h => h.elim id (fun h => absurd h e), Or.inl⟩]
          exact hr.of_block ((Below.heap_setCell _ _ _ _ (h.bq hgy)).trans (hC q' hr.lt (h.aq hgy) hne))
  · exact ((((Turns.refl (FR b m sa g) w).setCell (p := ⟨q, 2, none⟩) (Or.inl (Or.inr (Or.inr (Or.inr ⟨x, hx⟩)))) _).alloc _).grown hgr (fun k hk => Or.inl (Or.inr (Or.inr (Or.inl (by
      cases sa with
      | none => cases hk
      | some p => injection hk with hk; exact ⟨p, rfl, hk.symm⟩)))))).setCell (p := ⟨b, 1, none⟩) (Or.inl FR.base) _
/-- the last one is closed -/
theorem RG.pop (h : RG b m sa sc g r N w) {o : List (List UInt8)} {x : List UInt8} {q : Nat} (ho : r.opened = o ++ [x]) (hx : g x = some (some q)) (hok : OkR ⟨r.look, o, r.n⟩) :
    RG b m sa sc g ⟨r.look, o, r.n⟩ N ((w.setCell ⟨q, 2, none⟩ (.bool false)).setCell ⟨b, 1, none⟩ (.slice sa o.length sc)) ∧
    Turns (FR b m sa g) w ((w.setCell ⟨q, 2, none⟩ (.bool false)).setCell ⟨b, 1, none⟩ (.slice sa o.length sc)) := by
  have hi := h.inn x
  rw [hx] at hi
  obtain ⟨t, ht, hrow⟩ := hi
  have hC : ∀ k, k ≠ b → k ≠ q → ((w.setCell ⟨q, 2, none⟩ (.bool false)).setCell ⟨b, 1, none⟩ (.slice sa o.length sc)).heap[k]? = w.heap[k]? := fun k hb hq => (Below.heap_setCell _ _ _ _ hb).trans (Below.heap_setCell _ _ _ _ hq)
  have hbox := h.box.setOther (a := ⟨q, 2, none⟩) (h.bq hx).symm (.bool false)
  refine ⟨⟨hok, ?_, h.map.of_block (hC m h.mb (h.mq hx).symm), ?_, fun y => ?_⟩, ((Turns.refl (FR b m sa g) w).setCell (p := ⟨q, 2, none⟩) (Or.inl (Or.inr (Or.inr (Or.inr ⟨x, hx⟩)))) _).setCell (p := ⟨b, 1, none⟩) (Or.inl FR.base) _⟩
  · refine (World.rowIs.set hbox 1 _).congr fun i hi => ?_
    rcases (show i = 0 ∨ i = 1 ∨ i = 2 by omega) with rfl | rfl | rfl <;> rfl
  · have h2 := ownR_same h.own (w' := (w.setCell ⟨q, 2, none⟩ (.bool false)).setCell ⟨b, 1, none⟩ (.slice sa o.length sc)) (fun k hk => by
      cases sa with
      | none => cases hk
      | some p => injection hk with hk; rw [← hk]; exact hC p.block (h.ab p rfl) (h.aq hx p rfl))
    rw [ho] at h2
    refine ⟨by rw [List.length_map, Nat.mul_one], ?_⟩
    rcases h2.2 with ⟨_, hl⟩ | ⟨g', cap, cur, e, h0, hh, h3, h4, h5, h6⟩
    · rw [List.length_append] at hl; cases hl
    · injection e with e1 e2 e3
      subst e3
      refine Or.inr ⟨g', sc, cur, by rw [e1], h0, hh, ?_, h4, h5, ?_⟩
      · rw [List.length_append] at h3; show o.length ≤ sc; omega
      · rw [Nat.mul_one] at h6 ⊢
        have h7 := congrArg (List.take o.length) h6
        rw [List.take_take, List.map_append, List.length_append] at h7
        rw [show min o.length (o.length + [x].length) = o.length by simp] at h7
        rw [h7, List.take_left' (by rw [List.length_map])]
  · have hy := h.inn y
    cases hgy : g y with
    | none => rw [hgy] at hy; exact hy
    | some d =>
      cases d with
      | none => rw [hgy] at hy; exact hy
      | some q' =>
        rw [hgy] at hy
        obtain ⟨u, hu, hr⟩ := hy
        refine ⟨u, hu, ?_⟩
        have hnd := h.ok.nodup
        rw [ho] at hnd
        by_cases e : y = x
        · subst e
          rw [hx] at hgy
          injection hgy with hgy
          injection hgy with hgy
          subst hgy
          rw [ht] at hu
          injection hu with hu
          injection hu with hu
          subst hu
          have hno : y ∉ o := fun hm => (List.nodup_append.1 hnd).2.2 y hm y (List.mem_singleton.2 rfl) rfl
          rw [show decide (y ∈ (⟨r.look, o, r.n⟩ : RefD).opened) = false from decide_eq_false hno]
          exact (innF_set y t _ false hrow).of_block (Below.heap_setCell _ _ _ _ (h.bq hx))
        · have hne : q' ≠ q := fun e2 => e (h.one hgy (by rw [hx, e2]))
          rw [show decide (y ∈ (⟨r.look, o, r.n⟩ : RefD).opened) = decide (y ∈ r.opened) from by
            refine decide_eq_decide.2 (show y ∈ o ↔ _ from ?_)
            rw [ho, List.mem_append, List.mem_singleton]
            exact ⟨Or.inl, fun h => h.elim id (fun h => absurd h e)⟩]
          exact hr.of_block (hC q' (h.bq hgy) hne)
theorem info_ptrI : ∃ i0, Tryz.prog.info? 82 = some i0 ∧ i0.zero = some (.pointer none) ∧ i0.size = 1 ∧ i0.bytes = 8 := by
  obtain ⟨i0, hi, hz⟩ := Option.map_eq_some_iff.1 (show (Tryz.prog.info? 82).map (fun i => (i.zero, i.size, i.bytes)) = some (some (.pointer none), 1, 8) by kernel_rfl)
  simp only [Prod.mk.injEq] at hz
  exact ⟨i0, hi, hz.1, hz.2.1, hz.2.2⟩
/-- what Open gives -/
def OpG (b m : Nat) (sa : Option Addr) (g : List UInt8 → Option (Option Nat)) (r : RefD) (N : Nat) (x : List UInt8) (most : Int) (w : World) (e : Ending) (w' : World) : Prop :=
  e = .returned (.tuple #[.string (bytes (openT r x most).1), .int .i64 (openT r x most).2]) ∧ ∃ sa' sc', RG b m sa' sc' g (openS r x most) N w' ∧ Turns (FR b m sa g) w w' ∧ ∀ k, FR b m sa' g k → FR b m sa g k ∨ w.heap.size ≤ k
theorem opG_no {x : List UInt8} {most : Int} {c : Int} (hT : openT r x most = ([], c)) (hS : openS r x most = r) (h : RG b m sa sc g r N w) (hb : Turns (FR b m sa g) w0 w) : OpG b m sa g r N x most w0 (.returned (.tuple #[.string ⟨#[]⟩, .int .i64 c])) w :=
  ⟨by rw [hT]; rfl, sa, sc, by rw [hS]; exact h, hb, fun _ hk => Or.inl hk⟩
set_option maxHeartbeats 4000000 in
set_option maxRecDepth 100000 in
theorem open_r (h : RG b m sa sc g r N w) (x : List UInt8) (most : Int) (hxl : x.length ≤ 1000000) (hm : FitsR most) : Calls Tryz.prog 78 #[.pointer (some ⟨b, 0, none⟩), .string (bytes x), .int .i64 most] w (OpG b m sa g r N x most w) := by
  have CI := inner_r h x hxl
  have hi := h.inn x
  have H := Lib.hid h
  cases hg : g x with
  | none =>
    rw [hg] at hi CI
    have HN := Lib.hid (opG_no (w0 := w) (most := most) (by unfold openT; rw [show r.look x = none from hi]) (by unfold openS; rw [show r.look x = none from hi]) h (Turns.refl _ _))
    have HC := Lib.hid (show Calls Tryz.prog 93 #[.pointer (some ⟨b, 0, none⟩), .string (bytes x)] w fun e w' => e = .returned (.tuple #[.pointer none, .int .i64 6]) ∧ w' = w from CI)
    clear h hi CI hg
    go_enter Tryz.func78, Tryz.ntmps78
    go_wp2_with fail
    refine HC.out.mono ?_
    rintro e w2 ⟨rfl, rfl⟩
    go_wp2
    go_ret2
    exact HN.out
  | some d =>
    cases d with
    | none =>
      rw [hg] at hi CI
      have HN := Lib.hid (opG_no (w0 := w) (most := most) (by unfold openT; rw [show r.look x = some none from hi]) (by unfold openS; rw [show r.look x = some none from hi]) h (Turns.refl _ _))
      have HC := Lib.hid (show Calls Tryz.prog 93 #[.pointer (some ⟨b, 0, none⟩), .string (bytes x)] w fun e w' => e = .returned (.tuple #[.pointer none, .int .i64 5]) ∧ w' = w from CI)
      clear h hi CI hg
      go_enter Tryz.func78, Tryz.ntmps78
      go_wp2_with fail
      refine HC.out.mono ?_
      rintro e w2 ⟨rfl, rfl⟩
      go_wp2
      go_ret2
      exact HN.out
    | some q =>
      rw [hg] at hi CI
      obtain ⟨t, ht, hrow⟩ := hi
      have HC := Lib.hid (show Calls Tryz.prog 93 #[.pointer (some ⟨b, 0, none⟩), .string (bytes x)] w fun e w' => e = .returned (.tuple #[.pointer (some ⟨q, 0, none⟩), .int .i64 0]) ∧ w' = w from CI)
      have HX := Lib.hid hg
      have HTX := Lib.hid ht
      have c2 : w.cell? ⟨q, 2, none⟩ = some (.bool (decide (x ∈ r.opened))) := hrow.cell (i := 2) (by decide)
      clear CI hg
      by_cases hx : x ∈ r.opened
      · rw [decide_eq_true hx] at c2
        have HN := Lib.hid (opG_no (w0 := w) (most := most) (c := 1) (by unfold openT; rw [ht]; show (if x ∈ r.opened then _ else _) = _; rw [if_pos hx]) (by unfold openS; rw [ht]; show (if x ∈ r.opened then _ else _) = _; rw [if_pos hx]) h (Turns.refl _ _))
        clear h hrow ht hx
        go_enter Tryz.func78, Tryz.ntmps78
        go_wp2_with fail
        refine HC.out.mono ?_
        rintro e w2 ⟨rfl, rfl⟩
        go_wp2
        go_ret2
        exact HN.out
      · rw [decide_eq_false hx] at c2
        have htl := h.ok.small x t ht
        have c1 : w.cell? ⟨q, 1, none⟩ = some (.string (bytes t)) := hrow.cell (i := 1) (by decide)
        obtain ⟨tb, htb⟩ : ∃ tb, bytes t = tb := ⟨_, rfl⟩
        have htz : tb.size = t.length := by rw [← htb, bytesL_len]
        have CS := spend_r h (t.length : Int) most ⟨by omega, by omega⟩ hm
        rw [← htz] at CS
        rw [htb] at c1
        have HTB := Lib.hid htb
        have HTZ := Lib.hid htz
        have HCS := Lib.hid CS
        have hzb : tb.size ≤ 1048576 := by omega
        clear CS htb htz
        by_cases hlt : most < (r.n : Int) + (t.length : Int)
        · have HN := Lib.hid (fun W (h2 : RG b m sa sc g r N W) hT => opG_no (w0 := w) (w := W) (most := most) (x := x) (c := 3) (by unfold openT; rw [ht]; show (if x ∈ r.opened then _ else if most < (r.n : Int) + (t.length : Int) then _ else _) = _; rw [if_neg hx, if_pos hlt]) (by unfold openS; rw [ht]; show (if x ∈ r.opened then _ else if most < (r.n : Int) + (t.length : Int) then _ else _) = _; rw [if_neg hx, if_pos hlt]) h2 hT)
          have HSC : Hid (spendC r (tb.size : Int) most = 3 ∧ spendS r (tb.size : Int) most = r) := Lib.hid (by
            rw [HTZ.out]
            unfold spendC spendS
            rw [if_pos (by show most < (r.n : Int) + (((t.length : Int).toNat : Nat) : Int); omega), if_pos (by show most < (r.n : Int) + (((t.length : Int).toNat : Nat) : Int); omega)]
            exact ⟨rfl, rfl⟩)
          rw [HSC.out.1, HSC.out.2] at HCS
          clear h hrow ht hx hlt
          go_enter Tryz.func78, Tryz.ntmps78
          go_wp2_with fail
          refine HC.out.mono ?_
          rintro e w2 ⟨rfl, rfl⟩
          go_wp2_with fail
          refine HCS.out.mono ?_
          rintro e w3 ⟨rfl, h3, hT3⟩
          have HF := Lib.hid (HN.out _ h3 hT3)
          clear h3 hT3
          go_wp2
          go_ret2
          exact HF.out
        · have HSC : Hid (spendC r (tb.size : Int) most = 0 ∧ spendS r (tb.size : Int) most = ⟨r.look, r.opened, r.n + t.length⟩) := Lib.hid (by
            rw [HTZ.out]
            unfold spendC spendS
            rw [if_neg (by show ¬ most < (r.n : Int) + (((t.length : Int).toNat : Nat) : Int); omega), if_neg (by show ¬ most < (r.n : Int) + (((t.length : Int).toNat : Nat) : Int); omega)]
            exact ⟨rfl, rfl⟩)
          have HOT : Hid (openT r x most = (t, 0) ∧ openS r x most = ⟨r.look, r.opened ++ [x], r.n + t.length⟩) := Lib.hid (by
            unfold openT openS
            rw [ht]
            show (if x ∈ r.opened then _ else if most < (r.n : Int) + (t.length : Int) then _ else _) = _ ∧ (if x ∈ r.opened then _ else if most < (r.n : Int) + (t.length : Int) then _ else _) = _
            rw [if_neg hx, if_neg hlt, if_neg hx, if_neg hlt]
            exact ⟨rfl, rfl⟩)
          have hok := h.ok.opened' x most hm.2
          rw [HOT.out.2] at hok
          have HOK := Lib.hid hok
          have HFW := Lib.hid (show ∀ k, FR b m sa g k → k < w.heap.size from h.lt)
          have hfew := h.ok.few
          rw [HSC.out.1, HSC.out.2] at HCS
          have HHX := Lib.hid hx
          obtain ⟨i0, hi, hz0, hz1, hz2⟩ := info_ptrI
          clear h hrow ht hx hlt hok
          go_enter Tryz.func78, Tryz.ntmps78
          go_wp2_with fail
          refine HC.out.mono ?_
          rintro e w2 ⟨rfl, rfl⟩
          go_wp2_with fail
          refine HCS.out.mono ?_
          rintro e w3 ⟨rfl, h3, hT3⟩
          have hi3 := h3.inn x
          rw [HX.out] at hi3
          obtain ⟨t3, ht3, hrow3⟩ := hi3
          have f3 := hrow3.frozen 2
          have d2 : w3.cell? ⟨q, 2, none⟩ = some (.bool (decide (x ∈ r.opened))) := hrow3.cell (i := 2) (by decide)
          have hbq := h3.bq HX.out
          have cb : (w3.setCell ⟨q, 2, none⟩ (.bool true)).cell? ⟨b, 1, none⟩ = some (.slice sa r.opened.length sc) := (h3.box.setOther (a := ⟨q, 2, none⟩) hbq.symm _).cell (i := 1) (by decide)
          have hown : (w3.setCell ⟨q, 2, none⟩ (.bool true)).ownsRow 0 82 1 (.slice sa r.opened.length sc) r.opened.length (r.opened.map (ptrG g)) := ownR_same h3.own (fun k hk => Below.heap_setCell _ _ _ _ (show k ≠ q by
            cases sa with
            | none => cases hk
            | some p => injection hk with hk; rw [← hk]; exact h3.aq HX.out p rfl))
          have HNW : Hid (∀ j u, [Value.pointer (some ⟨q, 0, none⟩)][j]? = some u → ((w3.setCell ⟨q, 2, none⟩ (.bool true)).alloc (.cells #[.pointer (some ⟨q, 0, none⟩)] 82)).cell? ((⟨w3.heap.size, 0, none⟩ : Addr).add j) = some u) := Lib.hid (by
            have h := cell_one_new (w3.setCell ⟨q, 2, none⟩ (.bool true)) (.pointer (some ⟨q, 0, none⟩)) 82
            rw [Deep.nblk_setCell] at h
            exact h)
          have H3 := Lib.hid h3
          have HT3 := Lib.hid hT3
          clear h3 hT3 hrow3 ht3 hbq c1 c2
          go_wp2_with (at_builtin; refine wpList_append_lies _ rfl _ _ 51 rfl 0 82 i0 (.pointer none) 1 8 Tryz.underlying51 hi hz0 hz1 hz2 rfl (by decide) _ _ _ rfl (World.ownsRow.alloc hown _) ⟨w3.heap.size, 0, none⟩ 1 1 [.pointer (some ⟨q, 0, none⟩)] rfl rfl HNW.out (by intro u hu; simp at hu; subst hu; rfl) (by decide) (by unfold maxLen; omega) (by omega) (Nat.zero_le _) _ rfl ?_; intro g2 cap2 w5 hown5 hgr5 hat5 hlt5; have hp := H3.out.push HX.out HTX.out HOK.out hgr5 hown5; have hc5 := hp.1.cell (i := 1) (by decide); have hf5 := hp.1.frozen 1; have HP := Lib.hid hp.2; clear hgr5 hown5)
          have HAT : Hid (∀ k, FR b m (some ⟨g2, 0, none⟩) g k → FR b m sa g k ∨ w2.heap.size ≤ k) := Lib.hid (by
            rintro k (h1 | h1 | ⟨a, ha, h1⟩ | h1)
            · exact Or.inl (Or.inl h1)
            · exact Or.inl (Or.inr (Or.inl h1))
            · injection ha with ha
              subst ha
              subst h1
              rcases hat5 with h2 | h2
              · refine Or.inl (Or.inr (Or.inr (Or.inl ?_)))
                cases sa with
                | none => cases h2
                | some p => injection h2 with h2; exact ⟨p, rfl, h2.symm⟩
              · refine Or.inr ?_
                rw [Deep.nblk_alloc, Deep.nblk_setCell] at h2
                have := HT3.out.size
                omega
            · exact Or.inl (Or.inr (Or.inr (Or.inr h1))))
          obtain ⟨W6, hW6⟩ : ∃ W6, w5.setCell ⟨b, 1, none⟩ (.slice (some ⟨g2, 0, none⟩) (r.opened.length + 1) cap2) = W6 := ⟨_, rfl⟩
          replace HP : Hid (RG b m (some ⟨g2, 0, none⟩) cap2 g ⟨r.look, r.opened ++ [x], r.n + t.length⟩ N W6 ∧ Turns (FR b m sa g) w3 W6) := Lib.hid (by rw [← hW6]; exact HP.out)
          have hi6 := HP.out.1.inn x
          rw [HX.out] at hi6
          obtain ⟨t6, ht6, hrow6⟩ := hi6
          obtain rfl : t6 = t := by
            have h7 : r.look x = some (some t6) := ht6
            rw [HTX.out] at h7; injection h7 with h7; injection h7 with h7; exact h7.symm
          have CG := Lib.hid (getI_r hrow6 htl)
          rw [HTB.out] at CG
          clear hat5 hlt5 hp hc5 hf5 ht6 hrow6 f3 d2 cb hown
          rw [hW6]
          clear hW6
          go_wp2_with fail
          refine CG.out.mono ?_
          rintro e w7 ⟨rfl, hb7⟩
          have HF : Hid (OpG b m sa g r N x most w2 (.returned (.tuple #[.string tb, .int .i64 0])) w7) := Lib.hid ⟨by rw [HOT.out.1, HTB.out], some ⟨g2, 0, none⟩, cap2, by rw [HOT.out.2]; exact HP.out.1.other hb7, (HT3.out.trans HP.out.2).other hb7, HAT.out⟩
          clear hb7 CG
          go_wp2
          go_ret2
          exact HF.out
/-- the cells of those that are open -/
theorem RG.last (h : RG b m sa sc g r N w) {o : List (List UInt8)} {x : List UInt8} (ho : r.opened = o ++ [x]) : ∃ k q t, sa = some ⟨k, 0, none⟩ ∧ o.length + 1 ≤ sc ∧ g x = some (some q) ∧ r.look x = some (some t) ∧ w.cell? ⟨k, o.length, none⟩ = some (.pointer (some ⟨q, 0, none⟩)) ∧ w.rowIs q 84 3 (innF x t true) := by
  have hx : x ∈ r.opened := by rw [ho]; exact List.mem_append_right _ (List.mem_singleton.2 rfl)
  obtain ⟨t0, ht0⟩ := h.ok.inn x hx
  have hi := h.inn x
  cases hg : g x with
  | none => rw [hg] at hi; have hi' : r.look x = none := hi; rw [ht0] at hi'; cases hi'
  | some d =>
    cases d with
    | none => rw [hg] at hi; have hi' : r.look x = some none := hi; rw [ht0] at hi'; cases hi'
    | some q =>
      rw [hg] at hi
      obtain ⟨t, ht, hr⟩ := hi
      rw [decide_eq_true hx] at hr
      have hown := h.own
      rcases hown.2 with ⟨e, hl⟩ | ⟨g', cap, cur, e, _, hh, h3, _⟩
      · rw [ho, List.length_append] at hl; cases hl
      · injection e with e1 e2 e3
        subst e3
        have hc := World.ownsRow.cellAt (g := g') (by rw [e1] at hown; exact hown) o.length (by rw [ho, List.length_append]; show o.length < (o.length + 1) * 1; omega)
        refine ⟨g', q, t, e1, by rw [ho, List.length_append] at h3; exact h3, rfl, ht, ?_, hr⟩
        rw [hc, ho, List.map_append, List.getElem?_append_right (by rw [List.length_map]; exact Nat.le_refl _), List.length_map, Nat.sub_self]
        show some (ptrG g x) = _
        rw [ptrG_in hg]
set_option maxHeartbeats 2000000 in
set_option maxRecDepth 100000 in
theorem close_r (h : RG b m sa sc g r N w) (x : List UInt8) (hxl : x.length ≤ 1000000) : Calls Tryz.prog 70 #[.pointer (some ⟨b, 0, none⟩), .string (bytes x)] w fun e w' => e = .returned (.bool (closeB r x)) ∧ RG b m sa sc g (closeS r x) N w' ∧ Turns (FR b m sa g) w w' := by
  have CD := Lib.hid (depth_r h)
  have c1 := h.c1
  have hfew := h.ok.few
  have H := Lib.hid h
  by_cases he : r.opened = []
  · have HN : Hid (closeB r x = false ∧ closeS r x = r) := Lib.hid (by unfold closeB closeS; rw [he]; exact ⟨rfl, rfl⟩)
    rw [he] at CD
    rw [HN.out.1, HN.out.2]
    clear h c1 he
    go_enter Tryz.func70, Tryz.ntmps70
    go_wp2_with fail
    refine CD.out.mono ?_
    rintro e w2 ⟨rfl, rfl⟩
    go_wp2
    go_ret
    exact ⟨rfl, H.out, Turns.refl _ _⟩
  · obtain ⟨o, y, ho⟩ : ∃ o y, r.opened = o ++ [y] := ⟨r.opened.dropLast, r.opened.getLast he, (List.dropLast_concat_getLast he).symm⟩
    obtain ⟨k, q, t, rfl, hsc, hgy, hty, hck, hrow⟩ := h.last ho
    have hlen : r.opened.length = o.length + 1 := by rw [ho, List.length_append]; rfl
    have HL : Hid (r.opened.getLast? = some y) := Lib.hid (by rw [ho, List.getLast?_append]; rfl)
    have cn : w.cell? ⟨q, 0, none⟩ = some (.string (bytes y)) := hrow.cell (i := 0) (by decide)
    have fq := hrow.frozen 2
    have d2 : w.cell? ⟨q, 2, none⟩ = some (.bool true) := hrow.cell (i := 2) (by decide)
    have cb : (w.setCell ⟨q, 2, none⟩ (.bool false)).cell? ⟨b, 1, none⟩ = some (.slice (some ⟨k, 0, none⟩) r.opened.length sc) := (h.box.setOther (a := ⟨q, 2, none⟩) (h.bq hgy).symm _).cell (i := 1) (by decide)
    have fb : (w.setCell ⟨q, 2, none⟩ (.bool false)).frozen? ⟨b, 1, none⟩ = false := (h.box.setOther (a := ⟨q, 2, none⟩) (h.bq hgy).symm _).frozen 1
    rw [hlen] at CD c1 hfew cb
    have hs : ((bytes y).toList == (bytes x).toList) = decide (y = x) := by rw [bytesL_toList (a := x)]; exact strEqL y x
    by_cases hyx : y = x
    · rw [decide_eq_true hyx] at hs
      subst hyx
      have HY : Hid (closeB r y = true ∧ closeS r y = ⟨r.look, o, r.n⟩) := Lib.hid (by
        unfold closeB closeS
        rw [if_pos HL.out, decide_eq_true HL.out, ho, List.dropLast_concat]
        exact ⟨rfl, rfl⟩)
      have hok := h.ok.closed y
      rw [HY.out.2] at hok
      have HP := Lib.hid (h.pop ho hgy hok)
      rw [HY.out.1, HY.out.2]
      clear h hok hgy hty ho hrow he
      generalize o.length = n at *
      have e1 : ((n + 1 : Nat) : Int) - 1 = (n : Int) := by omega
      go_enter Tryz.func70, Tryz.ntmps70
      go_wp2_with fail
      refine CD.out.mono ?_
      rintro e w2 ⟨rfl, rfl⟩
      go_wp2
      go_ret
      exact ⟨rfl, HP.out.1, HP.out.2⟩
    · rw [decide_eq_false hyx] at hs
      have HN : Hid (closeB r x = false ∧ closeS r x = r) := Lib.hid (by
        have hne : ¬ r.opened.getLast? = some x := by rw [HL.out]; exact fun e => hyx (by injection e)
        unfold closeB closeS
        rw [if_neg hne, decide_eq_false hne]
        exact ⟨rfl, rfl⟩)
      rw [HN.out.1, HN.out.2]
      clear h hgy hty ho hrow he
      generalize o.length = n at *
      go_enter Tryz.func70, Tryz.ntmps70
      go_wp2_with fail
      refine CD.out.mono ?_
      rintro e w2 ⟨rfl, rfl⟩
      go_wp2
      go_ret
      exact ⟨rfl, H.out, Turns.refl _ _⟩
end
end Go.Proofs.YtjijjmkeehdooaaGreatDoor
