/-
  THE LANDED PACKAGE refs: the contracts of declare and New; and all that is asked of it (refs_said).
-/
import Derived.Test.YtjijjmkeehdooaaGreatDoorRunROpen
import Derived.Deep.RegionLaw
namespace Go.Proofs.YtjijjmkeehdooaaGreatDoor
open Go.RowKit

def addR (r : RefD) (e : EntD) : RefD := if (fiveL e.name).isSome = true ∨ (r.look e.name).isSome = true then r else ⟨fun y => if y = e.name then some (if e.ext = true then none else some e.value) else r.look y, r.opened, r.n⟩
section
variable {b m sc N : Nat} {sa : Option Addr} {g : List UInt8 → Option (Option Nat)} {r : RefD} {w w' w0 : World}
/-- a name leads to an entity, new to the map -/
theorem RG.add (h : RG b m sa sc g r N w) {x : List UInt8} {d : Option Nat} {o : Option (List UInt8)} (hno : r.look x = none) (hok : OkR ⟨fun y => if y = x then some o else r.look y, r.opened, r.n⟩)
    (hM : EntM w' m (fun y => if y = x then some d else g y) (N + 1)) (hg : w.grownBy w' (some m)) (hd : EntIs w' ⟨fun y => if y = x then some o else r.look y, r.opened, r.n⟩ x (some d)) :
    RG b m sa sc (fun y => if y = x then some d else g y) ⟨fun y => if y = x then some o else r.look y, r.opened, r.n⟩ (N + 1) w' := by
  have hB : ∀ k, k < w.heap.size → k ≠ m → w'.heap[k]? = w.heap[k]? := fun k hk hm => hg.block k hk (fun e => hm (by injection e))
  refine ⟨hok, h.box.of_block (hB b h.box.lt h.mb.symm), hM, ?_, fun y => ?_⟩
  · have h2 := ownR_same h.own (w' := w') (fun k hk => by
      cases sa with
      | none => cases hk
      | some p => injection hk with hk; rw [← hk]; exact hB p.block (h.lt _ (Or.inr (Or.inr (Or.inl ⟨p, rfl, rfl⟩)))) (h.am p rfl))
    rw [show r.opened.map (ptrG g) = r.opened.map (ptrG fun y => if y = x then some d else g y) from List.map_congr_left fun z hz => by
      have hzx : z ≠ x := by
        rintro rfl
        obtain ⟨t, ht⟩ := h.ok.inn z hz
        rw [hno] at ht; cases ht
      simp only [ptrG, if_neg hzx]] at h2
    exact h2
  · by_cases e : y = x
    · subst e
      show EntIs w' _ y (if y = y then some d else g y)
      rw [if_pos rfl]
      exact hd
    · show EntIs w' _ y (if y = x then some d else g y)
      rw [if_neg e]
      have hi := (h.inn y).keep (w' := w') fun q hq => hB q (h.lt q (Or.inr (Or.inr (Or.inr ⟨y, hq⟩)))) (h.mq hq)
      cases hgy : g y with
      | none =>
        rw [hgy] at hi
        show (if y = x then some o else r.look y) = none
        rw [if_neg e]; exact hi
      | some d' =>
        cases d' with
        | none =>
          rw [hgy] at hi
          show (if y = x then some o else r.look y) = some none
          rw [if_neg e]; exact hi
        | some q =>
          rw [hgy] at hi
          obtain ⟨t, ht, hr⟩ := hi
          exact ⟨t, by show (if y = x then some o else r.look y) = _; rw [if_neg e]; exact ht, hr⟩
theorem Turns.mono12 {F F' : Nat → Prop} {w w' : World} (h : Turns F w w') (hf : ∀ k, F k → F' k) : Turns F' w w' := ⟨h.os, h.tape, h.output, h.size, fun k hk hn => h.block k hk fun h' => hn (hf k h')⟩
/-- what declare comes to -/
def DclG (b m : Nat) (sa : Option Addr) (sc : Nat) (g : List UInt8 → Option (Option Nat)) (r : RefD) (N : Nat) (e : EntD) (w : World) (o : Ending) (w' : World) : Prop :=
  o = .returned (.tuple #[]) ∧ ∃ g', RG b m sa sc g' (addR r e) (N + 1) w' ∧ Turns (fun k => k = m) w w' ∧ ∀ y q, g' y = some (some q) → g y = some (some q) ∨ w.heap.size ≤ q
theorem dclG_old (h : RG b m sa sc g r N w') {e : EntD} (hd : (fiveL e.name).isSome = true ∨ (r.look e.name).isSome = true) (hT : Turns (fun k => k = m) w w') : DclG b m sa sc g r N e w (.returned (.tuple #[])) w' :=
  ⟨rfl, g, by unfold addR; rw [if_pos hd]; exact ⟨h.ok, h.box, h.map.mono (Nat.le_succ _), h.own, h.inn⟩, hT, fun _ _ hq => Or.inl hq⟩
theorem RG.isSome (h : RG b m sa sc g r N w) (x : List UInt8) : (g x).isSome = (r.look x).isSome := by
  have hi := h.inn x
  cases hg : g x with
  | none => rw [hg] at hi; have hi' : r.look x = none := hi; rw [hi']; rfl
  | some d =>
    cases d with
    | none => rw [hg] at hi; have hi' : r.look x = some none := hi; rw [hi']; rfl
    | some q => rw [hg] at hi; obtain ⟨t, ht, _⟩ := hi; rw [ht]; rfl
theorem given12' (x : List UInt8) (w : World) : Calls Tryz.prog 34 #[.string (bytes x)] w fun e w' => ∃ s, e = .returned (.tuple #[.string s, .bool (fiveL x).isSome]) ∧ w' = w :=
  (given12 x w).mono fun _ _ h => ⟨_, h.1, h.2⟩
set_option maxHeartbeats 4000000 in
set_option maxRecDepth 100000 in
theorem declare_r (h : RG b m sa sc g r N w) (e : EntD) (hN : N ≤ 1000000) (hx : e.name.length ≤ 1000000) (hv : e.value.length ≤ 1000000) (hok : OkR (addR r e)) :
    Calls Tryz.prog 23 #[.pointer (some ⟨b, 0, none⟩), .agg #[.string (bytes e.name), .string (bytes e.value), .bool e.ext]] w (DclG b m sa sc g r N e w) := by
  obtain ⟨x, v, ext⟩ := e
  replace hx : x.length ≤ 1000000 := hx
  replace hv : v.length ≤ 1000000 := hv
  show Calls _ _ #[.pointer (some ⟨b, 0, none⟩), .agg #[.string (bytes x), .string (bytes v), .bool ext]] _ _
  have hb0 := (Below.refl w.heap.size w).alloc (Nat.le_refl _) (.cells #[.string (bytes x), .string (bytes v), .bool ext] 26)
  have hA := h.other hb0
  have HE := Lib.hid (box_decls w (.string (bytes x)) (.string (bytes v)) (.bool ext) 26)
  have HB0 := Lib.hid hb0
  obtain ⟨e0, e1, e2⟩ := HE.out _ (Below.refl _ _)
  have CG := given12' x (w.alloc (.cells #[.string (bytes x), .string (bytes v), .bool ext] 26))
  have c0 := hA.c0
  have hs := hA.isSome x
  have HA := Lib.hid hA
  have hl : ∀ n, (Instr.lookup 50 (.map (some m)) (.string (bytes x)) true).run Tryz.prog ((w.alloc (.cells #[.string (bytes x), .string (bytes v), .bool ext] 26)).drewN n) = .ok (.tuple #[entV (g x), .bool (g x).isSome]) ((w.alloc (.cells #[.string (bytes x), .string (bytes v), .bool ext] 26)).drewN n) := fun n => (hA.drewN n).map.look x hx
  obtain ⟨gv, hgv⟩ : ∃ gv, entV (g x) = gv := ⟨_, rfl⟩
  rw [hgv] at hl
  obtain ⟨f5, hf5⟩ : ∃ f5, (fiveL x).isSome = f5 := ⟨_, rfl⟩
  rw [hf5] at CG
  obtain ⟨dc, hdc⟩ : ∃ dc, (g x).isSome = dc := ⟨_, rfl⟩
  rw [hdc] at hl hs
  have HCG := Lib.hid CG
  have HS := Lib.hid hs
  have HF5 := Lib.hid hf5
  clear h hA CG hgv hf5 hdc hb0 hs
  generalize hWA : w.alloc (.cells #[.string (bytes x), .string (bytes v), .bool ext] 26) = WA at *
  go_enter Tryz.func23, Tryz.ntmps23
  go_wp2_with fail
  refine HCG.out.mono ?_
  rintro o w2 ⟨fc, rfl, rfl⟩
  go_wp2_with fail
  go_quiet (fail)
  have HA2 := Lib.hid (HA.out.drewN nq)
  have HB2 := Lib.hid (show Below w.heap.size w (w2.drewN nq) from ⟨HB0.out.os, HB0.out.tape, HB0.out.output, HB0.out.size, HB0.out.block⟩)
  have HE2 := Lib.hid (fun W (hW : Below (w2.drewN nq).heap.size (w2.drewN nq) W) => HE.out W ⟨hW.os, hW.tape, hW.output, hW.size, hW.block⟩)
  obtain ⟨W2, hW2⟩ : ∃ W2, w2.drewN nq = W2 := ⟨_, rfl⟩
  rw [hW2] at HA2 HB2 HE2 ⊢
  clear hl c0 e0 e1 e2 hW2 HE HB0 HA HCG
  obtain ⟨e0, e1, e2⟩ := HE2.out _ (Below.refl _ _)
  by_cases hold : (f5 || dc) = true
  · have HD : Hid (DclG b m sa sc g r N ⟨x, v, ext⟩ w (.returned (.tuple #[])) W2) := Lib.hid (dclG_old HA2.out (by
      show (fiveL x).isSome = true ∨ (r.look x).isSome = true
      rw [HF5.out, ← HS.out]
      simpa using hold) ((Turns.of_below (F := fun _ => False) HB2.out).mono12 (fun _ h => h.elim)))
    cases f5 with
    | true =>
      clear e0 e1 e2 hold
      go_wp2
      go_end0
      exact HD.out
    | false =>
      obtain rfl : dc = true := by simpa using hold
      clear e0 e1 e2 hold
      go_wp2
      go_end0
      exact HD.out
  · obtain rfl : f5 = false := by cases f5 <;> simp_all
    obtain rfl : dc = false := by cases dc <;> simp_all
    have hno : r.look x = none := by
      have := HS.out
      cases hr : r.look x with
      | none => rfl
      | some o => rw [hr] at this; cases this
    have HAD : Hid (addR r ⟨x, v, ext⟩ = ⟨fun y => if y = x then some (if ext = true then none else some v) else r.look y, r.opened, r.n⟩) := Lib.hid (by
      unfold addR
      rw [if_neg (by
        show ¬ ((fiveL x).isSome = true ∨ (r.look x).isSome = true)
        rw [HF5.out, ← HS.out]
        decide)])
    rw [HAD.out] at hok
    have HNO := Lib.hid hno
    have HOK := Lib.hid hok
    have CC := Lib.hid (rclone12 (bytes x) W2 (by rw [bytesL_len]; omega))
    clear hold hno hok
    go_wp2_with fail
    refine CC.out.mono ?_
    rintro o w3 ⟨rfl, hb3⟩
    have HA3 := Lib.hid (HA2.out.other hb3)
    have HB3 := Lib.hid (HB2.out.trans (hb3.mono HB2.out.size))
    have HE3 := Lib.hid (fun W (hW : Below w3.heap.size w3 W) => HE2.out W (hb3.trans (hW.mono hb3.size)))
    clear e0 e1 e2 hb3 CC HA2 HB2 HE2
    obtain ⟨e0, e1, e2⟩ := HE3.out _ (Below.refl _ _)
    have c0 := HA3.out.c0
    cases ext with
    | true =>
      obtain ⟨w4, hrun, hM, hgr⟩ := HA3.out.map.put hN x hx (.iface 81 (.agg #[])) none entElem_out
      have HG := Lib.hid (HA3.out.add (d := none) (o := none) HNO.out HOK.out hM hgr (show (if x = x then some none else r.look x) = some none by rw [if_pos rfl]))
      have HT := Lib.hid (((Turns.of_below (F := fun _ => False) HB3.out).mono12 (F' := fun k => k = m) (fun _ h => h.elim)).grown hgr (fun k e => Or.inl (by injection e with e; exact e.symm)))
      clear hM hgr
      go_wp2
      go_end0
      exact ⟨rfl, _, by rw [HAD.out]; exact HG.out, HT.out, fun y q hq => by
        by_cases e : y = x
        · rw [if_pos e] at hq; cases hq
        · rw [if_neg e] at hq; exact Or.inl hq⟩
    | false =>
      have CV := Lib.hid (fun W => rclone12 (bytes v) W (by rw [bytesL_len]; omega))
      have hbw : Below w.heap.size w w3.drew := HB3.out.drew
      have HA4 := Lib.hid (HA3.out.drewN 1)
      have hrow : ∀ W : World, (W.alloc (.cells #[.string (bytes x), .string (bytes v), .bool false] 84)).rowIs W.heap.size 84 3 (innF x v false) := fun W => World.rowIs_alloc W #[.string (bytes x), .string (bytes v), .bool false] 84 _ (by
        intro i hi
        rcases (show i = 0 ∨ i = 1 ∨ i = 2 by have : i < 3 := hi; omega) with rfl | rfl | rfl <;> rfl)
      have HROW := Lib.hid hrow
      clear hrow
      go_wp2_with fail
      go_region_law (go_simp; go_at_call 35; refine (CV.out _).mono ?_; rintro o w5 ⟨rfl, hb5⟩; have hA5 : RG b m sa sc g r N w5 := HA4.out.other hb5; have hA6 := hA5.other ((Below.refl w5.heap.size w5).alloc (Nat.le_refl _) (.cells #[.string (bytes x), .string (bytes v), .bool false] 84)); have cc5 := hA5.c0; have cd5 := hA6.c0; obtain ⟨w7, hrun, hM, hgr⟩ := hA6.map.put hN x hx (.iface 82 (.pointer (some ⟨w5.heap.size, 0, none⟩))) (some w5.heap.size) (entElem_in _))
      all_goals
        have hxo : x ∉ r.opened := fun hm => by
          obtain ⟨t, ht⟩ := hA5.ok.inn x hm
          rw [HNO.out] at ht; cases ht
        have hq : w5.heap.size ≠ m := by have := hA5.map.lt; omega
        have hr7 := (HROW.out w5).of_block (hgr.block w5.heap.size (HROW.out w5).lt (fun e => hq (by injection e)))
        have HG := Lib.hid (hA6.add (d := some w5.heap.size) (o := some v) HNO.out HOK.out hM hgr ⟨v, by show (if x = x then some (some v) else r.look x) = _; rw [if_pos rfl], by rw [show decide (x ∈ r.opened) = false from decide_eq_false hxo]; exact hr7⟩)
        have HT := Lib.hid ((((Turns.of_below (F := fun _ => False) (hbw.trans (hb5.mono hbw.size))).mono12 (F' := fun k => k = m) (fun _ h => h.elim)).alloc (.cells #[.string (bytes x), .string (bytes v), .bool false] 84)).grown hgr (fun k e => Or.inl (by injection e with e; exact e.symm)))
        have hsz : w.heap.size ≤ w5.heap.size := Nat.le_trans hbw.size hb5.size
        clear hr7 hM hgr hrun hA5 hA6 cc5 cd5 hb5
        go_wp2
        go_end0
        exact ⟨rfl, _, by rw [HAD.out]; exact HG.out, HT.out, fun y q hq => by
          by_cases e : y = x
          · rw [if_pos e] at hq
            injection hq with hq
            injection hq with hq
            exact Or.inr (by omega)
          · rw [if_neg e] at hq; exact Or.inl hq⟩
theorem addR_next (l : List EntD) (i : Nat) (hi : i < l.length) : addR (ref0 (l.take i)) (entI l i) = ref0 (l.take (i + 1)) := by
  have e1 : l.take (i + 1) = l.take i ++ [entI l i] := by
    rw [List.take_succ_eq_append_getElem hi]
    simp [entI, List.getD, hi]
  rw [e1]
  unfold addR
  by_cases h : (fiveL (entI l i).name).isSome = true ∨ ((ref0 (l.take i)).look (entI l i).name).isSome = true
  · rw [if_pos h]
    unfold ref0
    rw [lookE_old (l.take i) (entI l i) h]
  · rw [if_neg h]
    have h1 : (fiveL (entI l i).name).isSome = false := by
      cases hf : (fiveL (entI l i).name).isSome with
      | false => rfl
      | true => exact absurd (Or.inl hf) h
    have h2 : (lookE (l.take i) (entI l i).name).isSome = false := by
      cases hf : (lookE (l.take i) (entI l i).name).isSome with
      | false => rfl
      | true => exact absurd (Or.inr hf) h
    unfold ref0
    rw [lookE_new (l.take i) (entI l i) h1 h2]
/-- an empty one -/
theorem rg_new (w : World) (D : Obj) : RG (w.heap.size + 2) (w.heap.size + 1) none 0 (fun _ => none) (ref0 []) 0 (((w.alloc D).alloc (.map #[] 0)).alloc (.cells #[.map (some (w.heap.size + 1)), .slice none 0 0, .int .i64 0] 53)) := by
  have h1 : (w.alloc D).heap.size = w.heap.size + 1 := by show (w.heap.push _).size = _; rw [Array.size_push]
  have h2 : ((w.alloc D).alloc (.map #[] 0)).heap.size = w.heap.size + 2 := by show ((w.alloc D).heap.push _).size = _; rw [Array.size_push, h1]
  have hb := World.rowIs_alloc ((w.alloc D).alloc (.map #[] 0)) #[.map (some (w.heap.size + 1)), .slice none 0 0, .int .i64 0] 53 (fun i => if i = 0 then .map (some (w.heap.size + 1)) else if i = 1 then .slice none 0 0 else .int .i64 0) (by
    intro i hi
    rcases (show i = 0 ∨ i = 1 ∨ i = 2 by have : i < 3 := hi; omega) with rfl | rfl | rfl <;> rfl)
  rw [h2] at hb
  have hm := EntM.made (w.alloc D)
  rw [h1] at hm
  refine ⟨ok_ref0 [] (Nat.zero_le _) (fun e he => by cases he), hb, hm.of_block (Below.heap_alloc _ _ (w.heap.size + 1) (by rw [h2]; omega)), ⟨rfl, Or.inl ⟨rfl, rfl⟩⟩, fun x => ?_⟩
  show lookE [] x = none
  exact lookE_nil x
set_option maxHeartbeats 1000000 in
set_option maxRecDepth 100000 in
theorem openNil_r (x : List UInt8) (most : Int) (w : World) (_ : x.length ≤ 1000000) (_ : FitsR most) : Calls Tryz.prog 78 #[.pointer none, .string (bytes x), .int .i64 most] w fun e w' => e = .returned (.tuple #[.string ⟨#[]⟩, .int .i64 6]) ∧ Below w.heap.size w w' := by
  have CI : Calls Tryz.prog 93 #[.pointer none, .string (bytes x)] w fun e w' => e = .returned (.tuple #[.pointer none, .int .i64 6]) ∧ w' = w := by
    go_enter Tryz.func93, Tryz.ntmps93
    go_wp2
    go_ret2
    exact ⟨rfl, rfl⟩
  have HC := Lib.hid CI
  clear CI
  go_enter Tryz.func78, Tryz.ntmps78
  go_wp2_with fail
  refine HC.out.mono ?_
  rintro e w2 ⟨rfl, rfl⟩
  go_wp2
  go_ret2
  exact ⟨rfl, Below.refl _ _⟩
set_option maxHeartbeats 4000000 in
set_option maxRecDepth 100000 in
theorem new_r (l : List EntD) (nm : ByteArray) (s t : Value) (w : World) (hl : FewR l) (hE : EntsAt w.heap.size w s l) :
    Calls Tryz.prog 9 #[.agg #[.string nm, s, t]] w fun e w' => ∃ v F, e = .returned v ∧ IsR F w' v (ref0 l) ∧ (∀ k, F k → w.heap.size ≤ k ∧ k < w'.heap.size) ∧ Below w.heap.size w w' := by
  have hs : ∃ a c, s = .slice a l.length c := by
    rcases hE with ⟨a, cap, rfl, h0⟩ | ⟨b, off, cap, rfl, _⟩
    · exact ⟨a, cap, by rw [h0]; rfl⟩
    · exact ⟨_, cap, rfl⟩
  obtain ⟨a, cap, rfl⟩ := hs
  have hmm := @run_makeMap Tryz.prog
  obtain ⟨hl1, hl2⟩ := hl
  have HE := Lib.hid hE
  have HL2 := Lib.hid hl2
  have HR := Lib.hid (rg_new w (.cells #[.string nm, .slice a l.length cap, t] 30))
  have HD := Lib.hid (box_decls w (.string nm) (.slice a l.length cap) t 30)
  have HB : Hid (Below w.heap.size w (((w.alloc (.cells #[.string nm, .slice a l.length cap, t] 30)).alloc (.map #[] 0)).alloc (.cells #[.map (some (w.heap.size + 1)), .slice none 0 0, .int .i64 0] 53))) := Lib.hid
    ((((Below.refl _ _).alloc (Nat.le_refl _) _).alloc (by show w.heap.size ≤ (w.heap.push _).size; rw [Array.size_push]; omega) _).alloc (by show w.heap.size ≤ ((w.heap.push _).push _).size; rw [Array.size_push, Array.size_push]; omega) _)
  clear hE hl2
  have c1 := (HD.out _ (((Below.refl _ _).alloc (Nat.le_refl _) (.map #[] 0)).alloc (by show (w.alloc _).heap.size ≤ ((w.alloc _).heap.push _).size; rw [Array.size_push]; omega) (.cells #[.map (some (w.heap.size + 1)), .slice none 0 0, .int .i64 0] 53))).2.1
  go_enter Tryz.func9, Tryz.ntmps9
  go_wp2
  have HR2 := Lib.hid (show RG (w.heap.size + 1 + 1) (w.heap.size + 1) none 0 (fun _ => none) (ref0 (l.take 0)) 0 _ from HR.out)
  obtain ⟨B, hB⟩ : ∃ B, w.heap.size + 1 + 1 = B := ⟨_, rfl⟩
  obtain ⟨M, hM⟩ : ∃ M, w.heap.size + 1 = M := ⟨_, rfl⟩
  rw [hM] at hB
  rw [hM] at HR2 HB ⊢
  rw [hB] at HR2 ⊢
  obtain ⟨W0, hW0⟩ : ∃ W0, (((w.alloc (.cells #[.string nm, .slice a l.length cap, t] 30)).alloc (.map #[] 0)).alloc (.cells #[.map (some M), .slice none 0 0, .int .i64 0] 53)) = W0 := ⟨_, rfl⟩
  rw [hW0] at HB HR2 ⊢
  have HMB := Lib.hid (show w.heap.size ≤ M ∧ w.heap.size ≤ B by omega)
  clear hW0 HR HD c1 hB hM hmm
  go_loopw [12] (fun iv wr => ∃ (i : Nat) (g : List UInt8 → Option (Option Nat)), i ≤ l.length ∧ iv = .int .i64 i ∧ Hid (RG B M none 0 g (ref0 (l.take i)) i wr) ∧ Hid (Below w.heap.size w wr) ∧ Hid (∀ y q, g y = some (some q) → w.heap.size ≤ q)) (fun iv _ => l.length - (intOf iv).toNat)
  case atStart => exact ⟨0, _, Nat.zero_le _, rfl, HR2, HB, Lib.hid (fun y q h => by cases h)⟩
  case round =>
    clear HR2 HB
    obtain ⟨i, g, hil, rfl, HR, HB, HQ⟩ := hrel
    by_cases hlt : i < l.length
    · obtain ⟨k, off, rfl, hk, hc⟩ := HE.out.cell (by omega)
      have e0 := (HB.out.cell (p := ⟨k, off + i * 3, none⟩) hk).trans (hc i hlt).1
      have e1 := (HB.out.cell (p := ⟨k, off + i * 3 + 1, none⟩) hk).trans (hc i hlt).2.1
      have e2 := (HB.out.cell (p := ⟨k, off + i * 3 + 2, none⟩) hk).trans (hc i hlt).2.2
      have hei := HL2.out (entI l i) (by
        rw [show entI l i = l[i] by simp [entI, List.getD, hlt]]
        exact List.getElem_mem hlt)
      have HAL := Lib.hid (fun o => HR.out.other ((Below.refl wr.heap.size wr).alloc (Nat.le_refl _) o))
      have HBL := Lib.hid (fun o => HB.out.alloc HB.out.size o)
      have HNX := Lib.hid (addR_next l i hlt)
      have HOK : Hid (OkR (addR (ref0 (l.take i)) (entI l i))) := Lib.hid (by
        rw [HNX.out]
        exact ok_ref0 _ (by rw [List.length_take]; omega) (fun e he => by have := HL2.out e (List.mem_of_mem_take he); omega))
      have HEI := Lib.hid hei
      have hiI : (i : Int) < (l.length : Int) := by omega
      clear hc hei
      go_wp2_with fail
      refine (declare_r (HAL.out _) (entI l i) (by omega) HEI.out.1 HEI.out.2 HOK.out).mono ?_
      rintro o w3 ⟨rfl, g', h3, hT3, hq3⟩
      rw [HNX.out] at h3
      have HR3 := Lib.hid h3
      have hX := (HBL.out (.cells #[.string (bytes (entI l i).name), .string (bytes (entI l i).value), .bool (entI l i).ext] 26)).size
      have HB3 := Lib.hid ((HBL.out (.cells #[.string (bytes (entI l i).name), .string (bytes (entI l i).value), .bool (entI l i).ext] 26)).trans (hT3.below hX (fun k hk => by have h1 := HMB.out.1; have h2 : k = M := hk; omega)))
      have HQ3 : Hid (∀ y q, g' y = some (some q) → w.heap.size ≤ q) := Lib.hid (fun y q h => by
        rcases hq3 y q h with h1 | h1
        · exact HQ.out y q h1
        · omega)
      clear h3 hT3 hq3 hX e0 e1 e2
      go_wp2
      go_roundw
      case rel => exact ⟨i + 1, g', hlt, by go_num, HR3, HB3, HQ3⟩
      case measure => simp [intOf]; omega
    · obtain rfl : i = l.length := by omega
      have HRL : Hid (RG B M none 0 g (ref0 l) l.length wr) := Lib.hid (by
        have h := HR.out
        rw [List.take_length] at h
        exact h)
      go_wp2
      go_ret
      exact ⟨_, FR B M none g, rfl, ⟨B, M, none, 0, g, _, rfl, HRL.out, fun _ => Iff.rfl⟩, fun k hk => ⟨by
        rcases hk with h1 | h1 | ⟨p, h1, _⟩ | ⟨x, h1⟩
        · have := HMB.out.2; omega
        · have := HMB.out.1; omega
        · cases h1
        · exact HQ.out x k h1, HRL.out.lt k hk⟩, HB.out⟩
/-- ALL THAT IS ASKED OF PACKAGE refs. -/
theorem refs_said : RefsSaid IsR where
  keep := by
    rintro F w w' v r ⟨b, m, sa, sc, g, N, rfl, h, hF⟩ _ hb
    exact ⟨b, m, sa, sc, g, N, rfl, h.keep fun k hk => hb k ((hF k).2 hk), hF⟩
  inn := by
    rintro F w v r ⟨b, m, sa, sc, g, N, rfl, h, hF⟩ k hk
    exact h.lt k ((hF k).1 hk)
  isPtr := by
    rintro F w v r ⟨b, m, sa, sc, g, N, rfl, _, _⟩
    exact ⟨_, rfl⟩
  ok := by
    rintro F w v r ⟨b, m, sa, sc, g, N, rfl, h, _⟩
    exact h.ok
  new := new_r
  get := by
    rintro F v r x w hx ⟨b, m, sa, sc, g, N, rfl, h, _⟩
    exact get_r h x hx
  opn := by
    rintro F v r x most w hx hm ⟨b, m, sa, sc, g, N, rfl, h, hF⟩
    refine (open_r h x most hx hm).mono ?_
    rintro e w' ⟨rfl, sa', sc', h', hT, hk⟩
    refine ⟨rfl, FR b m sa' g, ⟨b, m, sa', sc', g, N, rfl, h', fun _ => Iff.rfl⟩, fun k hk2 => ?_, hT.mono12 fun k h => (hF k).2 h⟩
    rcases hk k hk2 with h1 | h1
    · exact Or.inl ((hF k).2 h1)
    · exact Or.inr ⟨h1, h'.lt k hk2⟩
  cls := by
    rintro F v r x w hx ⟨b, m, sa, sc, g, N, rfl, h, hF⟩
    refine (close_r h x hx).mono ?_
    rintro e w' ⟨rfl, h', hT⟩
    exact ⟨rfl, F, ⟨b, m, sa, sc, g, N, rfl, h', hF⟩, fun k hk => Or.inl hk, hT.mono12 fun k h => (hF k).2 h⟩
  spend := by
    rintro F v r k most w hk hm ⟨b, m, sa, sc, g, N, rfl, h, hF⟩
    refine (spend_r h k most hk hm).mono ?_
    rintro e w' ⟨rfl, h', hT⟩
    exact ⟨rfl, F, ⟨b, m, sa, sc, g, N, rfl, h', hF⟩, fun k hk => Or.inl hk, hT.mono12 fun k h => (hF k).2 h⟩
  spent := by
    rintro F v r w ⟨b, m, sa, sc, g, N, rfl, h, _⟩
    exact (spent_r h).mono fun e w' hg => ⟨hg.1, by rw [hg.2]; exact Below.refl _ _⟩
  depth := by
    rintro F v r w ⟨b, m, sa, sc, g, N, rfl, h, _⟩
    exact (depth_r h).mono fun e w' hg => ⟨hg.1, by rw [hg.2]; exact Below.refl _ _⟩
  openNil := openNil_r
  spentNil := fun w => (spentNil_r w).mono fun e w' hg => ⟨hg.1, by rw [hg.2]; exact Below.refl _ _⟩
end
end Go.Proofs.YtjijjmkeehdooaaGreatDoor
