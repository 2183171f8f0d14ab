/-
  LAYER 13: brackenlaw13.ValueAsks, out of ValSaid and RefsSaid.
-/
import Derived.Test.YtjijjmkeehdooaaGreatDoorValEnts
import Derived.Test.YtjijjmkeehdooaaGreatDoorRefAsk
import Derived.Test.YtjijjmkeehdooaaGreatDoorStrsAt
import Derived.Test.YtjijjmkeehdooaaGreatDoorSymArg
import Derived.Deep.QuietTactic
import Derived.Deep.RegionHeld3
namespace Go.Proofs.YtjijjmkeehdooaaGreatDoor
open Go.RowKit

theorem vget_of_drop {ops : Array Oper} {i : Nat} {oi : Oper} {rest : List Oper} (h : ops.toList.drop i = oi :: rest) : ops[i]? = some oi := by
  have e : ops.toList[i]? = some oi := by
    have := congrArg (fun l => l[0]?) h
    simpa using this
  rw [← Array.getElem?_toList]
  exact e
section
variable {P : Program} {ops : Array Oper} {Q : Exit → Act → World → Prop} {md : Region.Mode} {S : World → Prop}
/-- an operation that is wanted, and yields v in every world that meets S -/
theorem vtake_wanted (i : Nat) {oi : Oper} {rest : List Oper} {v : Value} {fuel : Nat} {listed : Array Bool} {a : Act} {w : World} (hi : ops.toList.drop i = oi :: rest)
    (hs : Region.noSelect ops = true) (hf : Region.free md ops listed i = true) (hr : (Region.ready md ops listed).contains i = true)
    (hQ : ∀ c a w, Q (.panic c) (a.put oi.dst v) w → Q (.panic c) a w) (hw : Region.wanted oi (yielded ops a.tmps) = true) (hS : S w) (hy : ∀ w, S w → (execOp a.eval oi).run P w = .ok (.value v) w)
    (h : wpAnyH P md ops Q S fuel (listed.setIfInBounds i true) (a.put oi.dst v) w) : wpAnyH P md ops Q S (fuel + 1) listed a w :=
  wpAnyH_take (vget_of_drop hi) hs hf hr hQ (Or.inl ⟨hw, hy⟩) hS h
/-- an operation that is not wanted -/
theorem vtake_not (i : Nat) {oi : Oper} {rest : List Oper} {fuel : Nat} {listed : Array Bool} {a : Act} {w : World} (hi : ops.toList.drop i = oi :: rest)
    (hs : Region.noSelect ops = true) (hf : Region.free md ops listed i = true) (hr : (Region.ready md ops listed).contains i = true)
    (hQ : ∀ c a w, Q (.panic c) (a.put oi.dst undef) w → Q (.panic c) a w) (hw : Region.wanted oi (yielded ops a.tmps) = false) (hS : S w)
    (h : wpAnyH P md ops Q S fuel (listed.setIfInBounds i true) (a.put oi.dst undef) w) : wpAnyH P md ops Q S (fuel + 1) listed a w :=
  wpAnyH_take (vget_of_drop hi) hs hf hr hQ (Or.inr ⟨hw, rfl⟩) hS h
/-- the one operation that may come up -/
theorem vbranch_one (i : Nat) {oi : Oper} {rest : List Oper} {fuel : Nat} {listed : Array Bool} {a : Act} {w : World} (hi : ops.toList.drop i = oi :: rest)
    (hr : Region.ready md ops listed = [i])
    (h : ∀ K' : Act → World → Prop, Shut (∀ a w, S w → (S w → wpAnyH P md ops Q S fuel (listed.setIfInBounds i true) a w) → K' a w) → if Region.wanted oi (yielded ops a.tmps) = true then Oper.wp P oi a w K' Q else K' (a.put oi.dst undef) w) :
    wpAnyH P md ops Q S (fuel + 1) listed a w :=
  wpAnyH_ready hr (by simp) (AllReadyH.cons (vget_of_drop hi) h AllReadyH.nil)
end

def tab13 : List ByteArray := [⟨#[97]⟩, ⟨#[32]⟩, ⟨#[9]⟩, ⟨#[10]⟩, ⟨#[38, 101, 59]⟩, ⟨#[38, 102, 59]⟩, ⟨#[38, 103, 59]⟩, ⟨#[38, 104, 59]⟩, ⟨#[38, 105, 59]⟩, ⟨#[38, 106, 59]⟩, ⟨#[38, 109, 59]⟩, ⟨#[38, 111, 59]⟩, ⟨#[38, 108, 116, 59]⟩, ⟨#[38, 97, 109, 112, 59]⟩, ⟨#[38, 35, 54, 53, 59]⟩, ⟨#[38, 35, 49, 48, 59]⟩, ⟨#[38, 35, 51, 50, 59]⟩, ⟨#[38, 120, 59]⟩, ⟨#[38]⟩, ⟨#[195, 169]⟩, ⟨#[39]⟩, ⟨#[32, 32]⟩]
theorem tab13_length : tab13.length = 22 := rfl
theorem tab13_few : ∀ x, x < 22 → (strAt tab13 x).size ≤ 5 := by decide
def CodeV (c : Int) : Prop := c = 0 ∨ c = 2 ∨ c = 3
theorem step_code {rec : RefD → List UInt8 → VRes} (hrec : ∀ r s, CodeV (rec r s).2.1) (most : Int) (r : RefD) (x : List UInt8) : CodeV (stepV rec most r x).2.1 := by
  unfold stepV
  cases h5 : fiveL x with
  | some c => exact Or.inl rfl
  | none =>
    simp only
    split
    · exact Or.inr (Or.inr rfl)
    · split
      · exact Or.inr (Or.inl rfl)
      · split
        · exact hrec _ _
        · exact Or.inl rfl
theorem loop_code {rec : RefD → List UInt8 → VRes} (hrec : ∀ r s, CodeV (rec r s).2.1) (most : Int) (ins : Bool) : ∀ (f : Nat) (out : List UInt8) (r : RefD) (s : List UInt8), CodeV (loopV rec most ins f out r s).2.1
  | 0, _, _, _ => Or.inl rfl
  | _ + 1, _, _, [] => Or.inl rfl
  | f + 1, out, r, b :: t => by
    unfold loopV
    by_cases h1 : b = 60 ∧ ins = true
    · rw [if_pos h1]; exact Or.inr (Or.inl rfl)
    · rw [if_neg h1]
      by_cases h2 : b ≠ 38
      · rw [if_pos h2]; exact loop_code hrec most ins f _ _ _
      · rw [if_neg h2]
        cases hr : refL (b :: t) with
        | none => exact Or.inr (Or.inl rfl)
        | some kn =>
          obtain ⟨k, n⟩ := kn
          simp only
          by_cases h7 : k.kind = 7
          · rw [if_pos h7]; exact loop_code hrec most ins f _ _ _
          · rw [if_neg h7]
            by_cases hv : (stepV rec most r k.name.data.toList).2.1 = 0
            · rw [if_neg (by rw [hv]; decide)]; exact loop_code hrec most ins f _ _ _
            · rw [if_pos hv]; exact step_code hrec most r _
theorem valD_code (most : Int) : ∀ (d : Nat) (r : RefD) (s : List UInt8), CodeV (valD most d r s).2.1
  | 0, _, _ => Or.inr (Or.inl rfl)
  | d + 1, r, s => loop_code (valD_code most d) most true s.length [] r s
theorem readV_code (D : Nat) (r : RefD) (raw : List UInt8) (kind most : Int) : CodeV (readV D r raw kind most).2.1 := by
  unfold readV
  by_cases h0 : (rawV D r raw most false).2.1 = 0
  · rw [if_neg (fun x => x h0)]; exact Or.inl rfl
  · rw [if_pos h0]; exact loop_code (valD_code most D) most false raw.length [] r raw
/-- where both stand ahead of the first call: the Refs v, and the document's own at p -/
structure TM (Is : (Nat → Prop) → World → Value → RefD → Prop) (wr : World) (p : Nat) (ev : Value) (v : Value) (r : RefD) (W : World) : Prop where
  rf : ∃ F, Is F W v r ∧ (∀ k, F k → wr.heap.size ≤ k) ∧ ¬ F p
  box : W.rowIs p 40 5 (fM ev 0 (.slice none 0 0))
  ge : wr.heap.size ≤ p
  since : Below wr.heap.size wr W
/-- where both stand behind it -/
structure TW (Is : (Nat → Prop) → World → Value → RefD → Prop) (wr : World) (p : Nat) (ev : Value) (l : List EntD) (v : Value) (r r' : RefD) (W : World) : Prop where
  rf : ∃ F, Is F W v r ∧ (∀ k, F k → wr.heap.size ≤ k) ∧ ¬ F p
  ma : MA p ev l r' W
  since : Below wr.heap.size wr W
section
variable {E : Nat → World → Prop} {Is : (Nat → Prop) → World → Value → RefD → Prop} {wr W : World} {p n D : Nat} {ev v : Value} {l : List EntD} {raw : List UInt8} {kind most : Int} {r r' : RefD}
theorem TW.other (R : RefsSaid Is) (h : TW Is wr p ev l v r r' W) {W' : World} (hb : Below W.heap.size W W') : TW Is wr p ev l v r r' W' := by
  obtain ⟨F, hi, hF, hp⟩ := h.rf
  exact ⟨⟨F, R.keep F W W' v r hi hb.size (fun k hk => hb.block k (R.inn F W v r hi k hk)), hF, hp⟩, h.ma.other hb, h.since.trans (hb.mono h.since.size)⟩
theorem TW.c3 (h : TW Is wr p ev l v r r' W) : W.cell? ⟨p, 3, none⟩ = some (.int .i64 (r'.n : Int)) := by
  obtain ⟨nv, hr, _⟩ := h.ma.row
  exact hr.cell (i := 3) (by decide)
theorem TW.spent (R : RefsSaid Is) (h : TW Is wr p ev l v r r' W) : Calls Tryz.prog 14 #[v] W fun e w' => e = .returned (.int .i64 r.n) ∧ TW Is wr p ev l v r r' w' := by
  obtain ⟨F, hi, _⟩ := h.rf
  exact (R.spent F v r W hi).mono fun e w' hg => ⟨hg.1, h.other R hg.2⟩
theorem TW.depth (R : RefsSaid Is) (h : TW Is wr p ev l v r r' W) (h0 : r.opened = []) : Calls Tryz.prog 15 #[v] W fun e w' => e = .returned (.int .i64 0) ∧ TW Is wr p ev l v r r' w' := by
  obtain ⟨F, hi, _⟩ := h.rf
  have C := R.depth F v r W hi
  rw [h0] at C
  exact C.mono fun e w' hg => ⟨hg.1, h.other R hg.2⟩
theorem two_read (S : ValSaid E Is) (h : TM Is wr p ev v (ref0 l) W) (hE : E n W) (hn : n ≤ wr.heap.size) (hs : ShortV D (ref0 l) raw most) (hk : FitsR kind) (hm : FitsR most) (he : EntsAt wr.heap.size wr ev l) :
    Calls Tryz.prog 10 #[v, .string (bytes raw), .int .i64 kind, .int .i64 most] W fun e w' => e = .returned (.tuple #[.string (bytes (readV D (ref0 l) raw kind most).1), .int .i64 (readV D (ref0 l) raw kind most).2.1]) ∧ TW Is wr p ev l v (readV D (ref0 l) raw kind most).2.2 (ref0 l) w' := by
  obtain ⟨F, hi, hF, hp⟩ := h.rf
  refine (S.read n F v (ref0 l) raw kind most D W hE (Nat.le_trans hn h.since.size) (fun k hk => Nat.le_trans hn (hF k hk)) hs hk hm hi).mono ?_
  rintro e w' ⟨rfl, F', hi', hs', ht⟩
  have hb : Below wr.heap.size W w' := ht.below h.since.size hF
  have hplt := h.box.lt
  refine ⟨rfl, ⟨⟨F', hi', fun k hk => ?_, fun hk => ?_⟩, ⟨rfl, ((he.below h.since).below hb).mono h.ge, _, h.box.of_block (ht.block p hplt hp), rfl, Or.inl ⟨rfl, rfl⟩⟩, h.since.trans hb⟩⟩
  · rcases hs' k hk with h1 | h1
    · exact hF k h1
    · have := h.since.size; omega
  · rcases hs' p hk with h1 | h1
    · exact hp h1
    · omega
theorem two_val (R : RefsSaid Is) (h : TW Is wr p ev l v r r' W) (hpw : wr.heap.size ≤ p) (hF : Fine D most l raw r' false) :
    Calls Tryz.prog 13 #[.pointer (some ⟨p, 0, none⟩), .string (bytes raw), .int .i64 kind, .int .i64 most] W fun e w' => e = .returned (.tuple #[.string (bytes (readV D r' raw kind most).1), .int .i64 (readV D r' raw kind most).2.1]) ∧ TW Is wr p ev l v r (readV D r' raw kind most).2.2 w' := by
  obtain ⟨F, hi, hF1, hp⟩ := h.rf
  refine (rval_any p ev l kind most D raw r' W h.ma hF).mono ?_
  intro e w' hg
  obtain ⟨rfl, hm, ht⟩ := hg
  exact ⟨rfl, ⟨F, R.keep F W w' v r hi ht.size (fun k hk => ht.block k (R.inn F W v r hi k hk) (fun e => hp (by rw [← e]; exact hk))), hF1, hp⟩, hm, h.since.trans (ht.below h.since.size (fun k hk => by omega))⟩
theorem readV_opened (h : (readV D r raw kind most).2.1 = 0) : (readV D r raw kind most).2.2.opened = r.opened := by
  have hk := loop_kept (valD_kept most D) most false raw.length [] r raw
  have e : loopV (valD most D) most false raw.length [] r raw = rawV D r raw most false := rfl
  rw [e] at hk
  unfold readV at h ⊢
  by_cases h0 : (rawV D r raw most false).2.1 = 0
  · rw [if_neg (fun x => x h0)] at h ⊢
    exact hk.opened h0
  · rw [if_pos h0] at h
    exact absurd h h0
end
theorem rot_fine (k : Nat) (hk : k < 9) (raw : List UInt8) (hr : raw.length ≤ 200) (most : Int) : Fine 9 most (rotA k) raw (ref0 (rotA k)) false := by
  have hs := rot_short k hk raw hr most
  have h0 := room_ref0 (rotA k)
  rw [rot_len k hk] at h0
  exact ⟨h0, by omega, by rw [rot_len k hk]; decide, fun e he => by have := (rot_few k hk e he).2; omega, hs.2.2.2.2, fun y hy => (by cases hy), by show 0 + 9 ≤ 1000; decide⟩
/-- where d's box stands -/
structure DB (z : Nat) (a9 : Option Addr) (c9 : Nat) (w0 W : World) : Prop where
  row : W.rowIs z 30 3 (fun i => if i = 0 then .string ⟨#[]⟩ else if i = 1 then .slice a9 9 c9 else .slice none 0 0)
  since : Below w0.heap.size w0 W
theorem DB.other {z : Nat} {a9 : Option Addr} {c9 : Nat} {w0 W W' : World} (h : DB z a9 c9 w0 W) (hb : Below W.heap.size W W') : DB z a9 c9 w0 W' := ⟨h.row.of_block (hb.block z h.row.lt), h.since.trans (hb.mono h.since.size)⟩
theorem DB.cells {z : Nat} {a9 : Option Addr} {c9 : Nat} {w0 W : World} (h : DB z a9 c9 w0 W) : W.cell? ⟨z, 0, none⟩ = some (.string ⟨#[]⟩) ∧ W.cell? ⟨z, 1, none⟩ = some (.slice a9 9 c9) ∧ W.cell? ⟨z, 2, none⟩ = some (.slice none 0 0) := ⟨h.row.cell (i := 0) (show 0 < 3 by decide), h.row.cell (i := 1) (show 1 < 3 by decide), h.row.cell (i := 2) (show 2 < 3 by decide)⟩
set_option maxHeartbeats 8000000 in
set_option maxRecDepth 100000 in
theorem valasks_any {E : Nat → World → Prop} {Is : (Nat → Prop) → World → Value → RefD → Prop} (R : RefsSaid Is) (S : ValSaid E Is) (n : Nat) (v : Value) (s : ByteArray) (kind most nn : Int) (hm : FitsR most) (w : World) (hv : SymArg w v) (hE : E n w) (hn : n ≤ w.heap.size) :
    Calls Tryz.prog 4 #[v, .string s, .int .i64 kind, .int .i64 most, .int .i64 nn] w fun e w' => e = .returned (.bool true) ∧ Below w.heap.size w w' := by
  obtain ⟨a, cap, xs, rfl, hs, _, hmx⟩ := hv
  have HC := Lib.hid (fun k hk => SymOK.cell hs k hk)
  have HTOLD := Lib.hid (fun W (h : VAt E n w W) => told13_any R S n W h.e h.n_le)
  have HV := Lib.hid (show VAt E n w w from ⟨hE, hn, Below.refl _ _⟩)
  clear hE hs
  by_cases hs60 : 60 < s.size
  · have g1 : decide (60 < (s.size : Int)) = true := decide_eq_true (by omega)
    go_enter Tryz.func4, Tryz.ntmps4
    go_wp2_with fail
    refine (HTOLD.out _ HV.out).mono ?_
    rintro e w4 ⟨rfl, hb⟩
    go_wp2
    go_ret
    exact ⟨rfl, hb⟩
  have g0 : decide (60 < (s.size : Int)) = false := decide_eq_false (by omega)
  obtain ⟨sl, hsl⟩ : ∃ sl : List UInt8, s.data.toList = sl := ⟨_, rfl⟩
  have hs2 : s = bytes sl := by rw [← hsl]; rfl
  subst hs2
  clear hsl
  have hsl60 : sl.length ≤ 60 := by rw [bytesL_len] at hs60; omega
  have hb0 := (Below.refl w.heap.size w).alloc (Nat.le_refl _) (.cells #[.string ⟨#[97]⟩, .string ⟨#[32]⟩, .string ⟨#[9]⟩, .string ⟨#[10]⟩, .string ⟨#[38, 101, 59]⟩, .string ⟨#[38, 102, 59]⟩, .string ⟨#[38, 103, 59]⟩, .string ⟨#[38, 104, 59]⟩, .string ⟨#[38, 105, 59]⟩, .string ⟨#[38, 106, 59]⟩, .string ⟨#[38, 109, 59]⟩, .string ⟨#[38, 111, 59]⟩, .string ⟨#[38, 108, 116, 59]⟩, .string ⟨#[38, 97, 109, 112, 59]⟩, .string ⟨#[38, 35, 54, 53, 59]⟩, .string ⟨#[38, 35, 49, 48, 59]⟩, .string ⟨#[38, 35, 51, 50, 59]⟩, .string ⟨#[38, 120, 59]⟩, .string ⟨#[38]⟩, .string ⟨#[195, 169]⟩, .string ⟨#[39]⟩, .string ⟨#[32, 32]⟩] 9)
  have hr := strOK_alloc w #[.string ⟨#[97]⟩, .string ⟨#[32]⟩, .string ⟨#[9]⟩, .string ⟨#[10]⟩, .string ⟨#[38, 101, 59]⟩, .string ⟨#[38, 102, 59]⟩, .string ⟨#[38, 103, 59]⟩, .string ⟨#[38, 104, 59]⟩, .string ⟨#[38, 105, 59]⟩, .string ⟨#[38, 106, 59]⟩, .string ⟨#[38, 109, 59]⟩, .string ⟨#[38, 111, 59]⟩, .string ⟨#[38, 108, 116, 59]⟩, .string ⟨#[38, 97, 109, 112, 59]⟩, .string ⟨#[38, 35, 54, 53, 59]⟩, .string ⟨#[38, 35, 49, 48, 59]⟩, .string ⟨#[38, 35, 51, 50, 59]⟩, .string ⟨#[38, 120, 59]⟩, .string ⟨#[38]⟩, .string ⟨#[195, 169]⟩, .string ⟨#[39]⟩, .string ⟨#[32, 32]⟩] (0, 0) tab13 22 22 rfl rfl (Nat.le_refl _)
  go_enter Tryz.func4, Tryz.ntmps4
  go_wp2
  obtain ⟨W0, hW0⟩ : ∃ W0, w.alloc (.cells #[.string ⟨#[97]⟩, .string ⟨#[32]⟩, .string ⟨#[9]⟩, .string ⟨#[10]⟩, .string ⟨#[38, 101, 59]⟩, .string ⟨#[38, 102, 59]⟩, .string ⟨#[38, 103, 59]⟩, .string ⟨#[38, 104, 59]⟩, .string ⟨#[38, 105, 59]⟩, .string ⟨#[38, 106, 59]⟩, .string ⟨#[38, 109, 59]⟩, .string ⟨#[38, 111, 59]⟩, .string ⟨#[38, 108, 116, 59]⟩, .string ⟨#[38, 97, 109, 112, 59]⟩, .string ⟨#[38, 35, 54, 53, 59]⟩, .string ⟨#[38, 35, 49, 48, 59]⟩, .string ⟨#[38, 35, 51, 50, 59]⟩, .string ⟨#[38, 120, 59]⟩, .string ⟨#[38]⟩, .string ⟨#[195, 169]⟩, .string ⟨#[39]⟩, .string ⟨#[32, 32]⟩] 9) = W0 := ⟨_, rfl⟩
  rw [hW0] at hb0 hr ⊢
  have HB := Lib.hid hb0
  have HV0 := Lib.hid (HV.out.other S hb0)
  have HR := Lib.hid (fun k hk => StrOK.cell hr k hk)
  clear hW0 hb0 hr
  go_loopw [12, 13] (fun tv iv wr => wr = W0 ∧ ∃ (i : Nat) (t : List UInt8), i ≤ xs.length ∧ i ≤ 20 ∧ iv = .int .i64 i ∧ tv = .string (bytes t) ∧ t.length ≤ 5 * i) (fun _ iv _ => xs.length - (intOf iv).toNat)
  case atStart => exact ⟨rfl, 0, [], Nat.zero_le _, Nat.zero_le _, rfl, rfl, Nat.le_refl _⟩
  case round =>
    obtain ⟨rfl, i, t, hil, him, rfl, rfl, ht⟩ := hrel
    by_cases hlt : i < xs.length
    · have g1 : decide ((i : Int) < (xs.length : Int)) = true := decide_eq_true (by omega)
      by_cases hm2 : i < 20
      · have g2 : decide ((i : Int) < 20) = true := decide_eq_true (by omega)
        obtain ⟨z, hz⟩ : ∃ z, xs.getD i 0 = z := ⟨_, rfl⟩
        obtain ⟨g, off, rfl, hg, hc⟩ := HC.out i hlt
        have hcell : wr.cell? ⟨g, off + i, none⟩ = some (.int .i64 z) := by rw [HB.out.cell (p := ⟨g, off + i, none⟩) hg, ← hz]; exact hc i hlt
        obtain ⟨u, x, hk1, hk2, hk3, hk4, hk5⟩ := wrap_mod z 22 (by decide) (by decide)
        replace hk2 : Int.tmod (u : Int) 22 = (x : Int) := hk2
        obtain ⟨gt, ot, e1, _, hct⟩ := HR.out x (by rw [tab13_length]; exact hk3)
        have hct2 := hct x (by rw [tab13_length]; exact hk3)
        have hfew := tab13_few x hk3
        obtain ⟨tx, htx⟩ : ∃ tx : List UInt8, (strAt tab13 x).data.toList = tx := ⟨_, rfl⟩
        have htx2 : strAt tab13 x = bytes tx := by rw [← htx]; rfl
        rw [htx2] at hct2 hfew
        rw [bytesL_len] at hfew
        injection e1 with e1
        injection e1 with e2 e3
        subst e2; subst e3
        rw [Nat.zero_add] at hct2
        have i1 : (x : Int) < 22 := by clear hk1 hk2 hk4 hk5; omega
        have i2 : (0 : Int) ≤ (x : Int) := by clear hk1 hk2 hk4 hk5; omega
        have hsz : (t ++ tx).length ≤ 5 * (i + 1) := by rw [List.length_append]; clear hk1 hk2 hk4 hk5; omega
        have HSZ := Lib.hid hsz
        have z1 : (9223372036854775807 < (bytes t).size + (bytes tx).size) = False := eq_false (by rw [bytesL_len, bytesL_len]; clear hk1 hk2 hk4 hk5; omega)
        clear hz hc hct hsz htx htx2 hfew
        go_wp2
        go_roundw
        case rel => exact ⟨by trivial, i + 1, t ++ tx, hlt, hm2, by go_num, by rw [bytes_app], HSZ.out⟩
        case measure => clear hk1 hk2 hk4 hk5; simp [intOf]; omega
      · have g2 : decide ((i : Int) < 20) = false := decide_eq_false (by omega)
        have ht100 : t.length ≤ 100 := by omega
        obtain ⟨k, hk9, CE⟩ := ents13_any nn wr
        go_wp2_with fail
        refine CE.mono ?_
        rintro e w1 ⟨ev, rfl, hEN, hb1⟩
        obtain ⟨a9, c9, rfl⟩ : ∃ a9 c9, ev = .slice a9 9 c9 := by
          have hl9 := rot_len k hk9
          rcases hEN with ⟨_, _, _, h0⟩ | ⟨b, off, c, h1, _⟩
          · rw [h0] at hl9; cases hl9
          · exact ⟨_, c, by rw [hl9] at h1; exact h1⟩
        have hbx := (Below.refl w1.heap.size w1).alloc (Nat.le_refl _) (.cells #[.string ⟨#[]⟩, .slice a9 9 c9, .slice none 0 0] 30)
        have hzr := World.rowIs_alloc w1 #[.string ⟨#[]⟩, .slice a9 9 c9, .slice none 0 0] 30 (fun i => if i = 0 then .string ⟨#[]⟩ else if i = 1 then .slice a9 9 c9 else .slice none 0 0) (by
          intro i hi
          rcases (show i = 0 ∨ i = 1 ∨ i = 2 by have : i < 3 := hi; omega) with rfl | rfl | rfl <;> rfl)
        have HENx := Lib.hid ((hEN.below hbx).mono hbx.size)
        have HV1x := Lib.hid ((HV0.out.other S hb1).other S hbx)
        clear hb1 CE HR HC HB hEN
        go_wp2
        obtain ⟨W2, hW2⟩ : ∃ W2, w1.alloc (.cells #[.string ⟨#[]⟩, .slice a9 9 c9, .slice none 0 0] 30) = W2 := ⟨_, rfl⟩
        rw [hW2] at hbx hzr HENx HV1x ⊢
        clear hW2
        obtain ⟨z, hz⟩ : ∃ z, w1.heap.size = z := ⟨_, rfl⟩
        rw [hz] at hzr ⊢
        have HZR := Lib.hid hzr
        clear hbx hz hzr
        go_loopw [12, 15] (fun tv uv wr2 => ∃ (tn : Nat) (tt : List UInt8), tn ≤ 2 ∧ uv = .int .i64 tn ∧ tv = .string (bytes tt) ∧ tt.length ≤ 100 ∧ Hid (Below W2.heap.size W2 wr2)) (fun _ uv _ => 2 - (intOf uv).toNat)
        case atStart => exact ⟨0, t, by decide, rfl, rfl, ht100, Lib.hid (Below.refl _ _)⟩
        case round =>
          obtain ⟨tn, tt, htn, rfl, rfl, htt, hbw⟩ := hrel
          have HBW := Lib.hid hbw.out
          clear hbw
          by_cases hlt2 : tn < 2
          · have g5 : decide ((tn : Int) < 2) = true := decide_eq_true (by omega)
            have hzr2 := HZR.out.of_block (HBW.out.block z HZR.out.lt)
            have d0 : wr.cell? ⟨z, 0, none⟩ = some (.string ⟨#[]⟩) := hzr2.cell (i := 0) (show 0 < 3 by decide)
            have d1 : wr.cell? ⟨z, 1, none⟩ = some (.slice a9 9 c9) := hzr2.cell (i := 1) (show 1 < 3 by decide)
            have d2 : wr.cell? ⟨z, 2, none⟩ = some (.slice none 0 0) := hzr2.cell (i := 2) (show 2 < 3 by decide)
            have HEN2 := Lib.hid ((HENx.out.below HBW.out).mono HBW.out.size)
            have hD0 : DB z a9 c9 wr wr.drew := ⟨hzr2, (Below.refl _ _).drew⟩
            have hD1 : DB z a9 c9 wr (wr.drew.alloc (.cells #[.string ⟨#[]⟩, .slice a9 9 c9, .slice none 0 0, .int .i64 0, .slice none 0 0] 40)) := hD0.other ((Below.refl _ _).alloc (Nat.le_refl _) _)
            have hFew : FewR (rotA k) := ⟨by rw [rot_len k hk9]; decide, fun e he => by have := rot_few k hk9 e he; omega⟩
            go_wp2_with fail
            go_region_held3 (fun W => W.cell? ⟨z, 0, none⟩ = some (.string ⟨#[]⟩) ∧ W.cell? ⟨z, 1, none⟩ = some (.slice a9 9 c9) ∧ W.cell? ⟨z, 2, none⟩ = some (.slice none 0 0))
              (first | exact (‹DB z a9 c9 wr _›).cells | exact ((‹DB z a9 c9 wr _›).other ((Below.refl _ _).alloc (Nat.le_refl _) _)).cells | exact ⟨d0, d1, d2⟩ | assumption)
              (first | (go_at_call 9; refine (rnewAt R (rotA k) _ _ _ hFew ((HEN2.out.below hD0.since).mono hD0.since.size)).mono ?_; rintro o u ⟨q, rfl, h⟩; have hS2 := hD0.other h.since) | (go_at_call 9; refine (rnewAt R (rotA k) _ _ _ hFew ((HEN2.out.below hD1.since).mono hD1.since.size)).mono ?_; rintro o u ⟨q, rfl, h⟩; have hS2 := hD1.other h.since))
            · have hp2 : (u.alloc (.cells #[.string ⟨#[]⟩, .slice a9 9 c9, .slice none 0 0, .int .i64 0, .slice none 0 0] 40)).rowIs u.heap.size 40 5 (fM (.slice a9 9 c9) 0 (.slice none 0 0)) := World.rowIs_alloc u #[.string ⟨#[]⟩, .slice a9 9 c9, .slice none 0 0, .int .i64 0, .slice none 0 0] 40 _ (by
                intro i hi
                rcases (show i = 0 ∨ i = 1 ∨ i = 2 ∨ i = 3 ∨ i = 4 by have : i < 5 := hi; omega) with rfl | rfl | rfl | rfl | rfl <;> rfl)
              obtain ⟨F, hi, hF⟩ := h.is
              have hbu := (Below.refl u.heap.size u).alloc (Nat.le_refl _) (.cells #[.string ⟨#[]⟩, .slice a9 9 c9, .slice none 0 0, .int .i64 0, .slice none 0 0] 40)
              have HTM : Hid (TM Is wr u.heap.size (.slice a9 9 c9) (.pointer (some q)) (ref0 (rotA k)) (u.alloc (.cells #[.string ⟨#[]⟩, .slice a9 9 c9, .slice none 0 0, .int .i64 0, .slice none 0 0] 40))) := Lib.hid ⟨⟨F, R.keep F u _ _ _ hi hbu.size (fun k' hk' => hbu.block k' (R.inn F u _ _ hi k' hk')), hF, fun hk' => by have := R.inn F u _ _ hi _ hk'; omega⟩, hp2, hS2.since.size, hS2.since.trans (hbu.mono hS2.since.size)⟩
              clear hi hF hbu hS2 h
              obtain ⟨W4, hW4⟩ : ∃ W4, u.alloc (.cells #[.string ⟨#[]⟩, .slice a9 9 c9, .slice none 0 0, .int .i64 0, .slice none 0 0] 40) = W4 := ⟨_, rfl⟩
              obtain ⟨p, hp⟩ : ∃ p, u.heap.size = p := ⟨_, rfl⟩
              rw [hW4] at hp2 HTM ⊢
              rw [hp] at hp2 HTM ⊢
              clear hW4 hp
              clear hp2
              obtain ⟨c, hcr⟩ : ∃ c, readV 9 (ref0 (rotA k)) tt (wrap64 (1 + bits BinOp.and IntKind.i64 kind 1)) most = c := ⟨_, rfl⟩
              have hfk : FitsR (wrap64 (1 + bits BinOp.and IntKind.i64 kind 1)) := by unfold FitsR wrap64; omega
              have HVT := Lib.hid (HV1x.out.turned S HV1x.out.since.size (HBW.out.trans (HTM.out.since.mono HBW.out.size)))
              have CRD := Lib.hid (two_read S HTM.out HVT.out.e (Nat.le_trans HV1x.out.n_le HBW.out.size) (rot_short k hk9 tt (by omega) most) hfk hm HEN2.out)
              have hpge := HTM.out.ge
              have HOPN := Lib.hid (readV_opened (D := 9) (r := ref0 (rotA k)) (raw := tt) (kind := wrap64 (1 + bits BinOp.and IntKind.i64 kind 1)) (most := most))
              have hcode := readV_code 9 (ref0 (rotA k)) tt (wrap64 (1 + bits BinOp.and IntKind.i64 kind 1)) most
              rw [hcr] at CRD HOPN hcode
              obtain ⟨x1, x2, x3⟩ := c
              go_wp2_with fail
              refine CRD.out.mono ?_
              rintro e w4 ⟨rfl, h4⟩
              have CVL := Lib.hid (two_val R h4 hpge (rot_fine k hk9 tt (by omega) most) (kind := wrap64 (1 + bits BinOp.and IntKind.i64 kind 1)))
              rw [hcr] at CVL
              clear h4 CRD hcr HVT HTM
              go_wp2_with fail
              refine CVL.out.mono ?_
              rintro e w5 ⟨rfl, h5⟩
              have hT5 : TW Is wr p (.slice a9 9 c9) (rotA k) (.pointer (some q)) x3 x3 w5.drew := (show TW Is wr p (.slice a9 9 c9) (rotA k) (.pointer (some q)) x3 x3 w5 from h5).other R (Below.refl _ _).drew
              clear h5 CVL
              have q1 : (x2 != x2) = false := by simp
              have q2 : ((x3.n : Int) != (x3.n : Int)) = false := by simp
              have c35 := hT5.c3
              by_cases hx0 : x2 = 0
              · subst hx0
                have hop : x3.opened = [] := HOPN.out rfl
                clear HOPN
                go_wp2_with fail
                go_region_held3 (fun W => W.cell? ⟨p, 3, none⟩ = some (.int .i64 (x3.n : Int)))
                  (first | exact (‹TW Is wr p (.slice a9 9 c9) (rotA k) (.pointer (some q)) x3 x3 _›).c3 | exact c35 | assumption)
                  (first | (go_at_call 14; refine (TW.spent R hT5).mono ?_; rintro o u6 ⟨rfl, hT6⟩) | (go_at_call 15; refine (TW.depth R hT6 hop).mono ?_; rintro o u7 ⟨rfl, hT7⟩))
                all_goals
                  have H6 := Lib.hid hT7
                  have HVT := Lib.hid (HV1x.out.turned S HV1x.out.since.size (HBW.out.trans (H6.out.since.mono HBW.out.size)))
                  go_wp2_with fail
                  refine (vnormAt S tt (normL tt) _ rfl rfl (by omega) HVT.out).mono ?_
                  rintro e w7 ⟨rfl, hv7, hb7⟩
                  have H7 := Lib.hid (H6.out.other R hb7)
                  have HV7 := Lib.hid hv7
                  clear hv7 hb7 HVT
                  go_wp2_with fail
                  refine (rnorm_any tt _ (by omega)).mono ?_
                  rintro e w8 ⟨rfl, rfl⟩
                  go_wp2_with fail
                  refine (vtextAt S tt (escL false tt) _ rfl rfl (by omega) HV7.out).mono ?_
                  rintro e w9 ⟨rfl, hv9, hb9⟩
                  have H9 := Lib.hid (H7.out.other R hb9)
                  have HV9 := Lib.hid hv9
                  clear hv9 hb9 HV7
                  go_wp2_with fail
                  refine (resc_false tt _ (by omega)).mono ?_
                  rintro e w10 ⟨rfl, rfl⟩
                  go_wp2_with fail
                  refine (vattrAt S tt (escL true tt) _ rfl rfl (by omega) HV9.out).mono ?_
                  rintro e w11 ⟨rfl, hv11, hb11⟩
                  have H11 := Lib.hid (H9.out.other R hb11)
                  clear hv11 hb11 HV9
                  go_wp2_with fail
                  refine (resc_true tt _ (by omega)).mono ?_
                  rintro e w12 ⟨rfl, rfl⟩
                  go_wp2
                  go_roundw
                  case rel => exact ⟨tn + 1, sl, by omega, by go_num, rfl, by omega, Lib.hid (HBW.out.trans (H11.out.since.mono HBW.out.size))⟩
                  case measure => simp [intOf]; omega
              · have hc2 : x2 = 2 ∨ x2 = 3 := hcode.resolve_left hx0
                clear hx0 HOPN hcode
                rcases hc2 with rfl | rfl
                · go_wp2_with fail
                  try simp only [List.append_eq, List.cons_append, List.nil_append] at *
                  refine wp_region_held_drew (S := (fun W => W.cell? ⟨p, 3, none⟩ = some (.int .i64 (x3.n : Int)))) (by kernel_rfl) (by (first | exact (‹TW Is wr p (.slice a9 9 c9) (rotA k) (.pointer (some q)) x3 x3 _›).c3 | exact c35 | assumption)) (fun hHeld => ?_)
                  first | (refine vtake_wanted 0 (v := ?_) rfl (by kernel_rfl) (by kernel_rfl) (by kernel_rfl) (fun _ _ _ h => h) (by rfl) (by assumption) ?_ ?_; rotate_left; focus (intro w hSw; (try dsimp only at hSw); go_simp; try with_reducible rfl)) | (refine vtake_not 0 rfl (by kernel_rfl) (by kernel_rfl) (by kernel_rfl) (fun _ _ _ h => h) (by rfl) (by assumption) ?_) | fail "take 0"
                  try simp only [Act.put, List.setIfInBounds_toArray, List.set_cons_zero, List.set_cons_succ]
                  first | (refine vtake_wanted 1 (v := ?_) rfl (by kernel_rfl) (by kernel_rfl) (by kernel_rfl) (fun _ _ _ h => h) (by rfl) (by assumption) ?_ ?_; rotate_left; focus (intro w hSw; (try dsimp only at hSw); go_simp; try with_reducible rfl)) | (refine vtake_not 1 rfl (by kernel_rfl) (by kernel_rfl) (by kernel_rfl) (fun _ _ _ h => h) (by rfl) (by assumption) ?_) | fail "take 1"
                  try simp only [Act.put, List.setIfInBounds_toArray, List.set_cons_zero, List.set_cons_succ]
                  first | (refine vtake_wanted 2 (v := ?_) rfl (by kernel_rfl) (by kernel_rfl) (by kernel_rfl) (fun _ _ _ h => h) (by rfl) (by assumption) ?_ ?_; rotate_left; focus (intro w hSw; (try dsimp only at hSw); go_simp; try with_reducible rfl)) | (refine vtake_not 2 rfl (by kernel_rfl) (by kernel_rfl) (by kernel_rfl) (fun _ _ _ h => h) (by rfl) (by assumption) ?_) | fail "take 2"
                  try simp only [Act.put, List.setIfInBounds_toArray, List.set_cons_zero, List.set_cons_succ]
                  first | (refine vtake_wanted 3 (v := ?_) rfl (by kernel_rfl) (by kernel_rfl) (by kernel_rfl) (fun _ _ _ h => h) (by rfl) (by assumption) ?_ ?_; rotate_left; focus (intro w hSw; (try dsimp only at hSw); go_simp; try with_reducible rfl)) | (refine vtake_not 3 rfl (by kernel_rfl) (by kernel_rfl) (by kernel_rfl) (fun _ _ _ h => h) (by rfl) (by assumption) ?_) | fail "take 3"
                  try simp only [Act.put, List.setIfInBounds_toArray, List.set_cons_zero, List.set_cons_succ]
                  first | (refine vtake_wanted 4 (v := ?_) rfl (by kernel_rfl) (by kernel_rfl) (by kernel_rfl) (fun _ _ _ h => h) (by rfl) (by assumption) ?_ ?_; rotate_left; focus (intro w hSw; (try dsimp only at hSw); go_simp; try with_reducible rfl)) | (refine vtake_not 4 rfl (by kernel_rfl) (by kernel_rfl) (by kernel_rfl) (fun _ _ _ h => h) (by rfl) (by assumption) ?_) | fail "take 4"
                  try simp only [Act.put, List.setIfInBounds_toArray, List.set_cons_zero, List.set_cons_succ]
                  first | (refine vtake_wanted 5 (v := ?_) rfl (by kernel_rfl) (by kernel_rfl) (by kernel_rfl) (fun _ _ _ h => h) (by rfl) (by assumption) ?_ ?_; rotate_left; focus (intro w hSw; (try dsimp only at hSw); go_simp; try with_reducible rfl)) | (refine vtake_not 5 rfl (by kernel_rfl) (by kernel_rfl) (by kernel_rfl) (fun _ _ _ h => h) (by rfl) (by assumption) ?_) | fail "take 5"
                  try simp only [Act.put, List.setIfInBounds_toArray, List.set_cons_zero, List.set_cons_succ]
                  first | (refine vtake_wanted 6 (v := ?_) rfl (by kernel_rfl) (by kernel_rfl) (by kernel_rfl) (fun _ _ _ h => h) (by rfl) (by assumption) ?_ ?_; rotate_left; focus (intro w hSw; (try dsimp only at hSw); go_simp; try with_reducible rfl)) | (refine vtake_not 6 rfl (by kernel_rfl) (by kernel_rfl) (by kernel_rfl) (fun _ _ _ h => h) (by rfl) (by assumption) ?_) | fail "take 6"
                  try simp only [Act.put, List.setIfInBounds_toArray, List.set_cons_zero, List.set_cons_succ]
                  first | (refine vtake_wanted 7 (v := ?_) rfl (by kernel_rfl) (by kernel_rfl) (by kernel_rfl) (fun _ _ _ h => h) (by rfl) (by assumption) ?_ ?_; rotate_left; focus (intro w hSw; (try dsimp only at hSw); go_simp; try with_reducible rfl)) | (refine vtake_not 7 rfl (by kernel_rfl) (by kernel_rfl) (by kernel_rfl) (fun _ _ _ h => h) (by rfl) (by assumption) ?_) | fail "take 7"
                  try simp only [Act.put, List.setIfInBounds_toArray, List.set_cons_zero, List.set_cons_succ]
                  first | (refine vtake_wanted 8 (v := ?_) rfl (by kernel_rfl) (by kernel_rfl) (by kernel_rfl) (fun _ _ _ h => h) (by rfl) (by assumption) ?_ ?_; rotate_left; focus (intro w hSw; (try dsimp only at hSw); go_simp; try with_reducible rfl)) | (refine vtake_not 8 rfl (by kernel_rfl) (by kernel_rfl) (by kernel_rfl) (fun _ _ _ h => h) (by rfl) (by assumption) ?_) | fail "take 8"
                  try simp only [Act.put, List.setIfInBounds_toArray, List.set_cons_zero, List.set_cons_succ]
                  first | (refine vtake_wanted 9 (v := ?_) rfl (by kernel_rfl) (by kernel_rfl) (by kernel_rfl) (fun _ _ _ h => h) (by rfl) (by assumption) ?_ ?_; rotate_left; focus (intro w hSw; (try dsimp only at hSw); go_simp; try with_reducible rfl)) | (refine vtake_not 9 rfl (by kernel_rfl) (by kernel_rfl) (by kernel_rfl) (fun _ _ _ h => h) (by rfl) (by assumption) ?_) | fail "take 9"
                  try simp only [Act.put, List.setIfInBounds_toArray, List.set_cons_zero, List.set_cons_succ]
                  first | (refine vtake_wanted 10 (v := ?_) rfl (by kernel_rfl) (by kernel_rfl) (by kernel_rfl) (fun _ _ _ h => h) (by rfl) (by assumption) ?_ ?_; rotate_left; focus (intro w hSw; (try dsimp only at hSw); go_simp; try with_reducible rfl)) | (refine vtake_not 10 rfl (by kernel_rfl) (by kernel_rfl) (by kernel_rfl) (fun _ _ _ h => h) (by rfl) (by assumption) ?_) | fail "take 10"
                  try simp only [Act.put, List.setIfInBounds_toArray, List.set_cons_zero, List.set_cons_succ]
                  first | (refine vtake_wanted 11 (v := ?_) rfl (by kernel_rfl) (by kernel_rfl) (by kernel_rfl) (fun _ _ _ h => h) (by rfl) (by assumption) ?_ ?_; rotate_left; focus (intro w hSw; (try dsimp only at hSw); go_simp; try with_reducible rfl)) | (refine vtake_not 11 rfl (by kernel_rfl) (by kernel_rfl) (by kernel_rfl) (fun _ _ _ h => h) (by rfl) (by assumption) ?_) | fail "take 11"
                  try simp only [Act.put, List.setIfInBounds_toArray, List.set_cons_zero, List.set_cons_succ]
                  first | (refine vtake_wanted 12 (v := ?_) rfl (by kernel_rfl) (by kernel_rfl) (by kernel_rfl) (fun _ _ _ h => h) (by rfl) (by assumption) ?_ ?_; rotate_left; focus (intro w hSw; (try dsimp only at hSw); go_simp; try with_reducible rfl)) | (refine vtake_not 12 rfl (by kernel_rfl) (by kernel_rfl) (by kernel_rfl) (fun _ _ _ h => h) (by rfl) (by assumption) ?_) | fail "take 12"
                  try simp only [Act.put, List.setIfInBounds_toArray, List.set_cons_zero, List.set_cons_succ]
                  first | (refine vtake_wanted 13 (v := ?_) rfl (by kernel_rfl) (by kernel_rfl) (by kernel_rfl) (fun _ _ _ h => h) (by rfl) (by assumption) ?_ ?_; rotate_left; focus (intro w hSw; (try dsimp only at hSw); go_simp; try with_reducible rfl)) | (refine vtake_not 13 rfl (by kernel_rfl) (by kernel_rfl) (by kernel_rfl) (fun _ _ _ h => h) (by rfl) (by assumption) ?_) | fail "take 13"
                  try simp only [Act.put, List.setIfInBounds_toArray, List.set_cons_zero, List.set_cons_succ]
                  first | (refine vtake_wanted 15 (v := ?_) rfl (by kernel_rfl) (by kernel_rfl) (by kernel_rfl) (fun _ _ _ h => h) (by rfl) (by assumption) ?_ ?_; rotate_left; focus (intro w hSw; (try dsimp only at hSw); go_simp; try with_reducible rfl)) | (refine vtake_not 15 rfl (by kernel_rfl) (by kernel_rfl) (by kernel_rfl) (fun _ _ _ h => h) (by rfl) (by assumption) ?_) | fail "take 15"
                  try simp only [Act.put, List.setIfInBounds_toArray, List.set_cons_zero, List.set_cons_succ]
                  first | (refine vtake_wanted 16 (v := ?_) rfl (by kernel_rfl) (by kernel_rfl) (by kernel_rfl) (fun _ _ _ h => h) (by rfl) (by assumption) ?_ ?_; rotate_left; focus (intro w hSw; (try dsimp only at hSw); go_simp; try with_reducible rfl)) | (refine vtake_not 16 rfl (by kernel_rfl) (by kernel_rfl) (by kernel_rfl) (fun _ _ _ h => h) (by rfl) (by assumption) ?_) | fail "take 16"
                  try simp only [Act.put, List.setIfInBounds_toArray, List.set_cons_zero, List.set_cons_succ]
                  first | (refine vtake_wanted 17 (v := ?_) rfl (by kernel_rfl) (by kernel_rfl) (by kernel_rfl) (fun _ _ _ h => h) (by rfl) (by assumption) ?_ ?_; rotate_left; focus (intro w hSw; (try dsimp only at hSw); go_simp; try with_reducible rfl)) | (refine vtake_not 17 rfl (by kernel_rfl) (by kernel_rfl) (by kernel_rfl) (fun _ _ _ h => h) (by rfl) (by assumption) ?_) | fail "take 17"
                  try simp only [Act.put, List.setIfInBounds_toArray, List.set_cons_zero, List.set_cons_succ]
                  first | (refine vtake_wanted 18 (v := ?_) rfl (by kernel_rfl) (by kernel_rfl) (by kernel_rfl) (fun _ _ _ h => h) (by rfl) (by assumption) ?_ ?_; rotate_left; focus (intro w hSw; (try dsimp only at hSw); go_simp; try with_reducible rfl)) | (refine vtake_not 18 rfl (by kernel_rfl) (by kernel_rfl) (by kernel_rfl) (fun _ _ _ h => h) (by rfl) (by assumption) ?_) | fail "take 18"
                  try simp only [Act.put, List.setIfInBounds_toArray, List.set_cons_zero, List.set_cons_succ]
                  refine vbranch_one 14 rfl (by kernel_rfl) (fun K hK => ?_)
                  go_simp
                  (go_at_call 14; refine (TW.spent R hT5).mono ?_; rintro o u6 ⟨rfl, hT6⟩)
                  refine hK.out _ _ ?_ (fun hHeld2 => ?_)
                  focus (first | exact (‹TW Is wr p (.slice a9 9 c9) (rotA k) (.pointer (some q)) x3 x3 _›).c3 | exact c35 | assumption)
                  clear hK K hHeld
                  try simp only [Act.put, List.setIfInBounds_toArray, List.set_cons_zero, List.set_cons_succ]
                  first | (refine vtake_wanted 19 (v := ?_) rfl (by kernel_rfl) (by kernel_rfl) (by kernel_rfl) (fun _ _ _ h => h) (by rfl) (by assumption) ?_ ?_; rotate_left; focus (intro w hSw; (try dsimp only at hSw); go_simp; try with_reducible rfl)) | (refine vtake_not 19 rfl (by kernel_rfl) (by kernel_rfl) (by kernel_rfl) (fun _ _ _ h => h) (by rfl) (by assumption) ?_) | fail "take 19"
                  try simp only [Act.put, List.setIfInBounds_toArray, List.set_cons_zero, List.set_cons_succ]
                  first | (refine vtake_wanted 20 (v := ?_) rfl (by kernel_rfl) (by kernel_rfl) (by kernel_rfl) (fun _ _ _ h => h) (by rfl) (by assumption) ?_ ?_; rotate_left; focus (intro w hSw; (try dsimp only at hSw); go_simp; try with_reducible rfl)) | (refine vtake_not 20 rfl (by kernel_rfl) (by kernel_rfl) (by kernel_rfl) (fun _ _ _ h => h) (by rfl) (by assumption) ?_) | fail "take 20"
                  try simp only [Act.put, List.setIfInBounds_toArray, List.set_cons_zero, List.set_cons_succ]
                  first | (refine vtake_wanted 21 (v := ?_) rfl (by kernel_rfl) (by kernel_rfl) (by kernel_rfl) (fun _ _ _ h => h) (by rfl) (by assumption) ?_ ?_; rotate_left; focus (intro w hSw; (try dsimp only at hSw); go_simp; try with_reducible rfl)) | (refine vtake_not 21 rfl (by kernel_rfl) (by kernel_rfl) (by kernel_rfl) (fun _ _ _ h => h) (by rfl) (by assumption) ?_) | fail "take 21"
                  try simp only [Act.put, List.setIfInBounds_toArray, List.set_cons_zero, List.set_cons_succ]
                  first | (refine vtake_wanted 22 (v := ?_) rfl (by kernel_rfl) (by kernel_rfl) (by kernel_rfl) (fun _ _ _ h => h) (by rfl) (by assumption) ?_ ?_; rotate_left; focus (intro w hSw; (try dsimp only at hSw); go_simp; try with_reducible rfl)) | (refine vtake_not 22 rfl (by kernel_rfl) (by kernel_rfl) (by kernel_rfl) (fun _ _ _ h => h) (by rfl) (by assumption) ?_) | fail "take 22"
                  try simp only [Act.put, List.setIfInBounds_toArray, List.set_cons_zero, List.set_cons_succ]
                  first | (refine vtake_wanted 23 (v := ?_) rfl (by kernel_rfl) (by kernel_rfl) (by kernel_rfl) (fun _ _ _ h => h) (by rfl) (by assumption) ?_ ?_; rotate_left; focus (intro w hSw; (try dsimp only at hSw); go_simp; try with_reducible rfl)) | (refine vtake_not 23 rfl (by kernel_rfl) (by kernel_rfl) (by kernel_rfl) (fun _ _ _ h => h) (by rfl) (by assumption) ?_) | fail "take 23"
                  try simp only [Act.put, List.setIfInBounds_toArray, List.set_cons_zero, List.set_cons_succ]
                  first | (refine vtake_wanted 24 (v := ?_) rfl (by kernel_rfl) (by kernel_rfl) (by kernel_rfl) (fun _ _ _ h => h) (by rfl) (by assumption) ?_ ?_; rotate_left; focus (intro w hSw; (try dsimp only at hSw); go_simp; try with_reducible rfl)) | (refine vtake_not 24 rfl (by kernel_rfl) (by kernel_rfl) (by kernel_rfl) (fun _ _ _ h => h) (by rfl) (by assumption) ?_) | fail "take 24"
                  try simp only [Act.put, List.setIfInBounds_toArray, List.set_cons_zero, List.set_cons_succ]
                  first | (refine vtake_wanted 25 (v := ?_) rfl (by kernel_rfl) (by kernel_rfl) (by kernel_rfl) (fun _ _ _ h => h) (by rfl) (by assumption) ?_ ?_; rotate_left; focus (intro w hSw; (try dsimp only at hSw); go_simp; try with_reducible rfl)) | (refine vtake_not 25 rfl (by kernel_rfl) (by kernel_rfl) (by kernel_rfl) (fun _ _ _ h => h) (by rfl) (by assumption) ?_) | fail "take 25"
                  try simp only [Act.put, List.setIfInBounds_toArray, List.set_cons_zero, List.set_cons_succ]
                  first | (refine vtake_wanted 26 (v := ?_) rfl (by kernel_rfl) (by kernel_rfl) (by kernel_rfl) (fun _ _ _ h => h) (by rfl) (by assumption) ?_ ?_; rotate_left; focus (intro w hSw; (try dsimp only at hSw); go_simp; try with_reducible rfl)) | (refine vtake_not 26 rfl (by kernel_rfl) (by kernel_rfl) (by kernel_rfl) (fun _ _ _ h => h) (by rfl) (by assumption) ?_) | fail "take 26"
                  try simp only [Act.put, List.setIfInBounds_toArray, List.set_cons_zero, List.set_cons_succ]
                  first | (refine vtake_wanted 27 (v := ?_) rfl (by kernel_rfl) (by kernel_rfl) (by kernel_rfl) (fun _ _ _ h => h) (by rfl) (by assumption) ?_ ?_; rotate_left; focus (intro w hSw; (try dsimp only at hSw); go_simp; try with_reducible rfl)) | (refine vtake_not 27 rfl (by kernel_rfl) (by kernel_rfl) (by kernel_rfl) (fun _ _ _ h => h) (by rfl) (by assumption) ?_) | fail "take 27"
                  try simp only [Act.put, List.setIfInBounds_toArray, List.set_cons_zero, List.set_cons_succ]
                  first | (refine vtake_wanted 28 (v := ?_) rfl (by kernel_rfl) (by kernel_rfl) (by kernel_rfl) (fun _ _ _ h => h) (by rfl) (by assumption) ?_ ?_; rotate_left; focus (intro w hSw; (try dsimp only at hSw); go_simp; try with_reducible rfl)) | (refine vtake_not 28 rfl (by kernel_rfl) (by kernel_rfl) (by kernel_rfl) (fun _ _ _ h => h) (by rfl) (by assumption) ?_) | fail "take 28"
                  try simp only [Act.put, List.setIfInBounds_toArray, List.set_cons_zero, List.set_cons_succ]
                  first | (refine vtake_wanted 29 (v := ?_) rfl (by kernel_rfl) (by kernel_rfl) (by kernel_rfl) (fun _ _ _ h => h) (by rfl) (by assumption) ?_ ?_; rotate_left; focus (intro w hSw; (try dsimp only at hSw); go_simp; try with_reducible rfl)) | (refine vtake_not 29 rfl (by kernel_rfl) (by kernel_rfl) (by kernel_rfl) (fun _ _ _ h => h) (by rfl) (by assumption) ?_) | fail "take 29"
                  try simp only [Act.put, List.setIfInBounds_toArray, List.set_cons_zero, List.set_cons_succ]
                  refine wpAnyH_done (by kernel_rfl) ?_ _
                  clear hHeld2
                  all_goals
                    have H6 := Lib.hid hT6
                    have HVT := Lib.hid (HV1x.out.turned S HV1x.out.since.size (HBW.out.trans (H6.out.since.mono HBW.out.size)))
                    go_wp2_with fail
                    refine (vnormAt S tt (normL tt) _ rfl rfl (by omega) HVT.out).mono ?_
                    rintro e w7 ⟨rfl, hv7, hb7⟩
                    have H7 := Lib.hid (H6.out.other R hb7)
                    have HV7 := Lib.hid hv7
                    clear hv7 hb7 HVT
                    go_wp2_with fail
                    refine (rnorm_any tt _ (by omega)).mono ?_
                    rintro e w8 ⟨rfl, rfl⟩
                    go_wp2_with fail
                    refine (vtextAt S tt (escL false tt) _ rfl rfl (by omega) HV7.out).mono ?_
                    rintro e w9 ⟨rfl, hv9, hb9⟩
                    have H9 := Lib.hid (H7.out.other R hb9)
                    have HV9 := Lib.hid hv9
                    clear hv9 hb9 HV7
                    go_wp2_with fail
                    refine (resc_false tt _ (by omega)).mono ?_
                    rintro e w10 ⟨rfl, rfl⟩
                    go_wp2_with fail
                    refine (vattrAt S tt (escL true tt) _ rfl rfl (by omega) HV9.out).mono ?_
                    rintro e w11 ⟨rfl, hv11, hb11⟩
                    have H11 := Lib.hid (H9.out.other R hb11)
                    clear hv11 hb11 HV9
                    go_wp2_with fail
                    refine (resc_true tt _ (by omega)).mono ?_
                    rintro e w12 ⟨rfl, rfl⟩
                    go_wp2
                    go_roundw
                    case rel => exact ⟨tn + 1, sl, by omega, by go_num, rfl, by omega, Lib.hid (HBW.out.trans (H11.out.since.mono HBW.out.size))⟩
                    case measure => simp [intOf]; omega
                · go_wp2_with fail
                  try simp only [List.append_eq, List.cons_append, List.nil_append] at *
                  refine wp_region_held_drew (S := (fun W => W.cell? ⟨p, 3, none⟩ = some (.int .i64 (x3.n : Int)))) (by kernel_rfl) (by (first | exact (‹TW Is wr p (.slice a9 9 c9) (rotA k) (.pointer (some q)) x3 x3 _›).c3 | exact c35 | assumption)) (fun hHeld => ?_)
                  first | (refine vtake_wanted 0 (v := ?_) rfl (by kernel_rfl) (by kernel_rfl) (by kernel_rfl) (fun _ _ _ h => h) (by rfl) (by assumption) ?_ ?_; rotate_left; focus (intro w hSw; (try dsimp only at hSw); go_simp; try with_reducible rfl)) | (refine vtake_not 0 rfl (by kernel_rfl) (by kernel_rfl) (by kernel_rfl) (fun _ _ _ h => h) (by rfl) (by assumption) ?_) | fail "take 0"
                  try simp only [Act.put, List.setIfInBounds_toArray, List.set_cons_zero, List.set_cons_succ]
                  first | (refine vtake_wanted 1 (v := ?_) rfl (by kernel_rfl) (by kernel_rfl) (by kernel_rfl) (fun _ _ _ h => h) (by rfl) (by assumption) ?_ ?_; rotate_left; focus (intro w hSw; (try dsimp only at hSw); go_simp; try with_reducible rfl)) | (refine vtake_not 1 rfl (by kernel_rfl) (by kernel_rfl) (by kernel_rfl) (fun _ _ _ h => h) (by rfl) (by assumption) ?_) | fail "take 1"
                  try simp only [Act.put, List.setIfInBounds_toArray, List.set_cons_zero, List.set_cons_succ]
                  first | (refine vtake_wanted 2 (v := ?_) rfl (by kernel_rfl) (by kernel_rfl) (by kernel_rfl) (fun _ _ _ h => h) (by rfl) (by assumption) ?_ ?_; rotate_left; focus (intro w hSw; (try dsimp only at hSw); go_simp; try with_reducible rfl)) | (refine vtake_not 2 rfl (by kernel_rfl) (by kernel_rfl) (by kernel_rfl) (fun _ _ _ h => h) (by rfl) (by assumption) ?_) | fail "take 2"
                  try simp only [Act.put, List.setIfInBounds_toArray, List.set_cons_zero, List.set_cons_succ]
                  first | (refine vtake_wanted 3 (v := ?_) rfl (by kernel_rfl) (by kernel_rfl) (by kernel_rfl) (fun _ _ _ h => h) (by rfl) (by assumption) ?_ ?_; rotate_left; focus (intro w hSw; (try dsimp only at hSw); go_simp; try with_reducible rfl)) | (refine vtake_not 3 rfl (by kernel_rfl) (by kernel_rfl) (by kernel_rfl) (fun _ _ _ h => h) (by rfl) (by assumption) ?_) | fail "take 3"
                  try simp only [Act.put, List.setIfInBounds_toArray, List.set_cons_zero, List.set_cons_succ]
                  first | (refine vtake_wanted 4 (v := ?_) rfl (by kernel_rfl) (by kernel_rfl) (by kernel_rfl) (fun _ _ _ h => h) (by rfl) (by assumption) ?_ ?_; rotate_left; focus (intro w hSw; (try dsimp only at hSw); go_simp; try with_reducible rfl)) | (refine vtake_not 4 rfl (by kernel_rfl) (by kernel_rfl) (by kernel_rfl) (fun _ _ _ h => h) (by rfl) (by assumption) ?_) | fail "take 4"
                  try simp only [Act.put, List.setIfInBounds_toArray, List.set_cons_zero, List.set_cons_succ]
                  first | (refine vtake_wanted 5 (v := ?_) rfl (by kernel_rfl) (by kernel_rfl) (by kernel_rfl) (fun _ _ _ h => h) (by rfl) (by assumption) ?_ ?_; rotate_left; focus (intro w hSw; (try dsimp only at hSw); go_simp; try with_reducible rfl)) | (refine vtake_not 5 rfl (by kernel_rfl) (by kernel_rfl) (by kernel_rfl) (fun _ _ _ h => h) (by rfl) (by assumption) ?_) | fail "take 5"
                  try simp only [Act.put, List.setIfInBounds_toArray, List.set_cons_zero, List.set_cons_succ]
                  first | (refine vtake_wanted 6 (v := ?_) rfl (by kernel_rfl) (by kernel_rfl) (by kernel_rfl) (fun _ _ _ h => h) (by rfl) (by assumption) ?_ ?_; rotate_left; focus (intro w hSw; (try dsimp only at hSw); go_simp; try with_reducible rfl)) | (refine vtake_not 6 rfl (by kernel_rfl) (by kernel_rfl) (by kernel_rfl) (fun _ _ _ h => h) (by rfl) (by assumption) ?_) | fail "take 6"
                  try simp only [Act.put, List.setIfInBounds_toArray, List.set_cons_zero, List.set_cons_succ]
                  first | (refine vtake_wanted 7 (v := ?_) rfl (by kernel_rfl) (by kernel_rfl) (by kernel_rfl) (fun _ _ _ h => h) (by rfl) (by assumption) ?_ ?_; rotate_left; focus (intro w hSw; (try dsimp only at hSw); go_simp; try with_reducible rfl)) | (refine vtake_not 7 rfl (by kernel_rfl) (by kernel_rfl) (by kernel_rfl) (fun _ _ _ h => h) (by rfl) (by assumption) ?_) | fail "take 7"
                  try simp only [Act.put, List.setIfInBounds_toArray, List.set_cons_zero, List.set_cons_succ]
                  first | (refine vtake_wanted 8 (v := ?_) rfl (by kernel_rfl) (by kernel_rfl) (by kernel_rfl) (fun _ _ _ h => h) (by rfl) (by assumption) ?_ ?_; rotate_left; focus (intro w hSw; (try dsimp only at hSw); go_simp; try with_reducible rfl)) | (refine vtake_not 8 rfl (by kernel_rfl) (by kernel_rfl) (by kernel_rfl) (fun _ _ _ h => h) (by rfl) (by assumption) ?_) | fail "take 8"
                  try simp only [Act.put, List.setIfInBounds_toArray, List.set_cons_zero, List.set_cons_succ]
                  first | (refine vtake_wanted 9 (v := ?_) rfl (by kernel_rfl) (by kernel_rfl) (by kernel_rfl) (fun _ _ _ h => h) (by rfl) (by assumption) ?_ ?_; rotate_left; focus (intro w hSw; (try dsimp only at hSw); go_simp; try with_reducible rfl)) | (refine vtake_not 9 rfl (by kernel_rfl) (by kernel_rfl) (by kernel_rfl) (fun _ _ _ h => h) (by rfl) (by assumption) ?_) | fail "take 9"
                  try simp only [Act.put, List.setIfInBounds_toArray, List.set_cons_zero, List.set_cons_succ]
                  first | (refine vtake_wanted 10 (v := ?_) rfl (by kernel_rfl) (by kernel_rfl) (by kernel_rfl) (fun _ _ _ h => h) (by rfl) (by assumption) ?_ ?_; rotate_left; focus (intro w hSw; (try dsimp only at hSw); go_simp; try with_reducible rfl)) | (refine vtake_not 10 rfl (by kernel_rfl) (by kernel_rfl) (by kernel_rfl) (fun _ _ _ h => h) (by rfl) (by assumption) ?_) | fail "take 10"
                  try simp only [Act.put, List.setIfInBounds_toArray, List.set_cons_zero, List.set_cons_succ]
                  first | (refine vtake_wanted 11 (v := ?_) rfl (by kernel_rfl) (by kernel_rfl) (by kernel_rfl) (fun _ _ _ h => h) (by rfl) (by assumption) ?_ ?_; rotate_left; focus (intro w hSw; (try dsimp only at hSw); go_simp; try with_reducible rfl)) | (refine vtake_not 11 rfl (by kernel_rfl) (by kernel_rfl) (by kernel_rfl) (fun _ _ _ h => h) (by rfl) (by assumption) ?_) | fail "take 11"
                  try simp only [Act.put, List.setIfInBounds_toArray, List.set_cons_zero, List.set_cons_succ]
                  first | (refine vtake_wanted 12 (v := ?_) rfl (by kernel_rfl) (by kernel_rfl) (by kernel_rfl) (fun _ _ _ h => h) (by rfl) (by assumption) ?_ ?_; rotate_left; focus (intro w hSw; (try dsimp only at hSw); go_simp; try with_reducible rfl)) | (refine vtake_not 12 rfl (by kernel_rfl) (by kernel_rfl) (by kernel_rfl) (fun _ _ _ h => h) (by rfl) (by assumption) ?_) | fail "take 12"
                  try simp only [Act.put, List.setIfInBounds_toArray, List.set_cons_zero, List.set_cons_succ]
                  first | (refine vtake_wanted 13 (v := ?_) rfl (by kernel_rfl) (by kernel_rfl) (by kernel_rfl) (fun _ _ _ h => h) (by rfl) (by assumption) ?_ ?_; rotate_left; focus (intro w hSw; (try dsimp only at hSw); go_simp; try with_reducible rfl)) | (refine vtake_not 13 rfl (by kernel_rfl) (by kernel_rfl) (by kernel_rfl) (fun _ _ _ h => h) (by rfl) (by assumption) ?_) | fail "take 13"
                  try simp only [Act.put, List.setIfInBounds_toArray, List.set_cons_zero, List.set_cons_succ]
                  first | (refine vtake_wanted 15 (v := ?_) rfl (by kernel_rfl) (by kernel_rfl) (by kernel_rfl) (fun _ _ _ h => h) (by rfl) (by assumption) ?_ ?_; rotate_left; focus (intro w hSw; (try dsimp only at hSw); go_simp; try with_reducible rfl)) | (refine vtake_not 15 rfl (by kernel_rfl) (by kernel_rfl) (by kernel_rfl) (fun _ _ _ h => h) (by rfl) (by assumption) ?_) | fail "take 15"
                  try simp only [Act.put, List.setIfInBounds_toArray, List.set_cons_zero, List.set_cons_succ]
                  first | (refine vtake_wanted 16 (v := ?_) rfl (by kernel_rfl) (by kernel_rfl) (by kernel_rfl) (fun _ _ _ h => h) (by rfl) (by assumption) ?_ ?_; rotate_left; focus (intro w hSw; (try dsimp only at hSw); go_simp; try with_reducible rfl)) | (refine vtake_not 16 rfl (by kernel_rfl) (by kernel_rfl) (by kernel_rfl) (fun _ _ _ h => h) (by rfl) (by assumption) ?_) | fail "take 16"
                  try simp only [Act.put, List.setIfInBounds_toArray, List.set_cons_zero, List.set_cons_succ]
                  first | (refine vtake_wanted 17 (v := ?_) rfl (by kernel_rfl) (by kernel_rfl) (by kernel_rfl) (fun _ _ _ h => h) (by rfl) (by assumption) ?_ ?_; rotate_left; focus (intro w hSw; (try dsimp only at hSw); go_simp; try with_reducible rfl)) | (refine vtake_not 17 rfl (by kernel_rfl) (by kernel_rfl) (by kernel_rfl) (fun _ _ _ h => h) (by rfl) (by assumption) ?_) | fail "take 17"
                  try simp only [Act.put, List.setIfInBounds_toArray, List.set_cons_zero, List.set_cons_succ]
                  first | (refine vtake_wanted 18 (v := ?_) rfl (by kernel_rfl) (by kernel_rfl) (by kernel_rfl) (fun _ _ _ h => h) (by rfl) (by assumption) ?_ ?_; rotate_left; focus (intro w hSw; (try dsimp only at hSw); go_simp; try with_reducible rfl)) | (refine vtake_not 18 rfl (by kernel_rfl) (by kernel_rfl) (by kernel_rfl) (fun _ _ _ h => h) (by rfl) (by assumption) ?_) | fail "take 18"
                  try simp only [Act.put, List.setIfInBounds_toArray, List.set_cons_zero, List.set_cons_succ]
                  refine vbranch_one 14 rfl (by kernel_rfl) (fun K hK => ?_)
                  go_simp
                  (go_at_call 14; refine (TW.spent R hT5).mono ?_; rintro o u6 ⟨rfl, hT6⟩)
                  refine hK.out _ _ ?_ (fun hHeld2 => ?_)
                  focus (first | exact (‹TW Is wr p (.slice a9 9 c9) (rotA k) (.pointer (some q)) x3 x3 _›).c3 | exact c35 | assumption)
                  clear hK K hHeld
                  try simp only [Act.put, List.setIfInBounds_toArray, List.set_cons_zero, List.set_cons_succ]
                  first | (refine vtake_wanted 19 (v := ?_) rfl (by kernel_rfl) (by kernel_rfl) (by kernel_rfl) (fun _ _ _ h => h) (by rfl) (by assumption) ?_ ?_; rotate_left; focus (intro w hSw; (try dsimp only at hSw); go_simp; try with_reducible rfl)) | (refine vtake_not 19 rfl (by kernel_rfl) (by kernel_rfl) (by kernel_rfl) (fun _ _ _ h => h) (by rfl) (by assumption) ?_) | fail "take 19"
                  try simp only [Act.put, List.setIfInBounds_toArray, List.set_cons_zero, List.set_cons_succ]
                  first | (refine vtake_wanted 20 (v := ?_) rfl (by kernel_rfl) (by kernel_rfl) (by kernel_rfl) (fun _ _ _ h => h) (by rfl) (by assumption) ?_ ?_; rotate_left; focus (intro w hSw; (try dsimp only at hSw); go_simp; try with_reducible rfl)) | (refine vtake_not 20 rfl (by kernel_rfl) (by kernel_rfl) (by kernel_rfl) (fun _ _ _ h => h) (by rfl) (by assumption) ?_) | fail "take 20"
                  try simp only [Act.put, List.setIfInBounds_toArray, List.set_cons_zero, List.set_cons_succ]
                  first | (refine vtake_wanted 21 (v := ?_) rfl (by kernel_rfl) (by kernel_rfl) (by kernel_rfl) (fun _ _ _ h => h) (by rfl) (by assumption) ?_ ?_; rotate_left; focus (intro w hSw; (try dsimp only at hSw); go_simp; try with_reducible rfl)) | (refine vtake_not 21 rfl (by kernel_rfl) (by kernel_rfl) (by kernel_rfl) (fun _ _ _ h => h) (by rfl) (by assumption) ?_) | fail "take 21"
                  try simp only [Act.put, List.setIfInBounds_toArray, List.set_cons_zero, List.set_cons_succ]
                  first | (refine vtake_wanted 22 (v := ?_) rfl (by kernel_rfl) (by kernel_rfl) (by kernel_rfl) (fun _ _ _ h => h) (by rfl) (by assumption) ?_ ?_; rotate_left; focus (intro w hSw; (try dsimp only at hSw); go_simp; try with_reducible rfl)) | (refine vtake_not 22 rfl (by kernel_rfl) (by kernel_rfl) (by kernel_rfl) (fun _ _ _ h => h) (by rfl) (by assumption) ?_) | fail "take 22"
                  try simp only [Act.put, List.setIfInBounds_toArray, List.set_cons_zero, List.set_cons_succ]
                  first | (refine vtake_wanted 23 (v := ?_) rfl (by kernel_rfl) (by kernel_rfl) (by kernel_rfl) (fun _ _ _ h => h) (by rfl) (by assumption) ?_ ?_; rotate_left; focus (intro w hSw; (try dsimp only at hSw); go_simp; try with_reducible rfl)) | (refine vtake_not 23 rfl (by kernel_rfl) (by kernel_rfl) (by kernel_rfl) (fun _ _ _ h => h) (by rfl) (by assumption) ?_) | fail "take 23"
                  try simp only [Act.put, List.setIfInBounds_toArray, List.set_cons_zero, List.set_cons_succ]
                  first | (refine vtake_wanted 24 (v := ?_) rfl (by kernel_rfl) (by kernel_rfl) (by kernel_rfl) (fun _ _ _ h => h) (by rfl) (by assumption) ?_ ?_; rotate_left; focus (intro w hSw; (try dsimp only at hSw); go_simp; try with_reducible rfl)) | (refine vtake_not 24 rfl (by kernel_rfl) (by kernel_rfl) (by kernel_rfl) (fun _ _ _ h => h) (by rfl) (by assumption) ?_) | fail "take 24"
                  try simp only [Act.put, List.setIfInBounds_toArray, List.set_cons_zero, List.set_cons_succ]
                  first | (refine vtake_wanted 25 (v := ?_) rfl (by kernel_rfl) (by kernel_rfl) (by kernel_rfl) (fun _ _ _ h => h) (by rfl) (by assumption) ?_ ?_; rotate_left; focus (intro w hSw; (try dsimp only at hSw); go_simp; try with_reducible rfl)) | (refine vtake_not 25 rfl (by kernel_rfl) (by kernel_rfl) (by kernel_rfl) (fun _ _ _ h => h) (by rfl) (by assumption) ?_) | fail "take 25"
                  try simp only [Act.put, List.setIfInBounds_toArray, List.set_cons_zero, List.set_cons_succ]
                  first | (refine vtake_wanted 26 (v := ?_) rfl (by kernel_rfl) (by kernel_rfl) (by kernel_rfl) (fun _ _ _ h => h) (by rfl) (by assumption) ?_ ?_; rotate_left; focus (intro w hSw; (try dsimp only at hSw); go_simp; try with_reducible rfl)) | (refine vtake_not 26 rfl (by kernel_rfl) (by kernel_rfl) (by kernel_rfl) (fun _ _ _ h => h) (by rfl) (by assumption) ?_) | fail "take 26"
                  try simp only [Act.put, List.setIfInBounds_toArray, List.set_cons_zero, List.set_cons_succ]
                  first | (refine vtake_wanted 27 (v := ?_) rfl (by kernel_rfl) (by kernel_rfl) (by kernel_rfl) (fun _ _ _ h => h) (by rfl) (by assumption) ?_ ?_; rotate_left; focus (intro w hSw; (try dsimp only at hSw); go_simp; try with_reducible rfl)) | (refine vtake_not 27 rfl (by kernel_rfl) (by kernel_rfl) (by kernel_rfl) (fun _ _ _ h => h) (by rfl) (by assumption) ?_) | fail "take 27"
                  try simp only [Act.put, List.setIfInBounds_toArray, List.set_cons_zero, List.set_cons_succ]
                  first | (refine vtake_wanted 28 (v := ?_) rfl (by kernel_rfl) (by kernel_rfl) (by kernel_rfl) (fun _ _ _ h => h) (by rfl) (by assumption) ?_ ?_; rotate_left; focus (intro w hSw; (try dsimp only at hSw); go_simp; try with_reducible rfl)) | (refine vtake_not 28 rfl (by kernel_rfl) (by kernel_rfl) (by kernel_rfl) (fun _ _ _ h => h) (by rfl) (by assumption) ?_) | fail "take 28"
                  try simp only [Act.put, List.setIfInBounds_toArray, List.set_cons_zero, List.set_cons_succ]
                  first | (refine vtake_wanted 29 (v := ?_) rfl (by kernel_rfl) (by kernel_rfl) (by kernel_rfl) (fun _ _ _ h => h) (by rfl) (by assumption) ?_ ?_; rotate_left; focus (intro w hSw; (try dsimp only at hSw); go_simp; try with_reducible rfl)) | (refine vtake_not 29 rfl (by kernel_rfl) (by kernel_rfl) (by kernel_rfl) (fun _ _ _ h => h) (by rfl) (by assumption) ?_) | fail "take 29"
                  try simp only [Act.put, List.setIfInBounds_toArray, List.set_cons_zero, List.set_cons_succ]
                  refine wpAnyH_done (by kernel_rfl) ?_ _
                  clear hHeld2
                  all_goals
                    have H6 := Lib.hid hT6
                    have HVT := Lib.hid (HV1x.out.turned S HV1x.out.since.size (HBW.out.trans (H6.out.since.mono HBW.out.size)))
                    go_wp2_with fail
                    refine (vnormAt S tt (normL tt) _ rfl rfl (by omega) HVT.out).mono ?_
                    rintro e w7 ⟨rfl, hv7, hb7⟩
                    have H7 := Lib.hid (H6.out.other R hb7)
                    have HV7 := Lib.hid hv7
                    clear hv7 hb7 HVT
                    go_wp2_with fail
                    refine (rnorm_any tt _ (by omega)).mono ?_
                    rintro e w8 ⟨rfl, rfl⟩
                    go_wp2_with fail
                    refine (vtextAt S tt (escL false tt) _ rfl rfl (by omega) HV7.out).mono ?_
                    rintro e w9 ⟨rfl, hv9, hb9⟩
                    have H9 := Lib.hid (H7.out.other R hb9)
                    have HV9 := Lib.hid hv9
                    clear hv9 hb9 HV7
                    go_wp2_with fail
                    refine (resc_false tt _ (by omega)).mono ?_
                    rintro e w10 ⟨rfl, rfl⟩
                    go_wp2_with fail
                    refine (vattrAt S tt (escL true tt) _ rfl rfl (by omega) HV9.out).mono ?_
                    rintro e w11 ⟨rfl, hv11, hb11⟩
                    have H11 := Lib.hid (H9.out.other R hb11)
                    clear hv11 hb11 HV9
                    go_wp2_with fail
                    refine (resc_true tt _ (by omega)).mono ?_
                    rintro e w12 ⟨rfl, rfl⟩
                    go_wp2
                    go_roundw
                    case rel => exact ⟨tn + 1, sl, by omega, by go_num, rfl, by omega, Lib.hid (HBW.out.trans (H11.out.since.mono HBW.out.size))⟩
                    case measure => simp [intOf]; omega
            · have hp2 : (wr.drew.alloc (.cells #[.string ⟨#[]⟩, .slice a9 9 c9, .slice none 0 0, .int .i64 0, .slice none 0 0] 40)).rowIs wr.drew.heap.size 40 5 (fM (.slice a9 9 c9) 0 (.slice none 0 0)) := World.rowIs_alloc wr.drew #[.string ⟨#[]⟩, .slice a9 9 c9, .slice none 0 0, .int .i64 0, .slice none 0 0] 40 _ (by
                intro i hi
                rcases (show i = 0 ∨ i = 1 ∨ i = 2 ∨ i = 3 ∨ i = 4 by have : i < 5 := hi; omega) with rfl | rfl | rfl | rfl | rfl <;> rfl)
              obtain ⟨F, hi, hF⟩ := h.is
              have hsz1 : (wr.drew.alloc (.cells #[.string ⟨#[]⟩, .slice a9 9 c9, .slice none 0 0, .int .i64 0, .slice none 0 0] 40)).heap.size = wr.heap.size + 1 := by show (Array.push _ _).size = _; rw [Array.size_push]; rfl
              have HTM : Hid (TM Is wr wr.heap.size (.slice a9 9 c9) (.pointer (some q)) (ref0 (rotA k)) u) := Lib.hid ⟨⟨F, hi, fun k' hk' => by have := hF k' hk'; omega, fun hk' => by have := hF _ hk'; omega⟩, hp2.of_block (h.since.block _ hp2.lt), Nat.le_refl _, hS2.since⟩
              clear hi hF hsz1 hS2 h
              obtain ⟨p, hp⟩ : ∃ p, wr.heap.size = p := ⟨_, rfl⟩
              rw [hp] at HTM ⊢
              clear hp
              clear hp2
              obtain ⟨c, hcr⟩ : ∃ c, readV 9 (ref0 (rotA k)) tt (wrap64 (1 + bits BinOp.and IntKind.i64 kind 1)) most = c := ⟨_, rfl⟩
              have hfk : FitsR (wrap64 (1 + bits BinOp.and IntKind.i64 kind 1)) := by unfold FitsR wrap64; omega
              have HVT := Lib.hid (HV1x.out.turned S HV1x.out.since.size (HBW.out.trans (HTM.out.since.mono HBW.out.size)))
              have CRD := Lib.hid (two_read S HTM.out HVT.out.e (Nat.le_trans HV1x.out.n_le HBW.out.size) (rot_short k hk9 tt (by omega) most) hfk hm HEN2.out)
              have hpge := HTM.out.ge
              have HOPN := Lib.hid (readV_opened (D := 9) (r := ref0 (rotA k)) (raw := tt) (kind := wrap64 (1 + bits BinOp.and IntKind.i64 kind 1)) (most := most))
              have hcode := readV_code 9 (ref0 (rotA k)) tt (wrap64 (1 + bits BinOp.and IntKind.i64 kind 1)) most
              rw [hcr] at CRD HOPN hcode
              obtain ⟨x1, x2, x3⟩ := c
              go_wp2_with fail
              refine CRD.out.mono ?_
              rintro e w4 ⟨rfl, h4⟩
              have CVL := Lib.hid (two_val R h4 hpge (rot_fine k hk9 tt (by omega) most) (kind := wrap64 (1 + bits BinOp.and IntKind.i64 kind 1)))
              rw [hcr] at CVL
              clear h4 CRD hcr HVT HTM
              go_wp2_with fail
              refine CVL.out.mono ?_
              rintro e w5 ⟨rfl, h5⟩
              have hT5 : TW Is wr p (.slice a9 9 c9) (rotA k) (.pointer (some q)) x3 x3 w5.drew := (show TW Is wr p (.slice a9 9 c9) (rotA k) (.pointer (some q)) x3 x3 w5 from h5).other R (Below.refl _ _).drew
              clear h5 CVL
              have q1 : (x2 != x2) = false := by simp
              have q2 : ((x3.n : Int) != (x3.n : Int)) = false := by simp
              have c35 := hT5.c3
              by_cases hx0 : x2 = 0
              · subst hx0
                have hop : x3.opened = [] := HOPN.out rfl
                clear HOPN
                go_wp2_with fail
                go_region_held3 (fun W => W.cell? ⟨p, 3, none⟩ = some (.int .i64 (x3.n : Int)))
                  (first | exact (‹TW Is wr p (.slice a9 9 c9) (rotA k) (.pointer (some q)) x3 x3 _›).c3 | exact c35 | assumption)
                  (first | (go_at_call 14; refine (TW.spent R hT5).mono ?_; rintro o u6 ⟨rfl, hT6⟩) | (go_at_call 15; refine (TW.depth R hT6 hop).mono ?_; rintro o u7 ⟨rfl, hT7⟩))
                all_goals
                  have H6 := Lib.hid hT7
                  have HVT := Lib.hid (HV1x.out.turned S HV1x.out.since.size (HBW.out.trans (H6.out.since.mono HBW.out.size)))
                  go_wp2_with fail
                  refine (vnormAt S tt (normL tt) _ rfl rfl (by omega) HVT.out).mono ?_
                  rintro e w7 ⟨rfl, hv7, hb7⟩
                  have H7 := Lib.hid (H6.out.other R hb7)
                  have HV7 := Lib.hid hv7
                  clear hv7 hb7 HVT
                  go_wp2_with fail
                  refine (rnorm_any tt _ (by omega)).mono ?_
                  rintro e w8 ⟨rfl, rfl⟩
                  go_wp2_with fail
                  refine (vtextAt S tt (escL false tt) _ rfl rfl (by omega) HV7.out).mono ?_
                  rintro e w9 ⟨rfl, hv9, hb9⟩
                  have H9 := Lib.hid (H7.out.other R hb9)
                  have HV9 := Lib.hid hv9
                  clear hv9 hb9 HV7
                  go_wp2_with fail
                  refine (resc_false tt _ (by omega)).mono ?_
                  rintro e w10 ⟨rfl, rfl⟩
                  go_wp2_with fail
                  refine (vattrAt S tt (escL true tt) _ rfl rfl (by omega) HV9.out).mono ?_
                  rintro e w11 ⟨rfl, hv11, hb11⟩
                  have H11 := Lib.hid (H9.out.other R hb11)
                  clear hv11 hb11 HV9
                  go_wp2_with fail
                  refine (resc_true tt _ (by omega)).mono ?_
                  rintro e w12 ⟨rfl, rfl⟩
                  go_wp2
                  go_roundw
                  case rel => exact ⟨tn + 1, sl, by omega, by go_num, rfl, by omega, Lib.hid (HBW.out.trans (H11.out.since.mono HBW.out.size))⟩
                  case measure => simp [intOf]; omega
              · have hc2 : x2 = 2 ∨ x2 = 3 := hcode.resolve_left hx0
                clear hx0 HOPN hcode
                rcases hc2 with rfl | rfl
                · go_wp2_with fail
                  try simp only [List.append_eq, List.cons_append, List.nil_append] at *
                  refine wp_region_held_drew (S := (fun W => W.cell? ⟨p, 3, none⟩ = some (.int .i64 (x3.n : Int)))) (by kernel_rfl) (by (first | exact (‹TW Is wr p (.slice a9 9 c9) (rotA k) (.pointer (some q)) x3 x3 _›).c3 | exact c35 | assumption)) (fun hHeld => ?_)
                  first | (refine vtake_wanted 0 (v := ?_) rfl (by kernel_rfl) (by kernel_rfl) (by kernel_rfl) (fun _ _ _ h => h) (by rfl) (by assumption) ?_ ?_; rotate_left; focus (intro w hSw; (try dsimp only at hSw); go_simp; try with_reducible rfl)) | (refine vtake_not 0 rfl (by kernel_rfl) (by kernel_rfl) (by kernel_rfl) (fun _ _ _ h => h) (by rfl) (by assumption) ?_) | fail "take 0"
                  try simp only [Act.put, List.setIfInBounds_toArray, List.set_cons_zero, List.set_cons_succ]
                  first | (refine vtake_wanted 1 (v := ?_) rfl (by kernel_rfl) (by kernel_rfl) (by kernel_rfl) (fun _ _ _ h => h) (by rfl) (by assumption) ?_ ?_; rotate_left; focus (intro w hSw; (try dsimp only at hSw); go_simp; try with_reducible rfl)) | (refine vtake_not 1 rfl (by kernel_rfl) (by kernel_rfl) (by kernel_rfl) (fun _ _ _ h => h) (by rfl) (by assumption) ?_) | fail "take 1"
                  try simp only [Act.put, List.setIfInBounds_toArray, List.set_cons_zero, List.set_cons_succ]
                  first | (refine vtake_wanted 2 (v := ?_) rfl (by kernel_rfl) (by kernel_rfl) (by kernel_rfl) (fun _ _ _ h => h) (by rfl) (by assumption) ?_ ?_; rotate_left; focus (intro w hSw; (try dsimp only at hSw); go_simp; try with_reducible rfl)) | (refine vtake_not 2 rfl (by kernel_rfl) (by kernel_rfl) (by kernel_rfl) (fun _ _ _ h => h) (by rfl) (by assumption) ?_) | fail "take 2"
                  try simp only [Act.put, List.setIfInBounds_toArray, List.set_cons_zero, List.set_cons_succ]
                  first | (refine vtake_wanted 3 (v := ?_) rfl (by kernel_rfl) (by kernel_rfl) (by kernel_rfl) (fun _ _ _ h => h) (by rfl) (by assumption) ?_ ?_; rotate_left; focus (intro w hSw; (try dsimp only at hSw); go_simp; try with_reducible rfl)) | (refine vtake_not 3 rfl (by kernel_rfl) (by kernel_rfl) (by kernel_rfl) (fun _ _ _ h => h) (by rfl) (by assumption) ?_) | fail "take 3"
                  try simp only [Act.put, List.setIfInBounds_toArray, List.set_cons_zero, List.set_cons_succ]
                  first | (refine vtake_wanted 4 (v := ?_) rfl (by kernel_rfl) (by kernel_rfl) (by kernel_rfl) (fun _ _ _ h => h) (by rfl) (by assumption) ?_ ?_; rotate_left; focus (intro w hSw; (try dsimp only at hSw); go_simp; try with_reducible rfl)) | (refine vtake_not 4 rfl (by kernel_rfl) (by kernel_rfl) (by kernel_rfl) (fun _ _ _ h => h) (by rfl) (by assumption) ?_) | fail "take 4"
                  try simp only [Act.put, List.setIfInBounds_toArray, List.set_cons_zero, List.set_cons_succ]
                  first | (refine vtake_wanted 5 (v := ?_) rfl (by kernel_rfl) (by kernel_rfl) (by kernel_rfl) (fun _ _ _ h => h) (by rfl) (by assumption) ?_ ?_; rotate_left; focus (intro w hSw; (try dsimp only at hSw); go_simp; try with_reducible rfl)) | (refine vtake_not 5 rfl (by kernel_rfl) (by kernel_rfl) (by kernel_rfl) (fun _ _ _ h => h) (by rfl) (by assumption) ?_) | fail "take 5"
                  try simp only [Act.put, List.setIfInBounds_toArray, List.set_cons_zero, List.set_cons_succ]
                  first | (refine vtake_wanted 6 (v := ?_) rfl (by kernel_rfl) (by kernel_rfl) (by kernel_rfl) (fun _ _ _ h => h) (by rfl) (by assumption) ?_ ?_; rotate_left; focus (intro w hSw; (try dsimp only at hSw); go_simp; try with_reducible rfl)) | (refine vtake_not 6 rfl (by kernel_rfl) (by kernel_rfl) (by kernel_rfl) (fun _ _ _ h => h) (by rfl) (by assumption) ?_) | fail "take 6"
                  try simp only [Act.put, List.setIfInBounds_toArray, List.set_cons_zero, List.set_cons_succ]
                  first | (refine vtake_wanted 7 (v := ?_) rfl (by kernel_rfl) (by kernel_rfl) (by kernel_rfl) (fun _ _ _ h => h) (by rfl) (by assumption) ?_ ?_; rotate_left; focus (intro w hSw; (try dsimp only at hSw); go_simp; try with_reducible rfl)) | (refine vtake_not 7 rfl (by kernel_rfl) (by kernel_rfl) (by kernel_rfl) (fun _ _ _ h => h) (by rfl) (by assumption) ?_) | fail "take 7"
                  try simp only [Act.put, List.setIfInBounds_toArray, List.set_cons_zero, List.set_cons_succ]
                  first | (refine vtake_wanted 8 (v := ?_) rfl (by kernel_rfl) (by kernel_rfl) (by kernel_rfl) (fun _ _ _ h => h) (by rfl) (by assumption) ?_ ?_; rotate_left; focus (intro w hSw; (try dsimp only at hSw); go_simp; try with_reducible rfl)) | (refine vtake_not 8 rfl (by kernel_rfl) (by kernel_rfl) (by kernel_rfl) (fun _ _ _ h => h) (by rfl) (by assumption) ?_) | fail "take 8"
                  try simp only [Act.put, List.setIfInBounds_toArray, List.set_cons_zero, List.set_cons_succ]
                  first | (refine vtake_wanted 9 (v := ?_) rfl (by kernel_rfl) (by kernel_rfl) (by kernel_rfl) (fun _ _ _ h => h) (by rfl) (by assumption) ?_ ?_; rotate_left; focus (intro w hSw; (try dsimp only at hSw); go_simp; try with_reducible rfl)) | (refine vtake_not 9 rfl (by kernel_rfl) (by kernel_rfl) (by kernel_rfl) (fun _ _ _ h => h) (by rfl) (by assumption) ?_) | fail "take 9"
                  try simp only [Act.put, List.setIfInBounds_toArray, List.set_cons_zero, List.set_cons_succ]
                  first | (refine vtake_wanted 10 (v := ?_) rfl (by kernel_rfl) (by kernel_rfl) (by kernel_rfl) (fun _ _ _ h => h) (by rfl) (by assumption) ?_ ?_; rotate_left; focus (intro w hSw; (try dsimp only at hSw); go_simp; try with_reducible rfl)) | (refine vtake_not 10 rfl (by kernel_rfl) (by kernel_rfl) (by kernel_rfl) (fun _ _ _ h => h) (by rfl) (by assumption) ?_) | fail "take 10"
                  try simp only [Act.put, List.setIfInBounds_toArray, List.set_cons_zero, List.set_cons_succ]
                  first | (refine vtake_wanted 11 (v := ?_) rfl (by kernel_rfl) (by kernel_rfl) (by kernel_rfl) (fun _ _ _ h => h) (by rfl) (by assumption) ?_ ?_; rotate_left; focus (intro w hSw; (try dsimp only at hSw); go_simp; try with_reducible rfl)) | (refine vtake_not 11 rfl (by kernel_rfl) (by kernel_rfl) (by kernel_rfl) (fun _ _ _ h => h) (by rfl) (by assumption) ?_) | fail "take 11"
                  try simp only [Act.put, List.setIfInBounds_toArray, List.set_cons_zero, List.set_cons_succ]
                  first | (refine vtake_wanted 12 (v := ?_) rfl (by kernel_rfl) (by kernel_rfl) (by kernel_rfl) (fun _ _ _ h => h) (by rfl) (by assumption) ?_ ?_; rotate_left; focus (intro w hSw; (try dsimp only at hSw); go_simp; try with_reducible rfl)) | (refine vtake_not 12 rfl (by kernel_rfl) (by kernel_rfl) (by kernel_rfl) (fun _ _ _ h => h) (by rfl) (by assumption) ?_) | fail "take 12"
                  try simp only [Act.put, List.setIfInBounds_toArray, List.set_cons_zero, List.set_cons_succ]
                  first | (refine vtake_wanted 13 (v := ?_) rfl (by kernel_rfl) (by kernel_rfl) (by kernel_rfl) (fun _ _ _ h => h) (by rfl) (by assumption) ?_ ?_; rotate_left; focus (intro w hSw; (try dsimp only at hSw); go_simp; try with_reducible rfl)) | (refine vtake_not 13 rfl (by kernel_rfl) (by kernel_rfl) (by kernel_rfl) (fun _ _ _ h => h) (by rfl) (by assumption) ?_) | fail "take 13"
                  try simp only [Act.put, List.setIfInBounds_toArray, List.set_cons_zero, List.set_cons_succ]
                  first | (refine vtake_wanted 15 (v := ?_) rfl (by kernel_rfl) (by kernel_rfl) (by kernel_rfl) (fun _ _ _ h => h) (by rfl) (by assumption) ?_ ?_; rotate_left; focus (intro w hSw; (try dsimp only at hSw); go_simp; try with_reducible rfl)) | (refine vtake_not 15 rfl (by kernel_rfl) (by kernel_rfl) (by kernel_rfl) (fun _ _ _ h => h) (by rfl) (by assumption) ?_) | fail "take 15"
                  try simp only [Act.put, List.setIfInBounds_toArray, List.set_cons_zero, List.set_cons_succ]
                  first | (refine vtake_wanted 16 (v := ?_) rfl (by kernel_rfl) (by kernel_rfl) (by kernel_rfl) (fun _ _ _ h => h) (by rfl) (by assumption) ?_ ?_; rotate_left; focus (intro w hSw; (try dsimp only at hSw); go_simp; try with_reducible rfl)) | (refine vtake_not 16 rfl (by kernel_rfl) (by kernel_rfl) (by kernel_rfl) (fun _ _ _ h => h) (by rfl) (by assumption) ?_) | fail "take 16"
                  try simp only [Act.put, List.setIfInBounds_toArray, List.set_cons_zero, List.set_cons_succ]
                  first | (refine vtake_wanted 17 (v := ?_) rfl (by kernel_rfl) (by kernel_rfl) (by kernel_rfl) (fun _ _ _ h => h) (by rfl) (by assumption) ?_ ?_; rotate_left; focus (intro w hSw; (try dsimp only at hSw); go_simp; try with_reducible rfl)) | (refine vtake_not 17 rfl (by kernel_rfl) (by kernel_rfl) (by kernel_rfl) (fun _ _ _ h => h) (by rfl) (by assumption) ?_) | fail "take 17"
                  try simp only [Act.put, List.setIfInBounds_toArray, List.set_cons_zero, List.set_cons_succ]
                  first | (refine vtake_wanted 18 (v := ?_) rfl (by kernel_rfl) (by kernel_rfl) (by kernel_rfl) (fun _ _ _ h => h) (by rfl) (by assumption) ?_ ?_; rotate_left; focus (intro w hSw; (try dsimp only at hSw); go_simp; try with_reducible rfl)) | (refine vtake_not 18 rfl (by kernel_rfl) (by kernel_rfl) (by kernel_rfl) (fun _ _ _ h => h) (by rfl) (by assumption) ?_) | fail "take 18"
                  try simp only [Act.put, List.setIfInBounds_toArray, List.set_cons_zero, List.set_cons_succ]
                  refine vbranch_one 14 rfl (by kernel_rfl) (fun K hK => ?_)
                  go_simp
                  (go_at_call 14; refine (TW.spent R hT5).mono ?_; rintro o u6 ⟨rfl, hT6⟩)
                  refine hK.out _ _ ?_ (fun hHeld2 => ?_)
                  focus (first | exact (‹TW Is wr p (.slice a9 9 c9) (rotA k) (.pointer (some q)) x3 x3 _›).c3 | exact c35 | assumption)
                  clear hK K hHeld
                  try simp only [Act.put, List.setIfInBounds_toArray, List.set_cons_zero, List.set_cons_succ]
                  first | (refine vtake_wanted 19 (v := ?_) rfl (by kernel_rfl) (by kernel_rfl) (by kernel_rfl) (fun _ _ _ h => h) (by rfl) (by assumption) ?_ ?_; rotate_left; focus (intro w hSw; (try dsimp only at hSw); go_simp; try with_reducible rfl)) | (refine vtake_not 19 rfl (by kernel_rfl) (by kernel_rfl) (by kernel_rfl) (fun _ _ _ h => h) (by rfl) (by assumption) ?_) | fail "take 19"
                  try simp only [Act.put, List.setIfInBounds_toArray, List.set_cons_zero, List.set_cons_succ]
                  first | (refine vtake_wanted 20 (v := ?_) rfl (by kernel_rfl) (by kernel_rfl) (by kernel_rfl) (fun _ _ _ h => h) (by rfl) (by assumption) ?_ ?_; rotate_left; focus (intro w hSw; (try dsimp only at hSw); go_simp; try with_reducible rfl)) | (refine vtake_not 20 rfl (by kernel_rfl) (by kernel_rfl) (by kernel_rfl) (fun _ _ _ h => h) (by rfl) (by assumption) ?_) | fail "take 20"
                  try simp only [Act.put, List.setIfInBounds_toArray, List.set_cons_zero, List.set_cons_succ]
                  first | (refine vtake_wanted 21 (v := ?_) rfl (by kernel_rfl) (by kernel_rfl) (by kernel_rfl) (fun _ _ _ h => h) (by rfl) (by assumption) ?_ ?_; rotate_left; focus (intro w hSw; (try dsimp only at hSw); go_simp; try with_reducible rfl)) | (refine vtake_not 21 rfl (by kernel_rfl) (by kernel_rfl) (by kernel_rfl) (fun _ _ _ h => h) (by rfl) (by assumption) ?_) | fail "take 21"
                  try simp only [Act.put, List.setIfInBounds_toArray, List.set_cons_zero, List.set_cons_succ]
                  first | (refine vtake_wanted 22 (v := ?_) rfl (by kernel_rfl) (by kernel_rfl) (by kernel_rfl) (fun _ _ _ h => h) (by rfl) (by assumption) ?_ ?_; rotate_left; focus (intro w hSw; (try dsimp only at hSw); go_simp; try with_reducible rfl)) | (refine vtake_not 22 rfl (by kernel_rfl) (by kernel_rfl) (by kernel_rfl) (fun _ _ _ h => h) (by rfl) (by assumption) ?_) | fail "take 22"
                  try simp only [Act.put, List.setIfInBounds_toArray, List.set_cons_zero, List.set_cons_succ]
                  first | (refine vtake_wanted 23 (v := ?_) rfl (by kernel_rfl) (by kernel_rfl) (by kernel_rfl) (fun _ _ _ h => h) (by rfl) (by assumption) ?_ ?_; rotate_left; focus (intro w hSw; (try dsimp only at hSw); go_simp; try with_reducible rfl)) | (refine vtake_not 23 rfl (by kernel_rfl) (by kernel_rfl) (by kernel_rfl) (fun _ _ _ h => h) (by rfl) (by assumption) ?_) | fail "take 23"
                  try simp only [Act.put, List.setIfInBounds_toArray, List.set_cons_zero, List.set_cons_succ]
                  first | (refine vtake_wanted 24 (v := ?_) rfl (by kernel_rfl) (by kernel_rfl) (by kernel_rfl) (fun _ _ _ h => h) (by rfl) (by assumption) ?_ ?_; rotate_left; focus (intro w hSw; (try dsimp only at hSw); go_simp; try with_reducible rfl)) | (refine vtake_not 24 rfl (by kernel_rfl) (by kernel_rfl) (by kernel_rfl) (fun _ _ _ h => h) (by rfl) (by assumption) ?_) | fail "take 24"
                  try simp only [Act.put, List.setIfInBounds_toArray, List.set_cons_zero, List.set_cons_succ]
                  first | (refine vtake_wanted 25 (v := ?_) rfl (by kernel_rfl) (by kernel_rfl) (by kernel_rfl) (fun _ _ _ h => h) (by rfl) (by assumption) ?_ ?_; rotate_left; focus (intro w hSw; (try dsimp only at hSw); go_simp; try with_reducible rfl)) | (refine vtake_not 25 rfl (by kernel_rfl) (by kernel_rfl) (by kernel_rfl) (fun _ _ _ h => h) (by rfl) (by assumption) ?_) | fail "take 25"
                  try simp only [Act.put, List.setIfInBounds_toArray, List.set_cons_zero, List.set_cons_succ]
                  first | (refine vtake_wanted 26 (v := ?_) rfl (by kernel_rfl) (by kernel_rfl) (by kernel_rfl) (fun _ _ _ h => h) (by rfl) (by assumption) ?_ ?_; rotate_left; focus (intro w hSw; (try dsimp only at hSw); go_simp; try with_reducible rfl)) | (refine vtake_not 26 rfl (by kernel_rfl) (by kernel_rfl) (by kernel_rfl) (fun _ _ _ h => h) (by rfl) (by assumption) ?_) | fail "take 26"
                  try simp only [Act.put, List.setIfInBounds_toArray, List.set_cons_zero, List.set_cons_succ]
                  first | (refine vtake_wanted 27 (v := ?_) rfl (by kernel_rfl) (by kernel_rfl) (by kernel_rfl) (fun _ _ _ h => h) (by rfl) (by assumption) ?_ ?_; rotate_left; focus (intro w hSw; (try dsimp only at hSw); go_simp; try with_reducible rfl)) | (refine vtake_not 27 rfl (by kernel_rfl) (by kernel_rfl) (by kernel_rfl) (fun _ _ _ h => h) (by rfl) (by assumption) ?_) | fail "take 27"
                  try simp only [Act.put, List.setIfInBounds_toArray, List.set_cons_zero, List.set_cons_succ]
                  first | (refine vtake_wanted 28 (v := ?_) rfl (by kernel_rfl) (by kernel_rfl) (by kernel_rfl) (fun _ _ _ h => h) (by rfl) (by assumption) ?_ ?_; rotate_left; focus (intro w hSw; (try dsimp only at hSw); go_simp; try with_reducible rfl)) | (refine vtake_not 28 rfl (by kernel_rfl) (by kernel_rfl) (by kernel_rfl) (fun _ _ _ h => h) (by rfl) (by assumption) ?_) | fail "take 28"
                  try simp only [Act.put, List.setIfInBounds_toArray, List.set_cons_zero, List.set_cons_succ]
                  first | (refine vtake_wanted 29 (v := ?_) rfl (by kernel_rfl) (by kernel_rfl) (by kernel_rfl) (fun _ _ _ h => h) (by rfl) (by assumption) ?_ ?_; rotate_left; focus (intro w hSw; (try dsimp only at hSw); go_simp; try with_reducible rfl)) | (refine vtake_not 29 rfl (by kernel_rfl) (by kernel_rfl) (by kernel_rfl) (fun _ _ _ h => h) (by rfl) (by assumption) ?_) | fail "take 29"
                  try simp only [Act.put, List.setIfInBounds_toArray, List.set_cons_zero, List.set_cons_succ]
                  refine wpAnyH_done (by kernel_rfl) ?_ _
                  clear hHeld2
                  all_goals
                    have H6 := Lib.hid hT6
                    have HVT := Lib.hid (HV1x.out.turned S HV1x.out.since.size (HBW.out.trans (H6.out.since.mono HBW.out.size)))
                    go_wp2_with fail
                    refine (vnormAt S tt (normL tt) _ rfl rfl (by omega) HVT.out).mono ?_
                    rintro e w7 ⟨rfl, hv7, hb7⟩
                    have H7 := Lib.hid (H6.out.other R hb7)
                    have HV7 := Lib.hid hv7
                    clear hv7 hb7 HVT
                    go_wp2_with fail
                    refine (rnorm_any tt _ (by omega)).mono ?_
                    rintro e w8 ⟨rfl, rfl⟩
                    go_wp2_with fail
                    refine (vtextAt S tt (escL false tt) _ rfl rfl (by omega) HV7.out).mono ?_
                    rintro e w9 ⟨rfl, hv9, hb9⟩
                    have H9 := Lib.hid (H7.out.other R hb9)
                    have HV9 := Lib.hid hv9
                    clear hv9 hb9 HV7
                    go_wp2_with fail
                    refine (resc_false tt _ (by omega)).mono ?_
                    rintro e w10 ⟨rfl, rfl⟩
                    go_wp2_with fail
                    refine (vattrAt S tt (escL true tt) _ rfl rfl (by omega) HV9.out).mono ?_
                    rintro e w11 ⟨rfl, hv11, hb11⟩
                    have H11 := Lib.hid (H9.out.other R hb11)
                    clear hv11 hb11 HV9
                    go_wp2_with fail
                    refine (resc_true tt _ (by omega)).mono ?_
                    rintro e w12 ⟨rfl, rfl⟩
                    go_wp2
                    go_roundw
                    case rel => exact ⟨tn + 1, sl, by omega, by go_num, rfl, by omega, Lib.hid (HBW.out.trans (H11.out.since.mono HBW.out.size))⟩
                    case measure => simp [intOf]; omega
                · go_wp2_with fail
                  try simp only [List.append_eq, List.cons_append, List.nil_append] at *
                  refine wp_region_held_drew (S := (fun W => W.cell? ⟨p, 3, none⟩ = some (.int .i64 (x3.n : Int)))) (by kernel_rfl) (by (first | exact (‹TW Is wr p (.slice a9 9 c9) (rotA k) (.pointer (some q)) x3 x3 _›).c3 | exact c35 | assumption)) (fun hHeld => ?_)
                  first | (refine vtake_wanted 0 (v := ?_) rfl (by kernel_rfl) (by kernel_rfl) (by kernel_rfl) (fun _ _ _ h => h) (by rfl) (by assumption) ?_ ?_; rotate_left; focus (intro w hSw; (try dsimp only at hSw); go_simp; try with_reducible rfl)) | (refine vtake_not 0 rfl (by kernel_rfl) (by kernel_rfl) (by kernel_rfl) (fun _ _ _ h => h) (by rfl) (by assumption) ?_) | fail "take 0"
                  try simp only [Act.put, List.setIfInBounds_toArray, List.set_cons_zero, List.set_cons_succ]
                  first | (refine vtake_wanted 1 (v := ?_) rfl (by kernel_rfl) (by kernel_rfl) (by kernel_rfl) (fun _ _ _ h => h) (by rfl) (by assumption) ?_ ?_; rotate_left; focus (intro w hSw; (try dsimp only at hSw); go_simp; try with_reducible rfl)) | (refine vtake_not 1 rfl (by kernel_rfl) (by kernel_rfl) (by kernel_rfl) (fun _ _ _ h => h) (by rfl) (by assumption) ?_) | fail "take 1"
                  try simp only [Act.put, List.setIfInBounds_toArray, List.set_cons_zero, List.set_cons_succ]
                  first | (refine vtake_wanted 2 (v := ?_) rfl (by kernel_rfl) (by kernel_rfl) (by kernel_rfl) (fun _ _ _ h => h) (by rfl) (by assumption) ?_ ?_; rotate_left; focus (intro w hSw; (try dsimp only at hSw); go_simp; try with_reducible rfl)) | (refine vtake_not 2 rfl (by kernel_rfl) (by kernel_rfl) (by kernel_rfl) (fun _ _ _ h => h) (by rfl) (by assumption) ?_) | fail "take 2"
                  try simp only [Act.put, List.setIfInBounds_toArray, List.set_cons_zero, List.set_cons_succ]
                  first | (refine vtake_wanted 3 (v := ?_) rfl (by kernel_rfl) (by kernel_rfl) (by kernel_rfl) (fun _ _ _ h => h) (by rfl) (by assumption) ?_ ?_; rotate_left; focus (intro w hSw; (try dsimp only at hSw); go_simp; try with_reducible rfl)) | (refine vtake_not 3 rfl (by kernel_rfl) (by kernel_rfl) (by kernel_rfl) (fun _ _ _ h => h) (by rfl) (by assumption) ?_) | fail "take 3"
                  try simp only [Act.put, List.setIfInBounds_toArray, List.set_cons_zero, List.set_cons_succ]
                  first | (refine vtake_wanted 4 (v := ?_) rfl (by kernel_rfl) (by kernel_rfl) (by kernel_rfl) (fun _ _ _ h => h) (by rfl) (by assumption) ?_ ?_; rotate_left; focus (intro w hSw; (try dsimp only at hSw); go_simp; try with_reducible rfl)) | (refine vtake_not 4 rfl (by kernel_rfl) (by kernel_rfl) (by kernel_rfl) (fun _ _ _ h => h) (by rfl) (by assumption) ?_) | fail "take 4"
                  try simp only [Act.put, List.setIfInBounds_toArray, List.set_cons_zero, List.set_cons_succ]
                  first | (refine vtake_wanted 5 (v := ?_) rfl (by kernel_rfl) (by kernel_rfl) (by kernel_rfl) (fun _ _ _ h => h) (by rfl) (by assumption) ?_ ?_; rotate_left; focus (intro w hSw; (try dsimp only at hSw); go_simp; try with_reducible rfl)) | (refine vtake_not 5 rfl (by kernel_rfl) (by kernel_rfl) (by kernel_rfl) (fun _ _ _ h => h) (by rfl) (by assumption) ?_) | fail "take 5"
                  try simp only [Act.put, List.setIfInBounds_toArray, List.set_cons_zero, List.set_cons_succ]
                  first | (refine vtake_wanted 6 (v := ?_) rfl (by kernel_rfl) (by kernel_rfl) (by kernel_rfl) (fun _ _ _ h => h) (by rfl) (by assumption) ?_ ?_; rotate_left; focus (intro w hSw; (try dsimp only at hSw); go_simp; try with_reducible rfl)) | (refine vtake_not 6 rfl (by kernel_rfl) (by kernel_rfl) (by kernel_rfl) (fun _ _ _ h => h) (by rfl) (by assumption) ?_) | fail "take 6"
                  try simp only [Act.put, List.setIfInBounds_toArray, List.set_cons_zero, List.set_cons_succ]
                  first | (refine vtake_wanted 7 (v := ?_) rfl (by kernel_rfl) (by kernel_rfl) (by kernel_rfl) (fun _ _ _ h => h) (by rfl) (by assumption) ?_ ?_; rotate_left; focus (intro w hSw; (try dsimp only at hSw); go_simp; try with_reducible rfl)) | (refine vtake_not 7 rfl (by kernel_rfl) (by kernel_rfl) (by kernel_rfl) (fun _ _ _ h => h) (by rfl) (by assumption) ?_) | fail "take 7"
                  try simp only [Act.put, List.setIfInBounds_toArray, List.set_cons_zero, List.set_cons_succ]
                  first | (refine vtake_wanted 8 (v := ?_) rfl (by kernel_rfl) (by kernel_rfl) (by kernel_rfl) (fun _ _ _ h => h) (by rfl) (by assumption) ?_ ?_; rotate_left; focus (intro w hSw; (try dsimp only at hSw); go_simp; try with_reducible rfl)) | (refine vtake_not 8 rfl (by kernel_rfl) (by kernel_rfl) (by kernel_rfl) (fun _ _ _ h => h) (by rfl) (by assumption) ?_) | fail "take 8"
                  try simp only [Act.put, List.setIfInBounds_toArray, List.set_cons_zero, List.set_cons_succ]
                  first | (refine vtake_wanted 9 (v := ?_) rfl (by kernel_rfl) (by kernel_rfl) (by kernel_rfl) (fun _ _ _ h => h) (by rfl) (by assumption) ?_ ?_; rotate_left; focus (intro w hSw; (try dsimp only at hSw); go_simp; try with_reducible rfl)) | (refine vtake_not 9 rfl (by kernel_rfl) (by kernel_rfl) (by kernel_rfl) (fun _ _ _ h => h) (by rfl) (by assumption) ?_) | fail "take 9"
                  try simp only [Act.put, List.setIfInBounds_toArray, List.set_cons_zero, List.set_cons_succ]
                  first | (refine vtake_wanted 10 (v := ?_) rfl (by kernel_rfl) (by kernel_rfl) (by kernel_rfl) (fun _ _ _ h => h) (by rfl) (by assumption) ?_ ?_; rotate_left; focus (intro w hSw; (try dsimp only at hSw); go_simp; try with_reducible rfl)) | (refine vtake_not 10 rfl (by kernel_rfl) (by kernel_rfl) (by kernel_rfl) (fun _ _ _ h => h) (by rfl) (by assumption) ?_) | fail "take 10"
                  try simp only [Act.put, List.setIfInBounds_toArray, List.set_cons_zero, List.set_cons_succ]
                  first | (refine vtake_wanted 11 (v := ?_) rfl (by kernel_rfl) (by kernel_rfl) (by kernel_rfl) (fun _ _ _ h => h) (by rfl) (by assumption) ?_ ?_; rotate_left; focus (intro w hSw; (try dsimp only at hSw); go_simp; try with_reducible rfl)) | (refine vtake_not 11 rfl (by kernel_rfl) (by kernel_rfl) (by kernel_rfl) (fun _ _ _ h => h) (by rfl) (by assumption) ?_) | fail "take 11"
                  try simp only [Act.put, List.setIfInBounds_toArray, List.set_cons_zero, List.set_cons_succ]
                  first | (refine vtake_wanted 12 (v := ?_) rfl (by kernel_rfl) (by kernel_rfl) (by kernel_rfl) (fun _ _ _ h => h) (by rfl) (by assumption) ?_ ?_; rotate_left; focus (intro w hSw; (try dsimp only at hSw); go_simp; try with_reducible rfl)) | (refine vtake_not 12 rfl (by kernel_rfl) (by kernel_rfl) (by kernel_rfl) (fun _ _ _ h => h) (by rfl) (by assumption) ?_) | fail "take 12"
                  try simp only [Act.put, List.setIfInBounds_toArray, List.set_cons_zero, List.set_cons_succ]
                  first | (refine vtake_wanted 13 (v := ?_) rfl (by kernel_rfl) (by kernel_rfl) (by kernel_rfl) (fun _ _ _ h => h) (by rfl) (by assumption) ?_ ?_; rotate_left; focus (intro w hSw; (try dsimp only at hSw); go_simp; try with_reducible rfl)) | (refine vtake_not 13 rfl (by kernel_rfl) (by kernel_rfl) (by kernel_rfl) (fun _ _ _ h => h) (by rfl) (by assumption) ?_) | fail "take 13"
                  try simp only [Act.put, List.setIfInBounds_toArray, List.set_cons_zero, List.set_cons_succ]
                  first | (refine vtake_wanted 15 (v := ?_) rfl (by kernel_rfl) (by kernel_rfl) (by kernel_rfl) (fun _ _ _ h => h) (by rfl) (by assumption) ?_ ?_; rotate_left; focus (intro w hSw; (try dsimp only at hSw); go_simp; try with_reducible rfl)) | (refine vtake_not 15 rfl (by kernel_rfl) (by kernel_rfl) (by kernel_rfl) (fun _ _ _ h => h) (by rfl) (by assumption) ?_) | fail "take 15"
                  try simp only [Act.put, List.setIfInBounds_toArray, List.set_cons_zero, List.set_cons_succ]
                  first | (refine vtake_wanted 16 (v := ?_) rfl (by kernel_rfl) (by kernel_rfl) (by kernel_rfl) (fun _ _ _ h => h) (by rfl) (by assumption) ?_ ?_; rotate_left; focus (intro w hSw; (try dsimp only at hSw); go_simp; try with_reducible rfl)) | (refine vtake_not 16 rfl (by kernel_rfl) (by kernel_rfl) (by kernel_rfl) (fun _ _ _ h => h) (by rfl) (by assumption) ?_) | fail "take 16"
                  try simp only [Act.put, List.setIfInBounds_toArray, List.set_cons_zero, List.set_cons_succ]
                  first | (refine vtake_wanted 17 (v := ?_) rfl (by kernel_rfl) (by kernel_rfl) (by kernel_rfl) (fun _ _ _ h => h) (by rfl) (by assumption) ?_ ?_; rotate_left; focus (intro w hSw; (try dsimp only at hSw); go_simp; try with_reducible rfl)) | (refine vtake_not 17 rfl (by kernel_rfl) (by kernel_rfl) (by kernel_rfl) (fun _ _ _ h => h) (by rfl) (by assumption) ?_) | fail "take 17"
                  try simp only [Act.put, List.setIfInBounds_toArray, List.set_cons_zero, List.set_cons_succ]
                  first | (refine vtake_wanted 18 (v := ?_) rfl (by kernel_rfl) (by kernel_rfl) (by kernel_rfl) (fun _ _ _ h => h) (by rfl) (by assumption) ?_ ?_; rotate_left; focus (intro w hSw; (try dsimp only at hSw); go_simp; try with_reducible rfl)) | (refine vtake_not 18 rfl (by kernel_rfl) (by kernel_rfl) (by kernel_rfl) (fun _ _ _ h => h) (by rfl) (by assumption) ?_) | fail "take 18"
                  try simp only [Act.put, List.setIfInBounds_toArray, List.set_cons_zero, List.set_cons_succ]
                  refine vbranch_one 14 rfl (by kernel_rfl) (fun K hK => ?_)
                  go_simp
                  (go_at_call 14; refine (TW.spent R hT5).mono ?_; rintro o u6 ⟨rfl, hT6⟩)
                  refine hK.out _ _ ?_ (fun hHeld2 => ?_)
                  focus (first | exact (‹TW Is wr p (.slice a9 9 c9) (rotA k) (.pointer (some q)) x3 x3 _›).c3 | exact c35 | assumption)
                  clear hK K hHeld
                  try simp only [Act.put, List.setIfInBounds_toArray, List.set_cons_zero, List.set_cons_succ]
                  first | (refine vtake_wanted 19 (v := ?_) rfl (by kernel_rfl) (by kernel_rfl) (by kernel_rfl) (fun _ _ _ h => h) (by rfl) (by assumption) ?_ ?_; rotate_left; focus (intro w hSw; (try dsimp only at hSw); go_simp; try with_reducible rfl)) | (refine vtake_not 19 rfl (by kernel_rfl) (by kernel_rfl) (by kernel_rfl) (fun _ _ _ h => h) (by rfl) (by assumption) ?_) | fail "take 19"
                  try simp only [Act.put, List.setIfInBounds_toArray, List.set_cons_zero, List.set_cons_succ]
                  first | (refine vtake_wanted 20 (v := ?_) rfl (by kernel_rfl) (by kernel_rfl) (by kernel_rfl) (fun _ _ _ h => h) (by rfl) (by assumption) ?_ ?_; rotate_left; focus (intro w hSw; (try dsimp only at hSw); go_simp; try with_reducible rfl)) | (refine vtake_not 20 rfl (by kernel_rfl) (by kernel_rfl) (by kernel_rfl) (fun _ _ _ h => h) (by rfl) (by assumption) ?_) | fail "take 20"
                  try simp only [Act.put, List.setIfInBounds_toArray, List.set_cons_zero, List.set_cons_succ]
                  first | (refine vtake_wanted 21 (v := ?_) rfl (by kernel_rfl) (by kernel_rfl) (by kernel_rfl) (fun _ _ _ h => h) (by rfl) (by assumption) ?_ ?_; rotate_left; focus (intro w hSw; (try dsimp only at hSw); go_simp; try with_reducible rfl)) | (refine vtake_not 21 rfl (by kernel_rfl) (by kernel_rfl) (by kernel_rfl) (fun _ _ _ h => h) (by rfl) (by assumption) ?_) | fail "take 21"
                  try simp only [Act.put, List.setIfInBounds_toArray, List.set_cons_zero, List.set_cons_succ]
                  first | (refine vtake_wanted 22 (v := ?_) rfl (by kernel_rfl) (by kernel_rfl) (by kernel_rfl) (fun _ _ _ h => h) (by rfl) (by assumption) ?_ ?_; rotate_left; focus (intro w hSw; (try dsimp only at hSw); go_simp; try with_reducible rfl)) | (refine vtake_not 22 rfl (by kernel_rfl) (by kernel_rfl) (by kernel_rfl) (fun _ _ _ h => h) (by rfl) (by assumption) ?_) | fail "take 22"
                  try simp only [Act.put, List.setIfInBounds_toArray, List.set_cons_zero, List.set_cons_succ]
                  first | (refine vtake_wanted 23 (v := ?_) rfl (by kernel_rfl) (by kernel_rfl) (by kernel_rfl) (fun _ _ _ h => h) (by rfl) (by assumption) ?_ ?_; rotate_left; focus (intro w hSw; (try dsimp only at hSw); go_simp; try with_reducible rfl)) | (refine vtake_not 23 rfl (by kernel_rfl) (by kernel_rfl) (by kernel_rfl) (fun _ _ _ h => h) (by rfl) (by assumption) ?_) | fail "take 23"
                  try simp only [Act.put, List.setIfInBounds_toArray, List.set_cons_zero, List.set_cons_succ]
                  first | (refine vtake_wanted 24 (v := ?_) rfl (by kernel_rfl) (by kernel_rfl) (by kernel_rfl) (fun _ _ _ h => h) (by rfl) (by assumption) ?_ ?_; rotate_left; focus (intro w hSw; (try dsimp only at hSw); go_simp; try with_reducible rfl)) | (refine vtake_not 24 rfl (by kernel_rfl) (by kernel_rfl) (by kernel_rfl) (fun _ _ _ h => h) (by rfl) (by assumption) ?_) | fail "take 24"
                  try simp only [Act.put, List.setIfInBounds_toArray, List.set_cons_zero, List.set_cons_succ]
                  first | (refine vtake_wanted 25 (v := ?_) rfl (by kernel_rfl) (by kernel_rfl) (by kernel_rfl) (fun _ _ _ h => h) (by rfl) (by assumption) ?_ ?_; rotate_left; focus (intro w hSw; (try dsimp only at hSw); go_simp; try with_reducible rfl)) | (refine vtake_not 25 rfl (by kernel_rfl) (by kernel_rfl) (by kernel_rfl) (fun _ _ _ h => h) (by rfl) (by assumption) ?_) | fail "take 25"
                  try simp only [Act.put, List.setIfInBounds_toArray, List.set_cons_zero, List.set_cons_succ]
                  first | (refine vtake_wanted 26 (v := ?_) rfl (by kernel_rfl) (by kernel_rfl) (by kernel_rfl) (fun _ _ _ h => h) (by rfl) (by assumption) ?_ ?_; rotate_left; focus (intro w hSw; (try dsimp only at hSw); go_simp; try with_reducible rfl)) | (refine vtake_not 26 rfl (by kernel_rfl) (by kernel_rfl) (by kernel_rfl) (fun _ _ _ h => h) (by rfl) (by assumption) ?_) | fail "take 26"
                  try simp only [Act.put, List.setIfInBounds_toArray, List.set_cons_zero, List.set_cons_succ]
                  first | (refine vtake_wanted 27 (v := ?_) rfl (by kernel_rfl) (by kernel_rfl) (by kernel_rfl) (fun _ _ _ h => h) (by rfl) (by assumption) ?_ ?_; rotate_left; focus (intro w hSw; (try dsimp only at hSw); go_simp; try with_reducible rfl)) | (refine vtake_not 27 rfl (by kernel_rfl) (by kernel_rfl) (by kernel_rfl) (fun _ _ _ h => h) (by rfl) (by assumption) ?_) | fail "take 27"
                  try simp only [Act.put, List.setIfInBounds_toArray, List.set_cons_zero, List.set_cons_succ]
                  first | (refine vtake_wanted 28 (v := ?_) rfl (by kernel_rfl) (by kernel_rfl) (by kernel_rfl) (fun _ _ _ h => h) (by rfl) (by assumption) ?_ ?_; rotate_left; focus (intro w hSw; (try dsimp only at hSw); go_simp; try with_reducible rfl)) | (refine vtake_not 28 rfl (by kernel_rfl) (by kernel_rfl) (by kernel_rfl) (fun _ _ _ h => h) (by rfl) (by assumption) ?_) | fail "take 28"
                  try simp only [Act.put, List.setIfInBounds_toArray, List.set_cons_zero, List.set_cons_succ]
                  first | (refine vtake_wanted 29 (v := ?_) rfl (by kernel_rfl) (by kernel_rfl) (by kernel_rfl) (fun _ _ _ h => h) (by rfl) (by assumption) ?_ ?_; rotate_left; focus (intro w hSw; (try dsimp only at hSw); go_simp; try with_reducible rfl)) | (refine vtake_not 29 rfl (by kernel_rfl) (by kernel_rfl) (by kernel_rfl) (fun _ _ _ h => h) (by rfl) (by assumption) ?_) | fail "take 29"
                  try simp only [Act.put, List.setIfInBounds_toArray, List.set_cons_zero, List.set_cons_succ]
                  refine wpAnyH_done (by kernel_rfl) ?_ _
                  clear hHeld2
                  all_goals
                    have H6 := Lib.hid hT6
                    have HVT := Lib.hid (HV1x.out.turned S HV1x.out.since.size (HBW.out.trans (H6.out.since.mono HBW.out.size)))
                    go_wp2_with fail
                    refine (vnormAt S tt (normL tt) _ rfl rfl (by omega) HVT.out).mono ?_
                    rintro e w7 ⟨rfl, hv7, hb7⟩
                    have H7 := Lib.hid (H6.out.other R hb7)
                    have HV7 := Lib.hid hv7
                    clear hv7 hb7 HVT
                    go_wp2_with fail
                    refine (rnorm_any tt _ (by omega)).mono ?_
                    rintro e w8 ⟨rfl, rfl⟩
                    go_wp2_with fail
                    refine (vtextAt S tt (escL false tt) _ rfl rfl (by omega) HV7.out).mono ?_
                    rintro e w9 ⟨rfl, hv9, hb9⟩
                    have H9 := Lib.hid (H7.out.other R hb9)
                    have HV9 := Lib.hid hv9
                    clear hv9 hb9 HV7
                    go_wp2_with fail
                    refine (resc_false tt _ (by omega)).mono ?_
                    rintro e w10 ⟨rfl, rfl⟩
                    go_wp2_with fail
                    refine (vattrAt S tt (escL true tt) _ rfl rfl (by omega) HV9.out).mono ?_
                    rintro e w11 ⟨rfl, hv11, hb11⟩
                    have H11 := Lib.hid (H9.out.other R hb11)
                    clear hv11 hb11 HV9
                    go_wp2_with fail
                    refine (resc_true tt _ (by omega)).mono ?_
                    rintro e w12 ⟨rfl, rfl⟩
                    go_wp2
                    go_roundw
                    case rel => exact ⟨tn + 1, sl, by omega, by go_num, rfl, by omega, Lib.hid (HBW.out.trans (H11.out.since.mono HBW.out.size))⟩
                    case measure => simp [intOf]; omega
          · have g5 : decide ((tn : Int) < 2) = false := decide_eq_false (by omega)
            have HVE := Lib.hid (HV1x.out.turned S HV1x.out.since.size HBW.out)
            go_wp2_with fail
            refine (HTOLD.out _ HVE.out).mono ?_
            rintro e w9 ⟨rfl, hb9⟩
            have HVF := Lib.hid (HVE.out.other S hb9)
            go_wp2
            go_ret
            exact ⟨rfl, HVF.out.since⟩
    · have g1 : decide ((i : Int) < (xs.length : Int)) = false := decide_eq_false (by omega)
      have ht100 : t.length ≤ 100 := by omega
      obtain ⟨k, hk9, CE⟩ := ents13_any nn wr
      go_wp2_with fail
      refine CE.mono ?_
      rintro e w1 ⟨ev, rfl, hEN, hb1⟩
      obtain ⟨a9, c9, rfl⟩ : ∃ a9 c9, ev = .slice a9 9 c9 := by
        have hl9 := rot_len k hk9
        rcases hEN with ⟨_, _, _, h0⟩ | ⟨b, off, c, h1, _⟩
        · rw [h0] at hl9; cases hl9
        · exact ⟨_, c, by rw [hl9] at h1; exact h1⟩
      have hbx := (Below.refl w1.heap.size w1).alloc (Nat.le_refl _) (.cells #[.string ⟨#[]⟩, .slice a9 9 c9, .slice none 0 0] 30)
      have hzr := World.rowIs_alloc w1 #[.string ⟨#[]⟩, .slice a9 9 c9, .slice none 0 0] 30 (fun i => if i = 0 then .string ⟨#[]⟩ else if i = 1 then .slice a9 9 c9 else .slice none 0 0) (by
        intro i hi
        rcases (show i = 0 ∨ i = 1 ∨ i = 2 by have : i < 3 := hi; omega) with rfl | rfl | rfl <;> rfl)
      have HENx := Lib.hid ((hEN.below hbx).mono hbx.size)
      have HV1x := Lib.hid ((HV0.out.other S hb1).other S hbx)
      clear hb1 CE HR HC HB hEN
      go_wp2
      obtain ⟨W2, hW2⟩ : ∃ W2, w1.alloc (.cells #[.string ⟨#[]⟩, .slice a9 9 c9, .slice none 0 0] 30) = W2 := ⟨_, rfl⟩
      rw [hW2] at hbx hzr HENx HV1x ⊢
      clear hW2
      obtain ⟨z, hz⟩ : ∃ z, w1.heap.size = z := ⟨_, rfl⟩
      rw [hz] at hzr ⊢
      have HZR := Lib.hid hzr
      clear hbx hz hzr
      go_loopw [12, 15] (fun tv uv wr2 => ∃ (tn : Nat) (tt : List UInt8), tn ≤ 2 ∧ uv = .int .i64 tn ∧ tv = .string (bytes tt) ∧ tt.length ≤ 100 ∧ Hid (Below W2.heap.size W2 wr2)) (fun _ uv _ => 2 - (intOf uv).toNat)
      case atStart => exact ⟨0, t, by decide, rfl, rfl, ht100, Lib.hid (Below.refl _ _)⟩
      case round =>
        obtain ⟨tn, tt, htn, rfl, rfl, htt, hbw⟩ := hrel
        have HBW := Lib.hid hbw.out
        clear hbw
        by_cases hlt2 : tn < 2
        · have g5 : decide ((tn : Int) < 2) = true := decide_eq_true (by omega)
          have hzr2 := HZR.out.of_block (HBW.out.block z HZR.out.lt)
          have d0 : wr.cell? ⟨z, 0, none⟩ = some (.string ⟨#[]⟩) := hzr2.cell (i := 0) (show 0 < 3 by decide)
          have d1 : wr.cell? ⟨z, 1, none⟩ = some (.slice a9 9 c9) := hzr2.cell (i := 1) (show 1 < 3 by decide)
          have d2 : wr.cell? ⟨z, 2, none⟩ = some (.slice none 0 0) := hzr2.cell (i := 2) (show 2 < 3 by decide)
          have HEN2 := Lib.hid ((HENx.out.below HBW.out).mono HBW.out.size)
          have hD0 : DB z a9 c9 wr wr.drew := ⟨hzr2, (Below.refl _ _).drew⟩
          have hD1 : DB z a9 c9 wr (wr.drew.alloc (.cells #[.string ⟨#[]⟩, .slice a9 9 c9, .slice none 0 0, .int .i64 0, .slice none 0 0] 40)) := hD0.other ((Below.refl _ _).alloc (Nat.le_refl _) _)
          have hFew : FewR (rotA k) := ⟨by rw [rot_len k hk9]; decide, fun e he => by have := rot_few k hk9 e he; omega⟩
          go_wp2_with fail
          go_region_held3 (fun W => W.cell? ⟨z, 0, none⟩ = some (.string ⟨#[]⟩) ∧ W.cell? ⟨z, 1, none⟩ = some (.slice a9 9 c9) ∧ W.cell? ⟨z, 2, none⟩ = some (.slice none 0 0))
            (first | exact (‹DB z a9 c9 wr _›).cells | exact ((‹DB z a9 c9 wr _›).other ((Below.refl _ _).alloc (Nat.le_refl _) _)).cells | exact ⟨d0, d1, d2⟩ | assumption)
            (first | (go_at_call 9; refine (rnewAt R (rotA k) _ _ _ hFew ((HEN2.out.below hD0.since).mono hD0.since.size)).mono ?_; rintro o u ⟨q, rfl, h⟩; have hS2 := hD0.other h.since) | (go_at_call 9; refine (rnewAt R (rotA k) _ _ _ hFew ((HEN2.out.below hD1.since).mono hD1.since.size)).mono ?_; rintro o u ⟨q, rfl, h⟩; have hS2 := hD1.other h.since))
          · have hp2 : (u.alloc (.cells #[.string ⟨#[]⟩, .slice a9 9 c9, .slice none 0 0, .int .i64 0, .slice none 0 0] 40)).rowIs u.heap.size 40 5 (fM (.slice a9 9 c9) 0 (.slice none 0 0)) := World.rowIs_alloc u #[.string ⟨#[]⟩, .slice a9 9 c9, .slice none 0 0, .int .i64 0, .slice none 0 0] 40 _ (by
              intro i hi
              rcases (show i = 0 ∨ i = 1 ∨ i = 2 ∨ i = 3 ∨ i = 4 by have : i < 5 := hi; omega) with rfl | rfl | rfl | rfl | rfl <;> rfl)
            obtain ⟨F, hi, hF⟩ := h.is
            have hbu := (Below.refl u.heap.size u).alloc (Nat.le_refl _) (.cells #[.string ⟨#[]⟩, .slice a9 9 c9, .slice none 0 0, .int .i64 0, .slice none 0 0] 40)
            have HTM : Hid (TM Is wr u.heap.size (.slice a9 9 c9) (.pointer (some q)) (ref0 (rotA k)) (u.alloc (.cells #[.string ⟨#[]⟩, .slice a9 9 c9, .slice none 0 0, .int .i64 0, .slice none 0 0] 40))) := Lib.hid ⟨⟨F, R.keep F u _ _ _ hi hbu.size (fun k' hk' => hbu.block k' (R.inn F u _ _ hi k' hk')), hF, fun hk' => by have := R.inn F u _ _ hi _ hk'; omega⟩, hp2, hS2.since.size, hS2.since.trans (hbu.mono hS2.since.size)⟩
            clear hi hF hbu hS2 h
            obtain ⟨W4, hW4⟩ : ∃ W4, u.alloc (.cells #[.string ⟨#[]⟩, .slice a9 9 c9, .slice none 0 0, .int .i64 0, .slice none 0 0] 40) = W4 := ⟨_, rfl⟩
            obtain ⟨p, hp⟩ : ∃ p, u.heap.size = p := ⟨_, rfl⟩
            rw [hW4] at hp2 HTM ⊢
            rw [hp] at hp2 HTM ⊢
            clear hW4 hp
            clear hp2
            obtain ⟨c, hcr⟩ : ∃ c, readV 9 (ref0 (rotA k)) tt (wrap64 (1 + bits BinOp.and IntKind.i64 kind 1)) most = c := ⟨_, rfl⟩
            have hfk : FitsR (wrap64 (1 + bits BinOp.and IntKind.i64 kind 1)) := by unfold FitsR wrap64; omega
            have HVT := Lib.hid (HV1x.out.turned S HV1x.out.since.size (HBW.out.trans (HTM.out.since.mono HBW.out.size)))
            have CRD := Lib.hid (two_read S HTM.out HVT.out.e (Nat.le_trans HV1x.out.n_le HBW.out.size) (rot_short k hk9 tt (by omega) most) hfk hm HEN2.out)
            have hpge := HTM.out.ge
            have HOPN := Lib.hid (readV_opened (D := 9) (r := ref0 (rotA k)) (raw := tt) (kind := wrap64 (1 + bits BinOp.and IntKind.i64 kind 1)) (most := most))
            have hcode := readV_code 9 (ref0 (rotA k)) tt (wrap64 (1 + bits BinOp.and IntKind.i64 kind 1)) most
            rw [hcr] at CRD HOPN hcode
            obtain ⟨x1, x2, x3⟩ := c
            go_wp2_with fail
            refine CRD.out.mono ?_
            rintro e w4 ⟨rfl, h4⟩
            have CVL := Lib.hid (two_val R h4 hpge (rot_fine k hk9 tt (by omega) most) (kind := wrap64 (1 + bits BinOp.and IntKind.i64 kind 1)))
            rw [hcr] at CVL
            clear h4 CRD hcr HVT HTM
            go_wp2_with fail
            refine CVL.out.mono ?_
            rintro e w5 ⟨rfl, h5⟩
            have hT5 : TW Is wr p (.slice a9 9 c9) (rotA k) (.pointer (some q)) x3 x3 w5.drew := (show TW Is wr p (.slice a9 9 c9) (rotA k) (.pointer (some q)) x3 x3 w5 from h5).other R (Below.refl _ _).drew
            clear h5 CVL
            have q1 : (x2 != x2) = false := by simp
            have q2 : ((x3.n : Int) != (x3.n : Int)) = false := by simp
            have c35 := hT5.c3
            by_cases hx0 : x2 = 0
            · subst hx0
              have hop : x3.opened = [] := HOPN.out rfl
              clear HOPN
              go_wp2_with fail
              go_region_held3 (fun W => W.cell? ⟨p, 3, none⟩ = some (.int .i64 (x3.n : Int)))
                (first | exact (‹TW Is wr p (.slice a9 9 c9) (rotA k) (.pointer (some q)) x3 x3 _›).c3 | exact c35 | assumption)
                (first | (go_at_call 14; refine (TW.spent R hT5).mono ?_; rintro o u6 ⟨rfl, hT6⟩) | (go_at_call 15; refine (TW.depth R hT6 hop).mono ?_; rintro o u7 ⟨rfl, hT7⟩))
              all_goals
                have H6 := Lib.hid hT7
                have HVT := Lib.hid (HV1x.out.turned S HV1x.out.since.size (HBW.out.trans (H6.out.since.mono HBW.out.size)))
                go_wp2_with fail
                refine (vnormAt S tt (normL tt) _ rfl rfl (by omega) HVT.out).mono ?_
                rintro e w7 ⟨rfl, hv7, hb7⟩
                have H7 := Lib.hid (H6.out.other R hb7)
                have HV7 := Lib.hid hv7
                clear hv7 hb7 HVT
                go_wp2_with fail
                refine (rnorm_any tt _ (by omega)).mono ?_
                rintro e w8 ⟨rfl, rfl⟩
                go_wp2_with fail
                refine (vtextAt S tt (escL false tt) _ rfl rfl (by omega) HV7.out).mono ?_
                rintro e w9 ⟨rfl, hv9, hb9⟩
                have H9 := Lib.hid (H7.out.other R hb9)
                have HV9 := Lib.hid hv9
                clear hv9 hb9 HV7
                go_wp2_with fail
                refine (resc_false tt _ (by omega)).mono ?_
                rintro e w10 ⟨rfl, rfl⟩
                go_wp2_with fail
                refine (vattrAt S tt (escL true tt) _ rfl rfl (by omega) HV9.out).mono ?_
                rintro e w11 ⟨rfl, hv11, hb11⟩
                have H11 := Lib.hid (H9.out.other R hb11)
                clear hv11 hb11 HV9
                go_wp2_with fail
                refine (resc_true tt _ (by omega)).mono ?_
                rintro e w12 ⟨rfl, rfl⟩
                go_wp2
                go_roundw
                case rel => exact ⟨tn + 1, sl, by omega, by go_num, rfl, by omega, Lib.hid (HBW.out.trans (H11.out.since.mono HBW.out.size))⟩
                case measure => simp [intOf]; omega
            · have hc2 : x2 = 2 ∨ x2 = 3 := hcode.resolve_left hx0
              clear hx0 HOPN hcode
              rcases hc2 with rfl | rfl
              · go_wp2_with fail
                try simp only [List.append_eq, List.cons_append, List.nil_append] at *
                refine wp_region_held_drew (S := (fun W => W.cell? ⟨p, 3, none⟩ = some (.int .i64 (x3.n : Int)))) (by kernel_rfl) (by (first | exact (‹TW Is wr p (.slice a9 9 c9) (rotA k) (.pointer (some q)) x3 x3 _›).c3 | exact c35 | assumption)) (fun hHeld => ?_)
                first | (refine vtake_wanted 0 (v := ?_) rfl (by kernel_rfl) (by kernel_rfl) (by kernel_rfl) (fun _ _ _ h => h) (by rfl) (by assumption) ?_ ?_; rotate_left; focus (intro w hSw; (try dsimp only at hSw); go_simp; try with_reducible rfl)) | (refine vtake_not 0 rfl (by kernel_rfl) (by kernel_rfl) (by kernel_rfl) (fun _ _ _ h => h) (by rfl) (by assumption) ?_) | fail "take 0"
                try simp only [Act.put, List.setIfInBounds_toArray, List.set_cons_zero, List.set_cons_succ]
                first | (refine vtake_wanted 1 (v := ?_) rfl (by kernel_rfl) (by kernel_rfl) (by kernel_rfl) (fun _ _ _ h => h) (by rfl) (by assumption) ?_ ?_; rotate_left; focus (intro w hSw; (try dsimp only at hSw); go_simp; try with_reducible rfl)) | (refine vtake_not 1 rfl (by kernel_rfl) (by kernel_rfl) (by kernel_rfl) (fun _ _ _ h => h) (by rfl) (by assumption) ?_) | fail "take 1"
                try simp only [Act.put, List.setIfInBounds_toArray, List.set_cons_zero, List.set_cons_succ]
                first | (refine vtake_wanted 2 (v := ?_) rfl (by kernel_rfl) (by kernel_rfl) (by kernel_rfl) (fun _ _ _ h => h) (by rfl) (by assumption) ?_ ?_; rotate_left; focus (intro w hSw; (try dsimp only at hSw); go_simp; try with_reducible rfl)) | (refine vtake_not 2 rfl (by kernel_rfl) (by kernel_rfl) (by kernel_rfl) (fun _ _ _ h => h) (by rfl) (by assumption) ?_) | fail "take 2"
                try simp only [Act.put, List.setIfInBounds_toArray, List.set_cons_zero, List.set_cons_succ]
                first | (refine vtake_wanted 3 (v := ?_) rfl (by kernel_rfl) (by kernel_rfl) (by kernel_rfl) (fun _ _ _ h => h) (by rfl) (by assumption) ?_ ?_; rotate_left; focus (intro w hSw; (try dsimp only at hSw); go_simp; try with_reducible rfl)) | (refine vtake_not 3 rfl (by kernel_rfl) (by kernel_rfl) (by kernel_rfl) (fun _ _ _ h => h) (by rfl) (by assumption) ?_) | fail "take 3"
                try simp only [Act.put, List.setIfInBounds_toArray, List.set_cons_zero, List.set_cons_succ]
                first | (refine vtake_wanted 4 (v := ?_) rfl (by kernel_rfl) (by kernel_rfl) (by kernel_rfl) (fun _ _ _ h => h) (by rfl) (by assumption) ?_ ?_; rotate_left; focus (intro w hSw; (try dsimp only at hSw); go_simp; try with_reducible rfl)) | (refine vtake_not 4 rfl (by kernel_rfl) (by kernel_rfl) (by kernel_rfl) (fun _ _ _ h => h) (by rfl) (by assumption) ?_) | fail "take 4"
                try simp only [Act.put, List.setIfInBounds_toArray, List.set_cons_zero, List.set_cons_succ]
                first | (refine vtake_wanted 5 (v := ?_) rfl (by kernel_rfl) (by kernel_rfl) (by kernel_rfl) (fun _ _ _ h => h) (by rfl) (by assumption) ?_ ?_; rotate_left; focus (intro w hSw; (try dsimp only at hSw); go_simp; try with_reducible rfl)) | (refine vtake_not 5 rfl (by kernel_rfl) (by kernel_rfl) (by kernel_rfl) (fun _ _ _ h => h) (by rfl) (by assumption) ?_) | fail "take 5"
                try simp only [Act.put, List.setIfInBounds_toArray, List.set_cons_zero, List.set_cons_succ]
                first | (refine vtake_wanted 6 (v := ?_) rfl (by kernel_rfl) (by kernel_rfl) (by kernel_rfl) (fun _ _ _ h => h) (by rfl) (by assumption) ?_ ?_; rotate_left; focus (intro w hSw; (try dsimp only at hSw); go_simp; try with_reducible rfl)) | (refine vtake_not 6 rfl (by kernel_rfl) (by kernel_rfl) (by kernel_rfl) (fun _ _ _ h => h) (by rfl) (by assumption) ?_) | fail "take 6"
                try simp only [Act.put, List.setIfInBounds_toArray, List.set_cons_zero, List.set_cons_succ]
                first | (refine vtake_wanted 7 (v := ?_) rfl (by kernel_rfl) (by kernel_rfl) (by kernel_rfl) (fun _ _ _ h => h) (by rfl) (by assumption) ?_ ?_; rotate_left; focus (intro w hSw; (try dsimp only at hSw); go_simp; try with_reducible rfl)) | (refine vtake_not 7 rfl (by kernel_rfl) (by kernel_rfl) (by kernel_rfl) (fun _ _ _ h => h) (by rfl) (by assumption) ?_) | fail "take 7"
                try simp only [Act.put, List.setIfInBounds_toArray, List.set_cons_zero, List.set_cons_succ]
                first | (refine vtake_wanted 8 (v := ?_) rfl (by kernel_rfl) (by kernel_rfl) (by kernel_rfl) (fun _ _ _ h => h) (by rfl) (by assumption) ?_ ?_; rotate_left; focus (intro w hSw; (try dsimp only at hSw); go_simp; try with_reducible rfl)) | (refine vtake_not 8 rfl (by kernel_rfl) (by kernel_rfl) (by kernel_rfl) (fun _ _ _ h => h) (by rfl) (by assumption) ?_) | fail "take 8"
                try simp only [Act.put, List.setIfInBounds_toArray, List.set_cons_zero, List.set_cons_succ]
                first | (refine vtake_wanted 9 (v := ?_) rfl (by kernel_rfl) (by kernel_rfl) (by kernel_rfl) (fun _ _ _ h => h) (by rfl) (by assumption) ?_ ?_; rotate_left; focus (intro w hSw; (try dsimp only at hSw); go_simp; try with_reducible rfl)) | (refine vtake_not 9 rfl (by kernel_rfl) (by kernel_rfl) (by kernel_rfl) (fun _ _ _ h => h) (by rfl) (by assumption) ?_) | fail "take 9"
                try simp only [Act.put, List.setIfInBounds_toArray, List.set_cons_zero, List.set_cons_succ]
                first | (refine vtake_wanted 10 (v := ?_) rfl (by kernel_rfl) (by kernel_rfl) (by kernel_rfl) (fun _ _ _ h => h) (by rfl) (by assumption) ?_ ?_; rotate_left; focus (intro w hSw; (try dsimp only at hSw); go_simp; try with_reducible rfl)) | (refine vtake_not 10 rfl (by kernel_rfl) (by kernel_rfl) (by kernel_rfl) (fun _ _ _ h => h) (by rfl) (by assumption) ?_) | fail "take 10"
                try simp only [Act.put, List.setIfInBounds_toArray, List.set_cons_zero, List.set_cons_succ]
                first | (refine vtake_wanted 11 (v := ?_) rfl (by kernel_rfl) (by kernel_rfl) (by kernel_rfl) (fun _ _ _ h => h) (by rfl) (by assumption) ?_ ?_; rotate_left; focus (intro w hSw; (try dsimp only at hSw); go_simp; try with_reducible rfl)) | (refine vtake_not 11 rfl (by kernel_rfl) (by kernel_rfl) (by kernel_rfl) (fun _ _ _ h => h) (by rfl) (by assumption) ?_) | fail "take 11"
                try simp only [Act.put, List.setIfInBounds_toArray, List.set_cons_zero, List.set_cons_succ]
                first | (refine vtake_wanted 12 (v := ?_) rfl (by kernel_rfl) (by kernel_rfl) (by kernel_rfl) (fun _ _ _ h => h) (by rfl) (by assumption) ?_ ?_; rotate_left; focus (intro w hSw; (try dsimp only at hSw); go_simp; try with_reducible rfl)) | (refine vtake_not 12 rfl (by kernel_rfl) (by kernel_rfl) (by kernel_rfl) (fun _ _ _ h => h) (by rfl) (by assumption) ?_) | fail "take 12"
                try simp only [Act.put, List.setIfInBounds_toArray, List.set_cons_zero, List.set_cons_succ]
                first | (refine vtake_wanted 13 (v := ?_) rfl (by kernel_rfl) (by kernel_rfl) (by kernel_rfl) (fun _ _ _ h => h) (by rfl) (by assumption) ?_ ?_; rotate_left; focus (intro w hSw; (try dsimp only at hSw); go_simp; try with_reducible rfl)) | (refine vtake_not 13 rfl (by kernel_rfl) (by kernel_rfl) (by kernel_rfl) (fun _ _ _ h => h) (by rfl) (by assumption) ?_) | fail "take 13"
                try simp only [Act.put, List.setIfInBounds_toArray, List.set_cons_zero, List.set_cons_succ]
                first | (refine vtake_wanted 15 (v := ?_) rfl (by kernel_rfl) (by kernel_rfl) (by kernel_rfl) (fun _ _ _ h => h) (by rfl) (by assumption) ?_ ?_; rotate_left; focus (intro w hSw; (try dsimp only at hSw); go_simp; try with_reducible rfl)) | (refine vtake_not 15 rfl (by kernel_rfl) (by kernel_rfl) (by kernel_rfl) (fun _ _ _ h => h) (by rfl) (by assumption) ?_) | fail "take 15"
                try simp only [Act.put, List.setIfInBounds_toArray, List.set_cons_zero, List.set_cons_succ]
                first | (refine vtake_wanted 16 (v := ?_) rfl (by kernel_rfl) (by kernel_rfl) (by kernel_rfl) (fun _ _ _ h => h) (by rfl) (by assumption) ?_ ?_; rotate_left; focus (intro w hSw; (try dsimp only at hSw); go_simp; try with_reducible rfl)) | (refine vtake_not 16 rfl (by kernel_rfl) (by kernel_rfl) (by kernel_rfl) (fun _ _ _ h => h) (by rfl) (by assumption) ?_) | fail "take 16"
                try simp only [Act.put, List.setIfInBounds_toArray, List.set_cons_zero, List.set_cons_succ]
                first | (refine vtake_wanted 17 (v := ?_) rfl (by kernel_rfl) (by kernel_rfl) (by kernel_rfl) (fun _ _ _ h => h) (by rfl) (by assumption) ?_ ?_; rotate_left; focus (intro w hSw; (try dsimp only at hSw); go_simp; try with_reducible rfl)) | (refine vtake_not 17 rfl (by kernel_rfl) (by kernel_rfl) (by kernel_rfl) (fun _ _ _ h => h) (by rfl) (by assumption) ?_) | fail "take 17"
                try simp only [Act.put, List.setIfInBounds_toArray, List.set_cons_zero, List.set_cons_succ]
                first | (refine vtake_wanted 18 (v := ?_) rfl (by kernel_rfl) (by kernel_rfl) (by kernel_rfl) (fun _ _ _ h => h) (by rfl) (by assumption) ?_ ?_; rotate_left; focus (intro w hSw; (try dsimp only at hSw); go_simp; try with_reducible rfl)) | (refine vtake_not 18 rfl (by kernel_rfl) (by kernel_rfl) (by kernel_rfl) (fun _ _ _ h => h) (by rfl) (by assumption) ?_) | fail "take 18"
                try simp only [Act.put, List.setIfInBounds_toArray, List.set_cons_zero, List.set_cons_succ]
                refine vbranch_one 14 rfl (by kernel_rfl) (fun K hK => ?_)
                go_simp
                (go_at_call 14; refine (TW.spent R hT5).mono ?_; rintro o u6 ⟨rfl, hT6⟩)
                refine hK.out _ _ ?_ (fun hHeld2 => ?_)
                focus (first | exact (‹TW Is wr p (.slice a9 9 c9) (rotA k) (.pointer (some q)) x3 x3 _›).c3 | exact c35 | assumption)
                clear hK K hHeld
                try simp only [Act.put, List.setIfInBounds_toArray, List.set_cons_zero, List.set_cons_succ]
                first | (refine vtake_wanted 19 (v := ?_) rfl (by kernel_rfl) (by kernel_rfl) (by kernel_rfl) (fun _ _ _ h => h) (by rfl) (by assumption) ?_ ?_; rotate_left; focus (intro w hSw; (try dsimp only at hSw); go_simp; try with_reducible rfl)) | (refine vtake_not 19 rfl (by kernel_rfl) (by kernel_rfl) (by kernel_rfl) (fun _ _ _ h => h) (by rfl) (by assumption) ?_) | fail "take 19"
                try simp only [Act.put, List.setIfInBounds_toArray, List.set_cons_zero, List.set_cons_succ]
                first | (refine vtake_wanted 20 (v := ?_) rfl (by kernel_rfl) (by kernel_rfl) (by kernel_rfl) (fun _ _ _ h => h) (by rfl) (by assumption) ?_ ?_; rotate_left; focus (intro w hSw; (try dsimp only at hSw); go_simp; try with_reducible rfl)) | (refine vtake_not 20 rfl (by kernel_rfl) (by kernel_rfl) (by kernel_rfl) (fun _ _ _ h => h) (by rfl) (by assumption) ?_) | fail "take 20"
                try simp only [Act.put, List.setIfInBounds_toArray, List.set_cons_zero, List.set_cons_succ]
                first | (refine vtake_wanted 21 (v := ?_) rfl (by kernel_rfl) (by kernel_rfl) (by kernel_rfl) (fun _ _ _ h => h) (by rfl) (by assumption) ?_ ?_; rotate_left; focus (intro w hSw; (try dsimp only at hSw); go_simp; try with_reducible rfl)) | (refine vtake_not 21 rfl (by kernel_rfl) (by kernel_rfl) (by kernel_rfl) (fun _ _ _ h => h) (by rfl) (by assumption) ?_) | fail "take 21"
                try simp only [Act.put, List.setIfInBounds_toArray, List.set_cons_zero, List.set_cons_succ]
                first | (refine vtake_wanted 22 (v := ?_) rfl (by kernel_rfl) (by kernel_rfl) (by kernel_rfl) (fun _ _ _ h => h) (by rfl) (by assumption) ?_ ?_; rotate_left; focus (intro w hSw; (try dsimp only at hSw); go_simp; try with_reducible rfl)) | (refine vtake_not 22 rfl (by kernel_rfl) (by kernel_rfl) (by kernel_rfl) (fun _ _ _ h => h) (by rfl) (by assumption) ?_) | fail "take 22"
                try simp only [Act.put, List.setIfInBounds_toArray, List.set_cons_zero, List.set_cons_succ]
                first | (refine vtake_wanted 23 (v := ?_) rfl (by kernel_rfl) (by kernel_rfl) (by kernel_rfl) (fun _ _ _ h => h) (by rfl) (by assumption) ?_ ?_; rotate_left; focus (intro w hSw; (try dsimp only at hSw); go_simp; try with_reducible rfl)) | (refine vtake_not 23 rfl (by kernel_rfl) (by kernel_rfl) (by kernel_rfl) (fun _ _ _ h => h) (by rfl) (by assumption) ?_) | fail "take 23"
                try simp only [Act.put, List.setIfInBounds_toArray, List.set_cons_zero, List.set_cons_succ]
                first | (refine vtake_wanted 24 (v := ?_) rfl (by kernel_rfl) (by kernel_rfl) (by kernel_rfl) (fun _ _ _ h => h) (by rfl) (by assumption) ?_ ?_; rotate_left; focus (intro w hSw; (try dsimp only at hSw); go_simp; try with_reducible rfl)) | (refine vtake_not 24 rfl (by kernel_rfl) (by kernel_rfl) (by kernel_rfl) (fun _ _ _ h => h) (by rfl) (by assumption) ?_) | fail "take 24"
                try simp only [Act.put, List.setIfInBounds_toArray, List.set_cons_zero, List.set_cons_succ]
                first | (refine vtake_wanted 25 (v := ?_) rfl (by kernel_rfl) (by kernel_rfl) (by kernel_rfl) (fun _ _ _ h => h) (by rfl) (by assumption) ?_ ?_; rotate_left; focus (intro w hSw; (try dsimp only at hSw); go_simp; try with_reducible rfl)) | (refine vtake_not 25 rfl (by kernel_rfl) (by kernel_rfl) (by kernel_rfl) (fun _ _ _ h => h) (by rfl) (by assumption) ?_) | fail "take 25"
                try simp only [Act.put, List.setIfInBounds_toArray, List.set_cons_zero, List.set_cons_succ]
                first | (refine vtake_wanted 26 (v := ?_) rfl (by kernel_rfl) (by kernel_rfl) (by kernel_rfl) (fun _ _ _ h => h) (by rfl) (by assumption) ?_ ?_; rotate_left; focus (intro w hSw; (try dsimp only at hSw); go_simp; try with_reducible rfl)) | (refine vtake_not 26 rfl (by kernel_rfl) (by kernel_rfl) (by kernel_rfl) (fun _ _ _ h => h) (by rfl) (by assumption) ?_) | fail "take 26"
                try simp only [Act.put, List.setIfInBounds_toArray, List.set_cons_zero, List.set_cons_succ]
                first | (refine vtake_wanted 27 (v := ?_) rfl (by kernel_rfl) (by kernel_rfl) (by kernel_rfl) (fun _ _ _ h => h) (by rfl) (by assumption) ?_ ?_; rotate_left; focus (intro w hSw; (try dsimp only at hSw); go_simp; try with_reducible rfl)) | (refine vtake_not 27 rfl (by kernel_rfl) (by kernel_rfl) (by kernel_rfl) (fun _ _ _ h => h) (by rfl) (by assumption) ?_) | fail "take 27"
                try simp only [Act.put, List.setIfInBounds_toArray, List.set_cons_zero, List.set_cons_succ]
                first | (refine vtake_wanted 28 (v := ?_) rfl (by kernel_rfl) (by kernel_rfl) (by kernel_rfl) (fun _ _ _ h => h) (by rfl) (by assumption) ?_ ?_; rotate_left; focus (intro w hSw; (try dsimp only at hSw); go_simp; try with_reducible rfl)) | (refine vtake_not 28 rfl (by kernel_rfl) (by kernel_rfl) (by kernel_rfl) (fun _ _ _ h => h) (by rfl) (by assumption) ?_) | fail "take 28"
                try simp only [Act.put, List.setIfInBounds_toArray, List.set_cons_zero, List.set_cons_succ]
                first | (refine vtake_wanted 29 (v := ?_) rfl (by kernel_rfl) (by kernel_rfl) (by kernel_rfl) (fun _ _ _ h => h) (by rfl) (by assumption) ?_ ?_; rotate_left; focus (intro w hSw; (try dsimp only at hSw); go_simp; try with_reducible rfl)) | (refine vtake_not 29 rfl (by kernel_rfl) (by kernel_rfl) (by kernel_rfl) (fun _ _ _ h => h) (by rfl) (by assumption) ?_) | fail "take 29"
                try simp only [Act.put, List.setIfInBounds_toArray, List.set_cons_zero, List.set_cons_succ]
                refine wpAnyH_done (by kernel_rfl) ?_ _
                clear hHeld2
                all_goals
                  have H6 := Lib.hid hT6
                  have HVT := Lib.hid (HV1x.out.turned S HV1x.out.since.size (HBW.out.trans (H6.out.since.mono HBW.out.size)))
                  go_wp2_with fail
                  refine (vnormAt S tt (normL tt) _ rfl rfl (by omega) HVT.out).mono ?_
                  rintro e w7 ⟨rfl, hv7, hb7⟩
                  have H7 := Lib.hid (H6.out.other R hb7)
                  have HV7 := Lib.hid hv7
                  clear hv7 hb7 HVT
                  go_wp2_with fail
                  refine (rnorm_any tt _ (by omega)).mono ?_
                  rintro e w8 ⟨rfl, rfl⟩
                  go_wp2_with fail
                  refine (vtextAt S tt (escL false tt) _ rfl rfl (by omega) HV7.out).mono ?_
                  rintro e w9 ⟨rfl, hv9, hb9⟩
                  have H9 := Lib.hid (H7.out.other R hb9)
                  have HV9 := Lib.hid hv9
                  clear hv9 hb9 HV7
                  go_wp2_with fail
                  refine (resc_false tt _ (by omega)).mono ?_
                  rintro e w10 ⟨rfl, rfl⟩
                  go_wp2_with fail
                  refine (vattrAt S tt (escL true tt) _ rfl rfl (by omega) HV9.out).mono ?_
                  rintro e w11 ⟨rfl, hv11, hb11⟩
                  have H11 := Lib.hid (H9.out.other R hb11)
                  clear hv11 hb11 HV9
                  go_wp2_with fail
                  refine (resc_true tt _ (by omega)).mono ?_
                  rintro e w12 ⟨rfl, rfl⟩
                  go_wp2
                  go_roundw
                  case rel => exact ⟨tn + 1, sl, by omega, by go_num, rfl, by omega, Lib.hid (HBW.out.trans (H11.out.since.mono HBW.out.size))⟩
                  case measure => simp [intOf]; omega
              · go_wp2_with fail
                try simp only [List.append_eq, List.cons_append, List.nil_append] at *
                refine wp_region_held_drew (S := (fun W => W.cell? ⟨p, 3, none⟩ = some (.int .i64 (x3.n : Int)))) (by kernel_rfl) (by (first | exact (‹TW Is wr p (.slice a9 9 c9) (rotA k) (.pointer (some q)) x3 x3 _›).c3 | exact c35 | assumption)) (fun hHeld => ?_)
                first | (refine vtake_wanted 0 (v := ?_) rfl (by kernel_rfl) (by kernel_rfl) (by kernel_rfl) (fun _ _ _ h => h) (by rfl) (by assumption) ?_ ?_; rotate_left; focus (intro w hSw; (try dsimp only at hSw); go_simp; try with_reducible rfl)) | (refine vtake_not 0 rfl (by kernel_rfl) (by kernel_rfl) (by kernel_rfl) (fun _ _ _ h => h) (by rfl) (by assumption) ?_) | fail "take 0"
                try simp only [Act.put, List.setIfInBounds_toArray, List.set_cons_zero, List.set_cons_succ]
                first | (refine vtake_wanted 1 (v := ?_) rfl (by kernel_rfl) (by kernel_rfl) (by kernel_rfl) (fun _ _ _ h => h) (by rfl) (by assumption) ?_ ?_; rotate_left; focus (intro w hSw; (try dsimp only at hSw); go_simp; try with_reducible rfl)) | (refine vtake_not 1 rfl (by kernel_rfl) (by kernel_rfl) (by kernel_rfl) (fun _ _ _ h => h) (by rfl) (by assumption) ?_) | fail "take 1"
                try simp only [Act.put, List.setIfInBounds_toArray, List.set_cons_zero, List.set_cons_succ]
                first | (refine vtake_wanted 2 (v := ?_) rfl (by kernel_rfl) (by kernel_rfl) (by kernel_rfl) (fun _ _ _ h => h) (by rfl) (by assumption) ?_ ?_; rotate_left; focus (intro w hSw; (try dsimp only at hSw); go_simp; try with_reducible rfl)) | (refine vtake_not 2 rfl (by kernel_rfl) (by kernel_rfl) (by kernel_rfl) (fun _ _ _ h => h) (by rfl) (by assumption) ?_) | fail "take 2"
                try simp only [Act.put, List.setIfInBounds_toArray, List.set_cons_zero, List.set_cons_succ]
                first | (refine vtake_wanted 3 (v := ?_) rfl (by kernel_rfl) (by kernel_rfl) (by kernel_rfl) (fun _ _ _ h => h) (by rfl) (by assumption) ?_ ?_; rotate_left; focus (intro w hSw; (try dsimp only at hSw); go_simp; try with_reducible rfl)) | (refine vtake_not 3 rfl (by kernel_rfl) (by kernel_rfl) (by kernel_rfl) (fun _ _ _ h => h) (by rfl) (by assumption) ?_) | fail "take 3"
                try simp only [Act.put, List.setIfInBounds_toArray, List.set_cons_zero, List.set_cons_succ]
                first | (refine vtake_wanted 4 (v := ?_) rfl (by kernel_rfl) (by kernel_rfl) (by kernel_rfl) (fun _ _ _ h => h) (by rfl) (by assumption) ?_ ?_; rotate_left; focus (intro w hSw; (try dsimp only at hSw); go_simp; try with_reducible rfl)) | (refine vtake_not 4 rfl (by kernel_rfl) (by kernel_rfl) (by kernel_rfl) (fun _ _ _ h => h) (by rfl) (by assumption) ?_) | fail "take 4"
                try simp only [Act.put, List.setIfInBounds_toArray, List.set_cons_zero, List.set_cons_succ]
                first | (refine vtake_wanted 5 (v := ?_) rfl (by kernel_rfl) (by kernel_rfl) (by kernel_rfl) (fun _ _ _ h => h) (by rfl) (by assumption) ?_ ?_; rotate_left; focus (intro w hSw; (try dsimp only at hSw); go_simp; try with_reducible rfl)) | (refine vtake_not 5 rfl (by kernel_rfl) (by kernel_rfl) (by kernel_rfl) (fun _ _ _ h => h) (by rfl) (by assumption) ?_) | fail "take 5"
                try simp only [Act.put, List.setIfInBounds_toArray, List.set_cons_zero, List.set_cons_succ]
                first | (refine vtake_wanted 6 (v := ?_) rfl (by kernel_rfl) (by kernel_rfl) (by kernel_rfl) (fun _ _ _ h => h) (by rfl) (by assumption) ?_ ?_; rotate_left; focus (intro w hSw; (try dsimp only at hSw); go_simp; try with_reducible rfl)) | (refine vtake_not 6 rfl (by kernel_rfl) (by kernel_rfl) (by kernel_rfl) (fun _ _ _ h => h) (by rfl) (by assumption) ?_) | fail "take 6"
                try simp only [Act.put, List.setIfInBounds_toArray, List.set_cons_zero, List.set_cons_succ]
                first | (refine vtake_wanted 7 (v := ?_) rfl (by kernel_rfl) (by kernel_rfl) (by kernel_rfl) (fun _ _ _ h => h) (by rfl) (by assumption) ?_ ?_; rotate_left; focus (intro w hSw; (try dsimp only at hSw); go_simp; try with_reducible rfl)) | (refine vtake_not 7 rfl (by kernel_rfl) (by kernel_rfl) (by kernel_rfl) (fun _ _ _ h => h) (by rfl) (by assumption) ?_) | fail "take 7"
                try simp only [Act.put, List.setIfInBounds_toArray, List.set_cons_zero, List.set_cons_succ]
                first | (refine vtake_wanted 8 (v := ?_) rfl (by kernel_rfl) (by kernel_rfl) (by kernel_rfl) (fun _ _ _ h => h) (by rfl) (by assumption) ?_ ?_; rotate_left; focus (intro w hSw; (try dsimp only at hSw); go_simp; try with_reducible rfl)) | (refine vtake_not 8 rfl (by kernel_rfl) (by kernel_rfl) (by kernel_rfl) (fun _ _ _ h => h) (by rfl) (by assumption) ?_) | fail "take 8"
                try simp only [Act.put, List.setIfInBounds_toArray, List.set_cons_zero, List.set_cons_succ]
                first | (refine vtake_wanted 9 (v := ?_) rfl (by kernel_rfl) (by kernel_rfl) (by kernel_rfl) (fun _ _ _ h => h) (by rfl) (by assumption) ?_ ?_; rotate_left; focus (intro w hSw; (try dsimp only at hSw); go_simp; try with_reducible rfl)) | (refine vtake_not 9 rfl (by kernel_rfl) (by kernel_rfl) (by kernel_rfl) (fun _ _ _ h => h) (by rfl) (by assumption) ?_) | fail "take 9"
                try simp only [Act.put, List.setIfInBounds_toArray, List.set_cons_zero, List.set_cons_succ]
                first | (refine vtake_wanted 10 (v := ?_) rfl (by kernel_rfl) (by kernel_rfl) (by kernel_rfl) (fun _ _ _ h => h) (by rfl) (by assumption) ?_ ?_; rotate_left; focus (intro w hSw; (try dsimp only at hSw); go_simp; try with_reducible rfl)) | (refine vtake_not 10 rfl (by kernel_rfl) (by kernel_rfl) (by kernel_rfl) (fun _ _ _ h => h) (by rfl) (by assumption) ?_) | fail "take 10"
                try simp only [Act.put, List.setIfInBounds_toArray, List.set_cons_zero, List.set_cons_succ]
                first | (refine vtake_wanted 11 (v := ?_) rfl (by kernel_rfl) (by kernel_rfl) (by kernel_rfl) (fun _ _ _ h => h) (by rfl) (by assumption) ?_ ?_; rotate_left; focus (intro w hSw; (try dsimp only at hSw); go_simp; try with_reducible rfl)) | (refine vtake_not 11 rfl (by kernel_rfl) (by kernel_rfl) (by kernel_rfl) (fun _ _ _ h => h) (by rfl) (by assumption) ?_) | fail "take 11"
                try simp only [Act.put, List.setIfInBounds_toArray, List.set_cons_zero, List.set_cons_succ]
                first | (refine vtake_wanted 12 (v := ?_) rfl (by kernel_rfl) (by kernel_rfl) (by kernel_rfl) (fun _ _ _ h => h) (by rfl) (by assumption) ?_ ?_; rotate_left; focus (intro w hSw; (try dsimp only at hSw); go_simp; try with_reducible rfl)) | (refine vtake_not 12 rfl (by kernel_rfl) (by kernel_rfl) (by kernel_rfl) (fun _ _ _ h => h) (by rfl) (by assumption) ?_) | fail "take 12"
                try simp only [Act.put, List.setIfInBounds_toArray, List.set_cons_zero, List.set_cons_succ]
                first | (refine vtake_wanted 13 (v := ?_) rfl (by kernel_rfl) (by kernel_rfl) (by kernel_rfl) (fun _ _ _ h => h) (by rfl) (by assumption) ?_ ?_; rotate_left; focus (intro w hSw; (try dsimp only at hSw); go_simp; try with_reducible rfl)) | (refine vtake_not 13 rfl (by kernel_rfl) (by kernel_rfl) (by kernel_rfl) (fun _ _ _ h => h) (by rfl) (by assumption) ?_) | fail "take 13"
                try simp only [Act.put, List.setIfInBounds_toArray, List.set_cons_zero, List.set_cons_succ]
                first | (refine vtake_wanted 15 (v := ?_) rfl (by kernel_rfl) (by kernel_rfl) (by kernel_rfl) (fun _ _ _ h => h) (by rfl) (by assumption) ?_ ?_; rotate_left; focus (intro w hSw; (try dsimp only at hSw); go_simp; try with_reducible rfl)) | (refine vtake_not 15 rfl (by kernel_rfl) (by kernel_rfl) (by kernel_rfl) (fun _ _ _ h => h) (by rfl) (by assumption) ?_) | fail "take 15"
                try simp only [Act.put, List.setIfInBounds_toArray, List.set_cons_zero, List.set_cons_succ]
                first | (refine vtake_wanted 16 (v := ?_) rfl (by kernel_rfl) (by kernel_rfl) (by kernel_rfl) (fun _ _ _ h => h) (by rfl) (by assumption) ?_ ?_; rotate_left; focus (intro w hSw; (try dsimp only at hSw); go_simp; try with_reducible rfl)) | (refine vtake_not 16 rfl (by kernel_rfl) (by kernel_rfl) (by kernel_rfl) (fun _ _ _ h => h) (by rfl) (by assumption) ?_) | fail "take 16"
                try simp only [Act.put, List.setIfInBounds_toArray, List.set_cons_zero, List.set_cons_succ]
                first | (refine vtake_wanted 17 (v := ?_) rfl (by kernel_rfl) (by kernel_rfl) (by kernel_rfl) (fun _ _ _ h => h) (by rfl) (by assumption) ?_ ?_; rotate_left; focus (intro w hSw; (try dsimp only at hSw); go_simp; try with_reducible rfl)) | (refine vtake_not 17 rfl (by kernel_rfl) (by kernel_rfl) (by kernel_rfl) (fun _ _ _ h => h) (by rfl) (by assumption) ?_) | fail "take 17"
                try simp only [Act.put, List.setIfInBounds_toArray, List.set_cons_zero, List.set_cons_succ]
                first | (refine vtake_wanted 18 (v := ?_) rfl (by kernel_rfl) (by kernel_rfl) (by kernel_rfl) (fun _ _ _ h => h) (by rfl) (by assumption) ?_ ?_; rotate_left; focus (intro w hSw; (try dsimp only at hSw); go_simp; try with_reducible rfl)) | (refine vtake_not 18 rfl (by kernel_rfl) (by kernel_rfl) (by kernel_rfl) (fun _ _ _ h => h) (by rfl) (by assumption) ?_) | fail "take 18"
                try simp only [Act.put, List.setIfInBounds_toArray, List.set_cons_zero, List.set_cons_succ]
                refine vbranch_one 14 rfl (by kernel_rfl) (fun K hK => ?_)
                go_simp
                (go_at_call 14; refine (TW.spent R hT5).mono ?_; rintro o u6 ⟨rfl, hT6⟩)
                refine hK.out _ _ ?_ (fun hHeld2 => ?_)
                focus (first | exact (‹TW Is wr p (.slice a9 9 c9) (rotA k) (.pointer (some q)) x3 x3 _›).c3 | exact c35 | assumption)
                clear hK K hHeld
                try simp only [Act.put, List.setIfInBounds_toArray, List.set_cons_zero, List.set_cons_succ]
                first | (refine vtake_wanted 19 (v := ?_) rfl (by kernel_rfl) (by kernel_rfl) (by kernel_rfl) (fun _ _ _ h => h) (by rfl) (by assumption) ?_ ?_; rotate_left; focus (intro w hSw; (try dsimp only at hSw); go_simp; try with_reducible rfl)) | (refine vtake_not 19 rfl (by kernel_rfl) (by kernel_rfl) (by kernel_rfl) (fun _ _ _ h => h) (by rfl) (by assumption) ?_) | fail "take 19"
                try simp only [Act.put, List.setIfInBounds_toArray, List.set_cons_zero, List.set_cons_succ]
                first | (refine vtake_wanted 20 (v := ?_) rfl (by kernel_rfl) (by kernel_rfl) (by kernel_rfl) (fun _ _ _ h => h) (by rfl) (by assumption) ?_ ?_; rotate_left; focus (intro w hSw; (try dsimp only at hSw); go_simp; try with_reducible rfl)) | (refine vtake_not 20 rfl (by kernel_rfl) (by kernel_rfl) (by kernel_rfl) (fun _ _ _ h => h) (by rfl) (by assumption) ?_) | fail "take 20"
                try simp only [Act.put, List.setIfInBounds_toArray, List.set_cons_zero, List.set_cons_succ]
                first | (refine vtake_wanted 21 (v := ?_) rfl (by kernel_rfl) (by kernel_rfl) (by kernel_rfl) (fun _ _ _ h => h) (by rfl) (by assumption) ?_ ?_; rotate_left; focus (intro w hSw; (try dsimp only at hSw); go_simp; try with_reducible rfl)) | (refine vtake_not 21 rfl (by kernel_rfl) (by kernel_rfl) (by kernel_rfl) (fun _ _ _ h => h) (by rfl) (by assumption) ?_) | fail "take 21"
                try simp only [Act.put, List.setIfInBounds_toArray, List.set_cons_zero, List.set_cons_succ]
                first | (refine vtake_wanted 22 (v := ?_) rfl (by kernel_rfl) (by kernel_rfl) (by kernel_rfl) (fun _ _ _ h => h) (by rfl) (by assumption) ?_ ?_; rotate_left; focus (intro w hSw; (try dsimp only at hSw); go_simp; try with_reducible rfl)) | (refine vtake_not 22 rfl (by kernel_rfl) (by kernel_rfl) (by kernel_rfl) (fun _ _ _ h => h) (by rfl) (by assumption) ?_) | fail "take 22"
                try simp only [Act.put, List.setIfInBounds_toArray, List.set_cons_zero, List.set_cons_succ]
                first | (refine vtake_wanted 23 (v := ?_) rfl (by kernel_rfl) (by kernel_rfl) (by kernel_rfl) (fun _ _ _ h => h) (by rfl) (by assumption) ?_ ?_; rotate_left; focus (intro w hSw; (try dsimp only at hSw); go_simp; try with_reducible rfl)) | (refine vtake_not 23 rfl (by kernel_rfl) (by kernel_rfl) (by kernel_rfl) (fun _ _ _ h => h) (by rfl) (by assumption) ?_) | fail "take 23"
                try simp only [Act.put, List.setIfInBounds_toArray, List.set_cons_zero, List.set_cons_succ]
                first | (refine vtake_wanted 24 (v := ?_) rfl (by kernel_rfl) (by kernel_rfl) (by kernel_rfl) (fun _ _ _ h => h) (by rfl) (by assumption) ?_ ?_; rotate_left; focus (intro w hSw; (try dsimp only at hSw); go_simp; try with_reducible rfl)) | (refine vtake_not 24 rfl (by kernel_rfl) (by kernel_rfl) (by kernel_rfl) (fun _ _ _ h => h) (by rfl) (by assumption) ?_) | fail "take 24"
                try simp only [Act.put, List.setIfInBounds_toArray, List.set_cons_zero, List.set_cons_succ]
                first | (refine vtake_wanted 25 (v := ?_) rfl (by kernel_rfl) (by kernel_rfl) (by kernel_rfl) (fun _ _ _ h => h) (by rfl) (by assumption) ?_ ?_; rotate_left; focus (intro w hSw; (try dsimp only at hSw); go_simp; try with_reducible rfl)) | (refine vtake_not 25 rfl (by kernel_rfl) (by kernel_rfl) (by kernel_rfl) (fun _ _ _ h => h) (by rfl) (by assumption) ?_) | fail "take 25"
                try simp only [Act.put, List.setIfInBounds_toArray, List.set_cons_zero, List.set_cons_succ]
                first | (refine vtake_wanted 26 (v := ?_) rfl (by kernel_rfl) (by kernel_rfl) (by kernel_rfl) (fun _ _ _ h => h) (by rfl) (by assumption) ?_ ?_; rotate_left; focus (intro w hSw; (try dsimp only at hSw); go_simp; try with_reducible rfl)) | (refine vtake_not 26 rfl (by kernel_rfl) (by kernel_rfl) (by kernel_rfl) (fun _ _ _ h => h) (by rfl) (by assumption) ?_) | fail "take 26"
                try simp only [Act.put, List.setIfInBounds_toArray, List.set_cons_zero, List.set_cons_succ]
                first | (refine vtake_wanted 27 (v := ?_) rfl (by kernel_rfl) (by kernel_rfl) (by kernel_rfl) (fun _ _ _ h => h) (by rfl) (by assumption) ?_ ?_; rotate_left; focus (intro w hSw; (try dsimp only at hSw); go_simp; try with_reducible rfl)) | (refine vtake_not 27 rfl (by kernel_rfl) (by kernel_rfl) (by kernel_rfl) (fun _ _ _ h => h) (by rfl) (by assumption) ?_) | fail "take 27"
                try simp only [Act.put, List.setIfInBounds_toArray, List.set_cons_zero, List.set_cons_succ]
                first | (refine vtake_wanted 28 (v := ?_) rfl (by kernel_rfl) (by kernel_rfl) (by kernel_rfl) (fun _ _ _ h => h) (by rfl) (by assumption) ?_ ?_; rotate_left; focus (intro w hSw; (try dsimp only at hSw); go_simp; try with_reducible rfl)) | (refine vtake_not 28 rfl (by kernel_rfl) (by kernel_rfl) (by kernel_rfl) (fun _ _ _ h => h) (by rfl) (by assumption) ?_) | fail "take 28"
                try simp only [Act.put, List.setIfInBounds_toArray, List.set_cons_zero, List.set_cons_succ]
                first | (refine vtake_wanted 29 (v := ?_) rfl (by kernel_rfl) (by kernel_rfl) (by kernel_rfl) (fun _ _ _ h => h) (by rfl) (by assumption) ?_ ?_; rotate_left; focus (intro w hSw; (try dsimp only at hSw); go_simp; try with_reducible rfl)) | (refine vtake_not 29 rfl (by kernel_rfl) (by kernel_rfl) (by kernel_rfl) (fun _ _ _ h => h) (by rfl) (by assumption) ?_) | fail "take 29"
                try simp only [Act.put, List.setIfInBounds_toArray, List.set_cons_zero, List.set_cons_succ]
                refine wpAnyH_done (by kernel_rfl) ?_ _
                clear hHeld2
                all_goals
                  have H6 := Lib.hid hT6
                  have HVT := Lib.hid (HV1x.out.turned S HV1x.out.since.size (HBW.out.trans (H6.out.since.mono HBW.out.size)))
                  go_wp2_with fail
                  refine (vnormAt S tt (normL tt) _ rfl rfl (by omega) HVT.out).mono ?_
                  rintro e w7 ⟨rfl, hv7, hb7⟩
                  have H7 := Lib.hid (H6.out.other R hb7)
                  have HV7 := Lib.hid hv7
                  clear hv7 hb7 HVT
                  go_wp2_with fail
                  refine (rnorm_any tt _ (by omega)).mono ?_
                  rintro e w8 ⟨rfl, rfl⟩
                  go_wp2_with fail
                  refine (vtextAt S tt (escL false tt) _ rfl rfl (by omega) HV7.out).mono ?_
                  rintro e w9 ⟨rfl, hv9, hb9⟩
                  have H9 := Lib.hid (H7.out.other R hb9)
                  have HV9 := Lib.hid hv9
                  clear hv9 hb9 HV7
                  go_wp2_with fail
                  refine (resc_false tt _ (by omega)).mono ?_
                  rintro e w10 ⟨rfl, rfl⟩
                  go_wp2_with fail
                  refine (vattrAt S tt (escL true tt) _ rfl rfl (by omega) HV9.out).mono ?_
                  rintro e w11 ⟨rfl, hv11, hb11⟩
                  have H11 := Lib.hid (H9.out.other R hb11)
                  clear hv11 hb11 HV9
                  go_wp2_with fail
                  refine (resc_true tt _ (by omega)).mono ?_
                  rintro e w12 ⟨rfl, rfl⟩
                  go_wp2
                  go_roundw
                  case rel => exact ⟨tn + 1, sl, by omega, by go_num, rfl, by omega, Lib.hid (HBW.out.trans (H11.out.since.mono HBW.out.size))⟩
                  case measure => simp [intOf]; omega
          · have hp2 : (wr.drew.alloc (.cells #[.string ⟨#[]⟩, .slice a9 9 c9, .slice none 0 0, .int .i64 0, .slice none 0 0] 40)).rowIs wr.drew.heap.size 40 5 (fM (.slice a9 9 c9) 0 (.slice none 0 0)) := World.rowIs_alloc wr.drew #[.string ⟨#[]⟩, .slice a9 9 c9, .slice none 0 0, .int .i64 0, .slice none 0 0] 40 _ (by
              intro i hi
              rcases (show i = 0 ∨ i = 1 ∨ i = 2 ∨ i = 3 ∨ i = 4 by have : i < 5 := hi; omega) with rfl | rfl | rfl | rfl | rfl <;> rfl)
            obtain ⟨F, hi, hF⟩ := h.is
            have hsz1 : (wr.drew.alloc (.cells #[.string ⟨#[]⟩, .slice a9 9 c9, .slice none 0 0, .int .i64 0, .slice none 0 0] 40)).heap.size = wr.heap.size + 1 := by show (Array.push _ _).size = _; rw [Array.size_push]; rfl
            have HTM : Hid (TM Is wr wr.heap.size (.slice a9 9 c9) (.pointer (some q)) (ref0 (rotA k)) u) := Lib.hid ⟨⟨F, hi, fun k' hk' => by have := hF k' hk'; omega, fun hk' => by have := hF _ hk'; omega⟩, hp2.of_block (h.since.block _ hp2.lt), Nat.le_refl _, hS2.since⟩
            clear hi hF hsz1 hS2 h
            obtain ⟨p, hp⟩ : ∃ p, wr.heap.size = p := ⟨_, rfl⟩
            rw [hp] at HTM ⊢
            clear hp
            clear hp2
            obtain ⟨c, hcr⟩ : ∃ c, readV 9 (ref0 (rotA k)) tt (wrap64 (1 + bits BinOp.and IntKind.i64 kind 1)) most = c := ⟨_, rfl⟩
            have hfk : FitsR (wrap64 (1 + bits BinOp.and IntKind.i64 kind 1)) := by unfold FitsR wrap64; omega
            have HVT := Lib.hid (HV1x.out.turned S HV1x.out.since.size (HBW.out.trans (HTM.out.since.mono HBW.out.size)))
            have CRD := Lib.hid (two_read S HTM.out HVT.out.e (Nat.le_trans HV1x.out.n_le HBW.out.size) (rot_short k hk9 tt (by omega) most) hfk hm HEN2.out)
            have hpge := HTM.out.ge
            have HOPN := Lib.hid (readV_opened (D := 9) (r := ref0 (rotA k)) (raw := tt) (kind := wrap64 (1 + bits BinOp.and IntKind.i64 kind 1)) (most := most))
            have hcode := readV_code 9 (ref0 (rotA k)) tt (wrap64 (1 + bits BinOp.and IntKind.i64 kind 1)) most
            rw [hcr] at CRD HOPN hcode
            obtain ⟨x1, x2, x3⟩ := c
            go_wp2_with fail
            refine CRD.out.mono ?_
            rintro e w4 ⟨rfl, h4⟩
            have CVL := Lib.hid (two_val R h4 hpge (rot_fine k hk9 tt (by omega) most) (kind := wrap64 (1 + bits BinOp.and IntKind.i64 kind 1)))
            rw [hcr] at CVL
            clear h4 CRD hcr HVT HTM
            go_wp2_with fail
            refine CVL.out.mono ?_
            rintro e w5 ⟨rfl, h5⟩
            have hT5 : TW Is wr p (.slice a9 9 c9) (rotA k) (.pointer (some q)) x3 x3 w5.drew := (show TW Is wr p (.slice a9 9 c9) (rotA k) (.pointer (some q)) x3 x3 w5 from h5).other R (Below.refl _ _).drew
            clear h5 CVL
            have q1 : (x2 != x2) = false := by simp
            have q2 : ((x3.n : Int) != (x3.n : Int)) = false := by simp
            have c35 := hT5.c3
            by_cases hx0 : x2 = 0
            · subst hx0
              have hop : x3.opened = [] := HOPN.out rfl
              clear HOPN
              go_wp2_with fail
              go_region_held3 (fun W => W.cell? ⟨p, 3, none⟩ = some (.int .i64 (x3.n : Int)))
                (first | exact (‹TW Is wr p (.slice a9 9 c9) (rotA k) (.pointer (some q)) x3 x3 _›).c3 | exact c35 | assumption)
                (first | (go_at_call 14; refine (TW.spent R hT5).mono ?_; rintro o u6 ⟨rfl, hT6⟩) | (go_at_call 15; refine (TW.depth R hT6 hop).mono ?_; rintro o u7 ⟨rfl, hT7⟩))
              all_goals
                have H6 := Lib.hid hT7
                have HVT := Lib.hid (HV1x.out.turned S HV1x.out.since.size (HBW.out.trans (H6.out.since.mono HBW.out.size)))
                go_wp2_with fail
                refine (vnormAt S tt (normL tt) _ rfl rfl (by omega) HVT.out).mono ?_
                rintro e w7 ⟨rfl, hv7, hb7⟩
                have H7 := Lib.hid (H6.out.other R hb7)
                have HV7 := Lib.hid hv7
                clear hv7 hb7 HVT
                go_wp2_with fail
                refine (rnorm_any tt _ (by omega)).mono ?_
                rintro e w8 ⟨rfl, rfl⟩
                go_wp2_with fail
                refine (vtextAt S tt (escL false tt) _ rfl rfl (by omega) HV7.out).mono ?_
                rintro e w9 ⟨rfl, hv9, hb9⟩
                have H9 := Lib.hid (H7.out.other R hb9)
                have HV9 := Lib.hid hv9
                clear hv9 hb9 HV7
                go_wp2_with fail
                refine (resc_false tt _ (by omega)).mono ?_
                rintro e w10 ⟨rfl, rfl⟩
                go_wp2_with fail
                refine (vattrAt S tt (escL true tt) _ rfl rfl (by omega) HV9.out).mono ?_
                rintro e w11 ⟨rfl, hv11, hb11⟩
                have H11 := Lib.hid (H9.out.other R hb11)
                clear hv11 hb11 HV9
                go_wp2_with fail
                refine (resc_true tt _ (by omega)).mono ?_
                rintro e w12 ⟨rfl, rfl⟩
                go_wp2
                go_roundw
                case rel => exact ⟨tn + 1, sl, by omega, by go_num, rfl, by omega, Lib.hid (HBW.out.trans (H11.out.since.mono HBW.out.size))⟩
                case measure => simp [intOf]; omega
            · have hc2 : x2 = 2 ∨ x2 = 3 := hcode.resolve_left hx0
              clear hx0 HOPN hcode
              rcases hc2 with rfl | rfl
              · go_wp2_with fail
                try simp only [List.append_eq, List.cons_append, List.nil_append] at *
                refine wp_region_held_drew (S := (fun W => W.cell? ⟨p, 3, none⟩ = some (.int .i64 (x3.n : Int)))) (by kernel_rfl) (by (first | exact (‹TW Is wr p (.slice a9 9 c9) (rotA k) (.pointer (some q)) x3 x3 _›).c3 | exact c35 | assumption)) (fun hHeld => ?_)
                first | (refine vtake_wanted 0 (v := ?_) rfl (by kernel_rfl) (by kernel_rfl) (by kernel_rfl) (fun _ _ _ h => h) (by rfl) (by assumption) ?_ ?_; rotate_left; focus (intro w hSw; (try dsimp only at hSw); go_simp; try with_reducible rfl)) | (refine vtake_not 0 rfl (by kernel_rfl) (by kernel_rfl) (by kernel_rfl) (fun _ _ _ h => h) (by rfl) (by assumption) ?_) | fail "take 0"
                try simp only [Act.put, List.setIfInBounds_toArray, List.set_cons_zero, List.set_cons_succ]
                first | (refine vtake_wanted 1 (v := ?_) rfl (by kernel_rfl) (by kernel_rfl) (by kernel_rfl) (fun _ _ _ h => h) (by rfl) (by assumption) ?_ ?_; rotate_left; focus (intro w hSw; (try dsimp only at hSw); go_simp; try with_reducible rfl)) | (refine vtake_not 1 rfl (by kernel_rfl) (by kernel_rfl) (by kernel_rfl) (fun _ _ _ h => h) (by rfl) (by assumption) ?_) | fail "take 1"
                try simp only [Act.put, List.setIfInBounds_toArray, List.set_cons_zero, List.set_cons_succ]
                first | (refine vtake_wanted 2 (v := ?_) rfl (by kernel_rfl) (by kernel_rfl) (by kernel_rfl) (fun _ _ _ h => h) (by rfl) (by assumption) ?_ ?_; rotate_left; focus (intro w hSw; (try dsimp only at hSw); go_simp; try with_reducible rfl)) | (refine vtake_not 2 rfl (by kernel_rfl) (by kernel_rfl) (by kernel_rfl) (fun _ _ _ h => h) (by rfl) (by assumption) ?_) | fail "take 2"
                try simp only [Act.put, List.setIfInBounds_toArray, List.set_cons_zero, List.set_cons_succ]
                first | (refine vtake_wanted 3 (v := ?_) rfl (by kernel_rfl) (by kernel_rfl) (by kernel_rfl) (fun _ _ _ h => h) (by rfl) (by assumption) ?_ ?_; rotate_left; focus (intro w hSw; (try dsimp only at hSw); go_simp; try with_reducible rfl)) | (refine vtake_not 3 rfl (by kernel_rfl) (by kernel_rfl) (by kernel_rfl) (fun _ _ _ h => h) (by rfl) (by assumption) ?_) | fail "take 3"
                try simp only [Act.put, List.setIfInBounds_toArray, List.set_cons_zero, List.set_cons_succ]
                first | (refine vtake_wanted 4 (v := ?_) rfl (by kernel_rfl) (by kernel_rfl) (by kernel_rfl) (fun _ _ _ h => h) (by rfl) (by assumption) ?_ ?_; rotate_left; focus (intro w hSw; (try dsimp only at hSw); go_simp; try with_reducible rfl)) | (refine vtake_not 4 rfl (by kernel_rfl) (by kernel_rfl) (by kernel_rfl) (fun _ _ _ h => h) (by rfl) (by assumption) ?_) | fail "take 4"
                try simp only [Act.put, List.setIfInBounds_toArray, List.set_cons_zero, List.set_cons_succ]
                first | (refine vtake_wanted 5 (v := ?_) rfl (by kernel_rfl) (by kernel_rfl) (by kernel_rfl) (fun _ _ _ h => h) (by rfl) (by assumption) ?_ ?_; rotate_left; focus (intro w hSw; (try dsimp only at hSw); go_simp; try with_reducible rfl)) | (refine vtake_not 5 rfl (by kernel_rfl) (by kernel_rfl) (by kernel_rfl) (fun _ _ _ h => h) (by rfl) (by assumption) ?_) | fail "take 5"
                try simp only [Act.put, List.setIfInBounds_toArray, List.set_cons_zero, List.set_cons_succ]
                first | (refine vtake_wanted 6 (v := ?_) rfl (by kernel_rfl) (by kernel_rfl) (by kernel_rfl) (fun _ _ _ h => h) (by rfl) (by assumption) ?_ ?_; rotate_left; focus (intro w hSw; (try dsimp only at hSw); go_simp; try with_reducible rfl)) | (refine vtake_not 6 rfl (by kernel_rfl) (by kernel_rfl) (by kernel_rfl) (fun _ _ _ h => h) (by rfl) (by assumption) ?_) | fail "take 6"
                try simp only [Act.put, List.setIfInBounds_toArray, List.set_cons_zero, List.set_cons_succ]
                first | (refine vtake_wanted 7 (v := ?_) rfl (by kernel_rfl) (by kernel_rfl) (by kernel_rfl) (fun _ _ _ h => h) (by rfl) (by assumption) ?_ ?_; rotate_left; focus (intro w hSw; (try dsimp only at hSw); go_simp; try with_reducible rfl)) | (refine vtake_not 7 rfl (by kernel_rfl) (by kernel_rfl) (by kernel_rfl) (fun _ _ _ h => h) (by rfl) (by assumption) ?_) | fail "take 7"
                try simp only [Act.put, List.setIfInBounds_toArray, List.set_cons_zero, List.set_cons_succ]
                first | (refine vtake_wanted 8 (v := ?_) rfl (by kernel_rfl) (by kernel_rfl) (by kernel_rfl) (fun _ _ _ h => h) (by rfl) (by assumption) ?_ ?_; rotate_left; focus (intro w hSw; (try dsimp only at hSw); go_simp; try with_reducible rfl)) | (refine vtake_not 8 rfl (by kernel_rfl) (by kernel_rfl) (by kernel_rfl) (fun _ _ _ h => h) (by rfl) (by assumption) ?_) | fail "take 8"
                try simp only [Act.put, List.setIfInBounds_toArray, List.set_cons_zero, List.set_cons_succ]
                first | (refine vtake_wanted 9 (v := ?_) rfl (by kernel_rfl) (by kernel_rfl) (by kernel_rfl) (fun _ _ _ h => h) (by rfl) (by assumption) ?_ ?_; rotate_left; focus (intro w hSw; (try dsimp only at hSw); go_simp; try with_reducible rfl)) | (refine vtake_not 9 rfl (by kernel_rfl) (by kernel_rfl) (by kernel_rfl) (fun _ _ _ h => h) (by rfl) (by assumption) ?_) | fail "take 9"
                try simp only [Act.put, List.setIfInBounds_toArray, List.set_cons_zero, List.set_cons_succ]
                first | (refine vtake_wanted 10 (v := ?_) rfl (by kernel_rfl) (by kernel_rfl) (by kernel_rfl) (fun _ _ _ h => h) (by rfl) (by assumption) ?_ ?_; rotate_left; focus (intro w hSw; (try dsimp only at hSw); go_simp; try with_reducible rfl)) | (refine vtake_not 10 rfl (by kernel_rfl) (by kernel_rfl) (by kernel_rfl) (fun _ _ _ h => h) (by rfl) (by assumption) ?_) | fail "take 10"
                try simp only [Act.put, List.setIfInBounds_toArray, List.set_cons_zero, List.set_cons_succ]
                first | (refine vtake_wanted 11 (v := ?_) rfl (by kernel_rfl) (by kernel_rfl) (by kernel_rfl) (fun _ _ _ h => h) (by rfl) (by assumption) ?_ ?_; rotate_left; focus (intro w hSw; (try dsimp only at hSw); go_simp; try with_reducible rfl)) | (refine vtake_not 11 rfl (by kernel_rfl) (by kernel_rfl) (by kernel_rfl) (fun _ _ _ h => h) (by rfl) (by assumption) ?_) | fail "take 11"
                try simp only [Act.put, List.setIfInBounds_toArray, List.set_cons_zero, List.set_cons_succ]
                first | (refine vtake_wanted 12 (v := ?_) rfl (by kernel_rfl) (by kernel_rfl) (by kernel_rfl) (fun _ _ _ h => h) (by rfl) (by assumption) ?_ ?_; rotate_left; focus (intro w hSw; (try dsimp only at hSw); go_simp; try with_reducible rfl)) | (refine vtake_not 12 rfl (by kernel_rfl) (by kernel_rfl) (by kernel_rfl) (fun _ _ _ h => h) (by rfl) (by assumption) ?_) | fail "take 12"
                try simp only [Act.put, List.setIfInBounds_toArray, List.set_cons_zero, List.set_cons_succ]
                first | (refine vtake_wanted 13 (v := ?_) rfl (by kernel_rfl) (by kernel_rfl) (by kernel_rfl) (fun _ _ _ h => h) (by rfl) (by assumption) ?_ ?_; rotate_left; focus (intro w hSw; (try dsimp only at hSw); go_simp; try with_reducible rfl)) | (refine vtake_not 13 rfl (by kernel_rfl) (by kernel_rfl) (by kernel_rfl) (fun _ _ _ h => h) (by rfl) (by assumption) ?_) | fail "take 13"
                try simp only [Act.put, List.setIfInBounds_toArray, List.set_cons_zero, List.set_cons_succ]
                first | (refine vtake_wanted 15 (v := ?_) rfl (by kernel_rfl) (by kernel_rfl) (by kernel_rfl) (fun _ _ _ h => h) (by rfl) (by assumption) ?_ ?_; rotate_left; focus (intro w hSw; (try dsimp only at hSw); go_simp; try with_reducible rfl)) | (refine vtake_not 15 rfl (by kernel_rfl) (by kernel_rfl) (by kernel_rfl) (fun _ _ _ h => h) (by rfl) (by assumption) ?_) | fail "take 15"
                try simp only [Act.put, List.setIfInBounds_toArray, List.set_cons_zero, List.set_cons_succ]
                first | (refine vtake_wanted 16 (v := ?_) rfl (by kernel_rfl) (by kernel_rfl) (by kernel_rfl) (fun _ _ _ h => h) (by rfl) (by assumption) ?_ ?_; rotate_left; focus (intro w hSw; (try dsimp only at hSw); go_simp; try with_reducible rfl)) | (refine vtake_not 16 rfl (by kernel_rfl) (by kernel_rfl) (by kernel_rfl) (fun _ _ _ h => h) (by rfl) (by assumption) ?_) | fail "take 16"
                try simp only [Act.put, List.setIfInBounds_toArray, List.set_cons_zero, List.set_cons_succ]
                first | (refine vtake_wanted 17 (v := ?_) rfl (by kernel_rfl) (by kernel_rfl) (by kernel_rfl) (fun _ _ _ h => h) (by rfl) (by assumption) ?_ ?_; rotate_left; focus (intro w hSw; (try dsimp only at hSw); go_simp; try with_reducible rfl)) | (refine vtake_not 17 rfl (by kernel_rfl) (by kernel_rfl) (by kernel_rfl) (fun _ _ _ h => h) (by rfl) (by assumption) ?_) | fail "take 17"
                try simp only [Act.put, List.setIfInBounds_toArray, List.set_cons_zero, List.set_cons_succ]
                first | (refine vtake_wanted 18 (v := ?_) rfl (by kernel_rfl) (by kernel_rfl) (by kernel_rfl) (fun _ _ _ h => h) (by rfl) (by assumption) ?_ ?_; rotate_left; focus (intro w hSw; (try dsimp only at hSw); go_simp; try with_reducible rfl)) | (refine vtake_not 18 rfl (by kernel_rfl) (by kernel_rfl) (by kernel_rfl) (fun _ _ _ h => h) (by rfl) (by assumption) ?_) | fail "take 18"
                try simp only [Act.put, List.setIfInBounds_toArray, List.set_cons_zero, List.set_cons_succ]
                refine vbranch_one 14 rfl (by kernel_rfl) (fun K hK => ?_)
                go_simp
                (go_at_call 14; refine (TW.spent R hT5).mono ?_; rintro o u6 ⟨rfl, hT6⟩)
                refine hK.out _ _ ?_ (fun hHeld2 => ?_)
                focus (first | exact (‹TW Is wr p (.slice a9 9 c9) (rotA k) (.pointer (some q)) x3 x3 _›).c3 | exact c35 | assumption)
                clear hK K hHeld
                try simp only [Act.put, List.setIfInBounds_toArray, List.set_cons_zero, List.set_cons_succ]
                first | (refine vtake_wanted 19 (v := ?_) rfl (by kernel_rfl) (by kernel_rfl) (by kernel_rfl) (fun _ _ _ h => h) (by rfl) (by assumption) ?_ ?_; rotate_left; focus (intro w hSw; (try dsimp only at hSw); go_simp; try with_reducible rfl)) | (refine vtake_not 19 rfl (by kernel_rfl) (by kernel_rfl) (by kernel_rfl) (fun _ _ _ h => h) (by rfl) (by assumption) ?_) | fail "take 19"
                try simp only [Act.put, List.setIfInBounds_toArray, List.set_cons_zero, List.set_cons_succ]
                first | (refine vtake_wanted 20 (v := ?_) rfl (by kernel_rfl) (by kernel_rfl) (by kernel_rfl) (fun _ _ _ h => h) (by rfl) (by assumption) ?_ ?_; rotate_left; focus (intro w hSw; (try dsimp only at hSw); go_simp; try with_reducible rfl)) | (refine vtake_not 20 rfl (by kernel_rfl) (by kernel_rfl) (by kernel_rfl) (fun _ _ _ h => h) (by rfl) (by assumption) ?_) | fail "take 20"
                try simp only [Act.put, List.setIfInBounds_toArray, List.set_cons_zero, List.set_cons_succ]
                first | (refine vtake_wanted 21 (v := ?_) rfl (by kernel_rfl) (by kernel_rfl) (by kernel_rfl) (fun _ _ _ h => h) (by rfl) (by assumption) ?_ ?_; rotate_left; focus (intro w hSw; (try dsimp only at hSw); go_simp; try with_reducible rfl)) | (refine vtake_not 21 rfl (by kernel_rfl) (by kernel_rfl) (by kernel_rfl) (fun _ _ _ h => h) (by rfl) (by assumption) ?_) | fail "take 21"
                try simp only [Act.put, List.setIfInBounds_toArray, List.set_cons_zero, List.set_cons_succ]
                first | (refine vtake_wanted 22 (v := ?_) rfl (by kernel_rfl) (by kernel_rfl) (by kernel_rfl) (fun _ _ _ h => h) (by rfl) (by assumption) ?_ ?_; rotate_left; focus (intro w hSw; (try dsimp only at hSw); go_simp; try with_reducible rfl)) | (refine vtake_not 22 rfl (by kernel_rfl) (by kernel_rfl) (by kernel_rfl) (fun _ _ _ h => h) (by rfl) (by assumption) ?_) | fail "take 22"
                try simp only [Act.put, List.setIfInBounds_toArray, List.set_cons_zero, List.set_cons_succ]
                first | (refine vtake_wanted 23 (v := ?_) rfl (by kernel_rfl) (by kernel_rfl) (by kernel_rfl) (fun _ _ _ h => h) (by rfl) (by assumption) ?_ ?_; rotate_left; focus (intro w hSw; (try dsimp only at hSw); go_simp; try with_reducible rfl)) | (refine vtake_not 23 rfl (by kernel_rfl) (by kernel_rfl) (by kernel_rfl) (fun _ _ _ h => h) (by rfl) (by assumption) ?_) | fail "take 23"
                try simp only [Act.put, List.setIfInBounds_toArray, List.set_cons_zero, List.set_cons_succ]
                first | (refine vtake_wanted 24 (v := ?_) rfl (by kernel_rfl) (by kernel_rfl) (by kernel_rfl) (fun _ _ _ h => h) (by rfl) (by assumption) ?_ ?_; rotate_left; focus (intro w hSw; (try dsimp only at hSw); go_simp; try with_reducible rfl)) | (refine vtake_not 24 rfl (by kernel_rfl) (by kernel_rfl) (by kernel_rfl) (fun _ _ _ h => h) (by rfl) (by assumption) ?_) | fail "take 24"
                try simp only [Act.put, List.setIfInBounds_toArray, List.set_cons_zero, List.set_cons_succ]
                first | (refine vtake_wanted 25 (v := ?_) rfl (by kernel_rfl) (by kernel_rfl) (by kernel_rfl) (fun _ _ _ h => h) (by rfl) (by assumption) ?_ ?_; rotate_left; focus (intro w hSw; (try dsimp only at hSw); go_simp; try with_reducible rfl)) | (refine vtake_not 25 rfl (by kernel_rfl) (by kernel_rfl) (by kernel_rfl) (fun _ _ _ h => h) (by rfl) (by assumption) ?_) | fail "take 25"
                try simp only [Act.put, List.setIfInBounds_toArray, List.set_cons_zero, List.set_cons_succ]
                first | (refine vtake_wanted 26 (v := ?_) rfl (by kernel_rfl) (by kernel_rfl) (by kernel_rfl) (fun _ _ _ h => h) (by rfl) (by assumption) ?_ ?_; rotate_left; focus (intro w hSw; (try dsimp only at hSw); go_simp; try with_reducible rfl)) | (refine vtake_not 26 rfl (by kernel_rfl) (by kernel_rfl) (by kernel_rfl) (fun _ _ _ h => h) (by rfl) (by assumption) ?_) | fail "take 26"
                try simp only [Act.put, List.setIfInBounds_toArray, List.set_cons_zero, List.set_cons_succ]
                first | (refine vtake_wanted 27 (v := ?_) rfl (by kernel_rfl) (by kernel_rfl) (by kernel_rfl) (fun _ _ _ h => h) (by rfl) (by assumption) ?_ ?_; rotate_left; focus (intro w hSw; (try dsimp only at hSw); go_simp; try with_reducible rfl)) | (refine vtake_not 27 rfl (by kernel_rfl) (by kernel_rfl) (by kernel_rfl) (fun _ _ _ h => h) (by rfl) (by assumption) ?_) | fail "take 27"
                try simp only [Act.put, List.setIfInBounds_toArray, List.set_cons_zero, List.set_cons_succ]
                first | (refine vtake_wanted 28 (v := ?_) rfl (by kernel_rfl) (by kernel_rfl) (by kernel_rfl) (fun _ _ _ h => h) (by rfl) (by assumption) ?_ ?_; rotate_left; focus (intro w hSw; (try dsimp only at hSw); go_simp; try with_reducible rfl)) | (refine vtake_not 28 rfl (by kernel_rfl) (by kernel_rfl) (by kernel_rfl) (fun _ _ _ h => h) (by rfl) (by assumption) ?_) | fail "take 28"
                try simp only [Act.put, List.setIfInBounds_toArray, List.set_cons_zero, List.set_cons_succ]
                first | (refine vtake_wanted 29 (v := ?_) rfl (by kernel_rfl) (by kernel_rfl) (by kernel_rfl) (fun _ _ _ h => h) (by rfl) (by assumption) ?_ ?_; rotate_left; focus (intro w hSw; (try dsimp only at hSw); go_simp; try with_reducible rfl)) | (refine vtake_not 29 rfl (by kernel_rfl) (by kernel_rfl) (by kernel_rfl) (fun _ _ _ h => h) (by rfl) (by assumption) ?_) | fail "take 29"
                try simp only [Act.put, List.setIfInBounds_toArray, List.set_cons_zero, List.set_cons_succ]
                refine wpAnyH_done (by kernel_rfl) ?_ _
                clear hHeld2
                all_goals
                  have H6 := Lib.hid hT6
                  have HVT := Lib.hid (HV1x.out.turned S HV1x.out.since.size (HBW.out.trans (H6.out.since.mono HBW.out.size)))
                  go_wp2_with fail
                  refine (vnormAt S tt (normL tt) _ rfl rfl (by omega) HVT.out).mono ?_
                  rintro e w7 ⟨rfl, hv7, hb7⟩
                  have H7 := Lib.hid (H6.out.other R hb7)
                  have HV7 := Lib.hid hv7
                  clear hv7 hb7 HVT
                  go_wp2_with fail
                  refine (rnorm_any tt _ (by omega)).mono ?_
                  rintro e w8 ⟨rfl, rfl⟩
                  go_wp2_with fail
                  refine (vtextAt S tt (escL false tt) _ rfl rfl (by omega) HV7.out).mono ?_
                  rintro e w9 ⟨rfl, hv9, hb9⟩
                  have H9 := Lib.hid (H7.out.other R hb9)
                  have HV9 := Lib.hid hv9
                  clear hv9 hb9 HV7
                  go_wp2_with fail
                  refine (resc_false tt _ (by omega)).mono ?_
                  rintro e w10 ⟨rfl, rfl⟩
                  go_wp2_with fail
                  refine (vattrAt S tt (escL true tt) _ rfl rfl (by omega) HV9.out).mono ?_
                  rintro e w11 ⟨rfl, hv11, hb11⟩
                  have H11 := Lib.hid (H9.out.other R hb11)
                  clear hv11 hb11 HV9
                  go_wp2_with fail
                  refine (resc_true tt _ (by omega)).mono ?_
                  rintro e w12 ⟨rfl, rfl⟩
                  go_wp2
                  go_roundw
                  case rel => exact ⟨tn + 1, sl, by omega, by go_num, rfl, by omega, Lib.hid (HBW.out.trans (H11.out.since.mono HBW.out.size))⟩
                  case measure => simp [intOf]; omega
              · go_wp2_with fail
                try simp only [List.append_eq, List.cons_append, List.nil_append] at *
                refine wp_region_held_drew (S := (fun W => W.cell? ⟨p, 3, none⟩ = some (.int .i64 (x3.n : Int)))) (by kernel_rfl) (by (first | exact (‹TW Is wr p (.slice a9 9 c9) (rotA k) (.pointer (some q)) x3 x3 _›).c3 | exact c35 | assumption)) (fun hHeld => ?_)
                first | (refine vtake_wanted 0 (v := ?_) rfl (by kernel_rfl) (by kernel_rfl) (by kernel_rfl) (fun _ _ _ h => h) (by rfl) (by assumption) ?_ ?_; rotate_left; focus (intro w hSw; (try dsimp only at hSw); go_simp; try with_reducible rfl)) | (refine vtake_not 0 rfl (by kernel_rfl) (by kernel_rfl) (by kernel_rfl) (fun _ _ _ h => h) (by rfl) (by assumption) ?_) | fail "take 0"
                try simp only [Act.put, List.setIfInBounds_toArray, List.set_cons_zero, List.set_cons_succ]
                first | (refine vtake_wanted 1 (v := ?_) rfl (by kernel_rfl) (by kernel_rfl) (by kernel_rfl) (fun _ _ _ h => h) (by rfl) (by assumption) ?_ ?_; rotate_left; focus (intro w hSw; (try dsimp only at hSw); go_simp; try with_reducible rfl)) | (refine vtake_not 1 rfl (by kernel_rfl) (by kernel_rfl) (by kernel_rfl) (fun _ _ _ h => h) (by rfl) (by assumption) ?_) | fail "take 1"
                try simp only [Act.put, List.setIfInBounds_toArray, List.set_cons_zero, List.set_cons_succ]
                first | (refine vtake_wanted 2 (v := ?_) rfl (by kernel_rfl) (by kernel_rfl) (by kernel_rfl) (fun _ _ _ h => h) (by rfl) (by assumption) ?_ ?_; rotate_left; focus (intro w hSw; (try dsimp only at hSw); go_simp; try with_reducible rfl)) | (refine vtake_not 2 rfl (by kernel_rfl) (by kernel_rfl) (by kernel_rfl) (fun _ _ _ h => h) (by rfl) (by assumption) ?_) | fail "take 2"
                try simp only [Act.put, List.setIfInBounds_toArray, List.set_cons_zero, List.set_cons_succ]
                first | (refine vtake_wanted 3 (v := ?_) rfl (by kernel_rfl) (by kernel_rfl) (by kernel_rfl) (fun _ _ _ h => h) (by rfl) (by assumption) ?_ ?_; rotate_left; focus (intro w hSw; (try dsimp only at hSw); go_simp; try with_reducible rfl)) | (refine vtake_not 3 rfl (by kernel_rfl) (by kernel_rfl) (by kernel_rfl) (fun _ _ _ h => h) (by rfl) (by assumption) ?_) | fail "take 3"
                try simp only [Act.put, List.setIfInBounds_toArray, List.set_cons_zero, List.set_cons_succ]
                first | (refine vtake_wanted 4 (v := ?_) rfl (by kernel_rfl) (by kernel_rfl) (by kernel_rfl) (fun _ _ _ h => h) (by rfl) (by assumption) ?_ ?_; rotate_left; focus (intro w hSw; (try dsimp only at hSw); go_simp; try with_reducible rfl)) | (refine vtake_not 4 rfl (by kernel_rfl) (by kernel_rfl) (by kernel_rfl) (fun _ _ _ h => h) (by rfl) (by assumption) ?_) | fail "take 4"
                try simp only [Act.put, List.setIfInBounds_toArray, List.set_cons_zero, List.set_cons_succ]
                first | (refine vtake_wanted 5 (v := ?_) rfl (by kernel_rfl) (by kernel_rfl) (by kernel_rfl) (fun _ _ _ h => h) (by rfl) (by assumption) ?_ ?_; rotate_left; focus (intro w hSw; (try dsimp only at hSw); go_simp; try with_reducible rfl)) | (refine vtake_not 5 rfl (by kernel_rfl) (by kernel_rfl) (by kernel_rfl) (fun _ _ _ h => h) (by rfl) (by assumption) ?_) | fail "take 5"
                try simp only [Act.put, List.setIfInBounds_toArray, List.set_cons_zero, List.set_cons_succ]
                first | (refine vtake_wanted 6 (v := ?_) rfl (by kernel_rfl) (by kernel_rfl) (by kernel_rfl) (fun _ _ _ h => h) (by rfl) (by assumption) ?_ ?_; rotate_left; focus (intro w hSw; (try dsimp only at hSw); go_simp; try with_reducible rfl)) | (refine vtake_not 6 rfl (by kernel_rfl) (by kernel_rfl) (by kernel_rfl) (fun _ _ _ h => h) (by rfl) (by assumption) ?_) | fail "take 6"
                try simp only [Act.put, List.setIfInBounds_toArray, List.set_cons_zero, List.set_cons_succ]
                first | (refine vtake_wanted 7 (v := ?_) rfl (by kernel_rfl) (by kernel_rfl) (by kernel_rfl) (fun _ _ _ h => h) (by rfl) (by assumption) ?_ ?_; rotate_left; focus (intro w hSw; (try dsimp only at hSw); go_simp; try with_reducible rfl)) | (refine vtake_not 7 rfl (by kernel_rfl) (by kernel_rfl) (by kernel_rfl) (fun _ _ _ h => h) (by rfl) (by assumption) ?_) | fail "take 7"
                try simp only [Act.put, List.setIfInBounds_toArray, List.set_cons_zero, List.set_cons_succ]
                first | (refine vtake_wanted 8 (v := ?_) rfl (by kernel_rfl) (by kernel_rfl) (by kernel_rfl) (fun _ _ _ h => h) (by rfl) (by assumption) ?_ ?_; rotate_left; focus (intro w hSw; (try dsimp only at hSw); go_simp; try with_reducible rfl)) | (refine vtake_not 8 rfl (by kernel_rfl) (by kernel_rfl) (by kernel_rfl) (fun _ _ _ h => h) (by rfl) (by assumption) ?_) | fail "take 8"
                try simp only [Act.put, List.setIfInBounds_toArray, List.set_cons_zero, List.set_cons_succ]
                first | (refine vtake_wanted 9 (v := ?_) rfl (by kernel_rfl) (by kernel_rfl) (by kernel_rfl) (fun _ _ _ h => h) (by rfl) (by assumption) ?_ ?_; rotate_left; focus (intro w hSw; (try dsimp only at hSw); go_simp; try with_reducible rfl)) | (refine vtake_not 9 rfl (by kernel_rfl) (by kernel_rfl) (by kernel_rfl) (fun _ _ _ h => h) (by rfl) (by assumption) ?_) | fail "take 9"
                try simp only [Act.put, List.setIfInBounds_toArray, List.set_cons_zero, List.set_cons_succ]
                first | (refine vtake_wanted 10 (v := ?_) rfl (by kernel_rfl) (by kernel_rfl) (by kernel_rfl) (fun _ _ _ h => h) (by rfl) (by assumption) ?_ ?_; rotate_left; focus (intro w hSw; (try dsimp only at hSw); go_simp; try with_reducible rfl)) | (refine vtake_not 10 rfl (by kernel_rfl) (by kernel_rfl) (by kernel_rfl) (fun _ _ _ h => h) (by rfl) (by assumption) ?_) | fail "take 10"
                try simp only [Act.put, List.setIfInBounds_toArray, List.set_cons_zero, List.set_cons_succ]
                first | (refine vtake_wanted 11 (v := ?_) rfl (by kernel_rfl) (by kernel_rfl) (by kernel_rfl) (fun _ _ _ h => h) (by rfl) (by assumption) ?_ ?_; rotate_left; focus (intro w hSw; (try dsimp only at hSw); go_simp; try with_reducible rfl)) | (refine vtake_not 11 rfl (by kernel_rfl) (by kernel_rfl) (by kernel_rfl) (fun _ _ _ h => h) (by rfl) (by assumption) ?_) | fail "take 11"
                try simp only [Act.put, List.setIfInBounds_toArray, List.set_cons_zero, List.set_cons_succ]
                first | (refine vtake_wanted 12 (v := ?_) rfl (by kernel_rfl) (by kernel_rfl) (by kernel_rfl) (fun _ _ _ h => h) (by rfl) (by assumption) ?_ ?_; rotate_left; focus (intro w hSw; (try dsimp only at hSw); go_simp; try with_reducible rfl)) | (refine vtake_not 12 rfl (by kernel_rfl) (by kernel_rfl) (by kernel_rfl) (fun _ _ _ h => h) (by rfl) (by assumption) ?_) | fail "take 12"
                try simp only [Act.put, List.setIfInBounds_toArray, List.set_cons_zero, List.set_cons_succ]
                first | (refine vtake_wanted 13 (v := ?_) rfl (by kernel_rfl) (by kernel_rfl) (by kernel_rfl) (fun _ _ _ h => h) (by rfl) (by assumption) ?_ ?_; rotate_left; focus (intro w hSw; (try dsimp only at hSw); go_simp; try with_reducible rfl)) | (refine vtake_not 13 rfl (by kernel_rfl) (by kernel_rfl) (by kernel_rfl) (fun _ _ _ h => h) (by rfl) (by assumption) ?_) | fail "take 13"
                try simp only [Act.put, List.setIfInBounds_toArray, List.set_cons_zero, List.set_cons_succ]
                first | (refine vtake_wanted 15 (v := ?_) rfl (by kernel_rfl) (by kernel_rfl) (by kernel_rfl) (fun _ _ _ h => h) (by rfl) (by assumption) ?_ ?_; rotate_left; focus (intro w hSw; (try dsimp only at hSw); go_simp; try with_reducible rfl)) | (refine vtake_not 15 rfl (by kernel_rfl) (by kernel_rfl) (by kernel_rfl) (fun _ _ _ h => h) (by rfl) (by assumption) ?_) | fail "take 15"
                try simp only [Act.put, List.setIfInBounds_toArray, List.set_cons_zero, List.set_cons_succ]
                first | (refine vtake_wanted 16 (v := ?_) rfl (by kernel_rfl) (by kernel_rfl) (by kernel_rfl) (fun _ _ _ h => h) (by rfl) (by assumption) ?_ ?_; rotate_left; focus (intro w hSw; (try dsimp only at hSw); go_simp; try with_reducible rfl)) | (refine vtake_not 16 rfl (by kernel_rfl) (by kernel_rfl) (by kernel_rfl) (fun _ _ _ h => h) (by rfl) (by assumption) ?_) | fail "take 16"
                try simp only [Act.put, List.setIfInBounds_toArray, List.set_cons_zero, List.set_cons_succ]
                first | (refine vtake_wanted 17 (v := ?_) rfl (by kernel_rfl) (by kernel_rfl) (by kernel_rfl) (fun _ _ _ h => h) (by rfl) (by assumption) ?_ ?_; rotate_left; focus (intro w hSw; (try dsimp only at hSw); go_simp; try with_reducible rfl)) | (refine vtake_not 17 rfl (by kernel_rfl) (by kernel_rfl) (by kernel_rfl) (fun _ _ _ h => h) (by rfl) (by assumption) ?_) | fail "take 17"
                try simp only [Act.put, List.setIfInBounds_toArray, List.set_cons_zero, List.set_cons_succ]
                first | (refine vtake_wanted 18 (v := ?_) rfl (by kernel_rfl) (by kernel_rfl) (by kernel_rfl) (fun _ _ _ h => h) (by rfl) (by assumption) ?_ ?_; rotate_left; focus (intro w hSw; (try dsimp only at hSw); go_simp; try with_reducible rfl)) | (refine vtake_not 18 rfl (by kernel_rfl) (by kernel_rfl) (by kernel_rfl) (fun _ _ _ h => h) (by rfl) (by assumption) ?_) | fail "take 18"
                try simp only [Act.put, List.setIfInBounds_toArray, List.set_cons_zero, List.set_cons_succ]
                refine vbranch_one 14 rfl (by kernel_rfl) (fun K hK => ?_)
                go_simp
                (go_at_call 14; refine (TW.spent R hT5).mono ?_; rintro o u6 ⟨rfl, hT6⟩)
                refine hK.out _ _ ?_ (fun hHeld2 => ?_)
                focus (first | exact (‹TW Is wr p (.slice a9 9 c9) (rotA k) (.pointer (some q)) x3 x3 _›).c3 | exact c35 | assumption)
                clear hK K hHeld
                try simp only [Act.put, List.setIfInBounds_toArray, List.set_cons_zero, List.set_cons_succ]
                first | (refine vtake_wanted 19 (v := ?_) rfl (by kernel_rfl) (by kernel_rfl) (by kernel_rfl) (fun _ _ _ h => h) (by rfl) (by assumption) ?_ ?_; rotate_left; focus (intro w hSw; (try dsimp only at hSw); go_simp; try with_reducible rfl)) | (refine vtake_not 19 rfl (by kernel_rfl) (by kernel_rfl) (by kernel_rfl) (fun _ _ _ h => h) (by rfl) (by assumption) ?_) | fail "take 19"
                try simp only [Act.put, List.setIfInBounds_toArray, List.set_cons_zero, List.set_cons_succ]
                first | (refine vtake_wanted 20 (v := ?_) rfl (by kernel_rfl) (by kernel_rfl) (by kernel_rfl) (fun _ _ _ h => h) (by rfl) (by assumption) ?_ ?_; rotate_left; focus (intro w hSw; (try dsimp only at hSw); go_simp; try with_reducible rfl)) | (refine vtake_not 20 rfl (by kernel_rfl) (by kernel_rfl) (by kernel_rfl) (fun _ _ _ h => h) (by rfl) (by assumption) ?_) | fail "take 20"
                try simp only [Act.put, List.setIfInBounds_toArray, List.set_cons_zero, List.set_cons_succ]
                first | (refine vtake_wanted 21 (v := ?_) rfl (by kernel_rfl) (by kernel_rfl) (by kernel_rfl) (fun _ _ _ h => h) (by rfl) (by assumption) ?_ ?_; rotate_left; focus (intro w hSw; (try dsimp only at hSw); go_simp; try with_reducible rfl)) | (refine vtake_not 21 rfl (by kernel_rfl) (by kernel_rfl) (by kernel_rfl) (fun _ _ _ h => h) (by rfl) (by assumption) ?_) | fail "take 21"
                try simp only [Act.put, List.setIfInBounds_toArray, List.set_cons_zero, List.set_cons_succ]
                first | (refine vtake_wanted 22 (v := ?_) rfl (by kernel_rfl) (by kernel_rfl) (by kernel_rfl) (fun _ _ _ h => h) (by rfl) (by assumption) ?_ ?_; rotate_left; focus (intro w hSw; (try dsimp only at hSw); go_simp; try with_reducible rfl)) | (refine vtake_not 22 rfl (by kernel_rfl) (by kernel_rfl) (by kernel_rfl) (fun _ _ _ h => h) (by rfl) (by assumption) ?_) | fail "take 22"
                try simp only [Act.put, List.setIfInBounds_toArray, List.set_cons_zero, List.set_cons_succ]
                first | (refine vtake_wanted 23 (v := ?_) rfl (by kernel_rfl) (by kernel_rfl) (by kernel_rfl) (fun _ _ _ h => h) (by rfl) (by assumption) ?_ ?_; rotate_left; focus (intro w hSw; (try dsimp only at hSw); go_simp; try with_reducible rfl)) | (refine vtake_not 23 rfl (by kernel_rfl) (by kernel_rfl) (by kernel_rfl) (fun _ _ _ h => h) (by rfl) (by assumption) ?_) | fail "take 23"
                try simp only [Act.put, List.setIfInBounds_toArray, List.set_cons_zero, List.set_cons_succ]
                first | (refine vtake_wanted 24 (v := ?_) rfl (by kernel_rfl) (by kernel_rfl) (by kernel_rfl) (fun _ _ _ h => h) (by rfl) (by assumption) ?_ ?_; rotate_left; focus (intro w hSw; (try dsimp only at hSw); go_simp; try with_reducible rfl)) | (refine vtake_not 24 rfl (by kernel_rfl) (by kernel_rfl) (by kernel_rfl) (fun _ _ _ h => h) (by rfl) (by assumption) ?_) | fail "take 24"
                try simp only [Act.put, List.setIfInBounds_toArray, List.set_cons_zero, List.set_cons_succ]
                first | (refine vtake_wanted 25 (v := ?_) rfl (by kernel_rfl) (by kernel_rfl) (by kernel_rfl) (fun _ _ _ h => h) (by rfl) (by assumption) ?_ ?_; rotate_left; focus (intro w hSw; (try dsimp only at hSw); go_simp; try with_reducible rfl)) | (refine vtake_not 25 rfl (by kernel_rfl) (by kernel_rfl) (by kernel_rfl) (fun _ _ _ h => h) (by rfl) (by assumption) ?_) | fail "take 25"
                try simp only [Act.put, List.setIfInBounds_toArray, List.set_cons_zero, List.set_cons_succ]
                first | (refine vtake_wanted 26 (v := ?_) rfl (by kernel_rfl) (by kernel_rfl) (by kernel_rfl) (fun _ _ _ h => h) (by rfl) (by assumption) ?_ ?_; rotate_left; focus (intro w hSw; (try dsimp only at hSw); go_simp; try with_reducible rfl)) | (refine vtake_not 26 rfl (by kernel_rfl) (by kernel_rfl) (by kernel_rfl) (fun _ _ _ h => h) (by rfl) (by assumption) ?_) | fail "take 26"
                try simp only [Act.put, List.setIfInBounds_toArray, List.set_cons_zero, List.set_cons_succ]
                first | (refine vtake_wanted 27 (v := ?_) rfl (by kernel_rfl) (by kernel_rfl) (by kernel_rfl) (fun _ _ _ h => h) (by rfl) (by assumption) ?_ ?_; rotate_left; focus (intro w hSw; (try dsimp only at hSw); go_simp; try with_reducible rfl)) | (refine vtake_not 27 rfl (by kernel_rfl) (by kernel_rfl) (by kernel_rfl) (fun _ _ _ h => h) (by rfl) (by assumption) ?_) | fail "take 27"
                try simp only [Act.put, List.setIfInBounds_toArray, List.set_cons_zero, List.set_cons_succ]
                first | (refine vtake_wanted 28 (v := ?_) rfl (by kernel_rfl) (by kernel_rfl) (by kernel_rfl) (fun _ _ _ h => h) (by rfl) (by assumption) ?_ ?_; rotate_left; focus (intro w hSw; (try dsimp only at hSw); go_simp; try with_reducible rfl)) | (refine vtake_not 28 rfl (by kernel_rfl) (by kernel_rfl) (by kernel_rfl) (fun _ _ _ h => h) (by rfl) (by assumption) ?_) | fail "take 28"
                try simp only [Act.put, List.setIfInBounds_toArray, List.set_cons_zero, List.set_cons_succ]
                first | (refine vtake_wanted 29 (v := ?_) rfl (by kernel_rfl) (by kernel_rfl) (by kernel_rfl) (fun _ _ _ h => h) (by rfl) (by assumption) ?_ ?_; rotate_left; focus (intro w hSw; (try dsimp only at hSw); go_simp; try with_reducible rfl)) | (refine vtake_not 29 rfl (by kernel_rfl) (by kernel_rfl) (by kernel_rfl) (fun _ _ _ h => h) (by rfl) (by assumption) ?_) | fail "take 29"
                try simp only [Act.put, List.setIfInBounds_toArray, List.set_cons_zero, List.set_cons_succ]
                refine wpAnyH_done (by kernel_rfl) ?_ _
                clear hHeld2
                all_goals
                  have H6 := Lib.hid hT6
                  have HVT := Lib.hid (HV1x.out.turned S HV1x.out.since.size (HBW.out.trans (H6.out.since.mono HBW.out.size)))
                  go_wp2_with fail
                  refine (vnormAt S tt (normL tt) _ rfl rfl (by omega) HVT.out).mono ?_
                  rintro e w7 ⟨rfl, hv7, hb7⟩
                  have H7 := Lib.hid (H6.out.other R hb7)
                  have HV7 := Lib.hid hv7
                  clear hv7 hb7 HVT
                  go_wp2_with fail
                  refine (rnorm_any tt _ (by omega)).mono ?_
                  rintro e w8 ⟨rfl, rfl⟩
                  go_wp2_with fail
                  refine (vtextAt S tt (escL false tt) _ rfl rfl (by omega) HV7.out).mono ?_
                  rintro e w9 ⟨rfl, hv9, hb9⟩
                  have H9 := Lib.hid (H7.out.other R hb9)
                  have HV9 := Lib.hid hv9
                  clear hv9 hb9 HV7
                  go_wp2_with fail
                  refine (resc_false tt _ (by omega)).mono ?_
                  rintro e w10 ⟨rfl, rfl⟩
                  go_wp2_with fail
                  refine (vattrAt S tt (escL true tt) _ rfl rfl (by omega) HV9.out).mono ?_
                  rintro e w11 ⟨rfl, hv11, hb11⟩
                  have H11 := Lib.hid (H9.out.other R hb11)
                  clear hv11 hb11 HV9
                  go_wp2_with fail
                  refine (resc_true tt _ (by omega)).mono ?_
                  rintro e w12 ⟨rfl, rfl⟩
                  go_wp2
                  go_roundw
                  case rel => exact ⟨tn + 1, sl, by omega, by go_num, rfl, by omega, Lib.hid (HBW.out.trans (H11.out.since.mono HBW.out.size))⟩
                  case measure => simp [intOf]; omega
        · have g5 : decide ((tn : Int) < 2) = false := decide_eq_false (by omega)
          have HVE := Lib.hid (HV1x.out.turned S HV1x.out.since.size HBW.out)
          go_wp2_with fail
          refine (HTOLD.out _ HVE.out).mono ?_
          rintro e w9 ⟨rfl, hb9⟩
          have HVF := Lib.hid (HVE.out.other S hb9)
          go_wp2
          go_ret
          exact ⟨rfl, HVF.out.since⟩
end Go.Proofs.YtjijjmkeehdooaaGreatDoor
