/-
  THE LANDED PACKAGE token: the contract of Next.
-/
import Derived.Test.YtjijjmkeehdooaaGreatDoorRunKOwn
import Derived.Test.YtjijjmkeehdooaaGreatDoorRunKFit
import Derived.IntWalk
namespace Go.Proofs.YtjijjmkeehdooaaGreatDoor
open Go.RowKit

theorem string_bytes (s : ByteArray) : ∃ l, s = bytes l := ⟨s.data.toList, by
  apply ByteArray.ext
  show s.data = s.data.toList.toArray
  rw [Array.toArray_toList]⟩
theorem owns_atts {w : World} {B : Nat} {v : Value} {A : List (ByteArray × ByteArray)} (h : w.ownsRow B 143 2 v A.length (flatA A)) : AttsAt w.heap.size w v A := by
  rcases h.2 with ⟨rfl, h0⟩ | ⟨g, cap, cur, rfl, _, hg, _, _, _, h4⟩
  · exact Or.inl ⟨none, 0, rfl, List.eq_nil_of_length_eq_zero h0⟩
  · refine Or.inr ⟨g, 0, cap, rfl, (Array.getElem?_eq_some_iff.1 hg).1, fun i hi => ?_⟩
    obtain ⟨v1, v2⟩ := flatA_get A i hi
    rw [← h4, List.getElem?_take, if_pos (by omega)] at v1
    rw [← h4, List.getElem?_take, if_pos (by omega)] at v2
    rw [Array.getElem?_toList] at v1 v2
    rw [Nat.zero_add]
    exact ⟨by simp [World.cell?, hg, v1], by simp [World.cell?, hg, v2]⟩
/-- WHERE Next STANDS behind token: its result's box H, the reader's b, the piece's box X, the attributes' row. -/
structure NxS (w0 : World) (H b X : Nat) (r : List UInt8) (F : Nat → Value) (sl : Value) (A : List (ByteArray × ByteArray)) (w : World) : Prop where
  res : w.rowIs H 90 5 zero5
  rd : w.rowIs b 128 1 (fun _ => .string (bytes r))
  box : w.rowIs X 90 5 F
  own : w.ownsRow (b + 1) 143 2 sl A.length (flatA A)
  low : w0.heap.size ≤ H
  hb : H < b
  hX : H < X
  since : Below w0.heap.size w0 w
section
variable {w0 w w' : World} {H b X : Nat} {r : List UInt8} {F : Nat → Value} {sl : Value} {A : List (ByteArray × ByteArray)}
theorem NxS.other (h : NxS w0 H b X r F sl A w) (hb : Below w.heap.size w w') : NxS w0 H b X r F sl A w' :=
  ⟨h.res.of_block (hb.block _ h.res.lt), h.rd.of_block (hb.block _ h.rd.lt), h.box.of_block (hb.block _ h.box.lt), owns_keep h.own fun g hg => hb.block _ (owns_block h.own g hg).2, h.low, h.hb, h.hX, h.since.trans (hb.mono h.since.size)⟩
theorem NxS.drew (h : NxS w0 H b X r F sl A w) : NxS w0 H b X r F sl A w.drew := h.other (Below.refl _ _).drew
theorem set5_other {B t : Nat} {T : TypeId} {n : Nat} {f : Nat → Value} (h : w.rowIs t T n f) (hB : t ≠ B) (v0 v1 v2 v3 v4 : Value) :
    (((((w.setCell ⟨B, 0, none⟩ v0).setCell ⟨B, 1, none⟩ v1).setCell ⟨B, 2, none⟩ v2).setCell ⟨B, 3, none⟩ v3).setCell ⟨B, 4, none⟩ v4).rowIs t T n f :=
  World.rowIs.setOther (World.rowIs.setOther (World.rowIs.setOther (World.rowIs.setOther (World.rowIs.setOther h hB v0) hB v1) hB v2) hB v3) hB v4
theorem NxS.parts {kd : Nat} {nm tx : ByteArray} {em : Bool} (h : NxS w0 H b X r (tok5 kd nm tx sl em) sl A w) :
    w.cell? ⟨X, 0, none⟩ = some (.int .i64 (kd : Int)) ∧ w.cell? ⟨X, 1, none⟩ = some (.string nm) ∧ w.cell? ⟨X, 2, none⟩ = some (.string tx) ∧ w.cell? ⟨X, 3, none⟩ = some sl ∧ w.cell? ⟨X, 4, none⟩ = some (.bool em) ∧ w.cell? ⟨b, 0, none⟩ = some (.string (bytes r)) :=
  ⟨h.box.cell (i := 0) (by decide), h.box.cell (i := 1) (by decide), h.box.cell (i := 2) (by decide), h.box.cell (i := 3) (by decide), h.box.cell (i := 4) (by decide), h.rd.cell (i := 0) (by decide)⟩
theorem NxS.parts5 {kd : Nat} {nm tx : ByteArray} {em : Bool} (h : NxS w0 H b X r (tok5 kd nm tx sl em) sl A w) (v0 v1 v2 v3 v4 : Value) :
    (((((w.setCell ⟨H, 0, none⟩ v0).setCell ⟨H, 1, none⟩ v1).setCell ⟨H, 2, none⟩ v2).setCell ⟨H, 3, none⟩ v3).setCell ⟨H, 4, none⟩ v4).cell? ⟨X, 0, none⟩ = some (.int .i64 (kd : Int)) ∧ (((((w.setCell ⟨H, 0, none⟩ v0).setCell ⟨H, 1, none⟩ v1).setCell ⟨H, 2, none⟩ v2).setCell ⟨H, 3, none⟩ v3).setCell ⟨H, 4, none⟩ v4).cell? ⟨X, 1, none⟩ = some (.string nm) ∧ (((((w.setCell ⟨H, 0, none⟩ v0).setCell ⟨H, 1, none⟩ v1).setCell ⟨H, 2, none⟩ v2).setCell ⟨H, 3, none⟩ v3).setCell ⟨H, 4, none⟩ v4).cell? ⟨X, 2, none⟩ = some (.string tx) ∧ (((((w.setCell ⟨H, 0, none⟩ v0).setCell ⟨H, 1, none⟩ v1).setCell ⟨H, 2, none⟩ v2).setCell ⟨H, 3, none⟩ v3).setCell ⟨H, 4, none⟩ v4).cell? ⟨X, 3, none⟩ = some (sl) ∧ (((((w.setCell ⟨H, 0, none⟩ v0).setCell ⟨H, 1, none⟩ v1).setCell ⟨H, 2, none⟩ v2).setCell ⟨H, 3, none⟩ v3).setCell ⟨H, 4, none⟩ v4).cell? ⟨X, 4, none⟩ = some (.bool em) ∧ (((((w.setCell ⟨H, 0, none⟩ v0).setCell ⟨H, 1, none⟩ v1).setCell ⟨H, 2, none⟩ v2).setCell ⟨H, 3, none⟩ v3).setCell ⟨H, 4, none⟩ v4).cell? ⟨b, 0, none⟩ = some (.string (bytes r)) := by
  have h1 := set5_other h.box (B := H) (by have := h.hX; omega) v0 v1 v2 v3 v4
  have h2 := set5_other h.rd (B := H) (by have := h.hb; omega) v0 v1 v2 v3 v4
  exact ⟨h1.cell (i := 0) (by decide), h1.cell (i := 1) (by decide), h1.cell (i := 2) (by decide), h1.cell (i := 3) (by decide), h1.cell (i := 4) (by decide), h2.cell (i := 0) (by decide)⟩
theorem below_set5 {B : Nat} (h : Below B w0 w) (hH : B ≤ H) (v0 v1 v2 v3 v4 : Value) :
    Below B w0 (((((w.setCell ⟨H, 0, none⟩ v0).setCell ⟨H, 1, none⟩ v1).setCell ⟨H, 2, none⟩ v2).setCell ⟨H, 3, none⟩ v3).setCell ⟨H, 4, none⟩ v4) :=
  ((((h.setCell (p := ⟨H, 0, none⟩) hH v0).setCell (p := ⟨H, 1, none⟩) hH v1).setCell (p := ⟨H, 2, none⟩) hH v2).setCell (p := ⟨H, 3, none⟩) hH v3).setCell (p := ⟨H, 4, none⟩) hH v4
end
/-- what Next gives: a piece whose attributes lie in a row of their own, made by it -/
def NextG (s : ByteArray) (k : Int) (w : World) (e : Ending) (w' : World) : Prop :=
  ∃ sl, e = .returned (.tuple #[.agg #[.int .i64 ((nextT s k).1.kind : Int), .string (nextT s k).1.name, .string (nextT s k).1.text, sl, .bool (nextT s k).1.empty], .int .i64 (nextT s k).2.1, .int .i64 (nextT s k).2.2]) ∧ w'.ownsRow w.heap.size 143 2 sl (nextT s k).1.attrs.length (flatA (nextT s k).1.attrs) ∧ Below w.heap.size w w'
theorem nextG_no {s : ByteArray} {k c : Int} {w w' : World} (h : nextT s k = (tok0, k, c)) (hb : Below w.heap.size w w') :
    NextG s k w (.returned (.tuple #[.agg #[.int .i64 0, .string ⟨#[]⟩, .string ⟨#[]⟩, .slice none 0 0, .bool false], .int .i64 k, .int .i64 c])) w' := by
  unfold NextG
  rw [h]
  exact ⟨_, rfl, owns_none _ _, hb⟩
theorem zero_row (w : World) : (w.alloc (.cells #[.int .i64 0, .string ⟨#[]⟩, .string ⟨#[]⟩, .slice none 0 0, .bool false] 90)).rowIs w.heap.size 90 5 zero5 := zeroT_row w
set_option maxHeartbeats 8000000 in
set_option maxRecDepth 100000 in
theorem next_any (n : Nat) (s : ByteArray) (k : Int) (w : World) (hE : KE n w) (hn : n ≤ w.heap.size) (hs : s.size ≤ 100000) : Calls Tryz.prog 67 #[.string s, .int .i64 k] w (NextG s k w) := by
  obtain ⟨l, rfl⟩ := string_bytes s
  have hsz : (bytes l).size = l.length := bytes_len l
  rw [hsz] at hs
  have HZ := Lib.hid (zero_row w)
  have HBZ : Hid (Below w.heap.size w (w.alloc (.cells #[.int .i64 0, .string ⟨#[]⟩, .string ⟨#[]⟩, .slice none 0 0, .bool false] 90))) := Lib.hid ((Below.refl _ _).alloc (Nat.le_refl _) _)
  by_cases h1 : k < 0 ∨ (l.length : Int) < k
  · have HT : Hid (nextT (bytes l) k = (tok0, k, 4)) := Lib.hid (by unfold nextT; rw [if_pos (by rw [hsz]; exact h1)])
    have g : k < 0 ∨ (¬ k < 0 ∧ (l.length : Int) < k) := by omega
    clear h1 hE
    have hr := HZ.out
    have f0 := hr.frozen 0
    have f1 := hr.frozen 1
    have f2 := hr.frozen 2
    have f3 := hr.frozen 3
    have f4 := hr.frozen 4
    have c0 := hr.cell (i := 0) (by decide)
    have c1 := hr.cell (i := 1) (by decide)
    have c2 := hr.cell (i := 2) (by decide)
    have c3 := hr.cell (i := 3) (by decide)
    have c4 := hr.cell (i := 4) (by decide)
    clear hr
    obtain ⟨x1, x2, hg1, hg2, hg3⟩ : ∃ x1 x2 : Bool, decide (k < 0) = x1 ∧ decide ((l.length : Int) < k) = x2 ∧ (x1 = true ∨ x1 = false ∧ x2 = true) := ⟨_, _, rfl, rfl, by simpa using g⟩
    clear g
    rcases hg3 with rfl | ⟨rfl, rfl⟩
    all_goals
      (go_enter Tryz.func67, Tryz.ntmps67
       go_wp2
       have d0 : World.cell? _ ⟨w.heap.size, 0, none⟩ = some (.int .i64 0) := HZ.out.cell (i := 0) (by decide)
       have d1 : World.cell? _ ⟨w.heap.size, 1, none⟩ = some (.string ⟨#[]⟩) := HZ.out.cell (i := 1) (by decide)
       have d2 : World.cell? _ ⟨w.heap.size, 2, none⟩ = some (.string ⟨#[]⟩) := HZ.out.cell (i := 2) (by decide)
       have d3 : World.cell? _ ⟨w.heap.size, 3, none⟩ = some (.slice none 0 0) := HZ.out.cell (i := 3) (by decide)
       have d4 : World.cell? _ ⟨w.heap.size, 4, none⟩ = some (.bool false) := HZ.out.cell (i := 4) (by decide)
       refine bodyPost_ret (by simp [results, Tryz.results67, d0, d1, d2, d3, d4, go_sem]; try rfl) rfl ?_
       exact nextG_no HT.out HBZ.out)
  · obtain ⟨kn, rfl⟩ := Int.eq_ofNat_of_zero_le (show (0 : Int) ≤ k by omega)
    by_cases h2 : kn = l.length
    · subst h2
      have HT : Hid (nextT (bytes l) (l.length : Int) = (tok0, (l.length : Int), 6)) := Lib.hid (by unfold nextT; rw [if_neg (by rw [hsz]; omega), if_pos (by rw [hsz])])
      clear h1 hE
      have hr := HZ.out
      have f0 := hr.frozen 0
      have f1 := hr.frozen 1
      have f2 := hr.frozen 2
      have f3 := hr.frozen 3
      have f4 := hr.frozen 4
      have c0 := hr.cell (i := 0) (by decide)
      have c1 := hr.cell (i := 1) (by decide)
      have c2 := hr.cell (i := 2) (by decide)
      have c3 := hr.cell (i := 3) (by decide)
      have c4 := hr.cell (i := 4) (by decide)
      clear hr
      go_enter Tryz.func67, Tryz.ntmps67
      go_wp2
      have d0 : World.cell? _ ⟨w.heap.size, 0, none⟩ = some (.int .i64 0) := HZ.out.cell (i := 0) (by decide)
      have d1 : World.cell? _ ⟨w.heap.size, 1, none⟩ = some (.string ⟨#[]⟩) := HZ.out.cell (i := 1) (by decide)
      have d2 : World.cell? _ ⟨w.heap.size, 2, none⟩ = some (.string ⟨#[]⟩) := HZ.out.cell (i := 2) (by decide)
      have d3 : World.cell? _ ⟨w.heap.size, 3, none⟩ = some (.slice none 0 0) := HZ.out.cell (i := 3) (by decide)
      have d4 : World.cell? _ ⟨w.heap.size, 4, none⟩ = some (.bool false) := HZ.out.cell (i := 4) (by decide)
      refine bodyPost_ret (by simp [results, Tryz.results67, d0, d1, d2, d3, d4, go_sem]; try rfl) rfl ?_
      exact nextG_no HT.out HBZ.out
    · have hlt : kn < l.length := by omega
      have hne : l.drop kn ≠ [] := by
        intro e
        have := congrArg List.length e
        rw [List.length_drop, List.length_nil] at this
        omega
      have q5 : (bytes l).extract kn l.length = bytes (l.drop kn) := by rw [← hsz]; exact bytes_drop l kn
      have hT : nextT (bytes l) (kn : Int) = match nextL (l.drop kn) with | none => (tok0, (kn : Int), 2) | some (t, m) => (t, (kn : Int) + m, 0) := by
        unfold nextT
        rw [if_neg (by rw [hsz]; omega), if_neg (by rw [hsz]; omega)]
        rfl
      have HT := Lib.hid hT
      have hP := nextP_is (l.drop kn) hne
      have HNE := Lib.hid hne
      have hLlen : (l.drop kn).length = l.length - kn := List.length_drop
      generalize l.drop kn = L at *
      obtain ⟨W1, hW1⟩ : ∃ W1, W1 = w.alloc (.cells #[.int .i64 0, .string ⟨#[]⟩, .string ⟨#[]⟩, .slice none 0 0, .bool false] 90) := ⟨_, rfl⟩
      have hW1s : W1.heap.size = w.heap.size + 1 := by rw [hW1]; exact Deep.nblk_alloc _ _
      have hZ : W1.rowIs w.heap.size 90 5 zero5 := by rw [hW1]; exact HZ.out
      have hBZ : Below w.heap.size w W1 := by rw [hW1]; exact HBZ.out
      have hrd : (W1.alloc (.cells #[.string (bytes L)] 128)).rowIs (w.heap.size + 1) 128 1 (fun _ => .string (bytes L)) := by
        have := box1_row W1 (.string (bytes L)) 128
        rw [hW1s] at this
        exact this
      have hB2 : Below w.heap.size w (W1.alloc (.cells #[.string (bytes L)] 128)) := hBZ.alloc (by omega) _
      have hR : RAt n (w.heap.size + 1) (W1.alloc (.cells #[.string (bytes L)] 128)) (W1.alloc (.cells #[.string (bytes L)] 128)) L :=
        ⟨hE.stay (hB2.mono hn), by omega, hrd, hrd.lt, Turns.refl _ _, by omega⟩
      have HC := Lib.hid (token_k hR (w.heap.size + 2) (by have := hrd.lt; omega))
      have HZ1 := Lib.hid (hZ.alloc (.cells #[.string (bytes L)] 128))
      have HB2 := Lib.hid hB2
      have HRlt : Hid (w.heap.size + 1 < (W1.alloc (.cells #[.string (bytes L)] 128)).heap.size) := Lib.hid hrd.lt
      have HP := Lib.hid hP
      subst hW1
      clear hZ hBZ hrd hB2 hR hE hT hP hne h1 h2 HZ HBZ
      go_enter Tryz.func67, Tryz.ntmps67
      go_wp2_with fail
      refine HC.out.mono ?_
      rintro e w3 ⟨kd, nm, tx, sa, sm, sc, em, ok, r, rfl, h3, hno, hyes⟩
      have hH3 : w3.rowIs w.heap.size 90 5 zero5 := HZ1.out.of_block (h3.since.block _ HZ1.out.lt (by omega))
      have hB3 : Below w.heap.size w w3 := HB2.out.trans (h3.since.below (B := w.heap.size) HB2.out.size (fun k hk => by subst hk; omega))
      have HNO := Lib.hid hno
      have HYES := Lib.hid hyes
      have HH3 := Lib.hid hH3
      have HB3 := Lib.hid hB3
      have H3 := Lib.hid h3
      clear hno hyes hH3 hB3 h3 HC
      cases hnl : nextL L with
      | none =>
        have hp : nextP L = none := by rw [HP.out, hnl]; rfl
        obtain rfl : ok = false := HNO.out hp
        have HT2 : Hid (nextT (bytes l) (kn : Int) = (tok0, (kn : Int), 2)) := Lib.hid (by rw [HT.out, hnl])
        have hr4 := HH3.out.alloc (.cells #[.int .i64 (kd : Int), .string nm, .string tx, .slice sa sm sc, .bool em] 90)
        have HR4 := Lib.hid hr4
        have HB4 : Hid (Below w.heap.size w (w3.alloc (.cells #[.int .i64 (kd : Int), .string nm, .string tx, .slice sa sm sc, .bool em] 90))) := Lib.hid (HB3.out.alloc HB3.out.size _)
        have f0 := hr4.frozen 0
        have f1 := hr4.frozen 1
        have f2 := hr4.frozen 2
        have f3 := hr4.frozen 3
        have f4 := hr4.frozen 4
        have c0 := hr4.cell (i := 0) (by decide)
        have c1 := hr4.cell (i := 1) (by decide)
        have c2 := hr4.cell (i := 2) (by decide)
        have c3 := hr4.cell (i := 3) (by decide)
        have c4 := hr4.cell (i := 4) (by decide)
        clear hr4 hnl hp
        go_wp2
        have hs5 := store5 HR4.out (.int .i64 0) (.string ⟨#[]⟩) (.string ⟨#[]⟩) (.slice none 0 0) (.bool false)
        have d0 : World.cell? _ ⟨w.heap.size, 0, none⟩ = some (.int .i64 0) := hs5.cell (i := 0) (by decide)
        have d1 : World.cell? _ ⟨w.heap.size, 1, none⟩ = some (.string ⟨#[]⟩) := hs5.cell (i := 1) (by decide)
        have d2 : World.cell? _ ⟨w.heap.size, 2, none⟩ = some (.string ⟨#[]⟩) := hs5.cell (i := 2) (by decide)
        have d3 : World.cell? _ ⟨w.heap.size, 3, none⟩ = some (.slice none 0 0) := hs5.cell (i := 3) (by decide)
        have d4 : World.cell? _ ⟨w.heap.size, 4, none⟩ = some (.bool false) := hs5.cell (i := 4) (by decide)
        refine bodyPost_ret (by simp [results, Tryz.results67, d0, d1, d2, d3, d4, go_sem]; try rfl) rfl ?_
        exact nextG_no HT2.out (below_set5 HB4.out (Nat.le_refl _) _ _ _ _ _)
      | some q =>
        obtain ⟨⟨kd2, nm2, tx2, A, em2⟩, m⟩ := q
        have hp : nextP L = some (⟨kd2, nm2, tx2, A, em2⟩, L.drop m) := by rw [HP.out, hnl]; rfl
        obtain ⟨rfl, e1, e2', e3', e4', e5', hown⟩ := HYES.out _ _ hp
        replace e1 : kd = kd2 := e1
        replace e2' : nm = nm2 := e2'
        replace e3' : tx = tx2 := e3'
        replace e4' : em = em2 := e4'
        subst e1; subst e2'; subst e3'; subst e4'; subst e5'
        replace hown : w3.ownsRow (w.heap.size + 2) 143 2 (.slice sa sm sc) A.length (flatA A) := hown
        have HT2 : Hid (nextT (bytes l) (kn : Int) = (⟨kd, nm, tx, A, em⟩, (kn : Int) + (m : Int), 0)) := Lib.hid (by rw [HT.out, hnl])
        have hpc := next_piece L HNE.out _ m hnl
        have hm := hpc.le
        have hfit := nextP_fit L _ _ hp
        have hts := next_small L _ m hnl
        have hta := next_attrs L _ m hnl
        replace hts : tx.size ≤ L.length + 4 := hts
        replace hta : A.length ≤ L.length := hta
        replace hfit : nm.size ≤ L.length ∧ ∀ a ∈ A, a.1.size ≤ L.length ∧ a.2.size ≤ L.length := hfit
        have e3 : sm = A.length := by
          obtain ⟨_, _, e2⟩ := owns_slice hown
          injection e2
        subst e3
        have HM : Hid (nm.size ≤ 1000000 ∧ tx.size ≤ 1000000 ∧ A.length ≤ 1000000 ∧ ∀ i, i < A.length → (att A i).1.size ≤ 1000000 ∧ (att A i).2.size ≤ 1000000) := Lib.hid ⟨by have := hfit.1; omega, by omega, by omega, fun i hi => by
          have hmem : att A i ∈ A := by
            unfold att
            rw [List.getD_eq_getElem?_getD, List.getElem?_eq_getElem hi]
            exact List.getElem_mem _
          have := hfit.2 _ hmem
          omega⟩
        have hHLEN : (l.length : Int) - ((L.drop m).length : Int) = (kn : Int) + (m : Int) := by rw [List.length_drop]; omega
        have hdn : (L.drop m).length ≤ l.length := by rw [List.length_drop]; omega
        have hrdR := H3.out.rd
        clear hp HP HYES HNO
        generalize L.drop m = R at *
        have hxA : Below w3.heap.size w3 (w3.alloc (.cells #[.int .i64 (kd : Int), .string nm, .string tx, .slice sa A.length sc, .bool em] 90)) := (Below.refl _ _).alloc (Nat.le_refl _) _
        have hN0 : NxS w w.heap.size (w.heap.size + 1) w3.heap.size R (tok5 kd nm tx (.slice sa A.length sc) em) (.slice sa A.length sc) A (w3.alloc (.cells #[.int .i64 (kd : Int), .string nm, .string tx, .slice sa A.length sc, .bool em] 90)) :=
          ⟨HH3.out.alloc _, hrdR.alloc _, tokO_row w3 kd nm tx (.slice sa A.length sc) em, owns_keep hown fun g hg => hxA.block g (owns_block hown g hg).2, Nat.le_refl _, by omega, HH3.out.lt, HB3.out.alloc HB3.out.size _⟩
        have HOWN : Hid (∀ W, NxS w w.heap.size (w.heap.size + 1) w3.heap.size R (tok5 kd nm tx (.slice sa A.length sc) em) (.slice sa A.length sc) A W → Calls Tryz.prog 77 #[.agg #[.int .i64 (kd : Int), .string nm, .string tx, .slice sa A.length sc, .bool em]] W fun e w' => e = .returned (.agg #[.int .i64 (kd : Int), .string nm, .string tx, .slice sa A.length sc, .bool em]) ∧ NxS w w.heap.size (w.heap.size + 1) w3.heap.size R (tok5 kd nm tx (.slice sa A.length sc) em) (.slice sa A.length sc) A w') := Lib.hid (fun W h =>
          (own_any kd nm tx sa sc em A _ W HM.out.1 HM.out.2.1 HM.out.2.2.1 HM.out.2.2.2 h.own).mono fun _ _ hg => ⟨hg.1, h.other hg.2⟩)
        have hdl : (bytes R).size = R.length := bytes_len _
        have hNd := hN0.drew
        obtain ⟨q1, q2, q3, q4, q5', q6⟩ := hNd.parts
        have hr0 := hN0.res
        have f0 := hr0.frozen 0
        have f1 := hr0.frozen 1
        have f2 := hr0.frozen 2
        have f3 := hr0.frozen 3
        have f4 := hr0.frozen 4
        clear hr0 hfit hts hta hpc hown hm hnl hxA hrdR HM hLlen hW1s q5 hn
        have HHH := Lib.hid hHLEN
        obtain ⟨z, hz⟩ : ∃ z : Int, (kn : Int) + (m : Int) = z := ⟨_, rfl⟩
        rw [hz] at hHLEN HT2
        have hRl : R.length ≤ 100000 := by omega
        have HWZ := Lib.hid (show IntKind.i64.wrap z = z from IntWalk.i64_in _ (by omega))
        clear hz HHH
        go_wp2_with fail
        go_region_held3 (fun W => W.cell? ⟨w3.heap.size, 0, none⟩ = some (.int .i64 (kd : Int)) ∧ W.cell? ⟨w3.heap.size, 1, none⟩ = some (.string nm) ∧ W.cell? ⟨w3.heap.size, 2, none⟩ = some (.string tx) ∧ W.cell? ⟨w3.heap.size, 3, none⟩ = some (.slice sa A.length sc) ∧ W.cell? ⟨w3.heap.size, 4, none⟩ = some (.bool em) ∧ W.cell? ⟨w.heap.size + 1, 0, none⟩ = some (.string (bytes R)))
          (first | with_reducible exact NxS.parts ‹NxS w w.heap.size (w.heap.size + 1) w3.heap.size R (tok5 kd nm tx (.slice sa A.length sc) em) (.slice sa A.length sc) A _› | with_reducible exact NxS.parts5 ‹NxS w w.heap.size (w.heap.size + 1) w3.heap.size R (tok5 kd nm tx (.slice sa A.length sc) em) (.slice sa A.length sc) A _› _ _ _ _ _ | with_reducible assumption | exact ⟨q1, q2, q3, q4, q5', q6⟩)
          (first | (go_at_call 77; refine (HOWN.out _ ‹NxS w w.heap.size (w.heap.size + 1) w3.heap.size R (tok5 kd nm tx (.slice sa A.length sc) em) (.slice sa A.length sc) A _›).mono ?_; rintro o u ⟨rfl, hS2⟩; have hr := hS2.res; have f0 := hr.frozen 0; have f1 := hr.frozen 1; have f2 := hr.frozen 2; have f3 := hr.frozen 3; have f4 := hr.frozen 4; have c0 := hr.cell (i := 0) (by decide); have c1 := hr.cell (i := 1) (by decide); have c2 := hr.cell (i := 2) (by decide); have c3 := hr.cell (i := 3) (by decide); have c4 := hr.cell (i := 4) (by decide)))
        have hs5 := store5 hr (.int .i64 (kd : Int)) (.string nm) (.string tx) (.slice sa A.length sc) (.bool em)
        have d0 : World.cell? _ ⟨w.heap.size, 0, none⟩ = some (.int .i64 (kd : Int)) := hs5.cell (i := 0) (by decide)
        have d1 : World.cell? _ ⟨w.heap.size, 1, none⟩ = some (.string nm) := hs5.cell (i := 1) (by decide)
        have d2 : World.cell? _ ⟨w.heap.size, 2, none⟩ = some (.string tx) := hs5.cell (i := 2) (by decide)
        have d3 : World.cell? _ ⟨w.heap.size, 3, none⟩ = some (.slice sa A.length sc) := hs5.cell (i := 3) (by decide)
        have d4 : World.cell? _ ⟨w.heap.size, 4, none⟩ = some (.bool em) := hs5.cell (i := 4) (by decide)
        have HS2 := Lib.hid hS2
        clear hNd q1 q2 q3 q4 q5' q6 hr c0 c1 c2 c3 c4 f0 f1 f2 f3 f4 hs5 hS2
        go_wp2
        refine bodyPost_ret (by simp [results, Tryz.results67, d0, d1, d2, d3, d4, go_sem]; try rfl) rfl ?_
        unfold NextG
        rw [HT2.out, HWZ.out]
        exact ⟨_, rfl, owns_mono (owns_store5 HS2.out.own (by omega) _ _ _ _ _) (by omega), below_set5 HS2.out.since (Nat.le_refl _) _ _ _ _ _⟩
end Go.Proofs.YtjijjmkeehdooaaGreatDoor
