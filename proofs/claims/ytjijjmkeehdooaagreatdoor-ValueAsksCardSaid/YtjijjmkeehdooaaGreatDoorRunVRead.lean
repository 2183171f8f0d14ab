/-
  THE LANDED PACKAGE value: the contract of reference.
  THE LANDED PACKAGE value: where a step's range stands (ScanAt, ScanW), and the contract of step.
  THE LANDED PACKAGE value: the contract of step.
-/
import Derived.Test.YtjijjmkeehdooaaGreatDoorRunVMem
import Derived.Test.YtjijjmkeehdooaaGreatDoorRunKNext
import Derived.Test.YtjijjmkeehdooaaGreatDoorValNorm
import Derived.Test.YtjijjmkeehdooaaGreatDoorRunSpc
import Derived.Lib.OthersKept
import Derived.LoopTactic
import Derived.Test.YtjijjmkeehdooaaGreatDoorRunVNorm
import Derived.Deep.LoopGhost
import Derived.Deep.QuietTactic
namespace Go.Proofs.YtjijjmkeehdooaaGreatDoor
open Go.RowKit

theorem nextT_amp (s : List UInt8) : nextT (bytes (38 :: s)) 0 = match refL (38 :: s) with
    | none => (tok0, 0, 2)
    | some (k, n) => (k, (n : Int), 0) := by
  have hz : (bytes (38 :: s)).size = s.length + 1 := bytes_len _
  have hd : (bytes (38 :: s)).data.toList.drop (0 : Int).toNat = 38 :: s := rfl
  unfold nextT
  rw [if_neg (by omega), if_neg (by omega), hd]
  have hn : nextL (38 :: s) = refL (38 :: s) := by
    unfold nextL
    rw [if_neg (by simp [swB]), if_neg (by simp [swB]), if_neg (by simp [swB]), if_neg (by simp [swB]), if_neg (by simp [swB]), if_pos (by simp [swB])]
  rw [hn]
  cases refL (38 :: s) with
  | none => rfl
  | some kn => obtain ⟨k, n⟩ := kn; simp
theorem refL_kind {q : List UInt8} {k : Tok} {n : Nat} (h : refL q = some (k, n)) : k.attrs = [] ∧ (k.kind = 7 ∨ k.kind = 8 ∧ ∃ y, k.name = bytes y ∧ y ≠ [] ∧ y.length ≤ q.length) := by
  unfold refL at h
  cases hf : findL [59] q with
  | none => rw [hf] at h; cases h
  | some j =>
    rw [hf] at h
    simp only [Option.bind_some] at h
    by_cases h1 : swB [38, 35] q = true
    · rw [if_pos h1] at h
      cases hc : charRefL (q.take (j + 1)) with
      | none => rw [hc] at h; cases h
      | some c =>
        rw [hc] at h
        simp only [Option.bind_some, Option.some.injEq, Prod.mk.injEq] at h
        obtain ⟨rfl, _⟩ := h
        exact ⟨rfl, Or.inl rfl⟩
    · rw [if_neg h1] at h
      by_cases h2 : ncL ((q.take j).drop 1) = true
      · rw [if_pos h2] at h
        simp only [Option.some.injEq, Prod.mk.injEq] at h
        obtain ⟨rfl, _⟩ := h
        refine ⟨rfl, Or.inr ⟨rfl, _, rfl, ?_, by rw [List.length_drop, List.length_take]; omega⟩⟩
        intro e
        rw [e] at h2
        revert h2
        decide
      · rw [if_neg h2] at h; cases h
/-- Next at a reference -/
theorem tnext_v {n : Nat} {s : List UInt8} {w : World} (hE : KE n w) (hn : n ≤ w.heap.size) (hs : (38 :: s).length ≤ 100000) :
    Calls Tryz.prog 67 #[.string (bytes (38 :: s)), .int .i64 0] w fun e w' => Below w.heap.size w w' ∧
      ((refL (38 :: s) = none ∧ ∃ a m cp, e = .returned (.tuple #[.agg #[.int .i64 0, .string ⟨#[]⟩, .string ⟨#[]⟩, .slice a m cp, .bool false], .int .i64 0, .int .i64 2])) ∨
       ∃ k m a l cp, refL (38 :: s) = some (k, m) ∧ e = .returned (.tuple #[.agg #[.int .i64 (k.kind : Int), .string k.name, .string k.text, .slice a l cp, .bool k.empty], .int .i64 (m : Int), .int .i64 0])) := by
  refine (next_any n (bytes (38 :: s)) 0 w hE hn (by rw [bytes_len]; exact hs)).mono ?_
  rintro e w' ⟨sl, he, hown, hb⟩
  have hsl : ∃ a m cp, sl = .slice a m cp := by
    rcases hown.2 with ⟨h, _⟩ | ⟨g, cap, cur, h, _⟩
    · exact ⟨_, _, _, h⟩
    · exact ⟨_, _, _, h⟩
  obtain ⟨a, m, cp, rfl⟩ := hsl
  refine ⟨hb, ?_⟩
  rw [nextT_amp] at he
  cases hr : refL (38 :: s) with
  | none =>
    rw [hr] at he
    exact Or.inl ⟨rfl, a, m, cp, he⟩
  | some kn =>
    obtain ⟨k, n⟩ := kn
    rw [hr] at he
    exact Or.inr ⟨k, n, a, m, cp, rfl, he⟩
/-- what a step gives: it goes on, with less to come; or it ends in an error -/
def StepG (Is : (Nat → Prop) → World → Value → RefD → Prop) (c : VC) (D : Nat) (R : VRes) (M : Nat) (e : Ending) (w' : World) : Prop :=
  (∃ F' f' l' o' r', e = .returned (.int .i64 0) ∧ VM Is c F' f' l' o' r' w' ∧ GoodV D c.most R l' o' r' ∧ measV R l' r' < M) ∨
  ∃ F' f' l' o' r' cd, cd ≠ 0 ∧ e = .returned (.int .i64 cd) ∧ VM Is c F' f' l' o' r' w' ∧ R = ([], cd, r')
section
variable {Is : (Nat → Prop) → World → Value → RefD → Prop} {c : VC} {F : Nat → Prop} {f : Nat → Value} {l t : List (List UInt8 × List UInt8)} {o x s : List UInt8} {r : RefD} {w w' : World} {D : Nat} {R : VRes}
theorem GoodV.few {D : Nat} {most : Int} {R : VRes} {l : List (List UInt8 × List UInt8)} {out : List UInt8} {r : RefD} (h : GoodV D most R l out r) : out.length ≤ 1100000 := by
  have h1 := h.sum
  have h2 := h.spent
  have h3 := h.cap
  omega
theorem PutG.keep {B b : Nat} {f : Nat → Value} {o y : List UInt8} {w w' : World} (hp : PutG B b f o y w w') {k : Nat} (hk : k < w.heap.size) (h1 : k ≠ b) (h2 : (f 4).ownBlock ≠ some k) : w'.heap[k]? = w.heap[k]? := by
  obtain ⟨v, _, ht, _⟩ := hp
  exact ht.block k hk fun e => e.elim h1 h2
set_option maxHeartbeats 4000000 in
set_option maxRecDepth 100000 in
theorem reference_v (S : RefsSaid Is) (h : VM Is c F f ((x, 38 :: s) :: t) o r w) (hG : GoodV D c.most R ((x, 38 :: s) :: t) o r) (hD : D ≤ 1000000) (hm : FitsR c.most) {p cap : Nat} (hp : f 2 = .slice (some ⟨p, 0, none⟩) (t.length + 1) cap) :
    Calls Tryz.prog 53 #[.pointer (some ⟨c.b, 0, none⟩), .pointer (some ⟨p, t.length * 2, none⟩)] w (StepG Is c D R (measV R ((x, 38 :: s) :: t) r)) := by
  obtain ⟨p', cap', hf2, hcap, _, cr, fr, hplt, _, hpb⟩ := h.inner
  rw [hp] at hf2
  injection hf2 with e1 e2 e3
  injection e1 with e1
  injection e1 with e1
  subst e1
  subst e3
  have hsm := (hG.small _ (List.mem_cons_self ..)).2
  have HN := Lib.hid (tnext_v h.e h.n_le hsm)
  have H := Lib.hid h
  have HG := Lib.hid hG
  have HP := Lib.hid hp
  have hdl := hG.deep
  have hfew := hG.few
  rw [List.length_cons] at hdl
  clear h hG hp e2
  obtain ⟨M, hM⟩ : ∃ M, measV R ((x, 38 :: s) :: t) r = M := ⟨_, rfl⟩
  rw [hM]
  have HM := Lib.hid hM
  clear hM
  obtain ⟨q, hq⟩ : ∃ q, 38 :: s = q := ⟨_, rfl⟩
  obtain ⟨i, hi⟩ : ∃ i, t.length = i := ⟨_, rfl⟩
  rw [hi] at cr fr hdl hcap HP ⊢
  rw [hq] at cr HN hsm
  have HQ := Lib.hid hq
  have HI := Lib.hid hi
  clear hq hi
  go_enter Tryz.func53, Tryz.ntmps53
  go_wp2_with fail
  refine HN.out.mono ?_
  rintro e w2 ⟨hb, ⟨hr, a, m, cp, rfl⟩ | ⟨k, n, a, m, cp, hr, rfl⟩⟩
  · have HR := Lib.hid (HG.out.badRef (by rw [HQ.out]; exact hr))
    have H2 := Lib.hid (fun O => H.out.other S (hb.alloc hb.size O))
    clear hr hb
    go_wp2
    go_ret
    exact Or.inr ⟨F, f, _, o, r, 2, by decide, rfl, H2.out _, HR.out⟩
  · obtain ⟨hk1, hk2⟩ := refL_kind hr
    obtain ⟨hn0, hn1, hn7⟩ := refL_len hr
    have hnz : (n : Int) ≤ ((bytes q).size : Int) := by rw [bytesL_len]; omega
    have hdrop := bytes_drop q n
    obtain ⟨kd, nm, tx, al, em⟩ := k
    obtain ⟨kI, hkI⟩ : ∃ kI : Int, (kd : Int) = kI := ⟨_, rfl⟩
    simp only [hkI]
    have hsz := hb.size
    have hpt : w2.heap.size ≠ p := by omega
    have HTR : Hid ((w2.alloc (.cells #[.int .i64 kI, .string nm, .string tx, .slice a m cp, .bool em] 90)).rowIs w2.heap.size 90 5 (fun i => if i = 0 then .int .i64 kI else if i = 1 then .string nm else if i = 2 then .string tx else if i = 3 then .slice a m cp else .bool em)) := Lib.hid (by
      refine ⟨_, heap_alloc_new w2 _, rfl, fun i hi => ?_⟩
      rcases (show i = 0 ∨ i = 1 ∨ i = 2 ∨ i = 3 ∨ i = 4 by omega) with rfl | rfl | rfl | rfl | rfl <;> rfl)
    have h3 := H.out.other S (hb.alloc hb.size (.cells #[.int .i64 kI, .string nm, .string tx, .slice a m cp, .bool em] 90))
    have cr3 : (w2.alloc (.cells #[.int .i64 kI, .string nm, .string tx, .slice a m cp, .bool em] 90)).cell? ⟨p, i * 2 + 1, none⟩ = some (.string (bytes q)) := (World.cell?_of_block (a := ⟨p, i * 2 + 1, none⟩) ((Lib.alloc_old w2 _ p (by omega)).trans (hb.block p hplt))).trans cr
    have fr3 : (w2.alloc (.cells #[.int .i64 kI, .string nm, .string tx, .slice a m cp, .bool em] 90)).frozen? ⟨p, i * 2 + 1, none⟩ = false := (World.frozen?_of_block (a := ⟨p, i * 2 + 1, none⟩) ((Lib.alloc_old w2 _ p (by omega)).trans (hb.block p hplt))).trans fr
    have h4 := h3.rest S (q := q.drop n) (by rw [HI.out]; exact HP.out)
    rw [HI.out] at h4
    have hrow := HTR.out.setOther (a := ⟨p, i * 2 + 1, none⟩) hpt (.string (bytes (q.drop n)))
    have g0 := hrow.cell (i := 0) (by decide)
    have g1 := hrow.cell (i := 1) (by decide)
    have g2 := hrow.cell (i := 2) (by decide)
    have hb4 : p ≠ c.b := hpb
    have hfk := h4.blt
    have h4d := h4.drew S
    have HKT : Hid (∀ j v, j < 5 → ((w2.alloc (.cells #[.int .i64 kI, .string nm, .string tx, .slice a m cp, .bool em] 90)).setCell ⟨p, i * 2 + 1, none⟩ (.string (bytes (q.drop n)))).cell? ⟨w2.heap.size, j, none⟩ = some v → ∀ w' y, PutG c.w0.heap.size c.b f o y ((w2.alloc (.cells #[.int .i64 kI, .string nm, .string tx, .slice a m cp, .bool em] 90)).setCell ⟨p, i * 2 + 1, none⟩ (.string (bytes (q.drop n)))).drew w' → w'.cell? ⟨w2.heap.size, j, none⟩ = some v) := Lib.hid (fun j v _ hc w' y hp => (World.cell?_of_block (a := ⟨w2.heap.size, j, none⟩) (hp.keep (k := w2.heap.size) hrow.lt (fun e => by have := (H.out.other S hb).blt; omega) (fun e => by have := ((H.out.other S hb).fb.own.lt w2.heap.size e).2; omega))).trans hc)
    rcases hk2 with h7 | ⟨h8, y, hy, hye, hyl⟩
    · have h7' : kd = 7 := h7
      subst h7'
      obtain rfl : kI = 7 := hkI.symm
      have HGC := Lib.hid (HG.out.char (by rw [HQ.out]; exact hr) rfl)
      have htl := hn7 rfl
      have HW := Lib.hid (wstr_v h4d.fb tx (by
        have e : tx.data.toList.length = tx.size := dat_len tx
        have e2 : tx.data.toList.length ≤ n := htl
        omega) h4d.size)
      have H4 := Lib.hid h4d
      have HT2 := Lib.hid (HKT.out 2 _ (by decide) g2)
      clear h3 h4 h4d hrow hr hk1 hn7 hb htl hkI HKT
      go_wp2_with fail
      obtain ⟨W4, hW4⟩ : ∃ W4, (w2.alloc (.cells #[.int .i64 7, .string nm, .string tx, .slice a m cp, .bool em] 90)).setCell ⟨p, i * 2 + 1, none⟩ (.string (bytes (q.drop n))) = W4 := ⟨_, rfl⟩
      rw [hW4] at g0 g1 g2 HW H4 HT2 ⊢
      clear hW4
      have g2' : W4.cell? ⟨w2.heap.size, 2, none⟩ = some (.string tx) := g2
      clear g0 g1 g2
      go_region_held3 (fun W => W.cell? ⟨w2.heap.size, 2, none⟩ = some (.string tx))
        (first | exact g2' | assumption)
        ((go_at_call 27; refine HW.out.mono ?_; rintro e w5 ⟨rfl, hp5⟩; have ht5 := HT2.out w5 _ hp5; have HP5 := Lib.hid hp5; clear hp5))
      obtain ⟨f5, h5, _⟩ := H4.out.put S HP5.out
      have H5 := Lib.hid h5
      clear h5
      go_wp2
      go_ret
      exact Or.inl ⟨F, f5, _, _, r, rfl, H5.out, by have := HGC.out.1; rw [HQ.out] at this; exact this, by have := HGC.out.2; rw [HQ.out, ← HQ.out, HM.out, HQ.out] at this; exact this⟩
    · have h8' : kd = 8 := h8
      subst h8'
      obtain rfl : kI = 8 := hkI.symm
      have hy' : nm = bytes y := hy
      subst hy'
      have hyl2 : y.length ≤ 1000000 := by omega
      have HGF := Lib.hid (fun c5 (h5 : fiveL y = some c5) => HG.out.five (k := ⟨8, bytes y, tx, al, em⟩) (by rw [HQ.out]; exact hr) (fun e => by cases e) h5)
      have HGO := Lib.hid (fun h5 h0 => HG.out.opens (k := ⟨8, bytes y, tx, al, em⟩) (y := y) (by rw [HQ.out]; exact hr) (fun e => by cases e) rfl h5 h0 hye (by omega))
      have HGB := Lib.hid (fun h5 h0 => HG.out.badOpen (k := ⟨8, bytes y, tx, al, em⟩) (y := y) (by rw [HQ.out]; exact hr) (fun e => by cases e) rfl h5 h0)
      have HGT := Lib.hid (S.get F c.vr r y _ hyl2 h4d.is)
      have H4 := Lib.hid h4d
      have HT1 := Lib.hid (HKT.out 1 _ (by decide) g1)
      have cv := h4.c0
      clear h3 h4 h4d hrow hr hk1 hn7 hb hkI HKT
      go_wp2_with fail
      obtain ⟨W4, hW4⟩ : ∃ W4, (w2.alloc (.cells #[.int .i64 8, .string (bytes y), .string tx, .slice a m cp, .bool em] 90)).setCell ⟨p, i * 2 + 1, none⟩ (.string (bytes (q.drop n))) = W4 := ⟨_, rfl⟩
      rw [hW4] at g0 g1 g2 HGT H4 HT1 cv hfk ⊢
      have hsz4 : w2.heap.size < W4.heap.size := by rw [← hW4, Deep.nblk_setCell, Deep.nblk_alloc]; omega
      clear hW4
      have g1' : W4.cell? ⟨w2.heap.size, 1, none⟩ = some (.string (bytes y)) := g1
      clear g0 g1 g2
      cases h5 : fiveL y with
      | some c5 =>
        have hget : getR r y = ([c5], true, 0) := by unfold getR; rw [h5]
        rw [hget] at HGT
        have HGF2 := Lib.hid (HGF.out c5 h5)
        clear h5 hget HGF HGO HGB
        go_region_held3 (fun W => W.cell? ⟨c.b, 0, none⟩ = some c.vr ∧ W.cell? ⟨w2.heap.size, 1, none⟩ = some (.string (bytes y)))
          (first | exact ⟨cv, g1'⟩ | assumption)
          ((go_at_call 68; refine HGT.out.mono ?_; rintro e w5 ⟨rfl, hb5⟩; have ht5 : w5.cell? ⟨c.b, 0, none⟩ = some c.vr ∧ w5.cell? ⟨w2.heap.size, 1, none⟩ = some (.string (bytes y)) := ⟨(hb5.cell (p := ⟨c.b, 0, none⟩) hfk).trans cv, (hb5.cell (p := ⟨w2.heap.size, 1, none⟩) hsz4).trans g1'⟩; have HB5 := Lib.hid hb5; clear hb5))
        have h6 := H4.out.other S HB5.out
        have HW := Lib.hid (wstr_v h6.fb (bytes [c5]) (by show o.length + 1 ≤ _; omega) h6.size)
        have H6 := Lib.hid h6
        clear h6 ht5
        go_wp2_with fail
        refine HW.out.mono ?_
        rintro e w7 ⟨rfl, hp7⟩
        obtain ⟨f7, h7, _⟩ := H6.out.put S hp7
        have H7 := Lib.hid h7
        clear h7 hp7
        go_wp2
        go_ret
        exact Or.inl ⟨F, f7, _, _, r, rfl, H7.out, by have := HGF2.out.1; rw [HQ.out] at this; exact this, by have := HGF2.out.2; rw [HM.out, HQ.out] at this; exact this⟩
      | none =>
        obtain ⟨gs, gc, hget⟩ : ∃ gs gc, getR r y = (gs, false, gc) := by
          unfold getR
          rw [h5]
          simp only
          split <;> exact ⟨_, _, rfl⟩
        rw [hget] at HGT
        have HGO2 := Lib.hid (HGO.out h5)
        have HGB2 := Lib.hid (HGB.out h5)
        clear h5 hget HGF HGO HGB
        go_region_held3 (fun W => W.cell? ⟨c.b, 0, none⟩ = some c.vr ∧ W.cell? ⟨w2.heap.size, 1, none⟩ = some (.string (bytes y)))
          (first | exact ⟨cv, g1'⟩ | assumption)
          ((go_at_call 68; refine HGT.out.mono ?_; rintro e w5 ⟨rfl, hb5⟩; have ht5 : w5.cell? ⟨c.b, 0, none⟩ = some c.vr ∧ w5.cell? ⟨w2.heap.size, 1, none⟩ = some (.string (bytes y)) := ⟨(hb5.cell (p := ⟨c.b, 0, none⟩) hfk).trans cv, (hb5.cell (p := ⟨w2.heap.size, 1, none⟩) hsz4).trans g1'⟩; have HB5 := Lib.hid hb5; clear hb5))
        have h6 := H4.out.other S HB5.out
        have HBG := Lib.hid (begin_v S h6 hm y hyl2 (by rw [List.length_cons, HI.out]; omega))
        have ht6 := ht5.2
        clear h6 ht5
        go_wp2_with fail
        refine HBG.out.mono ?_
        rintro e w8 ⟨F8, f8, ⟨h0, rfl, hv⟩ | ⟨h0, rfl, hv⟩⟩
        · have HGO3 := Lib.hid (HGO2.out h0)
          have HV := Lib.hid hv
          clear h0 hv
          go_wp2
          go_ret
          exact Or.inl ⟨F8, f8, _, _, _, rfl, HV.out, by have := HGO3.out.1; rw [HQ.out] at this; exact this, by have := HGO3.out.2; rw [HM.out, HQ.out] at this; exact this⟩
        · have hR := HGB2.out h0
          have hcd0 : (if (openT r y c.most).2 = 3 then (3 : Int) else 2) ≠ 0 := by split <;> decide
          obtain ⟨cd, hcd⟩ : ∃ cd : Int, (if (openT r y c.most).2 = 3 then (3 : Int) else 2) = cd := ⟨_, rfl⟩
          rw [hcd] at hR hcd0
          simp only [hcd]
          have HV := Lib.hid hv
          have HR := Lib.hid hR
          have HC0 := Lib.hid hcd0
          clear h0 hv hR hcd0 hcd
          go_wp2
          go_ret
          exact Or.inr ⟨F8, f8, _, _, _, cd, HC0.out, rfl, HV.out, HR.out⟩
end
end Go.Proofs.YtjijjmkeehdooaaGreatDoor

namespace Go.Proofs.YtjijjmkeehdooaaGreatDoor
open Go.RowKit Go.Lib

theorem spB_high {b : UInt8} (h : 128 ≤ b.toNat) : spB b = b := by
  unfold spB spaceU spaceB
  rw [if_neg]
  simp only [Bool.or_eq_true, beq_iff_eq]
  omega
theorem plain_high (ins : Bool) {b : UInt8} (h : 128 ≤ b.toNat) : plainV ins b = true := by
  have h1 : b ≠ 38 := fun e => by subst e; revert h; decide
  have h2 : b ≠ 60 := fun e => by subst e; revert h; decide
  unfold plainV
  rw [decide_eq_true h1, decide_eq_false h2]
  rfl
/-- WHERE the range STANDS: o is written, what lies from dn on is not; o0 was written ahead -/
structure ScanAt (ins : Bool) (s o0 o : List UInt8) (dn pos : Nat) : Prop where
  le : dn ≤ pos
  lt : pos ≤ s.length
  short : o.length ≤ o0.length + dn
  out : o ++ pieceV s dn pos = o0 ++ (s.take pos).map spB
  plain : ∀ b ∈ s.take pos, plainV ins b = true
theorem ScanAt.start (ins : Bool) (s o0 : List UInt8) : ScanAt ins s o0 o0 0 0 := ⟨Nat.le_refl _, Nat.zero_le _, Nat.le_refl _, by rw [piece_self]; rfl, fun b hb => by cases hb⟩
section
variable {ins : Bool} {s o0 o : List UInt8} {dn pos : Nat}
theorem ScanAt.byte (_h : ScanAt ins s o0 o dn pos) (hp : pos < s.length) {c : Nat} (hc : (decodeL (s.drop pos)).1 = c) (h128 : c < 128) : (decodeL (s.drop pos)).2 = 1 ∧ ∃ b, s[pos]? = some b ∧ b.toNat = c ∧ s.take (pos + 1) = s.take pos ++ [b] ∧ s.drop pos = b :: s.drop (pos + 1) := by
  obtain ⟨h1, h2, h3⟩ := rune_at s pos hp
  rcases h3 with ⟨b, hb, hbn, hlt, hk⟩ | ⟨hhi, _⟩
  · refine ⟨hk, b, hb, by rw [hbn, hc], ?_, drop_at hb⟩
    obtain ⟨hl, rfl⟩ := List.getElem?_eq_some_iff.1 hb
    exact (List.take_append_getElem hl).symm
  · omega
theorem ScanAt.next (h : ScanAt ins s o0 o dn pos) (hp : pos < s.length) (h38 : (decodeL (s.drop pos)).1 ≠ 38) (h60 : ¬ ((decodeL (s.drop pos)).1 = 60 ∧ ins = true)) (hsp : spaceB ((decodeL (s.drop pos)).1 : Int) = false) : ScanAt ins s o0 o dn (pos + (decodeL (s.drop pos)).2) := by
  obtain ⟨h1, h2, h3⟩ := rune_at s pos hp
  have hle := h.le
  have htk : s.take (pos + (decodeL (s.drop pos)).2) = s.take pos ++ (s.drop pos).take (decodeL (s.drop pos)).2 := List.take_add
  have hall : ∀ b ∈ (s.drop pos).take (decodeL (s.drop pos)).2, plainV ins b = true ∧ spB b = b := by
    rcases h3 with ⟨b, hb, hbn, hlt, hk⟩ | ⟨hhi, hall⟩
    · rw [hk, drop_at hb]
      intro b' hb'
      rw [List.mem_singleton.1 hb']
      constructor
      · have e1 : b ≠ 38 := fun e => h38 (by rw [← hbn, e]; rfl)
        unfold plainV
        rw [decide_eq_true e1]
        by_cases e2 : b = 60
        · have e3 : ins = false := by
            cases ins with
            | false => rfl
            | true => exact absurd ⟨by rw [← hbn, e2]; rfl, rfl⟩ h60
          rw [e3, Bool.and_false]; rfl
        · rw [decide_eq_false e2]; rfl
      · unfold spB spaceU
        rw [hbn, hsp]
        rfl
    · intro b hb
      obtain ⟨j, hj, rfl⟩ := List.getElem_of_mem hb
      rw [List.length_take, List.length_drop] at hj
      obtain ⟨d, hd, h128⟩ := hall (pos + j) (by omega) (by omega)
      rw [List.getElem_take, List.getElem_drop]
      rw [List.getElem?_eq_getElem (by omega)] at hd
      injection hd with hd
      rw [hd]
      exact ⟨plain_high ins h128, spB_high h128⟩
  refine ⟨by omega, h2, h.short, ?_, ?_⟩
  · rw [piece_more s dn pos _ hle (by omega), ← List.append_assoc, h.out, htk, List.map_append, List.append_assoc, show pos + (decodeL (s.drop pos)).2 - pos = (decodeL (s.drop pos)).2 by omega]
    congr 2
    exact (List.map_id _).symm.trans (List.map_congr_left fun b hb => (hall b hb).2.symm)
  · rw [htk]
    intro b hb
    rcases List.mem_append.1 hb with hb | hb
    · exact h.plain b hb
    · exact (hall b hb).1
theorem space_lt {c : Int} (h : spaceB c = true) : c = 32 ∨ c = 9 ∨ c = 13 ∨ c = 10 := by
  unfold spaceB at h
  simp only [Bool.or_eq_true, beq_iff_eq] at h
  omega
theorem ScanAt.space (h : ScanAt ins s o0 o dn pos) (hp : pos < s.length) (hsp : spaceB ((decodeL (s.drop pos)).1 : Int) = true) : (decodeL (s.drop pos)).2 = 1 ∧ ScanAt ins s o0 (o ++ pieceV s dn pos ++ [32]) (pos + 1) (pos + 1) := by
  have hc := space_lt hsp
  obtain ⟨hk, b, hb, hbn, htk, _⟩ := h.byte hp rfl (by omega)
  have hle := h.le
  have hsh := h.short
  refine ⟨hk, Nat.le_refl _, by omega, ?_, ?_, ?_⟩
  · rw [List.length_append, List.length_append, piece_len s dn pos hle h.lt]
    show o.length + (pos - dn) + 1 ≤ _
    omega
  · rw [piece_self, List.append_nil, h.out, htk, List.map_append, List.append_assoc]
    have e : spB b = 32 := by
      unfold spB spaceU
      rw [hbn, hsp]
      rfl
    rw [List.map_cons, List.map_nil, e]
  · rw [htk]
    intro b' hb'
    rcases List.mem_append.1 hb' with hb' | hb'
    · exact h.plain b' hb'
    · rw [List.mem_singleton.1 hb']
      have e1 : b ≠ 38 := fun e => by rw [e] at hbn; have : (38 : UInt8).toNat = 38 := rfl; omega
      have e2 : b ≠ 60 := fun e => by rw [e] at hbn; have : (60 : UInt8).toNat = 60 := rfl; omega
      unfold plainV
      rw [decide_eq_true e1, decide_eq_false e2]
      rfl
theorem ScanAt.sign (h : ScanAt ins s o0 o dn pos) (hp : pos < s.length) {c : Nat} {b : UInt8} (hc : (decodeL (s.drop pos)).1 = c) (hb : b.toNat = c) (h128 : c < 128) : s.drop pos = b :: s.drop (pos + 1) ∧ s = s.take pos ++ b :: s.drop (pos + 1) := by
  obtain ⟨_, b', _, hbn, _, hd⟩ := h.byte hp hc h128
  obtain rfl : b' = b := UInt8.toNat_inj.1 (by omega)
  exact ⟨hd, by rw [← hd, List.take_append_drop]⟩
theorem ScanAt.done (h : ScanAt ins s o0 o dn s.length) : o ++ s.drop dn = o0 ++ s.map spB := by
  have := h.out
  rw [piece_end, List.take_length] at this
  exact this
end
/-- a reader, and the iterator of a range in block I -/
structure ScanW (Is : (Nat → Prop) → World → Value → RefD → Prop) (c : VC) (F : Nat → Prop) (fv : Value) (l : List (List UInt8 × List UInt8)) (s : List UInt8) (I : Nat) (o : List UInt8) (r : RefD) (pos : Nat) (w : World) : Prop where
  vm : ∃ f, VM Is c F f l o r w ∧ f 2 = fv
  iter : w.heap[I]? = some (.stringIter (bytes s) pos)
  lo : c.w0.heap.size ≤ I
  fI : ∀ k, F k → k ≠ I
section
variable {Is : (Nat → Prop) → World → Value → RefD → Prop} {c : VC} {F : Nat → Prop} {f : Nat → Value} {fv : Value} {l t : List (List UInt8 × List UInt8)} {o x s : List UInt8} {r : RefD} {w w' : World} {D : Nat} {R : VRes} {I pos : Nat}
theorem ScanW.posOf (h : ScanW Is c F fv l s I o r pos w) : w.iterPos I = pos := by unfold World.iterPos; rw [h.iter]
theorem VM.at (h : VM Is c F f ((x, s) :: t) o r w) {p cap : Nat} (hf : f 2 = .slice (some ⟨p, 0, none⟩) (t.length + 1) cap) :
    w.cell? ⟨p, t.length * 2, none⟩ = some (.string (bytes x)) ∧ w.cell? ⟨p, t.length * 2 + 1, none⟩ = some (.string (bytes s)) ∧ w.frozen? ⟨p, t.length * 2 + 1, none⟩ = false ∧ p < w.heap.size ∧ p ≠ c.b := by
  obtain ⟨p', cap', hf2, _, cx, cr, fr, hplt, _, hpb⟩ := h.inner
  rw [hf] at hf2
  injection hf2 with e1 e2 e3
  injection e1 with e1
  injection e1 with e1
  subst e1
  exact ⟨cx, cr, fr, hplt, hpb⟩
theorem ScanW.cells {p cap : Nat} (h : ScanW Is c F (.slice (some ⟨p, 0, none⟩) (t.length + 1) cap) ((x, s) :: t) s I o r pos w) :
    w.cell? ⟨p, t.length * 2, none⟩ = some (.string (bytes x)) ∧ w.cell? ⟨p, t.length * 2 + 1, none⟩ = some (.string (bytes s)) ∧ w.frozen? ⟨p, t.length * 2 + 1, none⟩ = false := by
  obtain ⟨f, hv, hf⟩ := h.vm
  obtain ⟨h1, h2, h3, _⟩ := hv.at hf
  exact ⟨h1, h2, h3⟩
theorem own_iter {w : World} {B n z I : Nat} {e : TypeId} {v : Value} {xs : List Value} {s : ByteArray} {pos : Nat} (h : w.ownsRow B e z v n xs) (hi : w.heap[I]? = some (.stringIter s pos)) : v.ownBlock ≠ some I := by
  intro hk
  rcases h.2 with ⟨rfl, _⟩ | ⟨g, cap, cur, rfl, _, hg, _⟩
  · cases hk
  · injection hk with hk
    have e1 : g = I := hk
    rw [e1, hi] at hg
    cases hg
theorem ScanW.next (S : RefsSaid Is) (h : ScanW Is c F fv l s I o r pos w) (p : Nat) : ScanW Is c F fv l s I o r p (w.iterAt I (bytes s) p) := by
  obtain ⟨f, hv, hf⟩ := h.vm
  have hk : ∀ k, k ≠ I → (w.iterAt I (bytes s) p).heap[k]? = w.heap[k]? := fun k hk => Lib.iterAt_other w I k _ _ hk
  have hbI : c.b ≠ I := by
    intro e
    obtain ⟨cs, hc, _⟩ := hv.fb.box
    rw [e, h.iter] at hc
    cases hc
  have hlo := h.lo
  have hB : Below c.w0.heap.size w (w.iterAt I (bytes s) p) := Lib.below_iterAt (Below.refl _ _) hlo _ _
  have hT : Turns (fun k => k = I) w (w.iterAt I (bytes s) p) := ⟨hB.os, hB.tape, hB.output, hB.size, fun k _ hn => hk k hn⟩
  refine ⟨⟨f, ⟨hv.e.stay (hB.mono hv.nlo), hv.fb.keep fun k hk2 => hk k ?_, hv.f0, hv.f1, ownsRow_keep hv.tx fun k hk2 => hk k fun e => own_iter hv.tx h.iter (by rw [← e]; exact hk2), S.keep F w _ _ _ hv.is hB.size fun k hF => hk k (h.fI k hF), hv.inn, hv.apart, hv.since.next hT fun i hi => Or.inr (by rw [hi]; exact hlo), hv.lo, hv.nlo, hv.flo⟩, hf⟩, Lib.iterAt_heap w I (bytes s) pos p h.iter, hlo, h.fI⟩
  rcases hk2 with rfl | hk2
  · exact hbI
  · exact fun e => own_iter hv.fb.own h.iter (by rw [← e]; exact hk2)
theorem ScanW.put (S : RefsSaid Is) (h : ScanW Is c F fv l s I o r pos w) {f : Nat → Value} (hv : VM Is c F f l o r w) (hf : f 2 = fv) {y : List UInt8} (hp : PutG c.w0.heap.size c.b f o y w w') : ScanW Is c F fv l s I (o ++ y) r pos w' := by
  obtain ⟨f', h', hf', _⟩ := hv.put S hp
  have hbI : I ≠ c.b := by
    intro e
    obtain ⟨cs, hc, _⟩ := hv.fb.box
    rw [← e, h.iter] at hc
    cases hc
  exact ⟨⟨f', h', hf'.trans hf⟩, (hp.keep (Array.getElem?_eq_some_iff.1 h.iter).1 hbI (own_iter hv.fb.own h.iter)).trans h.iter, h.lo, h.fI⟩
theorem ScanW.drew (S : RefsSaid Is) (h : ScanW Is c F fv l s I o r pos w) : ScanW Is c F fv l s I o r pos w.drew := by
  obtain ⟨f, hv, hf⟩ := h.vm
  exact ⟨⟨f, hv.drew S, hf⟩, h.iter, h.lo, h.fI⟩
theorem StepG.mono {M M' : Nat} {e : Ending} (h : StepG Is c D R M e w') (hM : M ≤ M') : StepG Is c D R M' e w' := by
  rcases h with ⟨F', f', l', o', r', h1, h2, h3, h4⟩ | h
  · exact Or.inl ⟨F', f', l', o', r', h1, h2, h3, Nat.lt_of_lt_of_le h4 hM⟩
  · exact Or.inr h
end
end Go.Proofs.YtjijjmkeehdooaaGreatDoor

namespace Go.Proofs.YtjijjmkeehdooaaGreatDoor
open Go.RowKit
section
variable {Is : (Nat → Prop) → World → Value → RefD → Prop} {c : VC} {F : Nat → Prop} {f : Nat → Value} {fv : Value} {l t : List (List UInt8 × List UInt8)} {o x s : List UInt8} {r : RefD} {w w' : World} {D : Nat} {R : VRes} {I pos : Nat}
set_option maxHeartbeats 8000000 in
set_option maxRecDepth 100000 in
theorem step_v (S : RefsSaid Is) (h : VM Is c F f ((x, s) :: t) o r w) (hG : GoodV D c.most R ((x, s) :: t) o r) (hD : D ≤ 1000000) (hm : FitsR c.most) :
    Calls Tryz.prog 36 #[.pointer (some ⟨c.b, 0, none⟩)] w (StepG Is c D R (measV R ((x, s) :: t) r)) := by
  obtain ⟨p, cap, hf2, hcap, cx, cr, fr, hplt, hplo, hpb⟩ := h.inner
  have c2 := h.c2
  have fz := h.fb.box.frozen 2
  rw [hf2] at c2
  have hsm := (hG.small _ (List.mem_cons_self ..)).2
  have hxl := (hG.small _ (List.mem_cons_self ..)).1
  have hfew := hG.few
  have hdl := hG.deep
  rw [List.length_cons] at hdl
  have H := Lib.hid h
  have HG := Lib.hid hG
  have HF := Lib.hid hf2
  have hsz : (bytes s).size = s.length := bytesL_len s
  have HFI := Lib.hid (show ∀ k, F k → k ≠ w.heap.size from fun k hk e => by have := S.inn F w _ _ h.is k hk; omega)
  have hwlo := h.size
  clear h hG
  obtain ⟨M, hM⟩ : ∃ M, measV R ((x, s) :: t) r = M := ⟨_, rfl⟩
  rw [hM]
  have HM := Lib.hid hM
  clear hM
  obtain ⟨i, hi⟩ : ∃ i, t.length = i := ⟨_, rfl⟩
  rw [hi] at cx cr fr hdl hcap c2 HF
  have HI := Lib.hid hi
  clear hi hf2
  have e1 : ((i + 1 : Nat) : Int) - 1 = (i : Int) := by omega
  go_enter Tryz.func36, Tryz.ntmps36
  go_wp2
  go_quiet (fail)
  go_wp2
  go_loopw [4] (fun d wr => ∃ (o' : List UInt8) (pos dn : Nat), ScanAt (decide (x ≠ [])) s o o' dn pos ∧ ScanW Is c F (.slice (some ⟨p, 0, none⟩) (i + 1) cap) ((x, s) :: t) s w.heap.size o' r pos wr ∧ d = .int .i64 dn) (fun _ wr => s.length - wr.iterPos w.heap.size)
  case atStart =>
    have h2 := H.out.other S ((drewN_below w nq).trans (iter_below (w.drewN nq) (bytes s) 0))
    exact ⟨o, 0, 0, ScanAt.start _ s o, ⟨⟨f, h2, HF.out⟩, World.iter_heap (w.drewN nq) (bytes s) 0, hwlo, HFI.out⟩, rfl⟩
  case round =>
    obtain ⟨o', pos, dn, hn, hw, rfl⟩ := hrel
    have hle := hn.le
    have hlt := hn.lt
    have hsh := hn.short
    have HMP := Lib.hid hw.posOf
    clear cx cr fr c2 fz
    by_cases hp : pos < s.length
    · have hnx : ∀ ty, (Instr.next (.pointer (some ⟨w.heap.size, 0, none⟩)) true ty).run Tryz.prog wr = _ := fun ty => Lib.run_next_any_at wr w.heap.size (bytes s) pos ty hw.iter (by rw [hsz]; exact hp)
      rw [show Utf8.decode (bytes s) pos = Lib.decodeL (s.drop pos) from (Lib.decodeL_drop (bytes s) pos).symm] at hnx
      obtain ⟨g1, g2, _⟩ := rune_at s pos hp
      have g3 := decode_le s pos
      rw [show Utf8.decode (bytes s) pos = Lib.decodeL (s.drop pos) from (Lib.decodeL_drop (bytes s) pos).symm] at g3
      have HN := Lib.hid (fun h1 h2 h3 => hn.next hp h1 h2 h3)
      have HS := Lib.hid (fun h => hn.space hp h)
      have HA := Lib.hid (fun (ch : Nat) (b : UInt8) hc hb h128 => hn.sign hp (c := ch) (b := b) hc hb h128)
      have HOUT := Lib.hid hn.out
      have HPL := Lib.hid hn.plain
      have HW := Lib.hid (hw.next S (pos + (Lib.decodeL (s.drop pos)).2))
      obtain ⟨ch, hch⟩ : ∃ ch : Nat, (Lib.decodeL (s.drop pos)).1 = ch := ⟨_, rfl⟩
      obtain ⟨k, hk⟩ : ∃ k : Nat, (Lib.decodeL (s.drop pos)).2 = k := ⟨_, rfl⟩
      rw [hch] at g3
      simp only [hch, hk] at HN HS
      rw [hk] at HW g1 g2
      rw [hch, hk] at hnx
      simp only [hch] at HA
      clear hch hk hn hw
      obtain ⟨wi, hwi⟩ : ∃ wi, wr.iterAt w.heap.size (bytes s) (pos + k) = wi := ⟨_, rfl⟩
      rw [hwi] at HW
      simp only [hwi] at hnx
      clear hwi
      have hcl : wi.cell? ⟨p, i * 2, none⟩ = some (.string (bytes x)) ∧ wi.cell? ⟨p, i * 2 + 1, none⟩ = some (.string (bytes s)) ∧ wi.frozen? ⟨p, i * 2 + 1, none⟩ = false := by
        have h := HW.out
        rw [← HI.out] at h ⊢
        exact h.cells
      obtain ⟨cx, cr, fr⟩ := hcl
      by_cases h38 : ch = 38
      · subst h38
        obtain ⟨hd1, hd2⟩ := HA.out 38 38 rfl rfl (by decide)
        have HD1 := Lib.hid hd1
        have HD2 := Lib.hid hd2
        obtain ⟨f5, hv5, hf5⟩ := (HW.out.drew S).vm
        have q1 : (dn : Int) ≤ (pos : Int) := by omega
        have q2 : (pos : Int) ≤ ((bytes s).size : Int) := by rw [hsz]; omega
        have q3 : (0 : Int) ≤ (dn : Int) := by omega
        have HWS := Lib.hid (wstr_v hv5.fb ((bytes s).extract dn pos) (by rw [ByteArray.size_extract, hsz]; omega) hv5.size)
        have HV5 := Lib.hid hv5
        have HF5 := Lib.hid hf5
        have HKP : Hid (∀ w' y, PutG c.w0.heap.size c.b f5 o' y wi.drew w' → w'.cell? ⟨p, i * 2 + 1, none⟩ = some (.string (bytes s))) := Lib.hid (fun w' y hp => by
          obtain ⟨f6, hv6, hf6, _⟩ := hv5.put S hp
          have := hv6.at (p := p) (cap := cap) (by rw [hf6, hf5, HI.out])
          rw [HI.out] at this
          exact this.2.1)
        clear hd1 hd2 hv5 hf5 HN HS HA
        go_wp2
        go_region_held3 (fun W => W.cell? ⟨p, i * 2 + 1, none⟩ = some (.string (bytes s)))
          (first | exact cr | assumption)
          ((go_at_call 27; refine HWS.out.mono ?_; rintro e w5 ⟨rfl, hp5⟩; have ht5 := HKP.out w5 _ hp5; have HP5 := Lib.hid hp5; clear hp5))
        obtain ⟨f6, hv6, hf6, _⟩ := HV5.out.put S HP5.out
        rw [piece_bytes, HOUT.out] at hv6
        have hf6' : f6 2 = .slice (some ⟨p, 0, none⟩) (i + 1) cap := by rw [hf6, HF5.out]
        have hat := hv6.at (p := p) (cap := cap) (by rw [hf6', HI.out])
        rw [HI.out] at hat
        obtain ⟨_, cr5, fr5, _⟩ := hat
        have hdr : (bytes s).extract pos s.length = bytes (s.drop pos) := by rw [← hsz]; exact bytes_drop s pos
        have h7 := hv6.rest S (q := s.drop pos) (p := p) (cap := cap) (by rw [hf6', HI.out])
        rw [HI.out, HD1.out] at h7
        have hGG := HG.out
        rw [HD2.out] at hGG
        have hG7 := hGG.scan HPL.out
        have hCall := reference_v S h7 hG7 hD hm (p := p) (cap := cap) (by rw [hf6', HI.out])
        rw [HI.out, ← HD1.out] at hCall
        have hMM : measV R ((x, s.drop pos) :: t) r ≤ M := by
          have h1 := meas_scan R x (s.take pos) (38 :: s.drop (pos + 1)) t r
          rw [← HD2.out, HM.out] at h1
          rw [HD1.out]
          omega
        have HCALL := Lib.hid (hCall.mono fun _ _ hg => hg.mono hMM)
        clear hv6 hf6 hf6' h7 hGG hG7 hCall hMM ht5
        go_wp2_with fail
        refine HCALL.out.mono ?_
        intro e w8 hg
        have HG8 := Lib.hid hg
        obtain ⟨cd, rfl⟩ : ∃ cd, e = .returned (.int .i64 cd) := by
          rcases hg with ⟨_, _, _, _, _, h1, _⟩ | ⟨_, _, _, _, _, cd, _, h1, _⟩
          · exact ⟨_, h1⟩
          · exact ⟨_, h1⟩
        clear hg
        go_wp2
        go_ret
        exact HG8.out
      · have a38 : ((ch : Int) == 38) = false := beq_eq_false_iff_ne.2 (by omega)
        have a38' : (ch == 38) = false := beq_eq_false_iff_ne.2 h38
        have HSP := Lib.hid (space_any (ch : Int) wi)
        by_cases hsp : spaceB (ch : Int) = true
        · have hsl := space_lt hsp
          have a60 : ((ch : Int) == 60) = false := beq_eq_false_iff_ne.2 (by omega)
          have a60' : (ch == 60) = false := beq_eq_false_iff_ne.2 (by omega)
          rw [hsp] at HSP
          obtain ⟨hk1, hs1⟩ := HS.out hsp
          subst hk1
          have HS1 := Lib.hid hs1
          obtain ⟨f5, hv5, hf5⟩ := (HW.out.drew S).vm
          have q1 : (dn : Int) ≤ (pos : Int) := by omega
          have q2 : (pos : Int) ≤ ((bytes s).size : Int) := by rw [hsz]; omega
          have q3 : (0 : Int) ≤ (dn : Int) := by omega
          have HWS := Lib.hid (wstr_v hv5.fb ((bytes s).extract dn pos) (by rw [ByteArray.size_extract, hsz]; omega) hv5.size)
          have HV5 := Lib.hid hv5
          have HF5 := Lib.hid hf5
          have HKP : Hid (∀ w' y, PutG c.w0.heap.size c.b f5 o' y wi.drew w' → w'.cell? ⟨p, i * 2 + 1, none⟩ = some (.string (bytes s))) := Lib.hid (fun w' y hp => by
            obtain ⟨f6, hv6, hf6, _⟩ := hv5.put S hp
            have := hv6.at (p := p) (cap := cap) (by rw [hf6, hf5, HI.out])
            rw [HI.out] at this
            exact this.2.1)
          have hpl := piece_len s dn pos hle hlt
          clear hs1 hv5 hf5 HN HS HA hsp hsl h38
          go_wp2_with fail
          refine HSP.out.mono ?_
          rintro e w4 ⟨rfl, rfl⟩
          go_wp2
          go_region_held3 (fun W => W.cell? ⟨p, i * 2 + 1, none⟩ = some (.string (bytes s)))
            (first | exact cr | assumption)
            ((go_at_call 27; refine HWS.out.mono ?_; rintro e w5 ⟨rfl, hp5⟩; have ht5 := HKP.out w5 _ hp5; have HP5 := Lib.hid hp5; clear hp5))
          have hw5 := (HW.out.drew S).put S HV5.out HF5.out HP5.out
          rw [piece_bytes] at hw5
          obtain ⟨f6, hv6, hf6⟩ := hw5.vm
          have HWB := Lib.hid (wbyte_v hv6.fb 32 (by rw [List.length_append, hpl]; omega) hv6.size)
          have HPB : Hid (∀ w', PutG c.w0.heap.size c.b f6 (o' ++ pieceV s dn pos) [32] w5 w' → ScanW Is c F (.slice (some ⟨p, 0, none⟩) (i + 1) cap) ((x, s) :: t) s w.heap.size (o' ++ pieceV s dn pos ++ [32]) r (pos + 1) w') := Lib.hid (fun w' hp => hw5.put S hv6 hf6 hp)
          clear hw5 hv6 hf6 ht5
          go_wp2_with fail
          refine HWB.out.mono ?_
          rintro e w6 ⟨rfl, hp6⟩
          have HW6 := Lib.hid (HPB.out w6 hp6)
          clear hp6
          go_wp2_with fail
          go_roundw
          case rel => exact ⟨_, pos + 1, pos + 1, HS1.out, HW6.out, by go_num⟩
          case measure =>
            have e1 := HW6.out.posOf
            have e2 := HMP.out
            simp only [e1, e2]
            omega
        · have hspf : spaceB (ch : Int) = false := by simpa using hsp
          rw [hspf] at HSP
          by_cases h60 : ch = 60
          · subst h60
            by_cases hxe : x = []
            · have he : (bytes x).toList.isEmpty = true := by rw [hxe]; exact empty_b
              have HN1 := Lib.hid (HN.out h38 (fun h => by have := h.2; rw [hxe] at this; exact absurd this (by decide)) hspf)
              clear HN HS HA hsp hxe h38
              go_wp2_with fail
              refine HSP.out.mono ?_
              rintro e w4 ⟨rfl, rfl⟩
              go_wp2_with fail
              go_roundw
              case rel => exact ⟨o', pos + k, dn, HN1.out, HW.out, rfl⟩
              case measure =>
                have e1 := HW.out.posOf
                have e2 := HMP.out
                simp only [e1, e2]
                omega
            · have he := empty_no hxe
              obtain ⟨hd1, hd2⟩ := HA.out 60 60 rfl rfl (by decide)
              have hGG := HG.out
              rw [hd2] at hGG
              have HR := Lib.hid ((hGG.scan HPL.out).badTag hxe)
              obtain ⟨f5, hv5, hf5⟩ := HW.out.vm
              have HV5 := Lib.hid hv5
              clear HN HS HA hsp hxe h38 hd1 hd2 hGG hv5 hf5
              go_wp2
              go_ret
              exact Or.inr ⟨F, f5, _, _, r, 2, by decide, rfl, HV5.out, HR.out⟩
          · have a60 : ((ch : Int) == 60) = false := beq_eq_false_iff_ne.2 (by omega)
            have a60' : (ch == 60) = false := beq_eq_false_iff_ne.2 h60
            have HN1 := Lib.hid (HN.out h38 (fun h => h60 h.1) hspf)
            clear HN HS HA hsp h38 h60
            go_wp2_with fail
            refine HSP.out.mono ?_
            rintro e w4 ⟨rfl, rfl⟩
            go_wp2_with fail
            go_roundw
            case rel => exact ⟨o', pos + k, dn, HN1.out, HW.out, rfl⟩
            case measure =>
              have e1 := HW.out.posOf
              have e2 := HMP.out
              simp only [e1, e2]
              omega
    · have hnx : ∀ ty, (Instr.next (.pointer (some ⟨w.heap.size, 0, none⟩)) true ty).run Tryz.prog wr = _ := fun ty => Lib.run_next_end_at wr w.heap.size (bytes s) pos ty hw.iter (by rw [hsz]; exact hp)
      obtain rfl : pos = s.length := by omega
      have HDN := Lib.hid hn.done
      obtain ⟨f5, hv5, hf5⟩ := (hw.drew S).vm
      have hcl : wr.cell? ⟨p, i * 2, none⟩ = some (.string (bytes x)) ∧ wr.cell? ⟨p, i * 2 + 1, none⟩ = some (.string (bytes s)) ∧ wr.frozen? ⟨p, i * 2 + 1, none⟩ = false := by
        have h := hw
        rw [← HI.out] at h ⊢
        exact h.cells
      obtain ⟨cx, cr, fr⟩ := hcl
      have q1 : (dn : Int) ≤ ((bytes s).size : Int) := by rw [hsz]; omega
      have q3 : (0 : Int) ≤ (dn : Int) := by omega
      have HWS := Lib.hid (wstr_v hv5.fb ((bytes s).extract dn (bytes s).size) (by rw [ByteArray.size_extract, hsz]; omega) hv5.size)
      have HV5 := Lib.hid hv5
      have HF5 := Lib.hid hf5
      have HKP : Hid (∀ w' y, PutG c.w0.heap.size c.b f5 o' y wr.drew w' → w'.cell? ⟨p, i * 2 + 1, none⟩ = some (.string (bytes s))) := Lib.hid (fun w' y hp => by
        obtain ⟨f6, hv6, hf6, _⟩ := hv5.put S hp
        have := hv6.at (p := p) (cap := cap) (by rw [hf6, hf5, HI.out])
        rw [HI.out] at this
        exact this.2.1)
      have HPL := Lib.hid hn.plain
      rw [List.take_length] at HPL
      clear hv5 hf5 hn hw
      go_wp2
      go_region_held3 (fun W => W.cell? ⟨p, i * 2 + 1, none⟩ = some (.string (bytes s)))
        (first | exact cr | assumption)
        ((go_at_call 27; refine HWS.out.mono ?_; rintro e w5 ⟨rfl, hp5⟩; have ht5 := HKP.out w5 _ hp5; have HP5 := Lib.hid hp5; clear hp5))
      obtain ⟨f6, hv6, hf6, _⟩ := HV5.out.put S HP5.out
      rw [piece_bytes, hsz, piece_end, HDN.out] at hv6
      have hf6' : f6 2 = .slice (some ⟨p, 0, none⟩) (i + 1) cap := by rw [hf6, HF5.out]
      have hat := hv6.at (p := p) (cap := cap) (by rw [hf6', HI.out])
      rw [HI.out] at hat
      have cx5 := hat.1
      have HEND := Lib.hid (end_v S hv6 (by omega) (by rw [HI.out]; omega))
      have hGG := HG.out
      rw [show (x, s) = (x, s ++ []) by rw [List.append_nil]] at hGG
      have hG7 := hGG.scan HPL.out
      have HGE := Lib.hid hG7.ends
      have HMM : Hid (measV R ((x, []) :: t) r ≤ M) := Lib.hid (by
        have h1 := meas_scan R x s [] t r
        rw [List.append_nil, HM.out] at h1
        omega)
      clear hv6 hf6 hf6' hat hGG hG7 ht5
      go_wp2_with fail
      refine HEND.out.mono ?_
      rintro e w6 ⟨rfl, F6, f7, hv7⟩
      have HV7 := Lib.hid hv7
      clear hv7
      go_wp2
      go_ret
      exact Or.inl ⟨F6, f7, _, _, _, rfl, HV7.out, HGE.out.1, Nat.lt_of_lt_of_le HGE.out.2 HMM.out⟩
end
end Go.Proofs.YtjijjmkeehdooaaGreatDoor
