/-
  THE LANDED PACKAGE wave: split, walked.
-/
import Derived.Test.YtnjlckgmoodkiaaRunWMade
namespace Go.Proofs.Ytnjlckgmoodkiaa
open Go.RowKit

theorem ownI_mono {w : World} {base base' : Nat} {v : Value} {xs : List Int} (h : OwnI w base v xs) (hb : base' ≤ base) : OwnI w base' v xs := by
  refine ⟨h.1, ?_⟩
  rcases h.2 with h0 | ⟨g, c, cur, h', hbs, rest⟩
  · exact .inl h0
  · exact .inr ⟨g, c, cur, h', by omega, rest⟩
/-- what split gives: a level of the row's bits, in blocks from lb to below lt, and the row parted -/
def SplitPost (l : List Int) (b : Nat) (w : World) (e : Ending) (w' : World) : Prop :=
  ∃ (a : Addr) (lb lt : Nat) (s : Value), e = .returned (.tuple #[.agg #[.pointer (some a)], s]) ∧ w.heap.size ≤ lb ∧ lt ≤ w'.heap.size ∧ KeptIn lb lt w' (.pointer (some a)) (bitsOf l b) ∧ OwnI w' w.heap.size s (partB l b) ∧ Below w.heap.size w w'
section
variable {z b : Nat} {l : List Int} {os : Value} {w w' : World}
theorem Splits.rowOK (h : Splits z l b l.length os w w') : RowOK w' (.slice (some ⟨z + 1, 0, none⟩) l.length l.length) (bitsOf l b) := by
  refine ⟨Or.inr ⟨z + 1, 0, l.length, by rw [bitsOf_length], by have := h.size; omega, fun i hi => ?_⟩, _, l.length, by rw [bitsOf_length], by rw [bitsOf_length]; exact Nat.le_refl _⟩
  rw [bitsOf_length] at hi
  rw [Nat.zero_add, h.bits.cell hi, if_pos hi]
  simp [bitsOf, List.getD, List.getElem?_eq_getElem hi]
/-- all is put together -/
theorem Splits.done (h : Splits z l b l.length os w w') {w2 w3 : World} {a : Addr} (hk : Kept w'.heap.size w2 (.pointer (some a)) (bitsOf l b)) (hb : Below w'.heap.size w' w2) (hg : w2.grownBy w3 (some (z + 2))) (v : Value)
    (s : Value) (ho : OwnI w3 (z + 2) s (partB l b)) : SplitPost l b w (.returned (.tuple #[.agg #[.pointer (some a)], s])) (w3.setCell ⟨z, 0, none⟩ v) := by
  have hsz := h.size
  have hw := h.zw
  have hz2 := hb.size
  have hz3 := hg.size
  have hblk : ∀ j, w'.heap.size ≤ j → j < w2.heap.size → (w3.setCell ⟨z, 0, none⟩ v).heap[j]? = w2.heap[j]? := fun j h1 h2 =>
    (Below.heap_setCell _ _ _ _ (show j ≠ z by omega)).trans (hg.block j h2 (fun e => by injection e with e; omega))
  have ho2 : OwnI (w3.setCell ⟨z, 0, none⟩ v) (z + 2) s (partB l b) := ownI_same ho fun j h1 _ => Below.heap_setCell _ _ _ _ (show j ≠ z by omega)
  refine ⟨a, w'.heap.size, w2.heap.size, s, rfl, by omega, by rw [Deep.nblk_setCell]; omega, ⟨w2, Nat.le_refl _, hk, hblk⟩, ownI_mono ho2 (by omega), ?_⟩
  refine ((h.low.trans (hb.mono (by omega))).grown hg (by omega) fun j hj => ?_).setCell (show w.heap.size ≤ z by omega) v
  injection hj with hj
  omega
end
set_option maxHeartbeats 1000000 in
set_option maxRecDepth 100000 in
theorem rsplitSome_any (g off cap : Nat) (l : List Int) (b : Nat) (w : World) (hl : l.length ≤ 1048576) (hx : ∀ x ∈ l, 0 ≤ x ∧ x ≤ 1048576) (hb : b ≤ 63) (hg : g < w.heap.size)
    (hc : ∀ i, i < l.length → w.cell? ⟨g, off + i, none⟩ = some (.int .i64 (l.getD i 0))) :
    Calls Try.prog 25 #[.slice (some ⟨g, off, none⟩) l.length cap, .int .i64 b] w (SplitPost l b w) := by
  obtain ⟨i0, hi, hz0, hz1, hz2⟩ := info_parts info_int
  have HC := Lib.hid hc
  have HX := Lib.hid hx
  have HS0 := Lib.hid (splits_start l b w hl)
  have hm1 := make_boolsW l.length hl (w.alloc (.cells #[.pointer none] 49))
  have hm2 := make_symsW l.length hl ((w.alloc (.cells #[.pointer none] 49)).alloc (.cells (madeCells #[.bool false] l.length) 4))
  obtain ⟨z, hz⟩ : ∃ z, w.heap.size = z := ⟨_, rfl⟩
  clear hc hx
  go_enter Try.func25, Try.ntmps25
  go_wp2
  rw [hz] at HS0
  go_loopw [7, 8, 21] (fun bv ov iv wr => ∃ k : Nat, k ≤ l.length ∧ iv = .int .i64 k ∧ bv = .slice (some ⟨z + 2, 0, none⟩) ((l.take k).filter (fun x => bitW x b == false)).length l.length ∧ Splits z l b k ov w wr) (fun _ _ iv _ => l.length - (intOf iv).toNat)
  case atStart => exact ⟨0, Nat.zero_le _, rfl, rfl, HS0.out⟩
  case round =>
    clear hm1 hm2
    obtain ⟨k, hk, rfl, rfl, hs⟩ := hrel
    have HS := Lib.hid hs
    have hsz := hs.size
    clear hs
    obtain ⟨zs, hzs⟩ : ∃ zs, (l.take k).filter (fun x => bitW x b == false) = zs := ⟨_, rfl⟩
    obtain ⟨ys, hys⟩ : ∃ ys, (l.take k).filter (fun x => bitW x b == true) = ys := ⟨_, rfl⟩
    have hzl : zs.length ≤ k := by rw [← hzs]; exact Nat.le_trans (List.length_filter_le _ _) (by rw [List.length_take]; omega)
    have hyl : ys.length ≤ k := by rw [← hys]; exact Nat.le_trans (List.length_filter_le _ _) (by rw [List.length_take]; omega)
    have HZS := Lib.hid hzs
    have HYS := Lib.hid hys
    rw [hzs]
    have hzo := HS.out.zeros
    have hyo := HS.out.ones
    rw [hzs] at hzo
    rw [hys] at hyo
    have HZO := Lib.hid hzo
    have HYO := Lib.hid hyo
    clear hzs hys hzo hyo
    by_cases hlt : k < l.length
    · obtain ⟨x, hxx⟩ : ∃ x, l.getD k 0 = x := ⟨_, rfl⟩
      have hcell : wr.cell? ⟨g, off + k, none⟩ = some (.int .i64 x) := by rw [HS.out.low.cell (p := ⟨g, off + k, none⟩) hg, ← hxx]; exact HC.out k hlt
      have hxb : 0 ≤ x ∧ x ≤ 1048576 := HX.out x (by rw [← hxx]; simp [List.getD, List.getElem?_eq_getElem hlt])
      have hfz := HS.out.bits.frozen k
      have hcb := HS.out.bits.cell hlt
      have CI := Lib.hid (risset_any x b wr hxb.1 hxb.2 hb)
      obtain ⟨bit, hbit⟩ : ∃ bit, bitW x b = bit := ⟨_, rfl⟩
      rw [hbit] at CI
      have HPUT := Lib.hid (HS.out.put hxx hbit)
      have HC2 : Hid ((wr.setCell ⟨z + 1, k, none⟩ (.bool bit)).cell? ⟨z + 1, k, none⟩ = some (.bool bit)) := Lib.hid (by rw [HPUT.out.cell hlt, if_pos (Nat.lt_succ_self _), hxx, hbit])
      have HXX := Lib.hid hxx
      have HBIT := Lib.hid hbit
      have hsame : ∀ v, ∀ j, j ≠ z + 1 → (wr.setCell ⟨z + 1, k, none⟩ v).heap[j]? = wr.heap[j]? := fun v j hj => Below.heap_setCell _ _ _ _ hj
      have HSAME := Lib.hid hsame
      have HNEW := Lib.hid (fun v => (by have h := cell_one_new (wr.setCell ⟨z + 1, k, none⟩ v) (.int .i64 x) 3; rw [Deep.nblk_setCell] at h; exact h : ∀ (j : Nat) (u : Value), [Value.int .i64 x][j]? = some u → ((wr.setCell ⟨z + 1, k, none⟩ v).alloc (.cells #[.int .i64 x] 3)).cell? ((⟨wr.heap.size, 0, none⟩ : Addr).add j) = some u))
      clear hxx hbit hsame HPUT
      cases bit
      · have hc2 := HC2.out
        have hown0 : (wr.setCell ⟨z + 1, k, none⟩ (.bool false)).ownsRow (z + 2) 3 1 (.slice (some ⟨z + 2, 0, none⟩) zs.length l.length) zs.length (zs.map ival) := own_same HZO.out (HSAME.out _ _ (by omega))
        go_wp2_with fail
        refine CI.out.mono ?_
        rintro o w1 ⟨rfl, rfl⟩
        go_wp2_with (at_builtin; refine wpList_append_own_spare _ rfl _ _ 22 rfl (z + 2) 3 i0 1 Try.underlying22 hi hz1 (z + 2) zs.length l.length _ rfl (hown0.alloc _) _ 1 1 [.int .i64 x] rfl rfl (HNEW.out _) (by intro u hu; simp at hu; subst hu; rfl) (by omega) ?_; intro w2 hown3 hgrow3)
        go_roundw
        case rel =>
          refine ⟨k + 1, by omega, by go_num, ?_, HS.out.zero hlt HXX.out HBIT.out _ _ w2 hgrow3 (by rw [HZS.out]; exact hown3)⟩
          rw [take_filter_next l _ k x hlt HXX.out, HBIT.out, if_pos (by decide), HZS.out, List.length_append]
          rfl
        case measure => simp [intOf]; omega
      · have hc2 := HC2.out
        have hown0 : OwnI (wr.setCell ⟨z + 1, k, none⟩ (.bool true)) (z + 3) u8 ys := ownI_same HYO.out fun j h1 _ => HSAME.out _ _ (by omega)
        obtain ⟨oa, oc, rfl⟩ := ownI_slice hown0
        go_wp2_with fail
        refine CI.out.mono ?_
        rintro o w1 ⟨rfl, rfl⟩
        go_wp2_with (at_builtin; refine wpList_append_own _ rfl _ _ 22 rfl (z + 3) 3 i0 (.int .i64 0) 1 8 Try.underlying22 hi hz0 hz1 hz2 rfl (by decide) _ _ _ rfl (World.ownsRow.alloc hown0 _) _ 1 1 [.int .i64 x] rfl rfl (HNEW.out _) (by intro u hu; simp at hu; subst hu; rfl) (by unfold maxLen; omega) (by omega) (by simp; omega) ?_; intro v' w2 hown3 hgrow3 _; have hown4 : OwnI w2 (z + 3) v' (ys ++ [(x : Int)]) := ownI_next _ hown3)
        go_roundw
        case rel =>
          refine ⟨k + 1, by omega, by go_num, ?_, HS.out.one hlt HXX.out HBIT.out _ _ _ w2 hgrow3 (by rw [HYS.out]; exact hown4)⟩
          rw [take_filter_next l _ k x hlt HXX.out, HBIT.out, if_neg (by decide), HZS.out, List.append_nil]
        case measure => simp [intOf]; omega
    · have hke : k = l.length := by omega
      subst hke
      have CN := Lib.hid (rnew_any _ (bitsOf l b) wr (by rw [bitsOf_length]; omega) HS.out.rowOK)
      go_wp2_with fail
      refine CN.out.mono ?_
      rintro o w2 ⟨bv, rfl, hk2, hb2⟩
      obtain ⟨a, rfl⟩ := kept_ptr _ _ _ _ hk2
      have HD := Lib.hid (fun (w3 : World) (hg : w2.grownBy w3 (some (z + 2))) v s ho => HS.out.done hk2 hb2 (w3 := w3) hg v s ho)
      have hres := HS.out.res.of_block (hb2.block z (by omega))
      have hzo2 := own_same HZO.out (hb2.block (z + 2) (by omega))
      have hyo2 : OwnI w2 (z + 3) u8 ys := ownI_same HYO.out fun j _ h => hb2.block j h
      have hsz2 := hb2.size
      have hpart : partB l b = zs ++ ys := by rw [← HZS.out, ← HYS.out, List.take_length]; rfl
      have hlen : zs.length + ys.length ≤ l.length := by rw [← partB_length l b, hpart, List.length_append]; exact Nat.le_refl _
      have HPART := Lib.hid hpart
      have hfr := hres.frozen 0
      have hce := hres.cell (i := 0) Nat.one_pos
      clear hk2 hpart CN
      rcases ownI_shape hyo2 with ⟨rfl, rfl⟩ | ⟨q, c, rfl, hyc, hq, hqs, hcells⟩
      · have HFIN := Lib.hid (fun v => (hres.set 0 v).cell (i := 0) Nat.one_pos)
        have hfin := HFIN.out (.pointer (some a))
        rw [if_pos rfl] at hfin
        have hx := HD.out w2 ⟨rfl, rfl, rfl, Nat.le_refl _, fun _ _ _ => rfl⟩ (.pointer (some a)) (.slice (some ⟨z + 2, 0, none⟩) zs.length l.length) (by rw [HPART.out, List.append_nil]; exact hzo2)
        have HX2 := Lib.hid hx
        clear hx hres
        go_wp2_with (at_builtin; refine wpList_append_own_none rfl _ _ 22 rfl (z + 2) 3 i0 1 Try.underlying22 hi _ _ _ rfl hzo2 rfl ?_)
        (try simp only [Exit.inBlock, Exit.then])
        refine bodyPost_ret (by simp [results, Try.results25, go_sem, hfin]; try rfl) rfl ?_
        exact HX2.out
      · have hsrc : ∀ (j : Nat) (u : Value), (ys.map ival)[j]? = some u → w2.cell? ((⟨q, 0, none⟩ : Addr).add j) = some u := by
          intro j u hu
          rw [List.getElem?_map] at hu
          cases hy : ys[j]? with
          | none => rw [hy] at hu; cases hu
          | some y =>
            rw [hy] at hu
            injection hu with hu
            have hj : j < ys.length := (List.getElem?_eq_some_iff.1 hy).1
            have e : (⟨q, 0, none⟩ : Addr).add j = ⟨q, j, none⟩ := by unfold Addr.add; split <;> simp_all
            rw [e, hcells j hj, ← hu]
            simp [List.getD, hy, ival]
        have HSRC := Lib.hid hsrc
        have HRES := Lib.hid hres
        clear hcells hsrc hres
        go_wp2_with (at_builtin; refine wpList_append_own_spare _ rfl _ _ 22 rfl (z + 2) 3 i0 1 Try.underlying22 hi hz1 (z + 2) zs.length l.length _ rfl hzo2 _ ys.length c (ys.map ival) rfl (by simp) HSRC.out (by intro u hu; simp at hu; obtain ⟨y, _, rfl⟩ := hu; rfl) (by omega) ?_; intro w3 hown3 hgrow3; have hr3 := HRES.out.of_block (hgrow3.block z (by omega) (fun e => by injection e with e; omega)); have hfr3 := hr3.frozen 0; have hce3 := hr3.cell (i := 0) Nat.one_pos; have hfin := (hr3.set 0 (.pointer (some a))).cell (i := 0) Nat.one_pos; rw [if_pos rfl] at hfin; have HX2 := Lib.hid (HD.out w3 hgrow3 (.pointer (some a)) (.slice (some ⟨z + 2, 0, none⟩) (zs.length + ys.length) l.length) (by rw [HPART.out]; unfold OwnI; rw [List.length_append, List.map_append]; exact hown3)))
        (try simp only [Exit.inBlock, Exit.then])
        refine bodyPost_ret (by simp [results, Try.results25, go_sem, hfin]; try rfl) rfl ?_
        exact HX2.out
set_option maxHeartbeats 1000000 in
set_option maxRecDepth 100000 in
theorem rsplitNone_any (ao : Option Addr) (cap : Nat) (b : Nat) (w : World) :
    Calls Try.prog 25 #[.slice ao 0 cap, .int .i64 b] w (SplitPost [] b w) := by
  obtain ⟨i0, hi, hz0, hz1, hz2⟩ := info_parts info_int
  have HS0 := Lib.hid (splits_start [] b w (Nat.zero_le _))
  have hm1 := make_boolsW 0 (Nat.zero_le _) (w.alloc (.cells #[.pointer none] 49))
  have hm2 := make_symsW 0 (Nat.zero_le _) ((w.alloc (.cells #[.pointer none] 49)).alloc (.cells (madeCells #[.bool false] 0) 4))
  obtain ⟨z, hz⟩ : ∃ z, w.heap.size = z := ⟨_, rfl⟩
  rw [hz] at HS0
  rw [show ((0 : Nat) : Int) = 0 from rfl] at hm1 hm2
  go_enter Try.func25, Try.ntmps25
  go_wp2
  go_loopw [7, 8, 21] (fun bv ov iv wr => iv = .int .i64 0 ∧ ov = .slice none 0 0 ∧ bv = .slice (some ⟨z + 2, 0, none⟩) 0 0 ∧ Splits z [] b 0 (.slice none 0 0) w wr) (fun _ _ iv _ => 0)
  case atStart => exact ⟨rfl, rfl, rfl, HS0.out⟩
  case round =>
    clear hm1 hm2
    obtain ⟨rfl, rfl, rfl, hs⟩ := hrel
    have HS := Lib.hid hs
    have hsz := hs.size
    clear hs
    have hrow : RowOK wr (.slice (some ⟨z + 1, 0, none⟩) 0 0) (bitsOf [] b) := HS.out.rowOK
    have CN := Lib.hid (rnew_any _ (bitsOf [] b) wr (by rw [bitsOf_length]; exact Nat.zero_le _) hrow)
    go_wp2_with fail
    refine CN.out.mono ?_
    rintro o w2 ⟨bv, rfl, hk2, hb2⟩
    obtain ⟨a, rfl⟩ := kept_ptr _ _ _ _ hk2
    have hres := HS.out.res.of_block (hb2.block z (by omega))
    have hzo2 : w2.ownsRow (z + 2) 3 1 (.slice (some ⟨z + 2, 0, none⟩) 0 0) 0 ([].map ival) := own_same HS.out.zeros (hb2.block (z + 2) (by omega))
    have hfr := hres.frozen 0
    have hce := hres.cell (i := 0) Nat.one_pos
    have hfin := (hres.set 0 (.pointer (some a))).cell (i := 0) Nat.one_pos
    rw [if_pos rfl] at hfin
    have HX2 := Lib.hid (HS.out.done hk2 hb2 (w3 := w2) ⟨rfl, rfl, rfl, Nat.le_refl _, fun _ _ _ => rfl⟩ (.pointer (some a)) (.slice (some ⟨z + 2, 0, none⟩) 0 0) hzo2)
    clear hk2 hres CN
    go_wp2_with (at_builtin; refine wpList_append_own_none rfl _ _ 22 rfl (z + 2) 3 i0 1 Try.underlying22 hi _ _ _ rfl hzo2 rfl ?_)
    (try simp only [Exit.inBlock, Exit.then])
    refine bodyPost_ret (by simp [results, Try.results25, go_sem, hfin]; try rfl) rfl ?_
    exact HX2.out
theorem rsplit_any (s : Value) (l : List Int) (b : Nat) (w : World) (hl : l.length ≤ 1048576) (hx : ∀ x ∈ l, 0 ≤ x ∧ x ≤ 1048576) (hb : b ≤ 63) (hs : SymOK w s l) :
    Calls Try.prog 25 #[s, .int .i64 b] w (SplitPost l b w) := by
  rcases hs.1 with ⟨a, cap, rfl, rfl⟩ | ⟨g, off, cap, rfl, hg, hc⟩
  · exact rsplitNone_any a cap b w
  · exact rsplitSome_any g off cap l b w hl hx hb hg hc
end Go.Proofs.Ytnjlckgmoodkiaa
