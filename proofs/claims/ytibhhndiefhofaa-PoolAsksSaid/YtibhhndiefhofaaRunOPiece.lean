/-
  THE CONTRACT OF highsOf OF THE LANDED PACKAGE offs: a row of bits, taken by slices.Chunk, is one piece.
-/
import Derived.RangeFuncNested
import Derived.RangeFuncBound
import Derived.RangeFuncCalls
import Derived.RangeFuncLeaves
import Derived.RangeFuncBox
import Derived.Shelf.Abstract
import Derived.Shelf.RegionOpen
import Derived.WalkKit
import Derived.OwnWalkIn
import Derived.TacticsInMore
import Derived.LoopNIn
import Derived.LoopIn
import Derived.Maps.AppendAt
import Derived.Test.YtibhhndiefhofaaRunOHigh
import Derived.Test.YtibhhndiefhofaaRunBitB
namespace Go.Proofs.Ytibhhndiefhofaa
open Go.RowKit Go.Shelf

attribute [local go_sem] Oper.semAt_some

/-- the closure's two boxes lie as they lay -/
def BoxesKept (Bs Bn : Nat) (W W' : World) : Prop := W'.heap[Bs]? = W.heap[Bs]? ∧ W'.heap[Bn]? = W.heap[Bn]?
theorem BoxesKept.trans {Bs Bn : Nat} {A B C : World} (h : BoxesKept Bs Bn A B) (k : BoxesKept Bs Bn B C) : BoxesKept Bs Bn A C := ⟨k.1.trans h.1, k.2.trans h.2⟩

set_option maxRecDepth 100000 in
set_option maxHeartbeats 2000000 in
/-- slices.Chunk's closure, over a row that is no longer than one piece: it is handed on whole, once. -/
theorem chunk1_in (n : Nat) (hn : 1 ≤ n) (l Bs Bn b len cap : Nat) (h0l : 1 ≤ len) (hl : len ≤ 4194304) (hcap : len ≤ cap) (J Jx : List Unit → World → Prop)
    (hY : ∀ pre x W, J pre W → pre.length < 1 → YieldAt Fence.wide (n - 1) Try.prog l #[.slice (some ⟨b, 0, none⟩) len len] W fun e W' =>
      (e = .returned (.bool true) ∧ J (pre ++ [x]) W' ∧ BoxesKept Bs Bn W W') ∨ (e = .returned (.bool false) ∧ Jx (pre ++ [x]) W'))
    (B' : Nat) (hJd : AbidesFrom B' J)
    (W : World) (hBs : W.cell? ⟨Bs, 0, none⟩ = some (.slice (some ⟨b, 0, none⟩) len cap)) (hBn : W.cell? ⟨Bn, 0, none⟩ = some (.int .i64 4194304)) (h0 : J [] W) :
    CallsIn Fence.wide n Try.prog 59 #[.func (.yield l) #[] #[], .pointer (some ⟨Bs, 0, none⟩), .pointer (some ⟨Bn, 0, none⟩)] W fun e W' => (∃ v, e = .returned v) ∧
      ((∃ ys, ys = [()] ∧ J ys W') ∨ (∃ pre, pre = [()] ∧ Jx pre W')) := by
  refine callsIn_of_wp Try.func59 rfl trivial ?_ rfl
  simp only [Try.ntmps59, List.size_toArray, List.length_cons, List.length_nil, Nat.reduceAdd, Nat.reduceSub, Array.replicate_succ, Array.replicate_zero, List.push_toArray, List.append_toArray, List.nil_append, List.cons_append]
  gi_wp2
  gi_loopw [4] (fun i wr => (i = .int .i64 0 ∧ J [] wr ∧ wr = W) ∨ (i = .int .i64 4194304 ∧ J [()] wr ∧ wr.cell? ⟨Bs, 0, none⟩ = some (.slice (some ⟨b, 0, none⟩) len cap))) (fun i _ => 4194304 - (intOf i).toNat)
  case atStart => exact Or.inl ⟨rfl, h0, rfl⟩
  case round =>
    rcases hrel with ⟨rfl, hJ, rfl⟩ | ⟨rfl, hJ, c1⟩
    · have emin : min (4194304 : Int) (len : Int) = (len : Int) := by omega
      have hJ2 : J [] wr.drew := hJd [] wr wr.drew none hJ ⟨rfl, rfl, rfl, Nat.le_refl _, fun _ _ _ => rfl⟩ (by simp)
      have c1 : wr.drew.cell? ⟨Bs, 0, none⟩ = some (.slice (some ⟨b, 0, none⟩) len cap) := hBs
      have c2 : wr.drew.cell? ⟨Bn, 0, none⟩ = some (.int .i64 4194304) := hBn
      obtain ⟨fn, tmps, assign, body, hy, hR⟩ := hY [] () wr.drew hJ2 (by simp)
      gi_wp2
      gi_region
      clear emin
      generalize wr.drew = W1 at *
      gi_wp2
      refine hR.mono ?_
      rintro e W3 (⟨rfl, hJ3, hk3⟩ | ⟨rfl, hJx3⟩)
      · have c3 := (cell_same hk3.2 0).trans c2
        have c4 := (cell_same hk3.1 0).trans c1
        gi_wp2
        go_roundw
        case rel => exact Or.inr ⟨by go_num, hJ3, c4⟩
        case measure => simp [intOf]
      · gi_wp2
        refine bodyPost_ret (results_none rfl _ _ _) rfl ?_
        exact ⟨⟨_, rfl⟩, .inr ⟨_, rfl, hJx3⟩⟩
    · gi_wp2
      go_end0
      exact ⟨⟨_, rfl⟩, .inl ⟨_, rfl, hJ⟩⟩

theorem chunk_stops (n : Nat) (hn : 1 ≤ n) (Bs Bn b len cap : Nat) (h0l : 1 ≤ len) (hl : len ≤ 4194304) (hcap : len ≤ cap) (w : World) (hbs : Bs < w.heap.size) (hbn : Bn < w.heap.size)
    (hBs : w.cell? ⟨Bs, 0, none⟩ = some (.slice (some ⟨b, 0, none⟩) len cap)) (hBn : w.cell? ⟨Bn, 0, none⟩ = some (.int .i64 4194304)) :
    SeqStopsK Fence.wide n Try.prog 59 #[.pointer (some ⟨Bs, 0, none⟩), .pointer (some ⟨Bn, 0, none⟩)] (fun _ : Unit => #[Value.slice (some ⟨b, 0, none⟩) len len]) (BoxesKept Bs Bn) (fun ys => ys = [()]) (fun pre => pre = [()]) 1 w :=
  fun l J Jx W hW hJ _ hY h0 =>
    chunk1_in n hn l Bs Bn b len cap h0l hl hcap J Jx hY _ hJ W ((hW.cell (p := ⟨Bs, 0, none⟩) hbs).trans hBs) ((hW.cell (p := ⟨Bn, 0, none⟩) hbn).trans hBn) h0
set_option maxHeartbeats 1000000 in
theorem chunk_any (a : Option Addr) (len cap : Nat) (w : World) : Calls Try.prog 49 #[.slice a len cap, .int .i64 4194304] w fun e w' =>
    e = .returned (.func (.func 59) #[] #[.pointer (some ⟨w.heap.size, 0, none⟩), .pointer (some ⟨w.heap.size + 1, 0, none⟩)]) ∧ w' = (w.alloc (.cells #[.slice a len cap] 90)).alloc (.cells #[.int .i64 4194304] 3) := by
  have hbox := World.rowIs_alloc (w.alloc (.cells #[.slice a len cap] 90)) #[.int .i64 4194304] 3 (fun _ => .int .i64 4194304) (by
    intro i hi
    obtain rfl : i = 0 := by have : i < 1 := hi; omega
    rfl)
  have c1 := hbox.cell (i := 0) (by decide)
  go_enter Try.func49, Try.ntmps49
  go_wp2
  go_ret
  exact ⟨rfl, rfl⟩

theorem info_boolO : (Try.prog.info? 4).map (fun i => (i.zero, i.size, i.bytes)) = some (some (.bool false), 1, 1) := by kernel_rfl
theorem make_boolO (n : Nat) (h : n ≤ 4294967296) (w : World) :
    (Instr.makeSlice 90 (.int .i64 (n : Int)) (.int .i64 (n : Int))).run Try.prog w = .ok (.slice (some ⟨w.heap.size, 0, none⟩) n n) (w.alloc (.cells (madeCells #[.bool false] n) 4)) :=
  run_make_row' 90 4 (.bool false) 1 Try.underlying90 info_boolO rfl .i64 .i64 n (by omega) (by omega) w
theorem info_pbits : (Try.prog.info? 94).map (fun i => (i.zero, i.size, i.bytes)) = some (some (.pointer none), 1, 8) := by kernel_rfl
/-- the ones of the first k places lie in block b -/
def MarkTo (w : World) (b W : Nat) (xs : List Int) (k : Nat) : Prop := w.rowIs b 4 (lenH W xs) (fun i => .bool (markTo W xs k i))
theorem MarkTo.on {w : World} {b W : Nat} {xs : List Int} {k : Nat} (h : MarkTo w b W xs k) (p : Nat) (hp : plN W xs k = p) : MarkTo (w.setCell ⟨b, p, none⟩ (.bool true)) b W xs (k + 1) := by
  subst hp
  refine World.rowIs.congr (World.rowIs.set h _ _) fun i _ => ?_
  rw [markTo_succ]
  by_cases e : i = plN W xs k
  · subst e
    rw [if_pos rfl]
    simp
  · rw [if_neg e, beq_eq_false_iff_ne.2 (fun h => e h.symm), Bool.or_false]

set_option maxRecDepth 100000 in
set_option maxHeartbeats 2000000 in
theorem rhighs_any (s : Value) (xs : List Int) (W : Nat) (w : World) (hx : xs.length ≤ 1048576) (hW : W ≤ 23) (hm : mayOffs xs = true) (hlen : lenH W xs ≤ 4194304) (hs : SymOK w s xs) :
    Calls Try.prog 37 #[s, .int .i64 W] w fun e w' => ∃ v, e = .returned v ∧ HighAt w.heap.size w' v (highB W xs) ∧ Below w.heap.size w w' := by
  have CL := Lib.hid (rolast_any s xs w hx hs)
  have hla : lastI xs = (lastN xs : Int) := by
    by_cases h0 : xs.length = 0
    · have : xs = [] := List.eq_nil_of_length_eq_zero h0
      subst this
      rfl
    · exact last_int hm h0
  rw [hla] at CL
  have hll := last_le hm
  obtain ⟨a, cap, rfl⟩ : ∃ a cap, s = .slice a xs.length cap := by
    obtain ⟨_, a, cap, h, _⟩ := hs
    exact ⟨a, cap, h⟩
  have HC := Lib.hid (fun k hk => SymOK.cell hs k hk)
  have HPL := Lib.hid (fun k hk => pl_len (W := W) hm k hk)
  have HMM := Lib.hid (may_mem hm)
  have hlh : lenH W xs = xs.length + lastN xs / 2 ^ W + 1 := rfl
  obtain ⟨up, hup⟩ : ∃ up, lastN xs / 2 ^ W = up := ⟨_, rfl⟩
  have e1 : (lastN xs : Int) / 2 ^ W = (up : Int) := by rw [← hup, Int.natCast_ediv, Int.natCast_pow]; rfl
  rw [hup] at hlh
  obtain ⟨m, hmm⟩ : ∃ m, lenH W xs = m := ⟨_, rfl⟩
  rw [hmm] at hlen hlh
  have HLM := Lib.hid hmm
  have e2 : (xs.length : Int) + (up : Int) + 1 = (m : Int) := by omega
  have hm1 : 1 ≤ m := by omega
  have hmk := make_boolO m (by omega) w
  have HM0 : Hid (MarkTo (w.alloc (.cells (madeCells #[.bool false] m) 4)) w.heap.size W xs 0) := Lib.hid (by
    unfold MarkTo
    rw [hmm]
    exact World.rowIs.congr (World.rowIs_made w _ _ _) fun i _ => by rw [markTo_zero])
  have HB0 := Lib.hid ((Below.refl w.heap.size w).alloc (Nat.le_refl _) (.cells (madeCells #[.bool false] m) 4))
  obtain ⟨i0, hi, hz0, hz1, hz2⟩ := info_parts info_pbits
  clear hs hm hla hup hlh hmm
  refine (callsIn_wide (n := 10)).1 ?_
  refine callsIn_of_wp_marks Try.func37 rfl trivial ?_ rfl
  simp only [Try.ntmps37, List.size_toArray, List.length_cons, List.length_nil, Nat.reduceAdd, Nat.reduceSub, Array.replicate_succ, Array.replicate_zero, List.push_toArray, List.append_toArray, List.nil_append, List.cons_append]
  gi_wp2_with (refine ⟨trivial, ?_⟩; gi_at_call 46; refine (callsIn_wide.2 CL.out).mono ?_; rintro e w' ⟨rfl, rfl⟩)
  clear hmk e1 e2
  gi_loopw [23] (fun i wr => ∃ k : Nat, k ≤ xs.length ∧ i = .int .i64 k ∧ Below w.heap.size w wr ∧ MarkTo wr w.heap.size W xs k) (fun i _ => xs.length - (intOf i).toNat)
  case atStart => exact ⟨0, Nat.zero_le _, rfl, HB0.out, HM0.out⟩
  case round =>
    obtain ⟨k, hk, rfl, hbe, hma⟩ := hrel
    have HBE := Lib.hid hbe
    have HMA := Lib.hid hma
    by_cases hlt : k < xs.length
    · obtain ⟨x, hxx⟩ : ∃ x, xs.getD k 0 = x := ⟨_, rfl⟩
      obtain ⟨g, off, rfl, hg, hc⟩ := HC.out k hlt
      have hcell : wr.cell? ⟨g, off + k, none⟩ = some (.int .i64 x) := by rw [hbe.cell (p := ⟨g, off + k, none⟩) hg, ← hxx]; exact hc k hlt
      have hxm := HMM.out x (by rw [← hxx]; simp only [List.getD, List.getElem?_eq_getElem hlt, Option.getD_some]; exact List.getElem_mem hlt)
      obtain ⟨y, rfl⟩ : ∃ y : Nat, x = (y : Int) := ⟨x.toNat, by omega⟩
      obtain ⟨u, hu⟩ : ∃ u, y / 2 ^ W = u := ⟨_, rfl⟩
      have e3 : (y : Int) / 2 ^ W = (u : Int) := by rw [← hu, Int.natCast_ediv, Int.natCast_pow]; rfl
      have hub : u ≤ y := by rw [← hu]; exact Nat.div_le_self _ _
      obtain ⟨pl, hpl⟩ : ∃ pl, k + u = pl := ⟨_, rfl⟩
      have hplN : plN W xs k = pl := by unfold plN upN; rw [hxx, Int.toNat_natCast, hu, hpl]
      have hplm := HPL.out k hlt
      rw [hplN, HLM.out] at hplm
      have e4 : (k : Int) + (u : Int) = (pl : Int) := by omega
      have hst := World.rowIs.cell hma (i := pl) (by rw [HLM.out]; exact hplm)
      have hfr := World.rowIs.frozen hma pl
      have HON := Lib.hid (hma.on pl hplN)
      clear hma hbe hc hxx hu hpl hplN
      gi_wp2
      go_roundw
      case rel => exact ⟨k + 1, by omega, by go_num, HBE.out.setCell (Nat.le_refl _) _, HON.out⟩
      case measure => simp [intOf]; omega
    · obtain rfl : k = xs.length := by omega
      clear hbe hma
      gi_wp2_with (refine ⟨trivial, ?_⟩; gi_at_call 49; refine (callsIn_wide.2 (chunk_any _ _ _ _)).mono ?_; rintro e w' ⟨rfl, rfl⟩)
      have HMA2 := Lib.hid (HMA.out.alloc (.cells #[.slice none 0 0] 76) |>.alloc (.cells #[.slice (some ⟨w.heap.size, 0, none⟩) m m] 90) |>.alloc (.cells #[.int .i64 4194304] 3))
      have bO := ((Go.Boxed.new wr 76 (.slice none 0 0)).alloc (.cells #[.slice (some ⟨w.heap.size, 0, none⟩) m m] 90)).alloc (.cells #[.int .i64 4194304] 3)
      have bS := (Go.Boxed.new (wr.alloc (.cells #[.slice none 0 0] 76)) 90 (.slice (some ⟨w.heap.size, 0, none⟩) m m)).alloc (.cells #[.int .i64 4194304] 3)
      have bN := Go.Boxed.new ((wr.alloc (.cells #[.slice none 0 0] 76)).alloc (.cells #[.slice (some ⟨w.heap.size, 0, none⟩) m m] 90)) 3 (.int .i64 4194304)
      have hbel := ((HBE.out.alloc HBE.out.size (.cells #[.slice none 0 0] 76)).alloc (by have := HBE.out.size; simp; omega) (.cells #[.slice (some ⟨w.heap.size, 0, none⟩) m m] 90)).alloc (by have := HBE.out.size; simp; omega) (.cells #[.int .i64 4194304] 3)
      have hsz : (((wr.alloc (.cells #[.slice none 0 0] 76)).alloc (.cells #[.slice (some ⟨w.heap.size, 0, none⟩) m m] 90)).alloc (.cells #[.int .i64 4194304] 3)).heap.size = wr.heap.size + 3 := by simp
      obtain ⟨V, hV⟩ : ∃ V, ((wr.alloc (.cells #[.slice none 0 0] 76)).alloc (.cells #[.slice (some ⟨w.heap.size, 0, none⟩) m m] 90)).alloc (.cells #[.int .i64 4194304] 3) = V := ⟨_, rfl⟩
      rw [hV] at HMA2 bO bS bN hbel hsz ⊢
      simp only [World.size_alloc] at bS bN
      have hbw := hbel.size
      have hwq := HBE.out.size
      clear HMA HBE HM0 HB0 HMM HPL HC CL hV
      generalize wr.heap.size = q at *
      refine wpIn_rangeFunc_ownG rfl (by omega) (gf := 59) (lb := #[.pointer (some ⟨q + 1, 0, none⟩), .pointer (some ⟨q + 1 + 1, 0, none⟩)]) rfl trivial (enters_of Try.func59 (by kernel_rfl) rfl)
        (chunk_stops _ (by omega) (q + 1) (q + 1 + 1) w.heap.size m m hm1 hlen (Nat.le_refl _) V (by omega) (by omega) bS.cell bN.cell) BoxesKept.trans ?kb (Below.refl _ _) (fun _ => rfl)
        (fun pre W' => (∃ v, Go.Boxed W' q 76 v ∧ q + 3 ≤ W'.heap.size ∧ ((pre = [] ∧ v = .slice none 0 0 ∧ MarkTo W' w.heap.size W xs xs.length) ∨ (pre = [()] ∧ HighAt w.heap.size W' v (highB W xs)))) ∧ Below w.heap.size w W')
        (fun _ _ _ => False) ?own (fun _ _ _ _ _ hs _ _ => hs) ⟨⟨_, bO, by omega, Or.inl ⟨rfl, rfl, HMA2.out⟩⟩, hbel⟩ ?a1 ?assign ?body ?done ?stop
      case kb =>
        intro W' l o o' hl ho _ _
        exact ⟨World.putObj_heap_other (by omega), World.putObj_heap_other (by omega)⟩
      case own =>
        refine OwnFrom.and (fun pre A B row hs hg hr => ?_) (ownFrom_below (Nat.le_refl _) (by omega))
        obtain ⟨v, hb, hq3, hc⟩ := hs
        have hn : NoCells A row := fun r e => (hr r e).2
        refine ⟨v, hb.kept hg (fun e' => ?_), Nat.le_trans hq3 hg.size, ?_⟩
        · obtain ⟨o, ho, hc⟩ := hn q e'.symm
          rw [show A.heap[q]? = _ from hb] at ho; cases ho; cases hc
        · rcases hc with ⟨h1, h2, h3⟩ | ⟨h1, h2⟩
          · exact Or.inl ⟨h1, h2, rowIs_own hg hn h3⟩
          · exact Or.inr ⟨h1, h2.own hg hn⟩
      case assign =>
        intro l x W' K hK
        gi_wp2
        exact hK
      case body =>
        rintro l pre x W1 ⟨⟨v, hb, hq3, hc⟩, hB⟩ hlt
        rcases hc with ⟨rfl, rfl, hma⟩ | ⟨rfl, _⟩
        · have hrow : RowOK W1 (.slice (some ⟨w.heap.size, 0, none⟩) m m) (highB W xs) := by
            refine ⟨Or.inr ⟨w.heap.size, 0, m, by rw [highB_len, HLM.out], World.rowIs.lt hma, fun i hi2 => ?_⟩, _, m, by rw [highB_len, HLM.out], by rw [highB_len, HLM.out]; omega⟩
            rw [highB_len] at hi2
            rw [Nat.zero_add, World.rowIs.cell hma hi2, highB_at W xs i hi2]
          have C := Lib.hid (rnew_any _ (highB W xs) W1 (by rw [highB_len, HLM.out]; exact hlen) hrow)
          have hbl := hb.lt
          have hBs := hB.size
          clear hma hrow
          gi_wp2_with (first
            | (refine ⟨trivial, ?_⟩; gi_at_call 50; refine (CallsIn.inRound l (callsIn_wide.2 C.out)).mono ?_; rintro o W2 ⟨bv, rfl, hkp, hbz⟩; obtain ⟨pa, rfl⟩ := kept_ptr _ _ _ _ hkp; have hb2 : Go.Boxed W2 q 76 (.slice none 0 0) := (hbz.block q hbl).trans hb; have hcb := hb2.cell; have hbzs := hbz.size; have hrw := World.ownsRow_nil W2 w.heap.size 94 1)
            | (gi_at_builtin; refine wpListIn_append_own _ rfl _ _ 76 rfl w.heap.size 94 i0 (.pointer none) 1 8 Try.underlying76 hi hz0 hz1 hz2 rfl (by decide) _ _ _ rfl (hrw.alloc _) ⟨W2.heap.size, 0, none⟩ 1 1 [.pointer (some pa)] rfl rfl (cell_one_new _ _ _) (by simp [Value.oneCell']) (by unfold maxLen; omega) (by omega) (by simp; omega) ?_; intro v' w1 hown' hgrow _; obtain ⟨g', cap', rfl⟩ := ownsRow_succ hown'; have hap := hb2.appended (by decide) hrw (by omega) (by omega) hown' hgrow; obtain ⟨hv1, hv2, hr2, hk2, hbb2⟩ := hap; have hc1 := hv1.cell; have hf1 := hv1.frozen))
          have hq2 : ∀ k, k < W2.heap.size → k ≠ q → (w1.setCell ⟨q, 0, none⟩ (.slice (some ⟨g', 0, none⟩) 1 cap')).heap[k]? = W2.heap[k]? := fun k h1 h2 => by
            rw [Below.heap_setCell _ _ _ _ (show k ≠ q by omega)]
            exact (hgrow.block k (by simp; omega) (fun e => absurd (show some k = none from e) (Option.some_ne_none k))).trans (Below.heap_alloc W2 _ k h1)
          have hq1 : ∀ k, k < W1.heap.size → k ≠ q → (w1.setCell ⟨q, 0, none⟩ (.slice (some ⟨g', 0, none⟩) 1 cap')).heap[k]? = W1.heap[k]? := fun k h1 h2 => (hq2 k (by omega) h2).trans (hbz.block k h1)
          have hko : KeepsOthers W1 W2 := ⟨hbz.size, fun k o hk _ => (hbz.block k (heap_lt hk)).trans hk⟩
          refine ⟨(hko.trans hk2).from _, ⟨hq1 _ (by omega) (by omega), hq1 _ (by omega) (by omega)⟩, ⟨_, hv2, Nat.le_trans (Nat.le_trans hq3 hbzs) hk2.size, Or.inr ⟨rfl, ?_⟩⟩, (hB.trans (hbz.mono (by omega))).trans hbb2⟩
          have hf := hr2.2
          rcases hf with ⟨h, _⟩ | ⟨g, cp, cur, e, hbg, hgb, _⟩
          · cases h
          have hcl := hr2.cells (g := g) (by rw [e]; rfl) 0 (.pointer (some pa)) rfl
          refine ⟨g, cp, pa, cur, _, _, e, hbg, hgb, hcl, kept_mono (kept_keep _ _ _ _ _ hkp fun k h1 h2 => hq2 k h2 (by omega)) (by omega)⟩
        · simp at hlt
      case done =>
        rintro D ys W' hD rfl ⟨⟨v, hb, hq3, hc⟩, hB⟩ hK
        rcases hc with ⟨h, _⟩ | ⟨_, hh⟩
        · cases h
        obtain ⟨g, cp, pa, cur, t, fr, rfl, r⟩ := hh
        have hcb := hb.cell
        gi_wp2
        refine ⟨by simp, .inl ⟨_, _, rfl, run_takeDeferred hK, ?_⟩⟩
        exact ⟨_, results_tmp rfl _ _ _, _, rfl, HighAt.own (grownBy_putObj' _ D (.deferred none)) (fun r e => by cases e; exact ⟨_, hK, rfl⟩) ⟨g, cp, pa, cur, t, fr, rfl, r⟩, hB.trans (belowK_b (w := w) (Nat.le_refl _) W' D _ _ (by omega) hK rfl rfl)⟩
      case stop =>
        rintro D c pre W' _ _ h _
        exact h.elim
end Go.Proofs.Ytibhhndiefhofaa
