/-
  LAYER 2: THE CONTRACT OF brackenlaw2.TextBad out of what is asked of package text.
-/
import Derived.Test.YteejkkdimkgmfaaDoorAppBytes
import Derived.Deep.RegionHeld3
import Derived.Deep.DeepCutAuto
namespace Go.Proofs.YteejkkdimkgmfaaDoor
open Go.RowKit

def badL : List (List UInt8) := [[128], [194], [192, 128], [193, 191], [224, 128, 128], [224, 159, 191], [237, 160, 128], [237, 191, 191], [239, 191, 190], [240, 143, 191, 191], [244, 144, 128, 128], [245, 128, 128, 128], [255], [0], [8], [31], [226, 130], [240, 159, 152]]
def goodL : List (List UInt8) := [[9], [127], [194, 128], [223, 191], [224, 160, 128], [237, 159, 191], [238, 128, 128], [239, 191, 189], [240, 144, 128, 128], [244, 143, 191, 191]]
theorem bad_all : (badL.all fun l => !chL l && !chL (l ++ [97])) = true := by kernel_rfl
theorem good_all : (goodL.all fun l => chL l && chL (l ++ [97])) = true := by kernel_rfl
theorem bad_lens : (badL.all fun l => decide (0 < l.length ∧ l.length ≤ 4)) = true := by kernel_rfl
theorem good_lens : (goodL.all fun l => decide (0 < l.length ∧ l.length ≤ 4)) = true := by kernel_rfl

/-! ### rows that are made one behind the other -/
def allocs (w : World) : List (List UInt8) → World
  | [] => w
  | l :: r => allocs (w.alloc (.cells (l.map bval).toArray 5)) r
theorem allocs_below (B : Nat) : ∀ (ls : List (List UInt8)) (w : World), B ≤ w.heap.size → Below B w (allocs w ls)
  | [], w, _ => Below.refl _ _
  | l :: r, w, h => ((Below.refl B w).alloc h _).trans (allocs_below B r _ (by rw [alloc_size]; omega))
theorem allocs_size : ∀ (ls : List (List UInt8)) (w : World), (allocs w ls).heap.size = w.heap.size + ls.length
  | [], w => rfl
  | l :: r, w => by
    show (allocs _ r).heap.size = _
    rw [allocs_size r, alloc_size, List.length_cons]
    omega
theorem allocs_cell : ∀ (ls : List (List UInt8)) (w : World) (i : Nat) (l : List UInt8), ls[i]? = some l → ∀ j, j < l.length → (allocs w ls).cell? ⟨w.heap.size + i, j, none⟩ = some (bval (l.getD j 0))
  | [], _, i, l, h, _, _ => by simp at h
  | a :: r, w, 0, l, h, j, hj => by
    obtain rfl : a = l := by simpa using h
    have hb := allocs_below (w.heap.size + 1) r (w.alloc (.cells (a.map bval).toArray 5)) (by rw [alloc_size]; omega)
    show (allocs _ r).cell? _ = _
    rw [hb.cell (p := ⟨w.heap.size + 0, j, none⟩) (by show w.heap.size + 0 < w.heap.size + 1; omega)]
    have := bytesAt_alloc w (a.map bval).toArray (0, 0) a a.length a.length (by simp) rfl (Nat.le_refl _)
    obtain ⟨_, _, e, _, hh⟩ := this
    rcases hh with rfl | ⟨b, off, e2, _, hc⟩
    · simp at hj
    · injection e with e3 _ _
      rw [← e3] at e2
      injection e2 with e4
      injection e4 with e5 e6 _
      have := hc j hj
      rw [← e5, ← e6, Nat.zero_add] at this
      exact this
  | a :: r, w, i + 1, l, h, j, hj => by
    have := allocs_cell r (w.alloc (.cells (a.map bval).toArray 5)) i l (by simpa using h) j hj
    rw [alloc_size, show w.heap.size + 1 + i = w.heap.size + (i + 1) by omega] at this
    exact this
/-- v is a row of rows of bytes, all below block B -/
def RowsAt (B : Nat) (w : World) (v : Value) (ls : List (List UInt8)) : Prop :=
  ∃ g, v = .slice (some ⟨g, 0, none⟩) ls.length ls.length ∧ g < B ∧ ∀ i l, ls[i]? = some l → ∃ k, k < B ∧ w.cell? ⟨g, i, none⟩ = some (.slice (some ⟨k, 0, none⟩) l.length l.length) ∧ ∀ j, j < l.length → w.cell? ⟨k, j, none⟩ = some (bval (l.getD j 0))
theorem RowsAt.below {B : Nat} {w w' : World} {v : Value} {ls : List (List UInt8)} (h : RowsAt B w v ls) (hb : Below B w w') : RowsAt B w' v ls := by
  obtain ⟨g, e, hg, h⟩ := h
  refine ⟨g, e, hg, fun i l hi => ?_⟩
  obtain ⟨k, hk, h1, h2⟩ := h i l hi
  exact ⟨k, hk, by rw [hb.cell (p := ⟨g, i, none⟩) hg]; exact h1, fun j hj => by rw [hb.cell (p := ⟨k, j, none⟩) hk]; exact h2 j hj⟩
theorem RowsAt.mono {B B' : Nat} {w : World} {v : Value} {ls : List (List UInt8)} (h : RowsAt B w v ls) (hb : B ≤ B') : RowsAt B' w v ls := by
  obtain ⟨g, e, hg, h⟩ := h
  refine ⟨g, e, by omega, fun i l hi => ?_⟩
  obtain ⟨k, hk, h1, h2⟩ := h i l hi
  exact ⟨k, by omega, h1, h2⟩
/-- the row's own cells, where the rows were made from block H on -/
def rowCells (H : Nat) : List (List UInt8) → List Value
  | [] => []
  | l :: r => .slice (some ⟨H, 0, none⟩) l.length l.length :: rowCells (H + 1) r
theorem rowCells_at : ∀ (ls : List (List UInt8)) (H i : Nat) (l : List UInt8), ls[i]? = some l → (rowCells H ls)[i]? = some (.slice (some ⟨H + i, 0, none⟩) l.length l.length)
  | [], _, _, _, h => by simp at h
  | a :: r, H, 0, l, h => by
    obtain rfl : a = l := by simpa using h
    rfl
  | a :: r, H, i + 1, l, h => by
    show (rowCells (H + 1) r)[i]? = _
    rw [rowCells_at r (H + 1) i l (by simpa using h), show H + 1 + i = H + (i + 1) by omega]
def rowsWorld (w : World) (ls : List (List UInt8)) : World := (allocs w ls).alloc (.cells (rowCells w.heap.size ls).toArray 22)
theorem rowsWorld_at (w : World) (ls : List (List UInt8)) : RowsAt (rowsWorld w ls).heap.size (rowsWorld w ls) (.slice (some ⟨w.heap.size + ls.length, 0, none⟩) ls.length ls.length) ls := by
  have hs : (rowsWorld w ls).heap.size = w.heap.size + ls.length + 1 := by unfold rowsWorld; rw [alloc_size, allocs_size]
  have hz := allocs_size ls w
  have hb : Below (w.heap.size + ls.length) (allocs w ls) (rowsWorld w ls) := (Below.refl _ _).alloc (by rw [hz]; omega) _
  refine ⟨_, rfl, by rw [hs]; omega, fun i l hi => ⟨w.heap.size + i, ?_, ?_, fun j hj => ?_⟩⟩
  · have := (List.getElem?_eq_some_iff.1 hi).1
    rw [hs]; omega
  · have e : (rowsWorld w ls).heap[w.heap.size + ls.length]? = some (.cells (rowCells w.heap.size ls).toArray 22 (0, 0)) := by
      unfold rowsWorld
      rw [← hz]
      show ((allocs w ls).heap.push _)[(allocs w ls).heap.size]? = _
      rw [Array.getElem?_push_size]
    unfold World.cell?
    simp only [e]
    rw [List.getElem?_toArray, rowCells_at ls _ i l hi]
    rfl
  · have hlt := (List.getElem?_eq_some_iff.1 hi).1
    rw [hb.cell (p := ⟨w.heap.size + i, j, none⟩) (by show w.heap.size + i < _; omega)]
    exact allocs_cell ls w i l hi j hj
theorem rowsWorld_below (w : World) (ls : List (List UInt8)) : Below w.heap.size w (rowsWorld w ls) := by
  unfold rowsWorld
  exact (allocs_below w.heap.size ls w (Nat.le_refl _)).alloc (by rw [allocs_size]; omega) _

theorem valid_rep (k : Nat) (l : List UInt8) (b : Bool) (h : chL l = b) : validT ⟨(List.replicate k 97 ++ l).toArray⟩ = b := by
  rw [validT_list]
  exact (chL_letters k l).trans h
theorem valid_rep2 (k : Nat) (l : List UInt8) (b : Bool) (h : chL (l ++ [97]) = b) : validT ⟨((List.replicate k 97 ++ l) ++ [97]).toArray⟩ = b := by
  rw [List.append_assoc]
  exact valid_rep k _ b h
theorem replicate_next (k : Nat) : List.replicate k (97 : UInt8) ++ [97] = List.replicate (k + 1) 97 := by
  rw [List.replicate_succ']
theorem row_pick (ls : List (List UInt8)) (p : List UInt8 → Bool) (h : ls.all p = true) (i : Nat) (hi : i < ls.length) : ∃ l, ls[i]? = some l ∧ p l = true :=
  ⟨ls[i], List.getElem?_eq_getElem hi, List.all_eq_true.1 h _ (List.getElem_mem _)⟩

set_option maxHeartbeats 8000000 in
set_option maxRecDepth 100000 in
theorem bad2_any {E : World → Prop} (T : TextSaid E) (which n : Int) (w : World) (hE : E w) :
    Calls Tryd.prog 3 #[.int .i64 which, .int .i64 n] w fun e w' => e = .returned (.bool true) ∧ Below w.heap.size w w' := by
  have HE := Lib.hid hE
  clear hE
  obtain ⟨u, hu⟩ : ∃ u : Nat, IntKind.u64.wrap which = (u : Int) := ⟨(IntKind.u64.wrap which).toNat, by simp [IntKind.wrap, IntKind.bits, IntKind.signed]; omega⟩
  obtain ⟨x, hx⟩ : ∃ x : Nat, IntKind.u64.wrap n = (x : Int) := ⟨(IntKind.u64.wrap n).toNat, by simp [IntKind.wrap, IntKind.bits, IntKind.signed]; omega⟩
  have c18 : IntKind.u64.wrap 18 = 18 := by decide
  have c10 : IntKind.u64.wrap 10 = 10 := by decide
  obtain ⟨i, hi⟩ : ∃ i, u % 18 = i := ⟨_, rfl⟩
  obtain ⟨j, hj⟩ : ∃ j, u % 10 = j := ⟨_, rfl⟩
  obtain ⟨m, hm⟩ : ∃ m, x % 21 = m := ⟨_, rfl⟩
  have li : i < 18 := by omega
  have lj : j < 10 := by omega
  have lm : m < 21 := by omega
  have ti : Int.tmod (u : Int) 18 = (i : Int) := by rw [Int.tmod_eq_emod_of_nonneg (by omega)]; omega
  have tj : Int.tmod (u : Int) 10 = (j : Int) := by rw [Int.tmod_eq_emod_of_nonneg (by omega)]; omega
  have tm : Int.tmod (x : Int) 21 = (m : Int) := by rw [Int.tmod_eq_emod_of_nonneg (by omega)]; omega
  have wi : IntKind.u64.wrap (i : Int) = (i : Int) := by simp [IntKind.wrap, IntKind.bits, IntKind.signed]; omega
  have wj : IntKind.u64.wrap (j : Int) = (j : Int) := by simp [IntKind.wrap, IntKind.bits, IntKind.signed]; omega
  have wm : IntKind.u64.wrap (m : Int) = (m : Int) := by simp [IntKind.wrap, IntKind.bits, IntKind.signed]; omega
  have vm : IntKind.i64.wrap (m : Int) = (m : Int) := by simp [IntKind.wrap, IntKind.bits, IntKind.signed]; omega
  have zi : (i : Int) < 18 := by omega
  have zj : (j : Int) < 10 := by omega
  clear hi hj hm
  go_enter Tryd.func3, Tryd.ntmps3
  go_upto_region 1 with fail
  go_cut [5] from 11 to 29 (fun v wx => RowsAt wx.heap.size wx v badL ∧ Below w.heap.size w wx)
  case first =>
    go_wp2
    go_meet
    exact ⟨rowsWorld_at w badL, rowsWorld_below w badL⟩
  case rest =>
    obtain ⟨hbad, hb1⟩ := hcut
    have HBAD := Lib.hid hbad
    clear hbad
    generalize wc = w1 at *
    go_upto_region 2 with fail
    go_cut [6] from 30 to 40 (fun v wx => RowsAt wx.heap.size wx v goodL ∧ Below w1.heap.size w1 wx)
    case first =>
      go_wp2
      go_meet
      exact ⟨rowsWorld_at w1 goodL, rowsWorld_below w1 goodL⟩
    case rest =>
      obtain ⟨hgood, hb2⟩ := hcut
      generalize wc = w2 at *
      obtain ⟨g5, rfl, lt5, h5⟩ := (HBAD.out.below hb2).mono hb2.size
      obtain ⟨g6, rfl, lt6, h6⟩ := hgood
      obtain ⟨lb, elb, plb⟩ := row_pick badL _ bad_all i li
      obtain ⟨_, elb2, qlb⟩ := row_pick badL _ bad_lens i li
      obtain rfl := Option.some.inj (elb.symm.trans elb2)
      obtain ⟨lg, elg, plg⟩ := row_pick goodL _ good_all j lj
      obtain ⟨_, elg2, qlg⟩ := row_pick goodL _ good_lens j lj
      obtain rfl := Option.some.inj (elg.symm.trans elg2)
      have qlb := of_decide_eq_true qlb
      have qlg := of_decide_eq_true qlg
      obtain ⟨k5, lk5, c5, d5⟩ := h5 i lb elb
      obtain ⟨k6, lk6, c6, d6⟩ := h6 j lg elg
      have hb := step_below2 hb1 hb2
      have HB := Lib.hid hb
      have HB2 := Lib.hid hb2
      have D5 := Lib.hid d5
      have D6 := Lib.hid d6
      have C5 := Lib.hid c5
      have C6 := Lib.hid c6
      have PB := Lib.hid plb
      have PG := Lib.hid plg
      clear h5 h6 elb elb2 elg elg2 d5 d6 c5 c6 plb plg HBAD hb hb1 hb2
      go_wp2_with fail
      go_loopw [7, 8] (fun v iv wr => ∃ k : Nat, k ≤ m ∧ iv = .int .i64 k ∧ OwnB wr w2.heap.size v (List.replicate k 97) ∧ Below w2.heap.size w2 wr) (fun _ iv _ => m - (intOf iv).toNat)
      case atStart => exact ⟨0, Nat.zero_le _, rfl, ⟨rfl, Or.inl ⟨rfl, rfl⟩⟩, Below.refl _ _⟩
      case round =>
        obtain ⟨k, hk, rfl, hown, hbl⟩ := hrel
        have hzl := hbl.size
        by_cases hlt : k < m
        · have hz1 : w2.heap.size ≤ (wr.alloc (.cells #[.int .u8 97] 5 (0, 0))).heap.size := by rw [alloc_size]; omega
          go_wp2_with (at_builtin; refine wpList_append_bytes rfl _ _ rfl w2.heap.size _ (List.replicate k 97) [97] (some ⟨wr.heap.size, 0, none⟩) 1 1 rfl (World.ownsRow.alloc hown _) (srcOK_one wr 97) rfl rfl (by rw [List.length_replicate]; omega) hz1 ?_; intro v3 w3 hown3 hb3')
          go_roundw
          case rel => exact ⟨k + 1, by omega, by go_num, by rw [← replicate_next]; exact hown3, (hbl.alloc hzl _).trans hb3'⟩
          case measure => simp [intOf]; omega
        · obtain rfl : k = m := by omega
          obtain ⟨ab, cb, rfl, _⟩ := ownB_form hown
          have hrl : (List.replicate k (97 : UInt8)).length = k := List.length_replicate
          rw [hrl] at hown ⊢
          have HRL := Lib.hid hrl
          have n18 : badL.length = 18 := rfl
          have n10 : goodL.length = 10 := rfl
          have KEEP5 : Hid (∀ W, Below w2.heap.size w2 W → W.cell? ⟨g5, i, none⟩ = some (.slice (some ⟨k5, 0, none⟩) lb.length lb.length)) := fun W h => by rw [h.cell (p := ⟨g5, i, none⟩) lt5]; exact C5.out
          have KEEP6 : Hid (∀ W, Below w2.heap.size w2 W → W.cell? ⟨g6, j, none⟩ = some (.slice (some ⟨k6, 0, none⟩) lg.length lg.length)) := fun W h => by rw [h.cell (p := ⟨g6, j, none⟩) lt6]; exact C6.out
          have SRC5 : Hid (∀ W, Below w2.heap.size w2 W → SrcOK W (some ⟨k5, 0, none⟩) lb lb.length) := fun W h => Or.inr ⟨_, rfl, bytes_cell fun a ha => by rw [h.cell (p := ⟨k5, 0 + a, none⟩) lk5, Nat.zero_add]; exact D5.out a ha⟩
          have SRC6 : Hid (∀ W, Below w2.heap.size w2 W → SrcOK W (some ⟨k6, 0, none⟩) lg lg.length) := fun W h => Or.inr ⟨_, rfl, bytes_cell fun a ha => by rw [h.cell (p := ⟨k6, 0 + a, none⟩) lk6, Nat.zero_add]; exact D6.out a ha⟩
          have hba : Below w2.heap.size w2 ((wr.alloc (.cells #[] 5 (0, 0))).drew) := (hbl.alloc hzl _).drew
          have hoa : OwnB ((wr.alloc (.cells #[] 5 (0, 0))).drew) wr.heap.size (.slice (some ⟨wr.heap.size, 0, none⟩) 0 0) [] := ownB_lit0 wr wr.heap.size (Nat.le_refl _)
          have hob : OwnB ((wr.alloc (.cells #[] 5 (0, 0))).drew) w2.heap.size (.slice ab k cb) (List.replicate k 97) := hown.below (((Below.refl _ _).alloc (Nat.le_refl _) _).drew)
          have hza : wr.heap.size ≤ ((wr.alloc (.cells #[] 5 (0, 0))).drew).heap.size := by show _ ≤ (wr.alloc _).heap.size; rw [alloc_size]; omega
          go_wp2_with fail
          have hbd : Below w2.heap.size w2 wr.drew := hbl.drew
          have hbe : Below w2.heap.size w2 (wr.alloc (.cells #[] 5 (0, 0))) := hbl.alloc hzl _
          go_region_held3 (fun W => W.cell? ⟨g5, i, none⟩ = some (.slice (some ⟨k5, 0, none⟩) lb.length lb.length))
            (exact KEEP5.out _ (by assumption))
            (first
              | ((refine step_append_bytes rfl (.tmp 52) (.tmp 53) rfl wr.heap.size _ [] (List.replicate k 97) _ k cb (by rfl) hoa (ownB_srcOK hob) HRL.out (by rfl) (show 0 + k ≤ 1000 by omega) hza ?_); intro v3 w3 hown3 hgr3; have hb3 : Below w2.heap.size w2 w3 := hba.grown hgr3 (by have := hza; omega) (ownB_block (hoa.mono hzl)); have hz3 : wr.heap.size ≤ w3.heap.size := Nat.le_trans hza hgr3.size)
              | ((refine step_append_bytes rfl (.tmp 54) (.tmp 63) rfl wr.heap.size _ ([] ++ List.replicate k 97) lb _ lb.length lb.length (by rfl) hown3 (SRC5.out _ hb3) rfl (by rfl) (show ([] ++ List.replicate k (97 : UInt8)).length + lb.length ≤ 1000 by rw [List.nil_append, HRL.out]; omega) hz3 ?_); intro v4 w4 hown4 hgr4; have hb4 : Below w2.heap.size w2 w4 := hb3.grown hgr4 (by omega) (ownB_block (hown3.mono hzl))))
          have hx4 : OwnB w4 wr.heap.size v4 (List.replicate k 97 ++ lb) := hown4
          have hbw4 : Below wr.heap.size wr w4 := ((((Below.refl _ wr).alloc (Nat.le_refl _) (.cells #[] 5 (0, 0))).drew).grown hgr3 hza (ownB_block hoa)).grown hgr4 hz3 (ownB_block hown3)
          have hob4 := hown.below hbw4
          have hz4 : wr.heap.size ≤ w4.heap.size := hbw4.size
          have BLT := Lib.hid (fun g e => (hown.lt g e).2)
          clear hown3 hown4 hgr3 hgr4 hb3 hz3 hoa hob hba hza hbd hbe hbw4 hown
          have hba : Below w2.heap.size w2 ((w4.alloc (.cells #[] 5 (0, 0))).drew) := (hb4.alloc hb4.size _).drew
          have hbd : Below w2.heap.size w2 w4.drew := hb4.drew
          have hbe : Below w2.heap.size w2 (w4.alloc (.cells #[] 5 (0, 0))) := hb4.alloc hb4.size _
          have hoa : OwnB ((w4.alloc (.cells #[] 5 (0, 0))).drew) w4.heap.size (.slice (some ⟨w4.heap.size, 0, none⟩) 0 0) [] := ownB_lit0 w4 w4.heap.size (Nat.le_refl _)
          have hob : OwnB ((w4.alloc (.cells #[] 5 (0, 0))).drew) w2.heap.size (.slice ab k cb) (List.replicate k 97) := hob4.below (((Below.refl _ _).alloc (Nat.le_refl _) _).drew)
          have hza : w4.heap.size ≤ ((w4.alloc (.cells #[] 5 (0, 0))).drew).heap.size := by show _ ≤ (w4.alloc _).heap.size; rw [alloc_size]; omega
          have hz24 : w2.heap.size ≤ w4.heap.size := hb4.size
          go_wp2_with fail
          go_region_held3 (fun W => W.cell? ⟨g6, j, none⟩ = some (.slice (some ⟨k6, 0, none⟩) lg.length lg.length))
            (exact KEEP6.out _ (by assumption))
            (first
              | ((refine step_append_bytes rfl (.tmp 65) (.tmp 66) rfl w4.heap.size _ [] (List.replicate k 97) _ k cb (by rfl) hoa (ownB_srcOK hob) HRL.out (by rfl) (show 0 + k ≤ 1000 by omega) hza ?_); intro v5 w5 hown5 hgr5; have hb5 : Below w2.heap.size w2 w5 := hba.grown hgr5 (by have := hza; omega) (ownB_block (hoa.mono hz24)); have hz5 : w4.heap.size ≤ w5.heap.size := Nat.le_trans hza hgr5.size)
              | ((refine step_append_bytes rfl (.tmp 67) (.tmp 76) rfl w4.heap.size _ ([] ++ List.replicate k 97) lg _ lg.length lg.length (by rfl) hown5 (SRC6.out _ hb5) rfl (by rfl) (show ([] ++ List.replicate k (97 : UInt8)).length + lg.length ≤ 1000 by rw [List.nil_append, HRL.out]; omega) hz5 ?_); intro v6 w6 hown6 hgr6; have hb6 : Below w2.heap.size w2 w6 := hb5.grown hgr6 (by omega) (ownB_block (hown5.mono hz24))))
          have hy6 : OwnB w6 w4.heap.size v6 (List.replicate k 97 ++ lg) := hown6
          have hbw6 : Below w4.heap.size w4 w6 := ((((Below.refl _ w4).alloc (Nat.le_refl _) (.cells #[] 5 (0, 0))).drew).grown hgr5 hza (ownB_block hoa)).grown hgr6 hz5 (ownB_block hown5)
          have hx6 := hx4.below hbw6
          have hob6 := hob4.below hbw6
          have XLT := Lib.hid (fun g e => hx4.lt g e)
          have YLT := Lib.hid (fun g e => (hy6.lt g e).1)
          have hz6 : w4.heap.size ≤ w6.heap.size := hbw6.size
          have hbw := step_below2 HB.out hb6
          have hzw : w.heap.size ≤ wr.heap.size := Nat.le_trans HB.out.size hzl
          have lbl : (List.replicate k (97 : UInt8) ++ lb).length ≤ 30 := by rw [List.length_append, HRL.out]; omega
          have lgl : (List.replicate k (97 : UInt8) ++ lg).length ≤ 30 := by rw [List.length_append, HRL.out]; omega
          have pb := PB.out
          have pg := PG.out
          simp only [Bool.and_eq_true, Bool.not_eq_true'] at pb pg
          have V1 := Lib.hid (valid_rep k lb false pb.1)
          have V2 := Lib.hid (valid_rep2 k lb false pb.2)
          have V3 := Lib.hid (valid_rep k lg true pg.1)
          have V4 := Lib.hid (valid_rep2 k lg true pg.2)
          have V5 : Hid (validT ⟨(List.replicate k (97 : UInt8)).toArray⟩ = true) := by have := valid_rep k [] true chL_nil; rw [List.append_nil] at this; exact this
          have HX := Lib.hid hx6
          have HY := Lib.hid hy6
          have HBO := Lib.hid hob6
          clear hown5 hown6 hgr5 hgr6 hb5 hz5 hoa hob hba hza hbd hbe hbw6 hx4 hx6 hy6 hob4 hob6 pb pg hb4 hb6 PB PG KEEP5 KEEP6 SRC5 SRC6 D5 D6 C5 C6 n18 n10
          go_wp2_with fail
          refine (told2_any T _ (T.below _ _ HE.out hbw)).mono ?_
          rintro e w7 ⟨rfl, hb7⟩
          have HX7 := Lib.hid (HX.out.below hb7)
          have HY7 := Lib.hid (HY.out.below hb7)
          have HBO7 := Lib.hid (HBO.out.below hb7)
          replace hbw := step_below2 hbw hb7
          replace hz6 := Nat.le_trans hz6 hb7.size
          clear hb7 HX HY HBO
          go_wp2_with fail
          refine (T.validIs _ _ (List.replicate k 97 ++ lb) false V1.out _ (T.below _ _ HE.out hbw) (by omega) (ownB_at HX7.out)).mono ?_
          rintro e w8 ⟨rfl, hb8⟩
          have HX8 := Lib.hid (HX7.out.below hb8)
          have HY8 := Lib.hid (HY7.out.below hb8)
          have HBO8 := Lib.hid (HBO7.out.below hb8)
          replace hbw := step_below2 hbw hb8
          replace hz6 := Nat.le_trans hz6 hb8.size
          clear hb8 HX7 HY7 HBO7
          have hbe : Below w.heap.size w (w8.alloc (.cells #[bval 97] 5 (0, 0))) := hbw.alloc hbw.size _
          have hzb : wr.heap.size ≤ (w8.alloc (.cells #[bval 97] 5 (0, 0))).heap.size := by rw [alloc_size]; omega
          have hal8 : Below w8.heap.size w8 (w8.alloc (.cells #[bval 97] 5 (0, 0))) := (Below.refl _ _).alloc (Nat.le_refl _) _
          go_wp2_with (at_builtin; refine wpList_append_bytes_g (by rfl) _ _ rfl wr.heap.size _ (List.replicate k 97 ++ lb) [97] _ 1 1 rfl (HX8.out.below hal8) (srcOK_one w8 97) rfl rfl (by omega) hzb ?_; intro v9 w9 hown9 hgr9)
          have hbw9 : Below w.heap.size w w9 := hbe.grown hgr9 (by have := hbe.size; omega) (ownB_block ((HX8.out.below hal8).mono hzw))
          have HY9 := Lib.hid ((HY8.out.below hal8).grown hgr9 fun g e1 e2 => by have h1 := YLT.out g e1; have h2 := (XLT.out g e2.symm).2; omega)
          have HBO9 := Lib.hid ((HBO8.out.below hal8).grown hgr9 fun g e1 e2 => by have h1 := BLT.out g e1; have h2 := (XLT.out g e2.symm).1; omega)
          have hz9 : w4.heap.size ≤ w9.heap.size := by have := hgr9.size; rw [alloc_size] at this; omega
          refine (T.validIs _ _ ((List.replicate k 97 ++ lb) ++ [97]) false V2.out _ (T.below _ _ HE.out hbw9) (by rw [List.length_append]; simp; omega) (ownB_at hown9)).mono ?_
          rintro e w10 ⟨rfl, hb10⟩
          have HY10 := Lib.hid (HY9.out.below hb10)
          have HBO10 := Lib.hid (HBO9.out.below hb10)
          have hbw10 := step_below2 hbw9 hb10
          have hz10 := Nat.le_trans hz9 hb10.size
          clear hb10 HY9 HBO9 hz9 hbw9 hgr9 hown9 hal8 hzb hbe hbw hz6 HX8 HY8 HBO8
          go_wp2_with fail
          refine (T.validIs _ _ (List.replicate k 97 ++ lg) true V3.out _ (T.below _ _ HE.out hbw10) (by omega) (ownB_at HY10.out)).mono ?_
          rintro e w11 ⟨rfl, hb11⟩
          have HY11 := Lib.hid (HY10.out.below hb11)
          have HBO11 := Lib.hid (HBO10.out.below hb11)
          have hbw11 := step_below2 hbw10 hb11
          have hz11 := Nat.le_trans hz10 hb11.size
          clear hb11 HY10 HBO10 hbw10 hz10
          have hbe : Below w.heap.size w (w11.alloc (.cells #[bval 97] 5 (0, 0))) := hbw11.alloc hbw11.size _
          have hzb : w4.heap.size ≤ (w11.alloc (.cells #[bval 97] 5 (0, 0))).heap.size := by rw [alloc_size]; omega
          have hal11 : Below w11.heap.size w11 (w11.alloc (.cells #[bval 97] 5 (0, 0))) := (Below.refl _ _).alloc (Nat.le_refl _) _
          go_wp2_with (at_builtin; refine wpList_append_bytes_g (by rfl) _ _ rfl w4.heap.size _ (List.replicate k 97 ++ lg) [97] _ 1 1 rfl (HY11.out.below hal11) (srcOK_one w11 97) rfl rfl (by omega) hzb ?_; intro v12 w12 hown12 hgr12)
          have hbw12 : Below w.heap.size w w12 := hbe.grown hgr12 (by have := hbe.size; omega) (ownB_block ((HY11.out.below hal11).mono (by omega)))
          have HBO12 := Lib.hid ((HBO11.out.below hal11).grown hgr12 fun g e1 e2 => by have h1 := BLT.out g e1; have h2 := YLT.out g e2.symm; omega)
          refine (T.validIs _ _ ((List.replicate k 97 ++ lg) ++ [97]) true V4.out _ (T.below _ _ HE.out hbw12) (by rw [List.length_append]; simp; omega) (ownB_at hown12)).mono ?_
          rintro e w13 ⟨rfl, hb13⟩
          have HBO13 := Lib.hid (HBO12.out.below hb13)
          have hbw13 := step_below2 hbw12 hb13
          clear hb13 HBO12 hbw12 hgr12 hown12 hal11 hzb hbe hbw11 HY11 HBO11
          go_wp2_with fail
          refine (T.validIs _ _ (List.replicate k 97) true V5.out _ (T.below _ _ HE.out hbw13) (by rw [HRL.out]; omega) (ownB_at HBO13.out)).mono ?_
          rintro e w14 ⟨rfl, hb14⟩
          have hbw14 := step_below2 hbw13 hb14
          clear hb14 hbw13 HBO13
          go_wp2
          go_ret
          exact ⟨rfl, hbw14⟩
end Go.Proofs.YteejkkdimkgmfaaDoor
