/-
  THE LANDED PACKAGE wave: what may be, and how a row is split by a bit.
-/
import Derived.Test.YtnjlckgmoodkiaaRunWBase
import Derived.Test.YtnjlckgmoodkiaaRunBitB
import Derived.Test.YtnjlckgmoodkiaaOwnSyms
import Derived.Deep.DeepAppendRoom
import Derived.Laws.AppendOwnNone
namespace Go.Proofs.Ytnjlckgmoodkiaa
open Go.RowKit

def withinL (xs : List Int) (sigma : Int) : Bool := xs.all (fun x => decide (0 ≤ x) && decide (x < sigma))
theorem within_next (xs : List Int) (sigma : Int) (j : Nat) (x : Int) (h : j < xs.length) (hx : xs.getD j 0 = x) : withinL (xs.drop j) sigma = (decide (0 ≤ x) && decide (x < sigma) && withinL (xs.drop (j + 1)) sigma) := by
  have e : xs[j]'h = x := by rw [← hx]; simp [List.getD, List.getElem?_eq_getElem h]
  rw [List.drop_eq_getElem_cons h, e]
  simp only [withinL, List.all_cons]
set_option maxHeartbeats 400000 in
set_option maxRecDepth 100000 in
theorem rwithin_any (s : Value) (xs : List Int) (sigma : Int) (w : World) (hx : xs.length ≤ 1048576) (hs : SymsAt w.heap.size w s xs) :
    Calls Try.prog 23 #[s, .int .i64 sigma] w fun e w' => e = .returned (.bool (withinL xs sigma)) ∧ w = w' := by
  rcases hs with ⟨a, cap, rfl, rfl⟩ | ⟨g, off, cap, rfl, hg, hc⟩
  · go_enter Try.func23, Try.ntmps23
    go_wp2
    go_loopw [9] (fun iv wr => iv = .int .i64 0 ∧ wr = w) (fun _ _ => 0)
    case atStart => exact ⟨rfl, rfl⟩
    case round =>
      obtain ⟨rfl, rfl⟩ := hrel
      go_wp2
      go_ret
      exact ⟨rfl, rfl⟩
  · have HC := Lib.hid hc
    clear hc
    go_enter Try.func23, Try.ntmps23
    go_wp2
    go_loopw [9] (fun iv wr => ∃ k : Nat, k ≤ xs.length ∧ iv = .int .i64 k ∧ Hid (withinL (xs.drop k) sigma = withinL xs sigma) ∧ wr = w) (fun iv _ => xs.length - (intOf iv).toNat)
    case atStart => exact ⟨0, Nat.zero_le _, rfl, Lib.hid rfl, rfl⟩
    case round =>
      obtain ⟨k, hk, rfl, HW, rfl⟩ := hrel
      by_cases hlt : k < xs.length
      · obtain ⟨x, hxx⟩ : ∃ x, xs.getD k 0 = x := ⟨_, rfl⟩
        have hcell := HC.out k hlt
        rw [hxx] at hcell
        have HN := Lib.hid (within_next xs sigma k x hlt hxx)
        clear hxx
        by_cases h0 : x < 0
        · have HF : Hid (withinL xs sigma = false) := Lib.hid (by rw [← HW.out, HN.out, decide_eq_false (by omega : ¬ 0 ≤ x)]; rfl)
          go_wp2
          go_ret
          exact ⟨by rw [HF.out]; rfl, rfl⟩
        · have g0 : decide (x < 0) = false := decide_eq_false h0
          by_cases h1 : x < sigma
          · have g1 : decide (sigma ≤ x) = false := decide_eq_false (by omega)
            have HT : Hid (withinL (xs.drop (k + 1)) sigma = withinL xs sigma) := Lib.hid (by rw [← HW.out, HN.out, decide_eq_true (by omega : 0 ≤ x), decide_eq_true h1]; rfl)
            go_wp2
            go_roundw
            case rel => exact ⟨k + 1, by omega, by go_num, HT, trivial⟩
            case measure => simp [intOf]; omega
          · have g1 : decide (sigma ≤ x) = true := decide_eq_true (by omega)
            have HF : Hid (withinL xs sigma = false) := Lib.hid (by rw [← HW.out, HN.out, decide_eq_false h1, Bool.and_false]; rfl)
            go_wp2
            go_ret
            exact ⟨by rw [HF.out]; rfl, rfl⟩
      · have hke : k = xs.length := by omega
        subst hke
        have HT : Hid (withinL xs sigma = true) := Lib.hid (by rw [← HW.out, List.drop_length]; rfl)
        go_wp2
        go_ret
        exact ⟨by rw [HT.out]; rfl, rfl⟩
theorem may_within (xs : List Int) (sigma : Int) : maySyms xs sigma = (withinL xs sigma && (decide (1 ≤ sigma) && decide (sigma ≤ 1048576))) := rfl
/-! ### split -/
theorem make_boolsW (n : Nat) (h : n ≤ 1048576) (w : World) :
    (Instr.makeSlice 60 (.int .i64 (n : Int)) (.int .i64 (n : Int))).run Try.prog w = .ok (.slice (some ⟨w.heap.size, 0, none⟩) n n) (w.alloc (.cells (madeCells #[.bool false] n) 4)) :=
  run_make_row' 60 4 (.bool false) 1 Try.underlying60 info_bool rfl .i64 .i64 n (by omega) (by omega) w
theorem make_symsW (n : Nat) (h : n ≤ 1048576) (w : World) :
    (Instr.makeSlice 22 (.int .i64 0) (.int .i64 (n : Int))).run Try.prog w = .ok (.slice (some ⟨w.heap.size, 0, none⟩) 0 n) (w.alloc (.cells (madeCells #[.int .i64 0] n) 3)) := by
  obtain ⟨i0, hi, hz0, hz1, hz2⟩ := info_parts info_int
  have hr := run_make (P := Try.prog) w 22 3 i0 (.int .i64 0) Try.underlying22 hi hz0 .i64 .i64 0 (n : Int) (Int.le_refl _) (by omega) (by rw [hz2]; omega) (by omega)
  rw [hz1, show (Value.int .i64 0).cells = #[.int .i64 0] from rfl] at hr
  simpa using hr
theorem take_filter_next (l : List Int) (f : Int → Bool) (k : Nat) (x : Int) (h : k < l.length) (hx : l.getD k 0 = x) : (l.take (k + 1)).filter f = (l.take k).filter f ++ (if f x then [x] else []) := by
  have e : l[k]'h = x := by rw [← hx]; simp [List.getD, List.getElem?_eq_getElem h]
  rw [List.take_add_one, List.getElem?_eq_getElem h, List.filter_append, e]
  simp [List.filter_cons]
theorem ownI_same {w w' : World} {base : Nat} {v : Value} {xs : List Int} (h : OwnI w base v xs) (hb : ∀ k, base ≤ k → k < w.heap.size → w'.heap[k]? = w.heap[k]?) : OwnI w' base v xs := by
  refine ⟨h.1, ?_⟩
  rcases h.2 with h0 | ⟨g, c, cur, h', hbs, hg, rest⟩
  · exact .inl h0
  · exact .inr ⟨g, c, cur, h', hbs, (hb g hbs (Array.getElem?_eq_some_iff.1 hg).1).trans hg, rest⟩
/-- IN THE MIDST OF split: k symbols of l have been put into the rows: the result's cell in block z, the bits in block z + 1, those with a nought in block z + 2, those with a one in a later one. -/
structure Splits (z : Nat) (l : List Int) (b k : Nat) (os : Value) (w w' : World) : Prop where
  zw : z = w.heap.size
  low : Below w.heap.size w w'
  res : w'.rowIs z 49 1 (fun _ => .pointer none)
  bits : w'.rowIs (z + 1) 4 l.length (fun i => .bool (if i < k then bitW (l.getD i 0) b else false))
  zeros : w'.ownsRow (z + 2) 3 1 (.slice (some ⟨z + 2, 0, none⟩) ((l.take k).filter (fun x => bitW x b == false)).length l.length) ((l.take k).filter (fun x => bitW x b == false)).length (((l.take k).filter (fun x => bitW x b == false)).map ival)
  ones : OwnI w' (z + 3) os ((l.take k).filter (fun x => bitW x b == true))
theorem splits_start (l : List Int) (b : Nat) (w : World) (hl : l.length ≤ 1048576) :
    Splits w.heap.size l b 0 (.slice none 0 0) w (((w.alloc (.cells #[.pointer none] 49)).alloc (.cells (madeCells #[.bool false] l.length) 4)).alloc (.cells (madeCells #[.int .i64 0] l.length) 3)) := by
  have h1 := new_box w (.pointer none) 49
  have z1 : (w.alloc (.cells #[.pointer none] 49)).heap.size = w.heap.size + 1 := by show (w.heap.push _).size = _; rw [Array.size_push]
  have h2 := World.rowIs_made (w.alloc (.cells #[.pointer none] 49)) (.bool false) l.length 4
  rw [z1] at h2
  have z2 : ((w.alloc (.cells #[.pointer none] 49)).alloc (.cells (madeCells #[.bool false] l.length) 4)).heap.size = w.heap.size + 2 := by show (Array.push _ _).size = _; rw [Array.size_push]; show (w.heap.push _).size + 1 = _; rw [Array.size_push]
  have h3 := World.ownsRow_made (base := w.heap.size + 2) (e := 3) (size := 1) ((w.alloc (.cells #[.pointer none] 49)).alloc (.cells (madeCells #[.bool false] l.length) 4)) (madeCells #[.int .i64 0] l.length) l.length (by omega) (by unfold maxLen; omega) (by rw [size_madeCells, Nat.mul_one])
  rw [z2] at h3
  refine ⟨rfl, (((Below.refl w.heap.size w).alloc (Nat.le_refl _) _).alloc (by omega) _).alloc (by omega) _, (h1.alloc _).alloc _, (h2.alloc _).congr fun i hi => by rw [if_neg (Nat.not_lt_zero _)], h3, World.ownsRow_nil _ _ _ _⟩
section
variable {z b k : Nat} {l : List Int} {os : Value} {w w' : World}
theorem Splits.size (h : Splits z l b k os w w') : z + 3 ≤ w'.heap.size := by have := h.zeros.lt _ rfl; have := this.2; omega
/-- the sign of k is put into the bits -/
theorem Splits.put (h : Splits z l b k os w w') {x : Int} (hx : l.getD k 0 = x) {bit : Bool} (hb : bitW x b = bit) :
    (w'.setCell ⟨z + 1, k, none⟩ (.bool bit)).rowIs (z + 1) 4 l.length (fun i => .bool (if i < k + 1 then bitW (l.getD i 0) b else false)) := by
  refine (h.bits.set k _).congr fun i hi => ?_
  by_cases e : i = k
  · subst e
    rw [if_pos rfl, if_pos (Nat.lt_succ_self _), hx, hb]
  · rw [if_neg e]
    congr 1
    by_cases e2 : i < k
    · rw [if_pos e2, if_pos (by omega)]
    · rw [if_neg e2, if_neg (by omega)]
/-- a one: it stands with the ones now -/
theorem Splits.one (h : Splits z l b k os w w') (hk : k < l.length) {x : Int} (hx : l.getD k 0 = x) (hb : bitW x b = true) (os2 : Value) (c : Array Value) (t : TypeId) (w2 : World)
    (hg : ((w'.setCell ⟨z + 1, k, none⟩ (.bool true)).alloc (.cells c t)).grownBy w2 os.ownBlock) (ho : OwnI w2 (z + 3) os2 ((l.take k).filter (fun x => bitW x b == true) ++ [x])) :
    Splits z l b (k + 1) os2 w w2 := by
  have hsz := h.size
  have hw := h.zw
  have hle : w'.heap.size ≤ ((w'.setCell ⟨z + 1, k, none⟩ (.bool true)).alloc (.cells c t)).heap.size := by show _ ≤ (Array.push _ _).size; rw [Array.size_push, Deep.nblk_setCell]; omega
  have hnb : ∀ j, j < z + 3 → some j ≠ os.ownBlock := fun j hj e => by have := ownI_block h.ones j e.symm; omega
  have hblk : ∀ j, j < z + 3 → w2.heap[j]? = (w'.setCell ⟨z + 1, k, none⟩ (.bool true)).heap[j]? := fun j hj =>
    (hg.block j (by omega) (hnb j hj)).trans (Below.heap_alloc _ _ j (by rw [Deep.nblk_setCell]; omega))
  have hoth : ∀ j, j < z + 3 → j ≠ z + 1 → w2.heap[j]? = w'.heap[j]? := fun j hj hne => (hblk j hj).trans (Below.heap_setCell _ _ _ _ hne)
  have e0 := take_filter_next l (fun x => bitW x b == false) k x hk hx
  have e1 := take_filter_next l (fun x => bitW x b == true) k x hk hx
  rw [hb, if_neg (by decide), List.append_nil] at e0
  rw [hb, if_pos (by decide)] at e1
  refine ⟨hw, ?_, h.res.of_block (hoth z (by omega) (by omega)), (h.put hx hb).of_block (hblk (z + 1) (by omega)), ?_, by rw [e1]; exact ho⟩
  · refine ((h.low.setCell (p := ⟨z + 1, k, none⟩) (show w.heap.size ≤ z + 1 by omega) _).alloc (by rw [Deep.nblk_setCell]; omega) _).grown hg (by omega) fun j hj => ?_
    have := ownI_block h.ones j hj
    omega
  · rw [e0]
    exact own_same h.zeros (hoth (z + 2) (by omega) (by omega))
/-- a nought -/
theorem Splits.zero (h : Splits z l b k os w w') (hk : k < l.length) {x : Int} (hx : l.getD k 0 = x) (hb : bitW x b = false) (c : Array Value) (t : TypeId) (w2 : World)
    (hg : ((w'.setCell ⟨z + 1, k, none⟩ (.bool false)).alloc (.cells c t)).grownBy w2 (some (z + 2)))
    (ho : w2.ownsRow (z + 2) 3 1 (.slice (some ⟨z + 2, 0, none⟩) (((l.take k).filter (fun x => bitW x b == false)).length + 1) l.length) (((l.take k).filter (fun x => bitW x b == false)).length + 1) (((l.take k).filter (fun x => bitW x b == false)).map ival ++ [.int .i64 x])) :
    Splits z l b (k + 1) os w w2 := by
  have hsz := h.size
  have hw := h.zw
  have hle : w'.heap.size ≤ ((w'.setCell ⟨z + 1, k, none⟩ (.bool false)).alloc (.cells c t)).heap.size := by show _ ≤ (Array.push _ _).size; rw [Array.size_push, Deep.nblk_setCell]; omega
  have hblk : ∀ j, j < w'.heap.size → j ≠ z + 2 → w2.heap[j]? = (w'.setCell ⟨z + 1, k, none⟩ (.bool false)).heap[j]? := fun j hj hne =>
    (hg.block j (by omega) (fun e => hne (by injection e))).trans (Below.heap_alloc _ _ j (by rw [Deep.nblk_setCell]; omega))
  have hoth : ∀ j, j < w'.heap.size → j ≠ z + 2 → j ≠ z + 1 → w2.heap[j]? = w'.heap[j]? := fun j hj hne hne2 => (hblk j hj hne).trans (Below.heap_setCell _ _ _ _ hne2)
  have e0 := take_filter_next l (fun x => bitW x b == false) k x hk hx
  have e1 := take_filter_next l (fun x => bitW x b == true) k x hk hx
  rw [hb, if_pos (by decide)] at e0
  rw [hb, if_neg (by decide), List.append_nil] at e1
  refine ⟨hw, ?_, h.res.of_block (hoth z (by omega) (by omega) (by omega)), (h.put hx hb).of_block (hblk (z + 1) (by omega) (by omega)), ?_, by rw [e1]; exact ownI_same h.ones fun j h1 h2 => hoth j h2 (by omega) (by omega)⟩
  · refine ((h.low.setCell (p := ⟨z + 1, k, none⟩) (show w.heap.size ≤ z + 1 by omega) _).alloc (by rw [Deep.nblk_setCell]; omega) _).grown hg (by omega) fun j hj => ?_
    injection hj with hj
    omega
  · rw [e0, List.length_append, List.map_append]
    exact ho
end
end Go.Proofs.Ytnjlckgmoodkiaa
