/-
  THE CONTRACTS OF brackenref1's Find AND NewTable, AND OF A PUT THAT FINDS ITS TEXT.
-/
import Derived.Test.YtkleaedfpgaohaaRefPut
import Derived.Test.YtkleaedfpgaohaaTabPlay
namespace Go.Proofs.Ytkleaedfpgaohaa
open Go.RowKit

set_option maxHeartbeats 1000000 in
set_option maxRecDepth 100000 in
theorem refFind_any (F : Nat → Prop) (v : Value) (L : List ByteArray) (P : List Nat) (n0 : Int) (s : ByteArray) (w : World) (hT : RefIs F w v L P n0) (hG : Good L P) (hm : P.length ≤ 1048576) (hs : s.size ≤ 1048576) :
    Calls Try.prog 12 #[v, .string s] w (Gave9 RefIs F v L P ((lookT P L s).2 : Nat) (.tuple #[.int .i64 (slotT P L s - 1 : Nat), .bool (decide (slotT P L s ≠ 0))]) w) := by
  obtain ⟨p, q, a, c, rfl, hF, h⟩ := hT
  have CL := Lib.hid (refLook_any 0 _ L P n0 L.length s w ⟨p, q, a, c, rfl, h⟩ hG.part hG.room hm hs (by have := hG.half; omega))
  obtain ⟨h1, h2, h3, h4⟩ := look_in hG s
  have hlL : L.length ≤ 1048576 := by have := hG.half; omega
  have H := Lib.hid h
  have hpF : F p := (hF p).2 (Or.inl rfl)
  have HSL : Hid (valAt P (lookT P L s).1 = slotT P L s) := Lib.hid rfl
  generalize (lookT P L s).1 = at1 at *
  generalize (lookT P L s).2 = nn at *
  generalize slotT P L s = x at *
  clear h
  go_enter Try.func12, Try.ntmps12
  go_wp2_with fail
  refine CL.out.mono ?_
  rintro e w' ⟨rfl, k, rfl⟩
  have HB1 := Lib.hid ((Turns.refl F w).drewN k)
  have H1 := Lib.hid (H.out.drewN k)
  generalize w.drewN k = w1 at *
  have c2 := H1.out.c2
  have f2 := H1.out.row.frozen 2
  have H2 := Lib.hid (H1.out.looked (nn : Int))
  have HB2 := Lib.hid (HB1.out.setCell (p := ⟨p, 2, none⟩) (Or.inl hpF) (.int .i64 (nn : Int)))
  have c1 := H2.out.c1
  have cq : (w1.setCell ⟨p, 2, none⟩ (.int .i64 (nn : Int))).cell? ⟨q, at1, none⟩ = some (.int .i64 x) := by rw [← HSL.out]; exact H2.out.places.cell h1
  have i1 : (at1 : Int) < (P.length : Int) := by omega
  by_cases hx : x = 0
  · subst hx
    go_wp2
    go_ret2
    exact ⟨rfl, F, ⟨p, q, a, c, rfl, hF, H2.out⟩, fun k h => Or.inl h, HB2.out⟩
  · have g1 : ((x : Int) == 0) = false := beq_eq_false_iff_ne.2 (by omega)
    have g2 : (x == 0) = false := beq_eq_false_iff_ne.2 hx
    obtain ⟨y, hy⟩ : ∃ y, x - 1 = y := ⟨_, rfl⟩
    have ey : (x : Int) - 1 = (y : Int) := by omega
    have HY := Lib.hid hy
    have HDX : Hid (decide (x ≠ 0) = true) := Lib.hid (decide_eq_true hx)
    clear hy
    go_wp2
    go_ret2
    exact ⟨by rw [HY.out, HDX.out]; rfl, F, ⟨p, q, a, c, rfl, hF, H2.out⟩, fun k h => Or.inl h, HB2.out⟩
theorem val_none (m i : Nat) : valAt (List.replicate m 0) i = 0 := by
  unfold valAt
  by_cases h : i < m
  · simp [List.getD, h]
  · simp [List.getD, List.getElem?_eq_none (by rw [List.length_replicate]; omega : (List.replicate m 0).length ≤ i)]
theorem make_ints (n : Nat) (h : n ≤ 4294967296) (w : World) :
    (Instr.makeSlice 37 (.int .i64 (n : Int)) (.int .i64 (n : Int))).run Try.prog w = .ok (.slice (some ⟨w.heap.size, 0, none⟩) n n) (w.alloc (.cells (madeCells #[.int .i64 0] n) 3)) :=
  run_make_row' 37 3 (.int .i64 0) 8 Try.underlying37 (by kernel_rfl) rfl .i64 .i64 n (by omega) (by omega) w
set_option maxHeartbeats 1000000 in
set_option maxRecDepth 100000 in
theorem refNew_any (w : World) : Calls Try.prog 10 #[] w fun e w' => ∃ v F, e = .returned v ∧ RefIs F w' v [] (List.replicate 8 0) 0 ∧ (∀ k, F k → w.heap.size ≤ k ∧ k < w'.heap.size) ∧ Below w.heap.size w w' := by
  have hmk : (Instr.makeSlice 37 (.int .i64 8) (.int .i64 8)).run Try.prog w = .ok (.slice (some ⟨w.heap.size, 0, none⟩) 8 8) (w.alloc (.cells (madeCells #[.int .i64 0] 8) 3)) := make_ints 8 (by omega) w
  have hb1 := (Below.refl w.heap.size w).alloc (Nat.le_refl _) (.cells (madeCells #[.int .i64 0] 8) 3)
  have hr := World.rowIs_made w (.int .i64 0) 8 3
  have hsz : (w.alloc (.cells (madeCells #[.int .i64 0] 8) 3)).heap.size = w.heap.size + 1 := by show (w.heap.push _).size = _; rw [Array.size_push]
  generalize hW : w.alloc (.cells (madeCells #[.int .i64 0] 8) 3) = W at *
  go_enter Try.func10, Try.ntmps10
  go_wp2
  go_ret
  refine ⟨_, RefF (w.heap.size + 1) w.heap.size none, rfl, ⟨w.heap.size + 1, w.heap.size, none, 0, rfl, fun _ => Iff.rfl, ⟨by omega, Nat.zero_le _, by omega, (fun g hg => absurd hg (by simp)), ?_, World.ownsRow_nil _ _ _ _, ?_⟩⟩, ?_, hb1.alloc hb1.size _⟩
  rotate_left 2
  · intro k hk
    have hz : ∀ o, (W.alloc o).heap.size = w.heap.size + 2 := fun o => by show (W.heap.push _).size = _; rw [Array.size_push, hsz]
    rw [hz]
    rcases hk with rfl | rfl | ⟨g, hg, _⟩
    · omega
    · omega
    · cases hg
  · rw [← hsz]
    refine World.rowIs_alloc W _ _ _ ?_
    intro i hi
    rcases (show i = 0 ∨ i = 1 ∨ i = 2 by have : i < 3 := hi; omega) with rfl | rfl | rfl <;> rfl
  · rw [List.length_replicate]
    exact (hr.alloc _).congr fun i _ => by rw [val_none]; rfl
end Go.Proofs.Ytkleaedfpgaohaa
