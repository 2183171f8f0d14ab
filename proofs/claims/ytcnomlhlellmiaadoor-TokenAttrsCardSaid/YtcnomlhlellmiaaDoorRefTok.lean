/-
  THE CONTRACTS OF brackenref10.SameToken (of like pieces) AND OF brackenlaw10.Text (some text, not too long).
-/
import Derived.Test.YtcnomlhlellmiaaDoorTokTold
import Derived.Test.YtcnomlhlellmiaaDoorSymsAt
import Derived.Test.YtcnomlhlellmiaaDoorBitNum
import Derived.Deep.QuietTactic
import Derived.BigQuiet
namespace Go.Proofs.YtcnomlhlellmiaaDoor
open Go.RowKit

set_option maxHeartbeats 4000000 in
set_option maxRecDepth 100000 in
theorem refSame_any (B : Nat) (kd : Int) (nm tx : ByteArray) (em : Bool) (al : List (ByteArray × ByteArray)) (m : Nat) (hm : al.length = m) (hm2 : m ≤ 1000000) (a1 a2 : Option Addr) (c1 c2 : Nat) (w : World) (hB : B ≤ w.heap.size) (h1 : AttsAt B w (.slice a1 m c1) al) (h2 : AttsAt B w (.slice a2 m c2) al) :
    Calls Tryd.prog 14 #[.agg #[.int .i64 kd, .string nm, .string tx, .slice a1 m c1, .bool em], .agg #[.int .i64 kd, .string nm, .string tx, .slice a2 m c2, .bool em]] w fun e w' => e = .returned (.bool true) ∧ Below w.heap.size w w' := by
  subst hm
  have hb0 := (Below.refl w.heap.size w).alloc (Nat.le_refl _) (.cells #[.int .i64 kd, .string nm, .string tx, .slice a1 al.length c1, .bool em] 27)
  have X0 := box_tok w (.int .i64 kd) (.string nm) (.string tx) (.slice a1 al.length c1) (.bool em) 27
  obtain ⟨W0, hW0⟩ : ∃ W0, w.alloc (.cells #[.int .i64 kd, .string nm, .string tx, .slice a1 al.length c1, .bool em] 27) = W0 := ⟨_, rfl⟩
  rw [hW0] at hb0 X0
  have hz0 : W0.heap.size = w.heap.size + 1 := by rw [← hW0]; show (w.heap.push _).size = _; rw [Array.size_push]
  have hb1 := (Below.refl W0.heap.size W0).alloc (Nat.le_refl _) (.cells #[.int .i64 kd, .string nm, .string tx, .slice a2 al.length c2, .bool em] 27)
  have X1 := box_tok W0 (.int .i64 kd) (.string nm) (.string tx) (.slice a2 al.length c2) (.bool em) 27 _ (Below.refl _ _)
  have X2 := X0 _ hb1
  obtain ⟨x0, x1, x2, x3, x4⟩ := X2
  rw [hz0] at X1
  obtain ⟨y0, y1, y2, y3, y4⟩ := X1
  have HBW := Lib.hid (hb0.trans (hb1.mono hb0.size))
  have jn : (nm.toList == nm.toList) = true := beq_self_eq_true _
  have jt : (tx.toList == tx.toList) = true := beq_self_eq_true _
  have je : (em == em) = true := beq_self_eq_true _
  have je2 : (em != em) = false := by cases em <;> rfl
  have HC : Hid (∀ i, i < al.length → ∃ g1 o1 g2 o2, a1 = some ⟨g1, o1, none⟩ ∧ a2 = some ⟨g2, o2, none⟩ ∧ ∀ W, Below w.heap.size w W → W.cell? ⟨g1, o1 + i * 2, none⟩ = some (.string (att al i).1) ∧ W.cell? ⟨g1, o1 + i * 2 + 1, none⟩ = some (.string (att al i).2) ∧ W.cell? ⟨g2, o2 + i * 2, none⟩ = some (.string (att al i).1) ∧ W.cell? ⟨g2, o2 + i * 2 + 1, none⟩ = some (.string (att al i).2)) := Lib.hid (fun i hi => by
    obtain ⟨g1, o1, e1, hg1, hc1⟩ := h1.cell (by omega)
    obtain ⟨g2, o2, e2, hg2, hc2⟩ := h2.cell (by omega)
    refine ⟨g1, o1, g2, o2, e1, e2, fun W h => ⟨?_, ?_, ?_, ?_⟩⟩
    · exact (h.cell (p := ⟨g1, o1 + i * 2, none⟩) (show g1 < w.heap.size by omega)).trans (hc1 i hi).1
    · exact (h.cell (p := ⟨g1, o1 + i * 2 + 1, none⟩) (show g1 < w.heap.size by omega)).trans (hc1 i hi).2
    · exact (h.cell (p := ⟨g2, o2 + i * 2, none⟩) (show g2 < w.heap.size by omega)).trans (hc2 i hi).1
    · exact (h.cell (p := ⟨g2, o2 + i * 2 + 1, none⟩) (show g2 < w.heap.size by omega)).trans (hc2 i hi).2)
  clear X0 hb0 hb1 h1 h2
  go_enter Tryd.func14, Tryd.ntmps14
  go_wp2
  clear jn jt je je2 hW0
  obtain ⟨W1, hW1⟩ : ∃ W1, W0.alloc (.cells #[.int .i64 kd, .string nm, .string tx, .slice a2 al.length c2, .bool em] 27) = W1 := ⟨_, rfl⟩
  rw [hW1] at x0 x1 x2 x3 x4 y0 y1 y2 y3 y4 HBW ⊢
  clear hW1
  go_loopw [5] (fun iv wr => ∃ i x : Nat, i ≤ al.length ∧ iv = .int .i64 i ∧ wr = W1.drewN x) (fun iv _ => al.length - (intOf iv).toNat)
  case atStart => exact ⟨0, 0, Nat.zero_le _, rfl, rfl⟩
  case round =>
    obtain ⟨i, x, hil, rfl, hwr⟩ := hrel
    have z3 : wr.cell? ⟨w.heap.size, 3, none⟩ = some (.slice a1 al.length c1) := by rw [hwr]; exact x3
    have z4 : wr.cell? ⟨w.heap.size + 1, 3, none⟩ = some (.slice a2 al.length c2) := by rw [hwr]; exact y3
    have HB : Hid (Below w.heap.size w wr) := Lib.hid (by rw [hwr]; exact HBW.out.trans ⟨rfl, rfl, rfl, Nat.le_refl _, fun _ _ => rfl⟩)
    have HWR := Lib.hid hwr
    clear hwr
    by_cases hlt : i < al.length
    · obtain ⟨g1, o1, g2, o2, rfl, rfl, hc⟩ := HC.out i hlt
      obtain ⟨d1, d2, d3, d4⟩ := hc wr HB.out
      generalize att al i = at' at *
      obtain ⟨an, av⟩ := at'
      have jn : (an.toList == an.toList) = true := beq_self_eq_true _
      have jv : (av.toList == av.toList) = true := beq_self_eq_true _
      have i1 : (i : Int) < (al.length : Int) := by omega
      have i2 : (0 : Int) ≤ (i : Int) := by omega
      clear hc
      go_wp2
      go_quiet (fail)
      go_wp2
      go_roundw
      case rel => exact ⟨i + 1, x + nq, hlt, by go_num, by rw [HWR.out]; show World.drewN _ _ = _; unfold World.drewN; simp [Nat.add_assoc]⟩
      case measure => simp [intOf]; omega
    · have g0 : decide (i < al.length) = false := decide_eq_false hlt
      go_wp2
      go_ret
      exact ⟨rfl, HB.out⟩
end Go.Proofs.YtcnomlhlellmiaaDoor
