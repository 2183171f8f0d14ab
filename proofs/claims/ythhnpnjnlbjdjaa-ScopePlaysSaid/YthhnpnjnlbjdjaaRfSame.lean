/-
  THE CONTRACTS OF brackenref10.SameAttrs (of like attributes) AND OF brackenref10.Scope.Pop.
-/
import Derived.Test.YthhnpnjnlbjdjaaRfMem
import Derived.Deep.QuietTactic
import Derived.BigQuiet
namespace Go.Proofs.Ythhnpnjnlbjdjaa
open Go.RowKit

set_option maxHeartbeats 2000000 in
set_option maxRecDepth 100000 in
theorem rfsame_any {G1 G2 : Nat → Prop} {w : World} {v1 v2 : Value} {l : List At4} (hl : l.length ≤ 1099511627777) (h1 : AtsAt G1 w v1 l) (h2 : AtsAt G2 w v2 l) :
    Calls Try.prog 22 #[v1, v2] w fun e w' => e = .returned (.bool true) ∧ Below w.heap.size w w' := by
  obtain ⟨a1, c1, rfl⟩ := h1.slice
  obtain ⟨a2, c2, rfl⟩ := h2.slice
  have H1 := Lib.hid h1
  have H2 := Lib.hid h2
  clear h1 h2
  go_enter Try.func22, Try.ntmps22
  go_wp2
  go_loopw [5] (fun iv wr => ∃ i x : Nat, i ≤ l.length ∧ iv = .int .i64 i ∧ wr = w.drewN x) (fun iv _ => l.length - (intOf iv).toNat)
  case atStart => exact ⟨0, 0, Nat.zero_le _, rfl, rfl⟩
  case round =>
    obtain ⟨i, x, hil, rfl, hwr⟩ := hrel
    have HWR := Lib.hid hwr
    by_cases hlt : i < l.length
    · obtain ⟨b1, o1, rfl, _, _, _, hc1⟩ := H1.out.cell (by omega)
      obtain ⟨b2, o2, rfl, _, _, _, hc2⟩ := H2.out.cell (by omega)
      obtain ⟨d0, d1, d2, d3⟩ := hc1 i hlt
      obtain ⟨e0, e1, e2, e3⟩ := hc2 i hlt
      have hcw : ∀ p, wr.cell? p = w.cell? p := fun p => by rw [hwr]; rfl
      rw [← hcw] at d0 d1 d2 d3 e0 e1 e2 e3
      generalize at4I l i = A at *
      obtain ⟨p, q, u, v⟩ := A
      have jp : ((bytes p).toList == (bytes p).toList) = true := bytesL_eq _
      have jq : ((bytes q).toList == (bytes q).toList) = true := bytesL_eq _
      have ju : ((bytes u).toList == (bytes u).toList) = true := bytesL_eq _
      have jv : ((bytes v).toList == (bytes v).toList) = true := bytesL_eq _
      have i1 : (i : Int) < (l.length : Int) := by omega
      have i2 : (0 : Int) ≤ (i : Int) := by omega
      dsimp only at d0 d1 d2 d3 e0 e1 e2 e3
      clear hc1 hc2 hcw hwr
      go_wp2
      go_quiet (fail)
      go_wp2
      go_roundw
      case rel => exact ⟨i + 1, x + nq, hlt, by go_num, by rw [HWR.out]; show World.drewN _ _ = _; unfold World.drewN; simp [Nat.add_assoc]⟩
      case measure => simp [intOf]; omega
    · have g0 : decide (i < l.length) = false := decide_eq_false hlt
      have HB : Hid (Below w.heap.size w wr) := Lib.hid (by rw [HWR.out]; exact ⟨rfl, rfl, rfl, Nat.le_refl _, fun _ _ => rfl⟩)
      clear hwr
      go_wp2
      go_ret
      exact ⟨rfl, HB.out⟩
end Go.Proofs.Ythhnpnjnlbjdjaa
