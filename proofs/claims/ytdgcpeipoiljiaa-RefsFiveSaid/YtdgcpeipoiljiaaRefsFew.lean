/-
  THE CONTRACT OF brackenlaw12.few: few entities, of few bytes each.
-/
import Derived.Test.YtdgcpeipoiljiaaEntArg
import Derived.WalkKit
import Derived.LoopTactic
namespace Go.Proofs.Ytdgcpeipoiljiaa
open Go.RowKit

def FewE (l : List EntD) : Prop := l.length ≤ 20 ∧ ∀ i, i < l.length → (entI l i).name.length ≤ 30 ∧ (entI l i).value.length ≤ 100
/-- what few gives -/
def FewG (l : List EntD) (w : World) (e : Ending) (w' : World) : Prop := ∃ b, e = .returned (.bool b) ∧ (b = true → FewE l) ∧ Below w.heap.size w w'
set_option maxHeartbeats 2000000 in
set_option maxRecDepth 100000 in
theorem few12_any (a : Option Addr) (cap : Nat) (l : List EntD) (w : World) (hE : EntsAt w.heap.size w (.slice a l.length cap) l) (h63 : l.length ≤ 9223372036854775807) (hz : ∀ i, i < l.length → (entI l i).name.length ≤ 9223372036854775807 ∧ (entI l i).value.length ≤ 9223372036854775807) :
    Calls Try.prog 12 #[.agg #[.string ⟨#[]⟩, .slice a l.length cap, .slice none 0 0]] w (FewG l w) := by
  have HB := Lib.hid ((Below.refl w.heap.size w).alloc (Nat.le_refl _) (.cells #[.string ⟨#[]⟩, .slice a l.length cap, .slice none 0 0] 30))
  have c1 := (box_decls w (.string ⟨#[]⟩) (.slice a l.length cap) (.slice none 0 0) 30 _ (Below.refl _ _)).2.1
  have HE := Lib.hid hE
  have HZ := Lib.hid hz
  clear hE hz
  go_enter Try.func12, Try.ntmps12
  go_wp2
  go_loop [3] (fun iv => ∃ i : Nat, i ≤ l.length ∧ iv = .int .i64 i ∧ Hid (∀ j, j < i → (entI l j).name.length ≤ 30 ∧ (entI l j).value.length ≤ 100)) (fun iv => l.length - (intOf iv).toNat)
  case atStart => exact ⟨0, Nat.zero_le _, rfl, Lib.hid (fun j hj => by cases hj)⟩
  case round =>
    obtain ⟨i, hil, rfl, HS⟩ := hrel
    by_cases hlt : i < l.length
    · obtain ⟨b, off, rfl, hb, hc⟩ := HE.out.cell (by omega)
      have e0 := (HB.out.cell (p := ⟨b, off + i * 3, none⟩) hb).trans (hc i hlt).1
      have e1 := (HB.out.cell (p := ⟨b, off + i * 3 + 1, none⟩) hb).trans (hc i hlt).2.1
      have hz := HZ.out i hlt
      obtain ⟨nb, hnb⟩ : ∃ nb, bytes (entI l i).name = nb := ⟨_, rfl⟩
      obtain ⟨vb, hvb⟩ : ∃ vb, bytes (entI l i).value = vb := ⟨_, rfl⟩
      have hns : nb.size = (entI l i).name.length := by rw [← hnb, bytesL_len]
      have hvs : vb.size = (entI l i).value.length := by rw [← hvb, bytesL_len]
      rw [hnb] at e0
      rw [hvb] at e1
      rw [← hns, ← hvs] at hz
      have HNS := Lib.hid hns
      have HVS := Lib.hid hvs
      have hiI : (i : Int) < (l.length : Int) := by omega
      clear hc hnb hvb hns hvs
      by_cases h30 : 30 < nb.size
      · have g1 : decide (30 < nb.size) = true := decide_eq_true h30
        have g2 : decide ((30 : Int) < (nb.size : Int)) = true := decide_eq_true (by omega)
        go_wp2
        go_ret
        exact ⟨false, rfl, (fun h => by cases h), HB.out⟩
      · have g1 : decide (30 < nb.size) = false := decide_eq_false h30
        have g2 : decide ((30 : Int) < (nb.size : Int)) = false := decide_eq_false (by omega)
        by_cases h100 : 100 < vb.size
        · have g3 : decide (100 < vb.size) = true := decide_eq_true h100
          have g4 : decide ((100 : Int) < (vb.size : Int)) = true := decide_eq_true (by omega)
          go_wp2
          go_ret
          exact ⟨false, rfl, (fun h => by cases h), HB.out⟩
        · have g3 : decide (100 < vb.size) = false := decide_eq_false h100
          have g4 : decide ((100 : Int) < (vb.size : Int)) = false := decide_eq_false (by omega)
          have HS2 : Hid (∀ j, j < i + 1 → (entI l j).name.length ≤ 30 ∧ (entI l j).value.length ≤ 100) := Lib.hid (fun j hj => by
            by_cases e : j = i
            · subst e
              rw [← HNS.out, ← HVS.out]; omega
            · exact HS.out j (by omega))
          go_wp2
          go_round
          case rel => exact ⟨i + 1, by omega, by go_num, HS2⟩
          case measure => simp [intOf]; omega
    · have g0 : decide (i < l.length) = false := decide_eq_false hlt
      have g00 : decide ((i : Int) < (l.length : Int)) = false := decide_eq_false (by omega)
      have HF : Hid (l.length ≤ 20 → FewE l) := Lib.hid (fun h => ⟨h, fun j hj => HS.out j (by omega)⟩)
      go_wp2
      go_ret
      exact ⟨_, rfl, (fun h => HF.out (by have h2 := of_decide_eq_true h; omega)), HB.out⟩
end Go.Proofs.Ytdgcpeipoiljiaa
