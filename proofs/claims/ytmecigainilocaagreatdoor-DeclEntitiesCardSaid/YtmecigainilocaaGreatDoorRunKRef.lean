/-
  THE LANDED PACKAGE token: the contracts of runes.NCName in lists' words, of Target and CharRef.
-/
import Derived.Test.YtmecigainilocaaGreatDoorRunKFold
namespace Go.Proofs.YtmecigainilocaaGreatDoor
open Go.RowKit

theorem colon_list (l : List UInt8) : colonB (bytes l) = l.contains 58 := by
  unfold colonB
  rw [bytes_list, Bool.eq_iff_iff, decide_eq_true_eq, List.contains_iff_mem]
  constructor
  · intro h
    obtain ⟨o, ho⟩ := Int.eq_ofNat_of_zero_le h
    exact List.mem_iff_getElem?.2 ⟨o, (Lib.indexByte_some ho).1⟩
  · intro h
    obtain ⟨k, hk⟩ := List.mem_iff_getElem?.1 h
    have hge := Lib.indexByte_ge l 58
    have hnn : Lib.indexByte l 58 ≠ -1 := fun e => Lib.indexByte_none e k hk
    omega
theorem nc_list (l : List UInt8) : ncB (bytes l) = ncL l := by
  unfold ncB ncL
  rw [nameB_list, bytes_list, colon_list]
theorem nck_any (n : Nat) (l : List UInt8) (w : World) (hE : KE n w) (hs : l.length ≤ 100000) :
    Calls Tryz.prog 63 #[.string (bytes l)] w fun e w' => e = .returned (.bool (ncL l)) ∧ Below w.heap.size w w' := by
  rw [← nc_list]
  exact nc_any (bytes l) w (by rw [bytes_len]; omega) hE.tabs
theorem target_fold (l : List UInt8) : targetL l = (ncL l && !foldB l) := by
  unfold targetL foldB xml
  by_cases h : l.map lowU = [120, 109, 108]
  · rw [decide_eq_false (by simpa using h), decide_eq_true h]; rfl
  · rw [decide_eq_true h, decide_eq_false h]; rfl
set_option maxHeartbeats 1000000 in
theorem target_any (n : Nat) (l : List UInt8) (w : World) (hE : KE n w) (hn : n ≤ w.heap.size) (hs : l.length ≤ 100000) :
    Calls Tryz.prog 74 #[.string (bytes l)] w fun e w' => e = .returned (.bool (targetL l)) ∧ Below w.heap.size w w' := by
  have hc := nck_any n l w hE hs
  have hf : ∀ W, Below w.heap.size w W → Calls Tryz.prog 51 #[.string (bytes l), .string ⟨#[120, 109, 108]⟩] W fun e w' => e = .returned (.bool (foldB l)) ∧ Below w.heap.size w w' := fun W hb =>
    (fold_any n l W (hE.stay (hb.mono hn)) (Nat.le_trans hn hb.size) hs).mono fun e w' hg => ⟨hg.1, hb.trans (hg.2.mono hb.size)⟩
  rw [target_fold]
  clear hE
  cases h1 : ncL l with
  | false =>
    rw [h1] at hc
    clear h1
    go_enter Tryz.func74, Tryz.ntmps74
    go_wp2_with (go_at_call 63; refine hc.mono ?_; rintro e w1 ⟨rfl, hb1⟩)
    go_ret
    exact ⟨rfl, hb1⟩
  | true =>
    rw [h1] at hc
    cases h2 : foldB l with
    | false =>
      rw [h2] at hf
      clear h1 h2
      go_enter Tryz.func74, Tryz.ntmps74
      go_wp2_with (first | (go_at_call 63; refine hc.mono ?_; rintro e w1 ⟨rfl, hb1⟩) | (go_at_call 51; refine (hf _ hb1).mono ?_; rintro e w2 ⟨rfl, hb2⟩))
      go_ret
      exact ⟨rfl, hb2⟩
    | true =>
      rw [h2] at hf
      clear h1 h2
      go_enter Tryz.func74, Tryz.ntmps74
      go_wp2_with (first | (go_at_call 63; refine hc.mono ?_; rintro e w1 ⟨rfl, hb1⟩) | (go_at_call 51; refine (hf _ hb1).mono ?_; rintro e w2 ⟨rfl, hb2⟩))
      go_ret
      exact ⟨rfl, hb2⟩

/-! ### CharRef -/
end Go.Proofs.YtmecigainilocaaGreatDoor
