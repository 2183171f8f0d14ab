/-
  THE CONTRACT OF brackenref10.Scope.Pop.
-/
import Derived.Test.YthhnpnjnlbjdjaaRfMem
import Derived.Deep.QuietTactic
import Derived.BigQuiet
namespace Go.Proofs.Ythhnpnjnlbjdjaa
open Go.RowKit

theorem RfAt.popped {G : Nat → Prop} {w : World} {rb ob oo cap : Nat} {lv : List Bd} {r : List (List Bd)} {xs : List Value} (h : RfAt G w rb (lv :: r) (.slice (some ⟨ob, oo, none⟩) (r.length + 1) cap) xs) :
    RfIs G (w.setCell ⟨rb, 0, none⟩ (.slice (some ⟨ob, oo, none⟩) r.length cap)) rb r := by
  obtain ⟨ys, sw, rfl, _, h2⟩ := h.lvs
  have hyl := h2.len
  rcases h.out with ⟨e, _⟩ | ⟨ob', oo', cap', e, hc, hg, hne, hlt, hcell⟩
  · simp at e
  · injection e with e1 e2 e3
    injection e1 with e1
    injection e1 with e1 e4 _
    subst e1; subst e4; subst e3
    have hb := h.box.set 0 (.slice (some ⟨ob, oo, none⟩) r.length cap)
    have hk : ∀ k, k ≠ rb → (w.setCell ⟨rb, 0, none⟩ (.slice (some ⟨ob, oo, none⟩) r.length cap)).heap[k]? = w.heap[k]? := fun k hk => Below.heap_setCell _ _ _ _ hk
    have hs : w.heap.size = (w.setCell ⟨rb, 0, none⟩ (.slice (some ⟨ob, oo, none⟩) r.length cap)).heap.size := by rw [Deep.nblk_setCell]
    refine ⟨.slice (some ⟨ob, oo, none⟩) r.length cap, ys, h.inG, hb.congr (fun i hi => ?_), h2.keep (by rw [← hs]; exact Nat.le_refl _) (fun k hg' _ => ⟨hk k hg'.2, hg'⟩), Or.inr ⟨ob, oo, cap, by rw [hyl], by rw [hyl]; rw [List.length_append] at hc; simp at hc; omega, hg, hne, by rw [← hs]; exact hlt, fun i v hv => ?_⟩⟩
    · obtain rfl : i = 0 := by omega
      rfl
    · refine (World.cell?_of_block (a := ⟨ob, oo + i, none⟩) (hk ob hne)).trans (hcell i v ?_)
      rw [List.getElem?_append_left (List.getElem?_eq_some_iff.1 hv).1]
      exact hv
set_option maxHeartbeats 2000000 in
set_option maxRecDepth 100000 in
theorem rfpop_any {G : Nat → Prop} {w : World} {rb : Nat} {S : List (List Bd)} (hN : NiceS S) (h : RfIs G w rb S) :
    Calls Try.prog 18 #[.pointer (some ⟨rb, 0, none⟩)] w fun e w' => e = .returned (.bool (decide (S ≠ []))) ∧ RfIs G w' rb S.tail ∧ Turns (fun k => k = rb) w w' := by
  obtain ⟨sv, xs, h⟩ := h
  have hfew := hN.few
  have hrl := h.box.frozen 0
  cases S with
  | nil =>
    obtain ⟨oa, cap, rfl⟩ := h.slice
    have c0 : w.cell? ⟨rb, 0, none⟩ = some (.slice oa 0 cap) := h.box.cell (i := 0) (by decide)
    have H := Lib.hid h
    clear h
    go_enter Try.func18, Try.ntmps18
    go_wp2
    go_ret
    exact ⟨rfl, ⟨_, _, H.out⟩, Turns.refl _ _⟩
  | cons lv r =>
    obtain ⟨oa, cap, rfl⟩ := h.slice
    obtain ⟨ob, oo, rfl, _, _⟩ := h.at (pre := []) rfl
    have hl : (lv :: r).length = r.length + 1 := rfl
    have hcap : r.length + 1 ≤ cap := by
      rcases h.out with ⟨e, e2⟩ | ⟨_, _, _, e, hc, _⟩
      · cases e2
      · have := h.lvs.len
        injection e with _ e2 e3
        subst e3
        omega
    rw [hl] at h hfew
    have c0 : w.cell? ⟨rb, 0, none⟩ = some (.slice (some ⟨ob, oo, none⟩) (r.length + 1) cap) := h.box.cell (i := 0) (by decide)
    have HE := Lib.hid h.popped
    have HT : Hid (Turns (fun k => k = rb) w (w.setCell ⟨rb, 0, none⟩ (.slice (some ⟨ob, oo, none⟩) r.length cap))) := Lib.hid ((Turns.refl (fun k => k = rb) w).setCell (p := ⟨rb, 0, none⟩) (Or.inl rfl) _)
    have i1 : (0 : Int) ≤ (r.length : Int) := by omega
    have i2 : (r.length : Int) ≤ (cap : Int) := by omega
    have ey : (r.length : Int) + 1 - 1 = (r.length : Int) := by omega
    clear h
    go_enter Try.func18, Try.ntmps18
    go_wp2_with fail
    go_region
    have HE2 : Hid (RfIs G (w.setCell ⟨rb, 0, none⟩ (.slice (some ⟨ob, oo, none⟩) r.length cap)).drew rb r) := Lib.hid (HE.out.keep (Nat.le_refl _) fun k hk _ => ⟨rfl, hk⟩)
    have HT2 := Lib.hid HT.out.drew
    go_wp2
    go_ret
    exact ⟨by simp, HE2.out, HT2.out⟩
end Go.Proofs.Ythhnpnjnlbjdjaa
