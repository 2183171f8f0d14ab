/-
  THE CONTRACT OF brackenlaw11.told, out of what is asked of package decl (DeclSaid): it returns true.
-/
import Derived.Test.YtmecigainilocaaGreatDoorDeclSaid
namespace Go.Proofs.YtmecigainilocaaGreatDoor
open Go.RowKit

theorem few11_a : xmlT [60, 63, 120, 109, 108, 32, 118, 101, 114, 115, 105, 111, 110, 61, 39, 49, 46, 48, 39, 32, 101, 110, 99, 111, 100, 105, 110, 103, 61, 34, 85, 84, 70, 45, 56, 34, 63, 62, 120] = (38, 0) := by kernel_rfl
theorem few11_b : xmlT [60, 97, 47, 62] = (0, 0) := by kernel_rfl
theorem few11_c : xmlT [60, 63, 120, 109, 108, 32, 118, 101, 114, 115, 105, 111, 110, 61, 39, 50, 46, 48, 39, 63, 62] = (0, 2) := by kernel_rfl
def dec11 : DeclD := ⟨[97], [⟨[101], [120, 65, 38, 102, 59], false⟩], [⟨[97], [98], 1, true, [118]⟩, ⟨[97], [99], 2, false, []⟩]⟩
theorem few11_d : docT few11d 0 = (dec11, 79, 0) := few11d_is
theorem few11_e : docT [60, 33, 68, 79, 67, 84, 89, 80, 69, 32, 97, 32, 91, 37, 101, 59, 93, 62] 0 = (decl0, 0, 2) := by kernel_rfl
theorem few11_f : docT [60, 97, 62] 0 = (decl0, 0, 6) := by kernel_rfl
theorem few11_g : entT [38, 97, 109, 112, 59, 38, 35, 54, 54, 59] = ([38, 97, 109, 112, 59, 66], true) := by kernel_rfl
theorem few11_h : entT [37, 120, 59] = ([], false) := by kernel_rfl
theorem few11_i : litT [39, 97, 34, 98, 39] 0 = ([97, 34, 98], 5, true) := by kernel_rfl
set_option maxHeartbeats 8000000 in
set_option maxRecDepth 100000 in
theorem told11_any {E : Nat → World → Prop} (S : DeclSaid E) (n : Nat) (w : World) (hE : E n w) (hn : n ≤ w.heap.size) :
    Calls Tryz.prog 10 #[] w fun e w' => e = .returned (.bool true) ∧ Below w.heap.size w w' := by
  have H := Lib.hid (show CAt E n w w from ⟨hE, hn, Below.refl _ _⟩)
  clear hE
  go_enter Tryz.func10, Tryz.ntmps10
  go_wp2_with fail
  refine (cxmlAt S _ _ _ few11_a (by decide) H.out).mono ?_
  rintro e w1 ⟨rfl, h⟩
  replace H := Lib.hid h
  clear h
  go_wp2_with fail
  refine (cxmlAt S _ _ _ few11_b (by decide) H.out).mono ?_
  rintro e w1 ⟨rfl, h⟩
  replace H := Lib.hid h
  clear h
  go_wp2_with fail
  refine (cxmlAt S _ _ _ few11_c (by decide) H.out).mono ?_
  rintro e w1 ⟨rfl, h⟩
  replace H := Lib.hid h
  clear h
  go_wp2_with fail
  refine (cdocAt S few11d 0 _ ⟨#[97]⟩ rfl _ _ few11_d (by decide) 1 2 rfl rfl H.out).mono ?_
  rintro e w1 ⟨a1, c1, a2, c2, rfl, hE1, hA1, h, _⟩
  obtain ⟨b0, o0, rfl, hb0, hc0⟩ := hE1.cell (by decide)
  obtain ⟨b1, o1, rfl, hb1, hc1⟩ := hA1.cell (by decide)
  have HX := Lib.hid (box_decls w1 (.string ⟨#[97]⟩) (.slice (some ⟨b0, o0, none⟩) 1 c1) (.slice (some ⟨b1, o1, none⟩) 2 c2) 27)
  have HE := Lib.hid (fun i hi W (h : Below w1.heap.size w1 W) => show W.cell? ⟨b0, o0 + i * 3 + 1, none⟩ = some (.string (bytes (entI dec11.ents i).value)) from (h.cell (p := ⟨b0, o0 + i * 3 + 1, none⟩) hb0).trans (hc0 i hi).2.1)
  have HT := Lib.hid (fun i hi W (h : Below w1.heap.size w1 W) => show W.cell? ⟨b1, o1 + i * 5, none⟩ = some (.string (bytes (attI dec11.atts i).elem)) ∧ W.cell? ⟨b1, o1 + i * 5 + 1, none⟩ = some (.string (bytes (attI dec11.atts i).name)) ∧ W.cell? ⟨b1, o1 + i * 5 + 2, none⟩ = some (.int .i64 ((attI dec11.atts i).type : Int)) ∧
      W.cell? ⟨b1, o1 + i * 5 + 3, none⟩ = some (.bool (attI dec11.atts i).has) ∧ W.cell? ⟨b1, o1 + i * 5 + 4, none⟩ = some (.string (bytes (attI dec11.atts i).value)) from
    ⟨(h.cell (p := ⟨b1, o1 + i * 5, none⟩) hb1).trans (hc1 i hi).1, (h.cell (p := ⟨b1, o1 + i * 5 + 1, none⟩) hb1).trans (hc1 i hi).2.1, (h.cell (p := ⟨b1, o1 + i * 5 + 2, none⟩) hb1).trans (hc1 i hi).2.2.1, (h.cell (p := ⟨b1, o1 + i * 5 + 3, none⟩) hb1).trans (hc1 i hi).2.2.2.1, (h.cell (p := ⟨b1, o1 + i * 5 + 4, none⟩) hb1).trans (hc1 i hi).2.2.2.2⟩)
  have hba := (Below.refl w1.heap.size w1).alloc (Nat.le_refl _) (.cells #[.string ⟨#[97]⟩, .slice (some ⟨b0, o0, none⟩) 1 c1, .slice (some ⟨b1, o1, none⟩) 2 c2] 27)
  have HB := Lib.hid hba
  have HA := Lib.hid (h.since.trans (hba.mono h.since.size))
  replace H := Lib.hid (show CAt E n (w1.alloc (.cells #[.string ⟨#[97]⟩, .slice (some ⟨b0, o0, none⟩) 1 c1, .slice (some ⟨b1, o1, none⟩) 2 c2] 27)) (w1.alloc (.cells #[.string ⟨#[97]⟩, .slice (some ⟨b0, o0, none⟩) 1 c1, .slice (some ⟨b1, o1, none⟩) 2 c2] 27)) from ⟨S.stay n w1 _ h.e (hba.mono h.n_le), Nat.le_trans h.n_le hba.size, Below.refl _ _⟩)
  clear h hba hE1 hA1 hc0 hc1
  go_wp2_with fail
  refine (cdocAt S _ 0 _ ⟨#[]⟩ rfl _ _ few11_e (by decide) 0 0 rfl rfl H.out).mono ?_
  rintro e w2 ⟨a3, c3, a4, c4, rfl, _, _, h, _⟩
  replace H := Lib.hid (h.other S ((Below.refl _ _).alloc (Nat.le_refl _) (.cells #[.string ⟨#[]⟩, .slice a3 0 c3, .slice a4 0 c4] 27)))
  clear h
  go_wp2_with fail
  refine (cdocAt S _ 0 _ ⟨#[]⟩ rfl _ _ few11_f (by decide) 0 0 rfl rfl H.out).mono ?_
  rintro e w3 ⟨a5, c5, a6, c6, rfl, _, _, h, _⟩
  replace H := Lib.hid (h.other S ((Below.refl _ _).alloc (Nat.le_refl _) (.cells #[.string ⟨#[]⟩, .slice a5 0 c5, .slice a6 0 c6] 27)))
  clear h
  go_wp2_with fail
  refine (centAt S _ _ ⟨#[38, 97, 109, 112, 59, 66]⟩ rfl _ few11_g (by decide) H.out).mono ?_
  rintro e w4 ⟨rfl, h⟩
  replace H := Lib.hid h
  clear h
  go_wp2_with fail
  refine (centAt S _ _ ⟨#[]⟩ rfl _ few11_h (by decide) H.out).mono ?_
  rintro e w5 ⟨rfl, h⟩
  replace H := Lib.hid h
  clear h
  go_wp2_with fail
  refine (clitAt S _ 0 _ ⟨#[97, 34, 98]⟩ rfl _ _ few11_i (by decide) H.out).mono ?_
  rintro e w6 ⟨rfl, h⟩
  replace H := Lib.hid h
  clear h
  obtain ⟨x0, x1, x2⟩ := HX.out _ H.out.since
  have hall := HB.out.trans (H.out.since.mono HB.out.size)
  have e0 : World.cell? _ ⟨b0, o0 + 1, none⟩ = some (.string ⟨#[120, 65, 38, 102, 59]⟩) := HE.out 0 (by decide) _ hall
  obtain ⟨t0, t1, t2, t3, t4⟩ := HT.out 0 (by decide) _ hall
  replace t0 : World.cell? _ ⟨b1, o1, none⟩ = some (.string ⟨#[97]⟩) := t0
  replace t1 : World.cell? _ ⟨b1, o1 + 1, none⟩ = some (.string ⟨#[98]⟩) := t1
  replace t2 : World.cell? _ ⟨b1, o1 + 2, none⟩ = some (.int .i64 1) := t2
  replace t3 : World.cell? _ ⟨b1, o1 + 3, none⟩ = some (.bool true) := t3
  replace t4 : World.cell? _ ⟨b1, o1 + 4, none⟩ = some (.string ⟨#[118]⟩) := t4
  obtain ⟨_, _, u2, u3, _⟩ := HT.out 1 (by decide) _ hall
  have u2b : World.cell? _ ⟨b1, o1 + 7, none⟩ = some (.int .i64 2) := u2
  have u3b : World.cell? _ ⟨b1, o1 + 8, none⟩ = some (.bool false) := u3
  replace u2 : World.cell? _ ⟨b1, o1 + 5 + 2, none⟩ = some (.int .i64 2) := u2
  replace u3 : World.cell? _ ⟨b1, o1 + 5 + 3, none⟩ = some (.bool false) := u3
  clear hall HT HE HX
  go_wp2
  go_ret
  exact ⟨rfl, HA.out.trans (H.out.since.mono HA.out.size)⟩
end Go.Proofs.YtmecigainilocaaGreatDoor
