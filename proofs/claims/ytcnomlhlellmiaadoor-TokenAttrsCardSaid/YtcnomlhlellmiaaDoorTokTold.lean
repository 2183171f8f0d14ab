/-
  THE CONTRACT OF brackenlaw10.told, out of what is asked of package token (TokSaid): it returns true.
-/
import Derived.Test.YtcnomlhlellmiaaDoorTokSaid
namespace Go.Proofs.YtcnomlhlellmiaaDoor
open Go.RowKit

theorem few10_a : nextT ⟨#[60, 97, 32, 98, 61, 39, 49, 39, 32, 99, 32, 61, 32, 34, 50, 34, 47, 62, 120]⟩ 0 = (⟨2, ⟨#[97]⟩, ⟨#[]⟩, [(⟨#[98]⟩, ⟨#[49]⟩), (⟨#[99]⟩, ⟨#[50]⟩)], true⟩, 18, 0) := by kernel_rfl
theorem few10_b : nextT ⟨#[60, 97]⟩ 0 = (tok0, 0, 2) := by kernel_rfl
theorem few10_c : nextT ⟨#[]⟩ 0 = (tok0, 0, 6) := by kernel_rfl
theorem few10_d : nextT ⟨#[]⟩ 1 = (tok0, 1, 4) := by kernel_rfl
theorem few10_e : nextT ⟨#[60, 33, 45, 45, 97, 45, 45, 98, 45, 45, 62]⟩ 0 = (tok0, 0, 2) := by kernel_rfl
theorem few10_f : nextT ⟨#[97, 93, 93, 62, 98]⟩ 0 = (tok0, 0, 2) := by kernel_rfl
theorem few10_g : charV ⟨#[38, 35, 48, 59]⟩ = 0 := by kernel_rfl
theorem few10_h : charIs ⟨#[38, 35, 48, 59]⟩ = false := by kernel_rfl
theorem few10_i : charV ⟨#[38, 35, 120, 52, 49, 59]⟩ = 65 := by kernel_rfl
theorem few10_j : charIs ⟨#[38, 35, 120, 52, 49, 59]⟩ = true := by kernel_rfl
theorem few10_k : targetL [97] = true := by kernel_rfl
theorem few10_l : targetL [120, 77, 108] = false := by kernel_rfl
theorem few10_m : targetL [97, 58, 98] = false := by kernel_rfl
/-- "<a>x&lt;&#65;<!--c--><?p d?><![CDATA[<]]></a>" -/
def long10 : ByteArray := ⟨#[60, 97, 62, 120, 38, 108, 116, 59, 38, 35, 54, 53, 59, 60, 33, 45, 45, 99, 45, 45, 62, 60, 63, 112, 32, 100, 63, 62, 60, 33, 91, 67, 68, 65, 84, 65, 91, 60, 93, 93, 62, 60, 47, 97, 62]⟩
def toks10 : List Tok := [⟨2, ⟨#[97]⟩, ⟨#[]⟩, [], false⟩, ⟨1, ⟨#[]⟩, ⟨#[120]⟩, [], false⟩, ⟨8, ⟨#[108, 116]⟩, ⟨#[]⟩, [], false⟩, ⟨7, ⟨#[]⟩, ⟨#[65]⟩, [], false⟩, ⟨4, ⟨#[]⟩, ⟨#[99]⟩, [], false⟩, ⟨5, ⟨#[112]⟩, ⟨#[100]⟩, [], false⟩, ⟨6, ⟨#[]⟩, ⟨#[60]⟩, [], false⟩, ⟨3, ⟨#[97]⟩, ⟨#[]⟩, [], false⟩]
theorem few10_all : allT long10 = (toks10, 45, 0) := by kernel_rfl
theorem fits10 (k : Int) (h : -1000000000000 ≤ k ∧ k ≤ 1000000000000 := by decide) : Fits10 k := ⟨by omega, by omega⟩
set_option maxHeartbeats 8000000 in
set_option maxRecDepth 100000 in
theorem told10_any {E : Nat → World → Prop} (S : TokSaid E) (n : Nat) (w : World) (hE : E n w) (hn : n ≤ w.heap.size) :
    Calls Tryd.prog 8 #[] w fun e w' => e = .returned (.bool true) ∧ Below w.heap.size w w' := by
  have H := Lib.hid (show KAt E n w w from ⟨hE, hn, Below.refl _ _⟩)
  clear hE
  go_enter Tryd.func8, Tryd.ntmps8
  go_wp2_with fail
  refine (knextAt S _ 0 _ _ 2 _ _ _ _ few10_a 2 rfl 2 rfl (by decide) (fits10 _) H.out).mono ?_
  rintro e w1 ⟨a, cap, rfl, ha, h, _⟩
  obtain ⟨b0, o0, rfl, hb0, hc0⟩ := ha.cell (by decide)
  have hc1 := hc0 1 (by decide)
  have hba := (Below.refl w1.heap.size w1).alloc (Nat.le_refl _) (.cells #[.int .i64 2, .string ⟨#[97]⟩, .string ⟨#[]⟩, .slice (some ⟨b0, o0, none⟩) 2 cap, .bool true] 27)
  have HX := Lib.hid (box_tok w1 (.int .i64 2) (.string ⟨#[97]⟩) (.string ⟨#[]⟩) (.slice (some ⟨b0, o0, none⟩) 2 cap) (.bool true) 27)
  have HY := Lib.hid (fun W (h : Below w1.heap.size w1 W) => show W.cell? ⟨b0, o0 + 1 * 2, none⟩ = some (.string ⟨#[99]⟩) ∧ W.cell? ⟨b0, o0 + 1 * 2 + 1, none⟩ = some (.string ⟨#[50]⟩) from ⟨(h.cell (p := ⟨b0, o0 + 1 * 2, none⟩) hb0).trans hc1.1, (h.cell (p := ⟨b0, o0 + 1 * 2 + 1, none⟩) hb0).trans hc1.2⟩)
  have HA := Lib.hid (h.since.trans (hba.mono h.since.size))
  have HB := Lib.hid hba
  have hna : n ≤ (w1.alloc (.cells #[.int .i64 2, .string ⟨#[97]⟩, .string ⟨#[]⟩, .slice (some ⟨b0, o0, none⟩) 2 cap, .bool true] 27)).heap.size := Nat.le_trans h.n_le hba.size
  have HE2 := Lib.hid (S.stay n w1 _ h.e (hba.mono h.n_le))
  clear ha hc0 hc1 h hba H
  go_wp2_with fail
  refine (S.all n long10 _ HE2.out hna (by decide)).mono ?_
  rw [few10_all]
  rintro e wb ⟨vl, rfl, htk, hbl⟩
  obtain ⟨b2, o2, capb, rfl, hb2, hck⟩ : ∃ b off cap', vl = .slice (some ⟨b, off, none⟩) 8 cap' ∧ b < wb.heap.size ∧ ∀ i, i < 8 → ∃ sl, wb.cell? ⟨b, off + i * 5, none⟩ = some (.int .i64 (tokI toks10 i).kind) ∧ wb.cell? ⟨b, off + i * 5 + 1, none⟩ = some (.string (tokI toks10 i).name) ∧ wb.cell? ⟨b, off + i * 5 + 2, none⟩ = some (.string (tokI toks10 i).text) ∧
    wb.cell? ⟨b, off + i * 5 + 3, none⟩ = some sl ∧ wb.cell? ⟨b, off + i * 5 + 4, none⟩ = some (.bool (tokI toks10 i).empty) ∧ AttsAt wb.heap.size wb sl (tokI toks10 i).attrs := by
    rcases htk with ⟨_, _, _, h0⟩ | ⟨b, off, cap', e, hb, hc⟩
    · cases h0
    · exact ⟨b, off, cap', e, hb, hc⟩
  have HK := Lib.hid (fun i (hi : i < 8) (W : World) (h : Below wb.heap.size wb W) => show W.cell? ⟨b2, o2 + i * 5, none⟩ = some (.int .i64 (tokI toks10 i).kind) ∧ W.cell? ⟨b2, o2 + i * 5 + 1, none⟩ = some (.string (tokI toks10 i).name) ∧ W.cell? ⟨b2, o2 + i * 5 + 2, none⟩ = some (.string (tokI toks10 i).text) by
    obtain ⟨sl, c0, c1, c2, _⟩ := hck i hi
    exact ⟨(h.cell (p := ⟨b2, o2 + i * 5, none⟩) hb2).trans c0, (h.cell (p := ⟨b2, o2 + i * 5 + 1, none⟩) hb2).trans c1, (h.cell (p := ⟨b2, o2 + i * 5 + 2, none⟩) hb2).trans c2⟩)
  have HBL := Lib.hid hbl
  have H := Lib.hid (show KAt E n wb wb from ⟨S.stay n _ wb HE2.out (hbl.mono hna), Nat.le_trans hna hbl.size, Below.refl _ _⟩)
  clear htk hck hbl
  go_wp2_with fail
  refine (knextAt S _ 0 _ _ 0 _ _ _ _ few10_b 0 rfl 0 rfl (by decide) (fits10 _) H.out).mono ?_
  rintro e w1 ⟨a, cap1, rfl, _, h, _⟩
  replace H := Lib.hid (h.other S ((Below.refl _ _).alloc (Nat.le_refl _) (.cells #[.int .i64 0, .string ⟨#[]⟩, .string ⟨#[]⟩, .slice a 0 cap1, .bool false] 27)))
  clear h
  go_wp2_with fail
  refine (knextAt S _ 0 _ _ 0 _ _ _ _ few10_c 0 rfl 0 rfl (by decide) (fits10 _) H.out).mono ?_
  rintro e w1 ⟨a, cap1, rfl, _, h, _⟩
  replace H := Lib.hid (h.other S ((Below.refl _ _).alloc (Nat.le_refl _) (.cells #[.int .i64 0, .string ⟨#[]⟩, .string ⟨#[]⟩, .slice a 0 cap1, .bool false] 27)))
  clear h
  go_wp2_with fail
  refine (knextAt S _ 1 _ _ 0 _ _ _ _ few10_d 0 rfl 0 rfl (by decide) (fits10 _) H.out).mono ?_
  rintro e w1 ⟨a, cap1, rfl, _, h, _⟩
  replace H := Lib.hid (h.other S ((Below.refl _ _).alloc (Nat.le_refl _) (.cells #[.int .i64 0, .string ⟨#[]⟩, .string ⟨#[]⟩, .slice a 0 cap1, .bool false] 27)))
  clear h
  go_wp2_with fail
  refine (kcharAt S _ _ _ few10_g few10_h (by decide) H.out).mono ?_
  rintro e w2 ⟨rfl, h⟩
  replace H := Lib.hid h
  clear h
  go_wp2_with fail
  refine (kcharAt S _ _ _ few10_i few10_j (by decide) H.out).mono ?_
  rintro e w2 ⟨rfl, h⟩
  replace H := Lib.hid h
  clear h
  go_wp2_with fail
  refine (knextAt S _ 0 _ _ 0 _ _ _ _ few10_e 0 rfl 0 rfl (by decide) (fits10 _) H.out).mono ?_
  rintro e w1 ⟨a, cap1, rfl, _, h, _⟩
  replace H := Lib.hid (h.other S ((Below.refl _ _).alloc (Nat.le_refl _) (.cells #[.int .i64 0, .string ⟨#[]⟩, .string ⟨#[]⟩, .slice a 0 cap1, .bool false] 27)))
  clear h
  go_wp2_with fail
  try simp only [List.append_eq, List.cons_append, List.nil_append] at *
  refine (knextAt S _ 0 _ _ 0 _ _ _ _ few10_f 0 rfl 0 rfl (by decide) (fits10 _) H.out).mono ?_
  rintro e w1 ⟨a, cap1, rfl, _, h, _⟩
  replace H := Lib.hid (h.other S ((Below.refl _ _).alloc (Nat.le_refl _) (.cells #[.int .i64 0, .string ⟨#[]⟩, .string ⟨#[]⟩, .slice a 0 cap1, .bool false] 27)))
  clear h
  have hall := HBL.out.trans (H.out.since.mono HBL.out.size)
  obtain ⟨c0, c1, c2, c3, c4⟩ := HX.out _ hall
  obtain ⟨d0, d1⟩ := HY.out _ (HB.out.trans (hall.mono HB.out.size))
  have k00a := (HK.out 0 (by decide) _ H.out.since).1
  replace k00a : World.cell? _ ⟨b2, o2, none⟩ = some (.int .i64 2) := k00a
  have k20a := (HK.out 2 (by decide) _ H.out.since).1
  replace k20a : World.cell? _ ⟨b2, o2 + 10, none⟩ = some (.int .i64 8) := k20a
  have k21a := (HK.out 2 (by decide) _ H.out.since).2.1
  replace k21a : World.cell? _ ⟨b2, o2 + 10 + 1, none⟩ = some (.string ⟨#[108, 116]⟩) := k21a
  have k21b := (HK.out 2 (by decide) _ H.out.since).2.1
  replace k21b : World.cell? _ ⟨b2, o2 + 11, none⟩ = some (.string ⟨#[108, 116]⟩) := k21b
  have k32a := (HK.out 3 (by decide) _ H.out.since).2.2
  replace k32a : World.cell? _ ⟨b2, o2 + 15 + 2, none⟩ = some (.string ⟨#[65]⟩) := k32a
  have k32b := (HK.out 3 (by decide) _ H.out.since).2.2
  replace k32b : World.cell? _ ⟨b2, o2 + 17, none⟩ = some (.string ⟨#[65]⟩) := k32b
  have k42a := (HK.out 4 (by decide) _ H.out.since).2.2
  replace k42a : World.cell? _ ⟨b2, o2 + 20 + 2, none⟩ = some (.string ⟨#[99]⟩) := k42a
  have k42b := (HK.out 4 (by decide) _ H.out.since).2.2
  replace k42b : World.cell? _ ⟨b2, o2 + 22, none⟩ = some (.string ⟨#[99]⟩) := k42b
  have k51a := (HK.out 5 (by decide) _ H.out.since).2.1
  replace k51a : World.cell? _ ⟨b2, o2 + 25 + 1, none⟩ = some (.string ⟨#[112]⟩) := k51a
  have k51b := (HK.out 5 (by decide) _ H.out.since).2.1
  replace k51b : World.cell? _ ⟨b2, o2 + 26, none⟩ = some (.string ⟨#[112]⟩) := k51b
  have k52a := (HK.out 5 (by decide) _ H.out.since).2.2
  replace k52a : World.cell? _ ⟨b2, o2 + 25 + 2, none⟩ = some (.string ⟨#[100]⟩) := k52a
  have k52b := (HK.out 5 (by decide) _ H.out.since).2.2
  replace k52b : World.cell? _ ⟨b2, o2 + 27, none⟩ = some (.string ⟨#[100]⟩) := k52b
  have k62a := (HK.out 6 (by decide) _ H.out.since).2.2
  replace k62a : World.cell? _ ⟨b2, o2 + 30 + 2, none⟩ = some (.string ⟨#[60]⟩) := k62a
  have k62b := (HK.out 6 (by decide) _ H.out.since).2.2
  replace k62b : World.cell? _ ⟨b2, o2 + 32, none⟩ = some (.string ⟨#[60]⟩) := k62b
  have k70a := (HK.out 7 (by decide) _ H.out.since).1
  replace k70a : World.cell? _ ⟨b2, o2 + 35, none⟩ = some (.int .i64 3) := k70a
  clear hall HK HX HY
  go_wp2_with fail
  refine (ktargetAt S _ true few10_k (by decide) H.out).mono ?_
  rintro e w2 ⟨rfl, h⟩
  replace H := Lib.hid h
  clear h
  go_wp2_with fail
  refine (ktargetAt S _ false few10_l (by decide) H.out).mono ?_
  rintro e w2 ⟨rfl, h⟩
  replace H := Lib.hid h
  clear h
  go_wp2_with fail
  refine (ktargetAt S _ false few10_m (by decide) H.out).mono ?_
  rintro e w2 ⟨rfl, h⟩
  replace H := Lib.hid h
  clear h
  go_wp2
  go_ret
  exact ⟨rfl, HA.out.trans (HBL.out.trans (H.out.since.mono HBL.out.size) |>.mono HA.out.size)⟩
end Go.Proofs.YtcnomlhlellmiaaDoor
