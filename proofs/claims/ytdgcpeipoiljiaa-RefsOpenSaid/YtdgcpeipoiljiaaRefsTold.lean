/-
  THE CONTRACT OF brackenlaw12.told, out of what is asked of package refs (RefsSaid): it returns true.
-/
import Derived.Test.YtdgcpeipoiljiaaRefsSaid
import Derived.KernelRfl
namespace Go.Proofs.Ytdgcpeipoiljiaa
open Go.RowKit

def ents12 : List EntD := [⟨[101], [97, 98, 99], false⟩, ⟨[120], [], true⟩]
def r12a : RefD := ref0 ents12
def r12b : RefD := ⟨lookE ents12, [[101]], 3⟩
def r12c : RefD := ⟨lookE ents12, [], 3⟩
def r12d : RefD := ⟨lookE ents12, [], 5⟩
theorem few_ents12 : FewR ents12 := ⟨by decide, by decide⟩
theorem look12_e : lookE ents12 [101] = some (some [97, 98, 99]) := by rfl
theorem look12_l : lookE ents12 [108, 116] = none := by rfl
theorem g12a : getR r12a [108, 116] = ([60], true, 0) := by rfl
theorem g12b : getR r12a [101] = ([97, 98, 99], false, 0) := by rfl
theorem g12c : getR r12a [120] = ([], false, 5) := by rfl
theorem g12d : getR r12a [121] = ([], false, 6) := by rfl
theorem o12a : openT r12a [101] 5 = ([97, 98, 99], 0) ∧ openS r12a [101] 5 = r12b := ⟨by rfl, by rfl⟩
theorem o12b : openT r12b [101] 50 = ([], 1) ∧ openS r12b [101] 50 = r12b := ⟨by rfl, by rfl⟩
theorem o12c : openT r12b [108, 116] 50 = ([], 6) ∧ openS r12b [108, 116] 50 = r12b := ⟨by rfl, by rfl⟩
theorem c12a : closeB r12b [120] = false ∧ closeS r12b [120] = r12b := ⟨by rfl, by rfl⟩
theorem c12b : closeB r12b [101] = true ∧ closeS r12b [101] = r12c := ⟨by rfl, by rfl⟩
theorem o12d : openT r12c [101] 5 = ([], 3) ∧ openS r12c [101] 5 = r12c := ⟨by rfl, by rfl⟩
theorem s12a : spendC r12c 2 5 = 0 ∧ spendS r12c 2 5 = r12d := ⟨by rfl, by rfl⟩
theorem s12b : spendC r12d 1 5 = 3 ∧ spendS r12d 1 5 = r12d := ⟨by rfl, by rfl⟩
theorem fits_small (k : Int) (h0 : 0 ≤ k) (h : k ≤ 1000000) : FitsR k := ⟨by omega, by omega⟩
set_option maxHeartbeats 8000000 in
set_option maxRecDepth 100000 in
theorem told12_any {Is : (Nat → Prop) → World → Value → RefD → Prop} (S : RefsSaid Is) (w : World) :
    Calls Try.prog 11 #[] w fun e w' => e = .returned (.bool true) ∧ Below w.heap.size w w' := by
  have HE := Lib.hid (ents_made w #[.string ⟨#[101]⟩, .string ⟨#[97, 98, 99]⟩, .bool false, .string ⟨#[120]⟩, .string ⟨#[]⟩, .bool true] 25 ents12 2 2 rfl rfl)
  have HB := Lib.hid ((Below.refl w.heap.size w).alloc (Nat.le_refl _) (.cells #[.string ⟨#[101]⟩, .string ⟨#[97, 98, 99]⟩, .bool false, .string ⟨#[120]⟩, .string ⟨#[]⟩, .bool true] 25))
  go_enter Try.func11, Try.ntmps11
  go_wp2_with fail
  refine (rnewAt S ents12 _ _ _ few_ents12 HE.out).mono ?_
  rintro e w1 ⟨p, rfl, h⟩
  have H := Lib.hid (show RAt Is _ (.pointer (some p)) r12a w1 from h)
  clear h HE
  go_wp2_with fail
  refine (rgetAt S [108, 116] [60] ⟨#[60]⟩ rfl _ _ g12a (by decide) H.out).mono ?_
  rintro e wn ⟨rfl, h⟩
  replace H := Lib.hid h
  clear h
  go_wp2_with fail
  refine (rgetAt S [101] [97, 98, 99] ⟨#[97, 98, 99]⟩ rfl _ _ g12b (by decide) H.out).mono ?_
  rintro e wn ⟨rfl, h⟩
  replace H := Lib.hid h
  clear h
  go_wp2_with fail
  refine (rgetAt S [120] [] ⟨#[]⟩ rfl _ _ g12c (by decide) H.out).mono ?_
  rintro e wn ⟨rfl, h⟩
  replace H := Lib.hid h
  clear h
  go_wp2_with fail
  refine (rgetAt S [121] [] ⟨#[]⟩ rfl _ _ g12d (by decide) H.out).mono ?_
  rintro e wn ⟨rfl, h⟩
  replace H := Lib.hid h
  clear h
  go_wp2_with fail
  refine (ropenAt S [101] 5 _ ⟨#[97, 98, 99]⟩ rfl _ _ o12a.1 o12a.2 (by decide) (fits_small _ (by decide) (by decide)) H.out).mono ?_
  rintro e wn ⟨rfl, h⟩
  replace H := Lib.hid h
  clear h
  go_wp2_with fail
  refine (ropenAt S [101] 50 _ ⟨#[]⟩ rfl _ _ o12b.1 o12b.2 (by decide) (fits_small _ (by decide) (by decide)) H.out).mono ?_
  rintro e wn ⟨rfl, h⟩
  replace H := Lib.hid h
  clear h
  go_wp2_with fail
  refine (ropenAt S [108, 116] 50 _ ⟨#[]⟩ rfl _ _ o12c.1 o12c.2 (by decide) (fits_small _ (by decide) (by decide)) H.out).mono ?_
  rintro e wn ⟨rfl, h⟩
  replace H := Lib.hid h
  clear h
  go_wp2_with fail
  refine (rcloseAt S [120] _ _ c12a.1 c12a.2 (by decide) H.out).mono ?_
  rintro e wn ⟨rfl, h⟩
  replace H := Lib.hid h
  clear h
  go_wp2_with fail
  refine (rcloseAt S [101] _ _ c12b.1 c12b.2 (by decide) H.out).mono ?_
  rintro e wn ⟨rfl, h⟩
  replace H := Lib.hid h
  clear h
  go_wp2_with fail
  refine (ropenAt S [101] 5 _ ⟨#[]⟩ rfl _ _ o12d.1 o12d.2 (by decide) (fits_small _ (by decide) (by decide)) H.out).mono ?_
  rintro e wn ⟨rfl, h⟩
  replace H := Lib.hid h
  clear h
  go_wp2_with fail
  refine (rspendAt S 2 5 _ _ s12a.1 s12a.2 (fits_small _ (by decide) (by decide)) (fits_small _ (by decide) (by decide)) H.out).mono ?_
  rintro e wn ⟨rfl, h⟩
  replace H := Lib.hid h
  clear h
  go_wp2_with fail
  refine (rspendAt S 1 5 _ _ s12b.1 s12b.2 (fits_small _ (by decide) (by decide)) (fits_small _ (by decide) (by decide)) H.out).mono ?_
  rintro e wn ⟨rfl, h⟩
  replace H := Lib.hid h
  clear h
  go_wp2_with fail
  refine (S.openNil [101] 5 _ (by decide) (fits_small _ (by decide) (by decide))).mono ?_
  rintro e wn ⟨rfl, h⟩
  replace H := Lib.hid (H.out.other S h)
  clear h
  go_wp2_with fail
  try simp only [List.append_eq, List.cons_append, List.nil_append] at *
  refine (rspentAt S H.out).mono ?_
  rintro e wn ⟨rfl, h⟩
  replace H := Lib.hid h
  clear h
  go_wp2_with fail
  try simp only [List.append_eq, List.cons_append, List.nil_append] at *
  refine (rdepthAt S H.out).mono ?_
  rintro e wn ⟨rfl, h⟩
  replace H := Lib.hid h
  clear h
  go_wp2_with fail
  try simp only [List.append_eq, List.cons_append, List.nil_append] at *
  refine (S.spentNil _).mono ?_
  rintro e wn ⟨rfl, h⟩
  replace H := Lib.hid (H.out.other S h)
  clear h
  go_wp2
  go_ret
  exact ⟨rfl, HB.out.trans (H.out.since.mono HB.out.size)⟩
end Go.Proofs.Ytdgcpeipoiljiaa
