/-
  THE CONTRACT OF brackenlaw13.told, out of what is asked of packages refs and value: it returns true.
-/
import Derived.Test.YtjijjmkeehdooaaGreatDoorValSaid
import Derived.KernelRfl
namespace Go.Proofs.YtjijjmkeehdooaaGreatDoor
open Go.RowKit

theorem fits13 (k : Int) (h0 : 0 ≤ k) (h : k ≤ 1000000) : FitsR k := ⟨by omega, by omega⟩
/-- how deep: as many as are declared -/
theorem room_of (l : List EntD) (o : List (List UInt8)) (n : Nat) : RoomD ⟨lookE l, o, n⟩ l.length := by
  obtain ⟨m, h1, h2⟩ := room_ref0 l
  exact ⟨m, h1, fun x hx => (h2 x hx).imp id (fun h => by cases h)⟩
theorem texts_of {l : List EntD} {k : Nat} (h : ∀ e ∈ l, e.value.length ≤ k) : ∀ x t, lookE l x = some (some t) → t.length ≤ k := by
  intro x t hx
  obtain ⟨_, e, he, _, ho⟩ := lookE_mem hx
  by_cases hext : e.ext = true
  · rw [if_pos hext] at ho; cases ho
  · rw [if_neg hext] at ho
    injection ho with ho
    rw [ho]
    exact h e he
theorem short_of {l : List EntD} {o : List (List UInt8)} {n : Nat} {raw : List UInt8} {most : Int} (h0 : l.length ≤ 1000000) (hl : ∀ e ∈ l, e.value.length ≤ 100000) (hr : raw.length ≤ 100000) {k : Nat} (hn : (rawV l.length ⟨lookE l, o, n⟩ raw most false).2.2.n = k) (hk : k ≤ 1000000) : ShortV l.length ⟨lookE l, o, n⟩ raw most :=
  ⟨h0, room_of l o n, hr, texts_of hl, by rw [hn]; exact hk⟩
def ents13 : List EntD := [⟨[101], [120, 9, 121], false⟩, ⟨[98], [60], false⟩, ⟨[114], [38, 114, 59], false⟩]
theorem few_ents13 : FewR ents13 := ⟨by decide, by decide⟩
theorem short_ents13 : ∀ e ∈ ents13, e.value.length ≤ 100000 := by decide
theorem v13a : readV 3 ⟨lookE ents13, [], 0⟩ [32, 97, 38, 101, 59, 38, 35, 49, 48, 59, 10, 38, 108, 116, 59] 1 100 = ([32, 97, 120, 32, 121, 10, 32, 60], 0, ⟨lookE ents13, [], 3⟩) := by kernel_rfl
theorem w13a : ShortV 3 ⟨lookE ents13, [], 0⟩ [32, 97, 38, 101, 59, 38, 35, 49, 48, 59, 10, 38, 108, 116, 59] 100 := short_of (l := ents13) (by decide) short_ents13 (by decide) (k := 3) (by kernel_rfl) (by decide)
theorem v13b : readV 3 ⟨lookE ents13, [], 3⟩ [32, 32, 97, 32, 32, 98, 32] 2 100 = ([97, 32, 98], 0, ⟨lookE ents13, [], 3⟩) := by kernel_rfl
theorem w13b : ShortV 3 ⟨lookE ents13, [], 3⟩ [32, 32, 97, 32, 32, 98, 32] 100 := short_of (l := ents13) (by decide) short_ents13 (by decide) (k := 3) (by kernel_rfl) (by decide)
theorem v13g : readV 3 ⟨lookE ents13, [], 3⟩ [38, 98, 59] 1 100 = ([], 2, ⟨lookE ents13, [[98]], 4⟩) := by kernel_rfl
theorem w13g : ShortV 3 ⟨lookE ents13, [], 3⟩ [38, 98, 59] 100 := short_of (l := ents13) (by decide) short_ents13 (by decide) (k := 4) (by kernel_rfl) (by decide)
theorem v13h : readV 3 ⟨lookE ents13, [], 0⟩ [38, 114, 59] 1 100 = ([], 2, ⟨lookE ents13, [[114]], 3⟩) := by kernel_rfl
theorem w13h : ShortV 3 ⟨lookE ents13, [], 0⟩ [38, 114, 59] 100 := short_of (l := ents13) (by decide) short_ents13 (by decide) (k := 3) (by kernel_rfl) (by decide)
theorem v13i : readV 3 ⟨lookE ents13, [], 0⟩ [38, 101, 59] 1 2 = ([], 3, ⟨lookE ents13, [], 0⟩) := by kernel_rfl
theorem w13i : ShortV 3 ⟨lookE ents13, [], 0⟩ [38, 101, 59] 2 := short_of (l := ents13) (by decide) short_ents13 (by decide) (k := 0) (by kernel_rfl) (by decide)
theorem v13j : readV 3 ⟨lookE ents13, [[98]], 4⟩ [38] 1 100 = ([], 2, ⟨lookE ents13, [[98]], 4⟩) := by kernel_rfl
theorem w13j : ShortV 3 ⟨lookE ents13, [[98]], 4⟩ [38] 100 := short_of (l := ents13) (by decide) short_ents13 (by decide) (k := 4) (by kernel_rfl) (by decide)
theorem n13 : normL [32, 32, 97, 32, 32, 98, 32] = [97, 32, 98] := by kernel_rfl
theorem t13 : escL false [97, 60, 98, 62, 38, 13, 10] = [97, 38, 108, 116, 59, 98, 38, 103, 116, 59, 38, 97, 109, 112, 59, 38, 35, 49, 51, 59, 10] := by kernel_rfl
theorem a13 : escL true [97, 60, 34, 9, 10, 13, 38, 62] = [97, 38, 108, 116, 59, 38, 113, 117, 111, 116, 59, 38, 35, 57, 59, 38, 35, 49, 48, 59, 38, 35, 49, 51, 59, 38, 97, 109, 112, 59, 62] := by kernel_rfl
set_option maxHeartbeats 8000000 in
set_option maxRecDepth 100000 in
theorem told13_any {E : Nat → World → Prop} {Is : (Nat → Prop) → World → Value → RefD → Prop} (R : RefsSaid Is) (S : ValSaid E Is) (n : Nat) (w : World) (hE : E n w) (hn : n ≤ w.heap.size) :
    Calls Tryz.prog 11 #[] w fun e w' => e = .returned (.bool true) ∧ Below w.heap.size w w' := by
  have hb0 := (Below.refl w.heap.size w).alloc (Nat.le_refl _) (.cells #[.string ⟨#[101]⟩, .string ⟨#[120, 9, 121]⟩, .bool false, .string ⟨#[98]⟩, .string ⟨#[60]⟩, .bool false, .string ⟨#[114]⟩, .string ⟨#[38, 114, 59]⟩, .bool false] 26)
  have hb := hb0.alloc hb0.size (.cells #[.string ⟨#[]⟩, .slice (some ⟨w.heap.size, 0, none⟩) 3 3, .slice none 0 0] 30)
  have HEN := Lib.hid (((ents_made w #[.string ⟨#[101]⟩, .string ⟨#[120, 9, 121]⟩, .bool false, .string ⟨#[98]⟩, .string ⟨#[60]⟩, .bool false, .string ⟨#[114]⟩, .string ⟨#[38, 114, 59]⟩, .bool false] 26 ents13 3 3 rfl rfl).below ((Below.refl _ _).alloc (Nat.le_refl _) (.cells #[.string ⟨#[]⟩, .slice (some ⟨w.heap.size, 0, none⟩) 3 3, .slice none 0 0] 30))).mono ((Below.refl _ _).alloc (Nat.le_refl _) (.cells #[.string ⟨#[]⟩, .slice (some ⟨w.heap.size, 0, none⟩) 3 3, .slice none 0 0] 30)).size)
  have HBX := Lib.hid (box_decls (w.alloc (.cells #[.string ⟨#[101]⟩, .string ⟨#[120, 9, 121]⟩, .bool false, .string ⟨#[98]⟩, .string ⟨#[60]⟩, .bool false, .string ⟨#[114]⟩, .string ⟨#[38, 114, 59]⟩, .bool false] 26)) (.string ⟨#[]⟩) (.slice (some ⟨w.heap.size, 0, none⟩) 3 3) (.slice none 0 0) 30)
  rw [Deep.nblk_alloc w] at HBX
  have HV := Lib.hid (show VAt E n w ((w.alloc (.cells #[.string ⟨#[101]⟩, .string ⟨#[120, 9, 121]⟩, .bool false, .string ⟨#[98]⟩, .string ⟨#[60]⟩, .bool false, .string ⟨#[114]⟩, .string ⟨#[38, 114, 59]⟩, .bool false] 26)).alloc (.cells #[.string ⟨#[]⟩, .slice (some ⟨w.heap.size, 0, none⟩) 3 3, .slice none 0 0] 30)) from ⟨S.stay n w _ hE (hb.mono hn), hn, hb⟩)
  clear hE
  go_enter Tryz.func11, Tryz.ntmps11
  go_wp2_with fail
  obtain ⟨we, hwe⟩ : ∃ we, (w.alloc (.cells #[.string ⟨#[101]⟩, .string ⟨#[120, 9, 121]⟩, .bool false, .string ⟨#[98]⟩, .string ⟨#[60]⟩, .bool false, .string ⟨#[114]⟩, .string ⟨#[38, 114, 59]⟩, .bool false] 26)).alloc (.cells #[.string ⟨#[]⟩, .slice (some ⟨w.heap.size, 0, none⟩) 3 3, .slice none 0 0] 30) = we := ⟨_, rfl⟩
  have HZ := Lib.hid hb.size
  rw [hwe] at HEN HV HZ HBX ⊢
  clear hwe hb hb0
  refine (rnewAt R ents13 _ _ _ few_ents13 HEN.out).mono ?_
  rintro e w1 ⟨p, rfl, h⟩
  replace HV := Lib.hid (HV.out.other S h.since)
  have HR := Lib.hid h
  clear h
  go_wp2_with fail
  refine (vreadAt S 3 [32, 97, 38, 101, 59, 38, 35, 49, 48, 59, 10, 38, 108, 116, 59] 1 100 _ ⟨#[32, 97, 120, 32, 121, 10, 32, 60]⟩ rfl _ _ v13a w13a (fits13 _ (by decide) (by decide)) (fits13 _ (by decide) (by decide)) HV.out HR.out HZ.out).mono ?_
  rintro e w2 ⟨rfl, hv, hr, _⟩
  replace HV := Lib.hid hv
  replace HR := Lib.hid hr
  clear hv hr
  go_wp2_with fail
  refine (vreadAt S 3 [32, 32, 97, 32, 32, 98, 32] 2 100 _ ⟨#[97, 32, 98]⟩ rfl _ _ v13b w13b (fits13 _ (by decide) (by decide)) (fits13 _ (by decide) (by decide)) HV.out HR.out HZ.out).mono ?_
  rintro e w2 ⟨rfl, hv, hr, _⟩
  replace HV := Lib.hid hv
  replace HR := Lib.hid hr
  clear hv hr
  go_wp2_with fail
  refine (vreadAt S 3 [38, 98, 59] 1 100 _ ⟨#[]⟩ rfl _ _ v13g w13g (fits13 _ (by decide) (by decide)) (fits13 _ (by decide) (by decide)) HV.out HR.out HZ.out).mono ?_
  rintro e w2 ⟨rfl, hv, hr, _⟩
  replace HV := Lib.hid hv
  replace HR := Lib.hid hr
  clear hv hr
  have hbx3 := HBX.out _ HR.out.since
  go_wp2_with fail
  clear hbx3
  have HE3 := Lib.hid ((HEN.out.below (HR.out.since)).mono HR.out.since.size)
  refine (rnewAt R ents13 _ _ _ few_ents13 HE3.out).mono ?_
  rintro e w3 ⟨p3, rfl, h⟩
  replace HV := Lib.hid (HV.out.other S h.since)
  have HR3 := Lib.hid h
  clear h
  go_wp2_with fail
  refine (vreadAt S 3 [38, 114, 59] 1 100 _ ⟨#[]⟩ rfl _ _ v13h w13h (fits13 _ (by decide) (by decide)) (fits13 _ (by decide) (by decide)) HV.out HR3.out (Nat.le_trans HZ.out HR.out.since.size)).mono ?_
  rintro e w5 ⟨rfl, hv, hr, _⟩
  replace HV := Lib.hid hv
  replace HR := Lib.hid (HR.out.other R hr.since)
  clear hv hr HR3 HE3
  have hbx4 := HBX.out _ HR.out.since
  go_wp2_with fail
  clear hbx4
  have HE4 := Lib.hid ((HEN.out.below (HR.out.since)).mono HR.out.since.size)
  refine (rnewAt R ents13 _ _ _ few_ents13 HE4.out).mono ?_
  rintro e w4 ⟨p4, rfl, h⟩
  replace HV := Lib.hid (HV.out.other S h.since)
  have HR4 := Lib.hid h
  clear h
  go_wp2_with fail
  refine (vreadAt S 3 [38, 101, 59] 1 2 _ ⟨#[]⟩ rfl _ _ v13i w13i (fits13 _ (by decide) (by decide)) (fits13 _ (by decide) (by decide)) HV.out HR4.out (Nat.le_trans HZ.out HR.out.since.size)).mono ?_
  rintro e w5 ⟨rfl, hv, hr, _⟩
  replace HV := Lib.hid hv
  replace HR := Lib.hid (HR.out.other R hr.since)
  clear hv hr HR4 HE4
  go_wp2_with fail
  refine (vreadAt S 3 [38] 1 100 _ ⟨#[]⟩ rfl _ _ v13j w13j (fits13 _ (by decide) (by decide)) (fits13 _ (by decide) (by decide)) HV.out HR.out HZ.out).mono ?_
  rintro e w2 ⟨rfl, hv, hr, _⟩
  replace HV := Lib.hid hv
  clear hv hr HR
  go_wp2_with fail
  try simp only [List.append_eq, List.cons_append, List.nil_append] at *
  refine (vnormAt S [32, 32, 97, 32, 32, 98, 32] _ ⟨#[97, 32, 98]⟩ rfl n13 (by decide) HV.out).mono ?_
  rintro e w6 ⟨rfl, hv, _⟩
  replace HV := Lib.hid hv
  clear hv
  go_wp2_with fail
  try simp only [List.append_eq, List.cons_append, List.nil_append] at *
  refine (vtextAt S [97, 60, 98, 62, 38, 13, 10] _ ⟨#[97, 38, 108, 116, 59, 98, 38, 103, 116, 59, 38, 97, 109, 112, 59, 38, 35, 49, 51, 59, 10]⟩ rfl t13 (by decide) HV.out).mono ?_
  rintro e w6 ⟨rfl, hv, _⟩
  replace HV := Lib.hid hv
  clear hv
  go_wp2_with fail
  try simp only [List.append_eq, List.cons_append, List.nil_append] at *
  refine (vattrAt S [97, 60, 34, 9, 10, 13, 38, 62] _ ⟨#[97, 38, 108, 116, 59, 38, 113, 117, 111, 116, 59, 38, 35, 57, 59, 38, 35, 49, 48, 59, 38, 35, 49, 51, 59, 38, 97, 109, 112, 59, 62]⟩ rfl a13 (by decide) HV.out).mono ?_
  rintro e w6 ⟨rfl, hv, _⟩
  replace HV := Lib.hid hv
  clear hv
  go_wp2
  go_ret
  exact ⟨rfl, HV.out.since⟩
end Go.Proofs.YtjijjmkeehdooaaGreatDoor
