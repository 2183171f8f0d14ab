/-
  THE CONTRACT OF brackenlaw14.told, out of what is asked of package scope (ScSaid): it returns true.
-/
import Derived.Test.YthhnpnjnlbjdjaaScAts
import Derived.Handy
namespace Go.Proofs.Ythhnpnjnlbjdjaa
open Go.RowKit

section
variable {Is : (Nat → Prop) → World → Value → List (List Bd) → Prop} {w0 w w1 wk : World} {v : Value} {S : List (List Bd)} {K : Nat → Prop}
theorem suriB (R : ScSaid Is) (s t : ByteArray) (b : Bool) (hs : s.data.toList.length ≤ 8388608) (ht : bytes (uriS S s.data.toList) = t) (hb : isS S s.data.toList = b) (h : SAt Is w0 v K wk S w) :
    Calls Try.prog 13 #[v, .string s] w fun e w' => e = .returned (.tuple #[.string t, .bool b]) ∧ SAt Is w0 v K wk S w' := by
  subst ht; subst hb
  exact suriAt R s.data.toList hs h
theorem sprefB (R : ScSaid Is) (s t : ByteArray) (b : Bool) (hs : s.data.toList.length ≤ 8388608) (ht : bytes (prefS S s.data.toList) = t) (hb : prefE S s.data.toList = b) (h : SAt Is w0 v K wk S w) :
    Calls Try.prog 14 #[v, .string s] w fun e w' => e = .returned (.tuple #[.string t, .bool b]) ∧ SAt Is w0 v K wk S w' := by
  subst ht; subst hb
  exact sprefAt R s.data.toList hs h
theorem spushB (R : ScSaid Is) (l : List At4) (c : Int) (S' : List (List Bd)) (C : Array Value) (n : Nat) (hC : C = (flatA l).toArray) (hn : n = l.length) (hfew : S.length < 1048576) (hl : l.length ≤ 1048576) (hfit : ∀ a ∈ l, FitA a) (hc : pushE l = c) (hS : pushS S l = S') (h : SAt Is w0 v K wk S w) :
    Calls Try.prog 9 #[v, .slice (some ⟨w.heap.size, 0, none⟩) n n] (w.alloc (.cells C 35)) fun e w' => e = .returned (.int .i64 c) ∧ SAt Is w0 v K wk S' w' := by
  subst hc; subst hS
  exact spushAt R l _ hfew hl hfit h ((Below.refl _ _).alloc (Nat.le_refl _) _) (ats_new w l C hC n hn _ (Nat.le_refl _))
theorem spopB (R : ScSaid Is) (S' : List (List Bd)) (b : Bool) (hS : S.tail = S') (hb : decide (S ≠ []) = b) (h : SAt Is w0 v K wk S w) : Calls Try.prog 17 #[v] w fun e w' => e = .returned (.bool b) ∧ SAt Is w0 v K wk S' w' := by
  subst hS; subst hb
  exact spopAt R h
end
def l14a : List At4 := [⟨[], xmlnsN, xmlnsU, [100]⟩, ⟨xmlnsN, [112], xmlnsU, [117]⟩, ⟨[], [120], [], [121]⟩]
def l14b : List At4 := [⟨[], xmlnsN, xmlnsU, []⟩, ⟨xmlnsN, [97], xmlnsU, [117]⟩]
def l14c : List At4 := [⟨xmlnsN, [112], xmlnsU, []⟩]
def s14a : List (List Bd) := [[([], [100]), ([112], [117])]]
def s14b : List (List Bd) := [([], []), ([97], [117])] :: s14a
theorem fit14 {l : List At4} (h : (l.all fun a => decide (a.loc.length ≤ 8388608) && decide (a.val.length ≤ 8388608)) = true) : ∀ a ∈ l, FitA a := by
  intro a ha
  have h1 := List.all_eq_true.1 h a ha
  simp only [Bool.and_eq_true, decide_eq_true_eq] at h1
  exact h1
theorem t14_all : (allS s14b).map declA = [⟨xmlnsN, [97], xmlnsU, [117]⟩, ⟨xmlnsN, [112], xmlnsU, [117]⟩, ⟨xmlnsN, xmlN, xmlnsU, xmlU⟩] := by kernel_rfl
set_option maxHeartbeats 8000000 in
set_option maxRecDepth 100000 in
theorem told14_any {Is : (Nat → Prop) → World → Value → List (List Bd) → Prop} (R : ScSaid Is) (w : World) :
    Calls Try.prog 15 #[] w fun e w' => e = .returned (.bool true) ∧ Below w.heap.size w w' := by
  have CN := Lib.hid (snewAt (w0 := w) R (Below.refl _ w))
  go_enter Try.func15, Try.ntmps15
  go_wp2_with fail
  refine CN.out.mono ?_
  rintro e w1 ⟨a, rfl, h⟩
  have H := Lib.hid h
  clear h CN
  go_wp2_with fail
  refine (spushB R l14a 0 s14a _ 3 rfl rfl (by decide) (by decide) (fit14 (by kernel_rfl)) (by kernel_rfl) (by kernel_rfl) H.out).mono ?_
  rintro e w1 ⟨rfl, h⟩
  replace H := Lib.hid h
  clear h
  go_wp2_with fail
  refine (spushB R l14b 0 s14b _ 2 rfl rfl (by decide) (by decide) (fit14 (by kernel_rfl)) (by kernel_rfl) (by kernel_rfl) H.out).mono ?_
  rintro e w1 ⟨rfl, h⟩
  replace H := Lib.hid h
  clear h
  go_wp2_with fail
  refine (spushB R l14c 2 s14b _ 1 rfl rfl (by decide) (by decide) (fit14 (by kernel_rfl)) (by kernel_rfl) (by kernel_rfl) H.out).mono ?_
  rintro e w1 ⟨rfl, h⟩
  replace H := Lib.hid h
  clear h
  go_wp2_with fail
  refine (suriB R _ ⟨#[117]⟩ true (by decide) (by kernel_rfl) (by kernel_rfl) H.out).mono ?_
  rintro e w1 ⟨rfl, h⟩
  replace H := Lib.hid h
  clear h
  go_wp2_with fail
  refine (suriB R _ ⟨#[]⟩ true (by decide) (by kernel_rfl) (by kernel_rfl) H.out).mono ?_
  rintro e w1 ⟨rfl, h⟩
  replace H := Lib.hid h
  clear h
  go_wp2_with fail
  refine (suriB R _ ⟨#[]⟩ false (by decide) (by kernel_rfl) (by kernel_rfl) H.out).mono ?_
  rintro e w1 ⟨rfl, h⟩
  replace H := Lib.hid h
  clear h
  go_wp2_with fail
  refine (sprefB R _ ⟨#[97]⟩ true (by decide) (by kernel_rfl) (by kernel_rfl) H.out).mono ?_
  rintro e w1 ⟨rfl, h⟩
  replace H := Lib.hid h
  clear h
  go_wp2_with fail
  refine (sprefB R _ ⟨#[]⟩ false (by decide) (by kernel_rfl) (by kernel_rfl) H.out).mono ?_
  rintro e w1 ⟨rfl, h⟩
  replace H := Lib.hid h
  clear h
  go_wp2_with fail
  refine (sallAt R H.out).mono ?_
  rintro e w1 ⟨sl, rfl, K, h, ha, _⟩
  rw [t14_all] at ha
  obtain ⟨sa, sc, rfl⟩ := ha.slice
  obtain ⟨b, off, rfl, _, _, _, _⟩ := ha.cell (by decide)
  have HA := Lib.hid ha
  have HB := Lib.hid h
  clear h ha H
  go_wp2_with fail
  refine (sdepthAt R HB.out).mono ?_
  rintro e w1 ⟨rfl, h⟩
  have H := Lib.hid h
  clear h
  go_wp2_with fail
  refine (spopB R s14a true rfl rfl H.out).mono ?_
  rintro e w1 ⟨rfl, h⟩
  replace H := Lib.hid h
  clear h
  go_wp2_with fail
  refine (spopB R [] true rfl rfl H.out).mono ?_
  rintro e w1 ⟨rfl, h⟩
  replace H := Lib.hid h
  clear h
  go_wp2_with fail
  refine (spopB R [] false rfl rfl H.out).mono ?_
  rintro e w1 ⟨rfl, h⟩
  replace H := Lib.hid h
  clear h
  go_wp2_with fail
  refine (suriB R _ ⟨#[104, 116, 116, 112, 58, 47, 47, 119, 119, 119, 46, 119, 51, 46, 111, 114, 103, 47, 88, 77, 76, 47, 49, 57, 57, 56, 47, 110, 97, 109, 101, 115, 112, 97, 99, 101]⟩ true (by decide) (by kernel_rfl) (by kernel_rfl) H.out).mono ?_
  rintro e w1 ⟨rfl, h⟩
  have hx := h.ats HA.out
  obtain ⟨b', off', e1, _, _, _, hc⟩ := hx.cell (by decide)
  injection e1 with e1
  injection e1 with e1 e2 _
  subst e1; subst e2
  have k01 := (hc 0 (by decide)).2.1
  replace k01 : w1.cell? ⟨b, off + 1, none⟩ = some (.string ⟨#[97]⟩) := k01
  have k21 := (hc 2 (by decide)).2.1
  have k21a : w1.cell? ⟨b, off + 8 + 1, none⟩ = some (.string ⟨#[120, 109, 108]⟩) := k21
  have k21b : w1.cell? ⟨b, off + 9, none⟩ = some (.string ⟨#[120, 109, 108]⟩) := k21
  have HE := Lib.hid h.since
  clear h hx hc k21 H HA HB
  go_wp2
  go_ret
  exact ⟨rfl, HE.out⟩
end Go.Proofs.Ythhnpnjnlbjdjaa
