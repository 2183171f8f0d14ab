/-
  WHAT A PUT AND A FIND TELL OF TEXTS THAT STAND THERE AND OF OTHERS; THE CONTRACT OF brackenlaw9.told, out of what is asked of package intern (TabSaid): it returns true.
-/
import Derived.Test.YtkleaedfpgaohaaTabSaid
import Derived.WalkSpells
import Derived.WalkLawsBesides
import Derived.LoopTactic
import Derived.KernelRfl
import Derived.Lib.Hide
namespace Go.Proofs.Ytkleaedfpgaohaa
open Go.RowKit

section
variable {E : Nat → World → Prop} {Is : (Nat → Prop) → World → Value → List ByteArray → List Nat → Int → Prop} {n : Nat} {w0 w : World} {v : Value} {L : List ByteArray} {P : List Nat} {x : Int}
theorem tputNew (S : TabSaid E Is) (s : ByteArray) (hl : L.length < 1048576) (hs : s.size ≤ 1048576) (hno : ∀ j, j < L.length → textAt L j ≠ s) (h : TAt E Is n w0 v L P x w) :
    Calls Try.prog 13 #[v, .string s] w fun e w' => e = .returned (.int .i64 L.length) ∧ ∃ (P' : List Nat) (y : Nat), 1 ≤ y ∧ TAt E Is n w0 v (L ++ [s]) P' y w' := by
  refine (tputAt S s hl hs h).mono ?_
  rintro e w' ⟨rfl, h'⟩
  obtain ⟨h1, h2⟩ := put_new h.nice.good hno
  rw [h2] at h'
  exact ⟨by rw [h1], _, _, look_one h.nice.good s, h'⟩
theorem tputOld (S : TabSaid E Is) (s : ByteArray) (j : Nat) (hl : L.length < 1048576) (hs : s.size ≤ 1048576) (hj : j < L.length) (hjs : textAt L j = s) (h : TAt E Is n w0 v L P x w) :
    Calls Try.prog 13 #[v, .string s] w fun e w' => e = .returned (.int .i64 j) ∧ ∃ y : Nat, 1 ≤ y ∧ TAt E Is n w0 v L P y w' := by
  refine (tputAt S s hl hs h).mono ?_
  rintro e w' ⟨rfl, h'⟩
  obtain ⟨h1, h2, h3⟩ := put_old h.nice.good j hj hjs
  rw [h2, h3] at h'
  exact ⟨by rw [h1], _, look_one h.nice.good s, h'⟩
theorem tfindNew (S : TabSaid E Is) (s : ByteArray) (hl : L.length ≤ 1048576) (hs : s.size ≤ 1048576) (hno : ∀ j, j < L.length → textAt L j ≠ s) (h : TAt E Is n w0 v L P x w) :
    Calls Try.prog 11 #[v, .string s] w fun e w' => e = .returned (.tuple #[.int .i64 0, .bool false]) ∧ ∃ y : Nat, 1 ≤ y ∧ TAt E Is n w0 v L P y w' := by
  refine (tfindAt S s hl hs h).mono ?_
  rintro e w' ⟨rfl, h'⟩
  rw [slot_new h.nice.good hno]
  exact ⟨rfl, _, look_one h.nice.good s, h'⟩
theorem tfindOld (S : TabSaid E Is) (s : ByteArray) (j : Nat) (hl : L.length ≤ 1048576) (hs : s.size ≤ 1048576) (hj : j < L.length) (hjs : textAt L j = s) (h : TAt E Is n w0 v L P x w) :
    Calls Try.prog 11 #[v, .string s] w fun e w' => e = .returned (.tuple #[.int .i64 j, .bool true]) ∧ ∃ y : Nat, 1 ≤ y ∧ y ≤ L.length ∧ TAt E Is n w0 v L P y w' := by
  refine (tfindAt S s hl hs h).mono ?_
  rintro e w' ⟨rfl, h'⟩
  obtain ⟨h1, h2, h3⟩ := slot_old h.nice.good j hj hjs
  rw [h1]
  exact ⟨rfl, _, h2, h3, h'⟩
end
def tA : ByteArray := ⟨#[97]⟩
def tB : ByteArray := ⟨#[98]⟩
def tC : ByteArray := ⟨#[99]⟩
theorem told_b (j : Nat) (h : j < [tA].length) : textAt [tA] j ≠ tB := by
  obtain rfl : j = 0 := by simp at h; omega
  decide
theorem told_c (j : Nat) (h : j < [tA, tB].length) : textAt [tA, tB] j ≠ tC := by
  simp at h
  rcases (show j = 0 ∨ j = 1 by omega) with rfl | rfl <;> decide
theorem hash_none : hashN ⟨#[]⟩ = 14695981039346656037 := by kernel_rfl
theorem hash_a : hashN tA = 12638187200555641996 := by kernel_rfl
theorem fits_1 : Fits64 1 := ⟨by decide, by decide⟩
theorem fits_2 : Fits64 2 := ⟨by decide, by decide⟩
set_option maxHeartbeats 4000000 in
set_option maxRecDepth 100000 in
theorem told9_any {E : Nat → World → Prop} {Is : (Nat → Prop) → World → Value → List ByteArray → List Nat → Int → Prop} (S : TabSaid E Is) (n : Nat) (w : World) (hE : E n w) (hn : n ≤ w.heap.size) :
    Calls Try.prog 7 #[] w fun e w' => e = .returned (.bool true) ∧ Below w.heap.size w w' := by
  have HE := Lib.hid hE
  clear hE
  have hB : tB.toList = [98] := by rw [ByteArray.toList_eq]; rfl
  go_enter Try.func7, Try.ntmps7
  go_wp2_with fail
  refine (tnewAt S HE.out hn (Below.refl _ _)).mono ?_
  rintro e w1 ⟨a, x, rfl, h⟩
  have H := Lib.hid h
  clear h
  go_wp2_with fail
  refine (tputNew S tA (by decide) (by decide) (fun j hj => absurd hj (by simp)) H.out).mono ?_
  rintro e w2 ⟨rfl, P, y, _, h⟩
  replace H := Lib.hid h
  clear h
  go_wp2_with fail
  refine (tputNew S tB (by decide) (by decide) told_b H.out).mono ?_
  rintro e w2 ⟨rfl, P, y, _, h⟩
  replace H := Lib.hid h
  clear h
  go_wp2_with fail
  refine (tputOld S tA 0 (by decide) (by decide) (by decide) (by rfl) H.out).mono ?_
  rintro e w2 ⟨rfl, y, _, h⟩
  replace H := Lib.hid h
  clear h
  go_wp2_with fail
  refine (tfindOld S tB 1 (by decide) (by decide) (by decide) (by rfl) H.out).mono ?_
  rintro e w2 ⟨rfl, y, _, _, h⟩
  replace H := Lib.hid h
  clear h
  go_wp2_with fail
  refine (tfindNew S tC (by decide) (by decide) told_c H.out).mono ?_
  rintro e w2 ⟨rfl, y, _, h⟩
  replace H := Lib.hid h
  clear h
  go_wp2_with fail
  refine (tgetAt S 1 fits_1 (by decide) H.out).mono ?_
  rintro e w2 ⟨rfl, h⟩
  replace H := Lib.hid h
  clear h
  rw [show textG ([tA, tB]) 1 = tB from rfl, show textE ([tA, tB]) 1 = 0 from rfl]
  go_wp2_with fail
  refine (tgetAt S 2 fits_2 (by decide) H.out).mono ?_
  rintro e w2 ⟨rfl, h⟩
  replace H := Lib.hid h
  clear h
  rw [show textG ([tA, tB]) 2 = ⟨#[]⟩ from rfl, show textE ([tA, tB]) 2 = 4 from rfl]
  go_wp2_with fail
  try simp only [List.cons_append, List.nil_append] at *
  refine (tlenAt S (by decide) H.out).mono ?_
  rintro e w2 ⟨rfl, h⟩
  replace H := Lib.hid h
  clear h
  go_wp2_with fail
  refine (S.hash n ⟨#[]⟩ _ H.out.e H.out.n_le (by decide)).mono ?_
  rw [hash_none]
  rintro e w2 ⟨rfl, hb⟩
  replace H := Lib.hid (H.out.other S hb)
  clear hb
  go_wp2_with fail
  refine (S.hash n tA _ H.out.e H.out.n_le (by decide)).mono ?_
  rw [hash_a]
  rintro e w2 ⟨rfl, hb⟩
  replace H := Lib.hid (H.out.other S hb)
  clear hb
  go_wp2_with fail
  refine (S.putNil n tA _ H.out.e H.out.n_le (by decide)).mono ?_
  rintro e w2 ⟨rfl, hb⟩
  replace H := Lib.hid (H.out.other S hb)
  clear hb
  go_wp2_with fail
  refine (S.lenNil n _ H.out.e H.out.n_le).mono ?_
  rintro e w2 ⟨rfl, hb⟩
  replace H := Lib.hid (H.out.other S hb)
  clear hb
  go_wp2
  go_ret
  exact ⟨rfl, H.out.since⟩
end Go.Proofs.Ytkleaedfpgaohaa
