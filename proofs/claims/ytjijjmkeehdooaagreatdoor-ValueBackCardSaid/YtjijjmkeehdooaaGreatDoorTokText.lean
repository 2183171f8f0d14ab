/-
  THE CONTRACT OF brackenlaw10.Text: some text, of at most 25 bytes a piece; of what was there before the call nothing turns. (Written by gen_toktext.py.)
-/
import Derived.Test.YtjijjmkeehdooaaGreatDoorStrsAt
import Derived.Test.YtjijjmkeehdooaaGreatDoorSymsAt
import Derived.Test.YtjijjmkeehdooaaGreatDoorBitNum
namespace Go.Proofs.YtjijjmkeehdooaaGreatDoor
open Go.RowKit

def tab10 : List ByteArray := [⟨#[60, 97, 62]⟩, ⟨#[60, 47, 97, 62]⟩, ⟨#[60, 98, 47, 62]⟩, ⟨#[60, 97, 32, 120, 61, 39, 49, 39, 62]⟩, ⟨#[60, 112, 58, 98, 32, 112, 58, 121, 61, 34, 50, 34, 32, 120, 109, 108, 110, 115, 58, 112, 61, 39, 117, 39, 62]⟩, ⟨#[60, 47, 112, 58, 98, 62]⟩, ⟨#[116, 101, 120, 116]⟩, ⟨#[32]⟩, ⟨#[38, 108, 116, 59]⟩, ⟨#[38, 35, 54, 53, 59]⟩, ⟨#[38, 35, 120, 49, 70, 54, 48, 48, 59]⟩, ⟨#[38, 101, 59]⟩, ⟨#[38, 102, 59]⟩, ⟨#[60, 33, 45, 45, 99, 45, 45, 62]⟩, ⟨#[60, 33, 45, 45, 32, 45]⟩, ⟨#[45, 45, 62]⟩, ⟨#[60, 63, 112, 105, 32, 100, 63, 62]⟩, ⟨#[60, 63, 112, 105, 63, 62]⟩, ⟨#[60, 63, 120, 109, 108, 63, 62]⟩, ⟨#[60, 33, 91, 67, 68, 65, 84, 65, 91, 60, 38, 93, 93, 62]⟩, ⟨#[93, 93, 62]⟩, ⟨#[60, 97]⟩, ⟨#[62]⟩, ⟨#[60]⟩, ⟨#[38]⟩, ⟨#[38, 35, 59]⟩, ⟨#[38, 35, 120, 59]⟩, ⟨#[60, 97, 32, 120, 61, 49, 62]⟩, ⟨#[60, 97, 32, 120, 61, 39, 60, 39, 62]⟩, ⟨#[60, 97, 32, 32, 120, 32, 61, 32, 39, 113, 39, 32, 47, 62]⟩, ⟨#[60, 97, 32, 120, 61, 39, 49, 39, 32, 120, 61, 39, 50, 39, 47, 62]⟩, ⟨#[10]⟩, ⟨#[13]⟩, ⟨#[195, 169]⟩, ⟨#[60, 195, 169, 47, 62]⟩, ⟨#[60, 97, 32, 120, 109, 108, 110, 115, 61, 39, 117, 39, 47, 62]⟩, ⟨#[60, 120, 109, 108, 58, 97, 47, 62]⟩, ⟨#[60, 97, 32, 120, 109, 108, 58, 105, 100, 61, 39, 32, 49, 32, 39, 47, 62]⟩, ⟨#[38, 97, 109, 112, 59]⟩, ⟨#[39]⟩]
theorem tab10_length : tab10.length = 40 := rfl
theorem tab10_few : ∀ x, x < 40 → (strAt tab10 x).size ≤ 25 := by decide
set_option maxHeartbeats 4000000 in
set_option maxRecDepth 100000 in
theorem text10_any (s : Value) (xs : List Int) (most : Nat) (hmost : most ≤ 1000) (w : World) (hs : SymOK w s xs) :
    Calls Tryz.prog 22 #[s, .int .i64 (most : Int)] w fun e w' => ∃ t : ByteArray, e = .returned (.string t) ∧ t.size ≤ 25 * most ∧ Below w.heap.size w w' := by
  obtain ⟨a, cap, rfl⟩ : ∃ a cap, s = .slice a xs.length cap := by
    obtain ⟨_, a, cap, h, _⟩ := hs
    exact ⟨a, cap, h⟩
  have HC := Lib.hid (fun k hk => SymOK.cell hs k hk)
  have hb0 := (Below.refl w.heap.size w).alloc (Nat.le_refl _) (.cells #[.string ⟨#[60, 97, 62]⟩, .string ⟨#[60, 47, 97, 62]⟩, .string ⟨#[60, 98, 47, 62]⟩, .string ⟨#[60, 97, 32, 120, 61, 39, 49, 39, 62]⟩, .string ⟨#[60, 112, 58, 98, 32, 112, 58, 121, 61, 34, 50, 34, 32, 120, 109, 108, 110, 115, 58, 112, 61, 39, 117, 39, 62]⟩, .string ⟨#[60, 47, 112, 58, 98, 62]⟩, .string ⟨#[116, 101, 120, 116]⟩, .string ⟨#[32]⟩, .string ⟨#[38, 108, 116, 59]⟩, .string ⟨#[38, 35, 54, 53, 59]⟩, .string ⟨#[38, 35, 120, 49, 70, 54, 48, 48, 59]⟩, .string ⟨#[38, 101, 59]⟩, .string ⟨#[38, 102, 59]⟩, .string ⟨#[60, 33, 45, 45, 99, 45, 45, 62]⟩, .string ⟨#[60, 33, 45, 45, 32, 45]⟩, .string ⟨#[45, 45, 62]⟩, .string ⟨#[60, 63, 112, 105, 32, 100, 63, 62]⟩, .string ⟨#[60, 63, 112, 105, 63, 62]⟩, .string ⟨#[60, 63, 120, 109, 108, 63, 62]⟩, .string ⟨#[60, 33, 91, 67, 68, 65, 84, 65, 91, 60, 38, 93, 93, 62]⟩, .string ⟨#[93, 93, 62]⟩, .string ⟨#[60, 97]⟩, .string ⟨#[62]⟩, .string ⟨#[60]⟩, .string ⟨#[38]⟩, .string ⟨#[38, 35, 59]⟩, .string ⟨#[38, 35, 120, 59]⟩, .string ⟨#[60, 97, 32, 120, 61, 49, 62]⟩, .string ⟨#[60, 97, 32, 120, 61, 39, 60, 39, 62]⟩, .string ⟨#[60, 97, 32, 32, 120, 32, 61, 32, 39, 113, 39, 32, 47, 62]⟩, .string ⟨#[60, 97, 32, 120, 61, 39, 49, 39, 32, 120, 61, 39, 50, 39, 47, 62]⟩, .string ⟨#[10]⟩, .string ⟨#[13]⟩, .string ⟨#[195, 169]⟩, .string ⟨#[60, 195, 169, 47, 62]⟩, .string ⟨#[60, 97, 32, 120, 109, 108, 110, 115, 61, 39, 117, 39, 47, 62]⟩, .string ⟨#[60, 120, 109, 108, 58, 97, 47, 62]⟩, .string ⟨#[60, 97, 32, 120, 109, 108, 58, 105, 100, 61, 39, 32, 49, 32, 39, 47, 62]⟩, .string ⟨#[38, 97, 109, 112, 59]⟩, .string ⟨#[39]⟩] 9)
  have hr := strOK_alloc w #[.string ⟨#[60, 97, 62]⟩, .string ⟨#[60, 47, 97, 62]⟩, .string ⟨#[60, 98, 47, 62]⟩, .string ⟨#[60, 97, 32, 120, 61, 39, 49, 39, 62]⟩, .string ⟨#[60, 112, 58, 98, 32, 112, 58, 121, 61, 34, 50, 34, 32, 120, 109, 108, 110, 115, 58, 112, 61, 39, 117, 39, 62]⟩, .string ⟨#[60, 47, 112, 58, 98, 62]⟩, .string ⟨#[116, 101, 120, 116]⟩, .string ⟨#[32]⟩, .string ⟨#[38, 108, 116, 59]⟩, .string ⟨#[38, 35, 54, 53, 59]⟩, .string ⟨#[38, 35, 120, 49, 70, 54, 48, 48, 59]⟩, .string ⟨#[38, 101, 59]⟩, .string ⟨#[38, 102, 59]⟩, .string ⟨#[60, 33, 45, 45, 99, 45, 45, 62]⟩, .string ⟨#[60, 33, 45, 45, 32, 45]⟩, .string ⟨#[45, 45, 62]⟩, .string ⟨#[60, 63, 112, 105, 32, 100, 63, 62]⟩, .string ⟨#[60, 63, 112, 105, 63, 62]⟩, .string ⟨#[60, 63, 120, 109, 108, 63, 62]⟩, .string ⟨#[60, 33, 91, 67, 68, 65, 84, 65, 91, 60, 38, 93, 93, 62]⟩, .string ⟨#[93, 93, 62]⟩, .string ⟨#[60, 97]⟩, .string ⟨#[62]⟩, .string ⟨#[60]⟩, .string ⟨#[38]⟩, .string ⟨#[38, 35, 59]⟩, .string ⟨#[38, 35, 120, 59]⟩, .string ⟨#[60, 97, 32, 120, 61, 49, 62]⟩, .string ⟨#[60, 97, 32, 120, 61, 39, 60, 39, 62]⟩, .string ⟨#[60, 97, 32, 32, 120, 32, 61, 32, 39, 113, 39, 32, 47, 62]⟩, .string ⟨#[60, 97, 32, 120, 61, 39, 49, 39, 32, 120, 61, 39, 50, 39, 47, 62]⟩, .string ⟨#[10]⟩, .string ⟨#[13]⟩, .string ⟨#[195, 169]⟩, .string ⟨#[60, 195, 169, 47, 62]⟩, .string ⟨#[60, 97, 32, 120, 109, 108, 110, 115, 61, 39, 117, 39, 47, 62]⟩, .string ⟨#[60, 120, 109, 108, 58, 97, 47, 62]⟩, .string ⟨#[60, 97, 32, 120, 109, 108, 58, 105, 100, 61, 39, 32, 49, 32, 39, 47, 62]⟩, .string ⟨#[38, 97, 109, 112, 59]⟩, .string ⟨#[39]⟩] (0, 0) tab10 40 40 rfl rfl (Nat.le_refl _)
  clear hs
  go_enter Tryz.func22, Tryz.ntmps22
  go_wp2
  obtain ⟨W0, hW0⟩ : ∃ W0, w.alloc (.cells #[.string ⟨#[60, 97, 62]⟩, .string ⟨#[60, 47, 97, 62]⟩, .string ⟨#[60, 98, 47, 62]⟩, .string ⟨#[60, 97, 32, 120, 61, 39, 49, 39, 62]⟩, .string ⟨#[60, 112, 58, 98, 32, 112, 58, 121, 61, 34, 50, 34, 32, 120, 109, 108, 110, 115, 58, 112, 61, 39, 117, 39, 62]⟩, .string ⟨#[60, 47, 112, 58, 98, 62]⟩, .string ⟨#[116, 101, 120, 116]⟩, .string ⟨#[32]⟩, .string ⟨#[38, 108, 116, 59]⟩, .string ⟨#[38, 35, 54, 53, 59]⟩, .string ⟨#[38, 35, 120, 49, 70, 54, 48, 48, 59]⟩, .string ⟨#[38, 101, 59]⟩, .string ⟨#[38, 102, 59]⟩, .string ⟨#[60, 33, 45, 45, 99, 45, 45, 62]⟩, .string ⟨#[60, 33, 45, 45, 32, 45]⟩, .string ⟨#[45, 45, 62]⟩, .string ⟨#[60, 63, 112, 105, 32, 100, 63, 62]⟩, .string ⟨#[60, 63, 112, 105, 63, 62]⟩, .string ⟨#[60, 63, 120, 109, 108, 63, 62]⟩, .string ⟨#[60, 33, 91, 67, 68, 65, 84, 65, 91, 60, 38, 93, 93, 62]⟩, .string ⟨#[93, 93, 62]⟩, .string ⟨#[60, 97]⟩, .string ⟨#[62]⟩, .string ⟨#[60]⟩, .string ⟨#[38]⟩, .string ⟨#[38, 35, 59]⟩, .string ⟨#[38, 35, 120, 59]⟩, .string ⟨#[60, 97, 32, 120, 61, 49, 62]⟩, .string ⟨#[60, 97, 32, 120, 61, 39, 60, 39, 62]⟩, .string ⟨#[60, 97, 32, 32, 120, 32, 61, 32, 39, 113, 39, 32, 47, 62]⟩, .string ⟨#[60, 97, 32, 120, 61, 39, 49, 39, 32, 120, 61, 39, 50, 39, 47, 62]⟩, .string ⟨#[10]⟩, .string ⟨#[13]⟩, .string ⟨#[195, 169]⟩, .string ⟨#[60, 195, 169, 47, 62]⟩, .string ⟨#[60, 97, 32, 120, 109, 108, 110, 115, 61, 39, 117, 39, 47, 62]⟩, .string ⟨#[60, 120, 109, 108, 58, 97, 47, 62]⟩, .string ⟨#[60, 97, 32, 120, 109, 108, 58, 105, 100, 61, 39, 32, 49, 32, 39, 47, 62]⟩, .string ⟨#[38, 97, 109, 112, 59]⟩, .string ⟨#[39]⟩] 9) = W0 := ⟨_, rfl⟩
  rw [hW0] at hb0 hr ⊢
  have HB := Lib.hid hb0
  have HR := Lib.hid (fun k hk => StrOK.cell hr k hk)
  clear hW0 hb0 hr
  go_loopw [6, 7] (fun tv iv wr => wr = W0 ∧ ∃ (i : Nat) (t : ByteArray), i ≤ xs.length ∧ i ≤ most ∧ iv = .int .i64 i ∧ tv = .string t ∧ t.size ≤ 25 * i) (fun _ iv _ => xs.length - (intOf iv).toNat)
  case atStart => exact ⟨rfl, 0, ⟨#[]⟩, Nat.zero_le _, Nat.zero_le _, rfl, rfl, Nat.le_refl _⟩
  case round =>
    obtain ⟨rfl, i, t, hil, him, rfl, rfl, ht⟩ := hrel
    by_cases hlt : i < xs.length
    · have g1 : decide ((i : Int) < (xs.length : Int)) = true := decide_eq_true (by omega)
      by_cases hm : i < most
      · have g2 : decide ((i : Int) < (most : Int)) = true := decide_eq_true (by omega)
        obtain ⟨z, hz⟩ : ∃ z, xs.getD i 0 = z := ⟨_, rfl⟩
        obtain ⟨g, off, rfl, hg, hc⟩ := HC.out i hlt
        have hcell : wr.cell? ⟨g, off + i, none⟩ = some (.int .i64 z) := by rw [HB.out.cell (p := ⟨g, off + i, none⟩) hg, ← hz]; exact hc i hlt
        obtain ⟨u, x, hk1, hk2, hk3, hk4, hk5⟩ := wrap_mod z 40 (by decide) (by decide)
        replace hk2 : Int.tmod (u : Int) 40 = (x : Int) := hk2
        obtain ⟨gt, ot, e1, _, hct⟩ := HR.out x (by rw [tab10_length]; exact hk3)
        have hct2 := hct x (by rw [tab10_length]; exact hk3)
        have hfew := tab10_few x hk3
        generalize strAt tab10 x = tx at *
        injection e1 with e1
        injection e1 with e2 e3
        subst e2; subst e3
        rw [Nat.zero_add] at hct2
        have i1 : (x : Int) < 40 := by clear hk1 hk2 hk4 hk5; omega
        have i2 : (0 : Int) ≤ (x : Int) := by clear hk1 hk2 hk4 hk5; omega
        have hsz : (t ++ tx).size ≤ 25 * (i + 1) := by rw [ByteArray.size_append]; clear hk1 hk2 hk4 hk5; omega
        have HSZ := Lib.hid hsz
        have hti : t.size ≤ 25000 := by clear hk1 hk2 hk4 hk5; omega
        clear hz hc hct hsz
        go_wp2
        go_roundw
        case rel => exact ⟨by trivial, i + 1, t ++ tx, hlt, hm, by go_num, rfl, HSZ.out⟩
        case measure => clear hk1 hk2 hk4 hk5; simp [intOf]; omega
      · have g2 : decide ((i : Int) < (most : Int)) = false := decide_eq_false (by omega)
        go_wp2
        go_ret
        exact ⟨t, rfl, by omega, HB.out⟩
    · have g1 : decide ((i : Int) < (xs.length : Int)) = false := decide_eq_false (by omega)
      go_wp2
      go_ret
      exact ⟨t, rfl, by have : 25 * i ≤ 25 * most := Nat.mul_le_mul_left _ him; omega, HB.out⟩
end Go.Proofs.YtjijjmkeehdooaaGreatDoor
