/-
  LAW ScopeRules. (Written by gen_screst.py.)
-/
import Derived.Test.YthhnpnjnlbjdjaaScTold
import Derived.Test.YthhnpnjnlbjdjaaBitNum
namespace Go.Proofs.Ythhnpnjnlbjdjaa
open Go.RowKit

theorem box4 (w : World) (c0 c1 c2 c3 : Value) (t : TypeId) : ∀ W, Below (w.alloc (.cells #[c0, c1, c2, c3] t)).heap.size (w.alloc (.cells #[c0, c1, c2, c3] t)) W →
    W.cell? ⟨w.heap.size, 0, none⟩ = some c0 ∧ W.cell? ⟨w.heap.size, 1, none⟩ = some c1 ∧ W.cell? ⟨w.heap.size, 2, none⟩ = some c2 ∧ W.cell? ⟨w.heap.size, 3, none⟩ = some c3 := by
  intro W h
  have hl : w.heap.size < (w.alloc (.cells #[c0, c1, c2, c3] t)).heap.size := by show _ < (w.heap.push _).size; rw [Array.size_push]; omega
  have key : ∀ i u, #[c0, c1, c2, c3][i]? = some u → W.cell? ⟨w.heap.size, i, none⟩ = some u := fun i u hu => (h.cell (p := ⟨w.heap.size, i, none⟩) hl).trans ((cell_of_row _ _ i _ _ (0, 0) (heap_alloc_new w _)).trans hu)
  exact ⟨key 0 _ rfl, key 1 _ rfl, key 2 _ rfl, key 3 _ rfl⟩
section
variable {Is : (Nat → Prop) → World → Value → List (List Bd) → Prop} {w0 w wk : World} {v : Value} {S : List (List Bd)} {K : Nat → Prop}
theorem sdepthB (R : ScSaid Is) (n : Int) (hn : (S.length : Int) = n) (h : SAt Is w0 v K wk S w) : Calls Try.prog 21 #[v] w fun e w' => e = .returned (.int .i64 n) ∧ SAt Is w0 v K wk S w' := by
  subst hn
  exact sdepthAt R h
end
theorem two_allocs (w : World) (o o' : Obj) : ((w.alloc o).alloc o').heap.size = w.heap.size + 1 + 1 := by show ((w.heap.push _).push _).size = _; rw [Array.size_push, Array.size_push]
set_option maxHeartbeats 4000000 in
set_option maxRecDepth 100000 in
theorem rules_00 {Is : (Nat → Prop) → World → Value → List (List Bd) → Prop} (R : ScSaid Is) (p u a b : Int) (w : World) (h1 : IntKind.u64.wrap p = a) (h2 : Int.tmod a 4 = 0) (h3 : IntKind.u64.wrap u = b) (h4 : Int.tmod b 4 = 0) :
    Calls Try.prog 6 #[.int .i64 p, .int .i64 u] w fun e w' => e = .returned (.bool true) ∧ Below w.heap.size w w' := by
  have CT := Lib.hid (fun W => told14_any R W)
  have HB0 := Lib.hid ((((Below.refl w.heap.size w).alloc (Nat.le_refl _) (.cells #[.string ⟨#[120, 109, 108]⟩, .string ⟨#[120, 109, 108, 110, 115]⟩, .string ⟨#[112]⟩, .string ⟨#[]⟩] 9)).alloc (by show _ ≤ (w.heap.push _).size; rw [Array.size_push]; omega) (.cells #[.string ⟨#[104, 116, 116, 112, 58, 47, 47, 119, 119, 119, 46, 119, 51, 46, 111, 114, 103, 47, 88, 77, 76, 47, 49, 57, 57, 56, 47, 110, 97, 109, 101, 115, 112, 97, 99, 101]⟩, .string ⟨#[104, 116, 116, 112, 58, 47, 47, 119, 119, 119, 46, 119, 51, 46, 111, 114, 103, 47, 50, 48, 48, 48, 47, 120, 109, 108, 110, 115, 47]⟩, .string ⟨#[117]⟩, .string ⟨#[]⟩] 9)).alloc (by rw [two_allocs]; omega) (.cells #[.string ⟨#[120, 109, 108, 110, 115]⟩, .string ⟨#[120, 109, 108]⟩, .string ⟨#[104, 116, 116, 112, 58, 47, 47, 119, 119, 119, 46, 119, 51, 46, 111, 114, 103, 47, 50, 48, 48, 48, 47, 120, 109, 108, 110, 115, 47]⟩, .string ⟨#[104, 116, 116, 112, 58, 47, 47, 119, 119, 119, 46, 119, 51, 46, 111, 114, 103, 47, 88, 77, 76, 47, 49, 57, 57, 56, 47, 110, 97, 109, 101, 115, 112, 97, 99, 101]⟩] 35))
  have HX := Lib.hid (box4 ((w.alloc (.cells #[.string ⟨#[120, 109, 108]⟩, .string ⟨#[120, 109, 108, 110, 115]⟩, .string ⟨#[112]⟩, .string ⟨#[]⟩] 9)).alloc (.cells #[.string ⟨#[104, 116, 116, 112, 58, 47, 47, 119, 119, 119, 46, 119, 51, 46, 111, 114, 103, 47, 88, 77, 76, 47, 49, 57, 57, 56, 47, 110, 97, 109, 101, 115, 112, 97, 99, 101]⟩, .string ⟨#[104, 116, 116, 112, 58, 47, 47, 119, 119, 119, 46, 119, 51, 46, 111, 114, 103, 47, 50, 48, 48, 48, 47, 120, 109, 108, 110, 115, 47]⟩, .string ⟨#[117]⟩, .string ⟨#[]⟩] 9)) (.string ⟨#[120, 109, 108, 110, 115]⟩) (.string ⟨#[120, 109, 108]⟩) (.string ⟨#[104, 116, 116, 112, 58, 47, 47, 119, 119, 119, 46, 119, 51, 46, 111, 114, 103, 47, 50, 48, 48, 48, 47, 120, 109, 108, 110, 115, 47]⟩) (.string ⟨#[104, 116, 116, 112, 58, 47, 47, 119, 119, 119, 46, 119, 51, 46, 111, 114, 103, 47, 88, 77, 76, 47, 49, 57, 57, 56, 47, 110, 97, 109, 101, 115, 112, 97, 99, 101]⟩) 35)
  have hsz := two_allocs w (.cells #[.string ⟨#[120, 109, 108]⟩, .string ⟨#[120, 109, 108, 110, 115]⟩, .string ⟨#[112]⟩, .string ⟨#[]⟩] 9) (.cells #[.string ⟨#[104, 116, 116, 112, 58, 47, 47, 119, 119, 119, 46, 119, 51, 46, 111, 114, 103, 47, 88, 77, 76, 47, 49, 57, 57, 56, 47, 110, 97, 109, 101, 115, 112, 97, 99, 101]⟩, .string ⟨#[104, 116, 116, 112, 58, 47, 47, 119, 119, 119, 46, 119, 51, 46, 111, 114, 103, 47, 50, 48, 48, 48, 47, 120, 109, 108, 110, 115, 47]⟩, .string ⟨#[117]⟩, .string ⟨#[]⟩] 9)
  rw [hsz] at HX
  clear hsz
  go_enter Try.func6, Try.ntmps6
  go_wp2_with fail
  refine (snewAt R (Below.refl _ _)).mono ?_
  rintro e w1 ⟨q, rfl, h⟩
  have H := Lib.hid h
  obtain ⟨k0, k1, k2, k3⟩ := HX.out w1 h.since
  clear h HX
  go_wp2_with fail
  refine (spushB R [⟨xmlnsN, xmlN, xmlnsU, xmlU⟩] 0 [[(xmlN, xmlU)]] _ 1 rfl rfl (by decide) (by decide) (fit14 (by kernel_rfl)) (by kernel_rfl) (by kernel_rfl) H.out).mono ?_
  rintro e w1 ⟨rfl, h⟩
  replace H := Lib.hid h
  clear h k0 k1 k2 k3
  go_wp2_with fail
  refine (sdepthB R 1 (by kernel_rfl) H.out).mono ?_
  rintro e w1 ⟨rfl, h⟩
  replace H := Lib.hid h
  clear h
  go_wp2_with fail
  refine (suriB R _ ⟨#[104, 116, 116, 112, 58, 47, 47, 119, 119, 119, 46, 119, 51, 46, 111, 114, 103, 47, 88, 77, 76, 47, 49, 57, 57, 56, 47, 110, 97, 109, 101, 115, 112, 97, 99, 101]⟩ true (by decide) (by kernel_rfl) (by kernel_rfl) H.out).mono ?_
  rintro e w1 ⟨rfl, h⟩
  replace H := Lib.hid h
  clear h
  go_wp2_with fail
  refine (CT.out _).mono ?_
  rintro e w2 ⟨rfl, hb⟩
  have HE := Lib.hid (HB0.out.trans ((H.out.since.trans (hb.mono H.out.since.size)).mono HB0.out.size))
  clear hb H HB0
  go_wp2
  go_ret
  exact ⟨rfl, HE.out⟩
set_option maxHeartbeats 4000000 in
set_option maxRecDepth 100000 in
theorem rules_01 {Is : (Nat → Prop) → World → Value → List (List Bd) → Prop} (R : ScSaid Is) (p u a b : Int) (w : World) (h1 : IntKind.u64.wrap p = a) (h2 : Int.tmod a 4 = 0) (h3 : IntKind.u64.wrap u = b) (h4 : Int.tmod b 4 = 1) :
    Calls Try.prog 6 #[.int .i64 p, .int .i64 u] w fun e w' => e = .returned (.bool true) ∧ Below w.heap.size w w' := by
  have CT := Lib.hid (fun W => told14_any R W)
  have HB0 := Lib.hid ((((Below.refl w.heap.size w).alloc (Nat.le_refl _) (.cells #[.string ⟨#[120, 109, 108]⟩, .string ⟨#[120, 109, 108, 110, 115]⟩, .string ⟨#[112]⟩, .string ⟨#[]⟩] 9)).alloc (by show _ ≤ (w.heap.push _).size; rw [Array.size_push]; omega) (.cells #[.string ⟨#[104, 116, 116, 112, 58, 47, 47, 119, 119, 119, 46, 119, 51, 46, 111, 114, 103, 47, 88, 77, 76, 47, 49, 57, 57, 56, 47, 110, 97, 109, 101, 115, 112, 97, 99, 101]⟩, .string ⟨#[104, 116, 116, 112, 58, 47, 47, 119, 119, 119, 46, 119, 51, 46, 111, 114, 103, 47, 50, 48, 48, 48, 47, 120, 109, 108, 110, 115, 47]⟩, .string ⟨#[117]⟩, .string ⟨#[]⟩] 9)).alloc (by rw [two_allocs]; omega) (.cells #[.string ⟨#[120, 109, 108, 110, 115]⟩, .string ⟨#[120, 109, 108]⟩, .string ⟨#[104, 116, 116, 112, 58, 47, 47, 119, 119, 119, 46, 119, 51, 46, 111, 114, 103, 47, 50, 48, 48, 48, 47, 120, 109, 108, 110, 115, 47]⟩, .string ⟨#[104, 116, 116, 112, 58, 47, 47, 119, 119, 119, 46, 119, 51, 46, 111, 114, 103, 47, 50, 48, 48, 48, 47, 120, 109, 108, 110, 115, 47]⟩] 35))
  have HX := Lib.hid (box4 ((w.alloc (.cells #[.string ⟨#[120, 109, 108]⟩, .string ⟨#[120, 109, 108, 110, 115]⟩, .string ⟨#[112]⟩, .string ⟨#[]⟩] 9)).alloc (.cells #[.string ⟨#[104, 116, 116, 112, 58, 47, 47, 119, 119, 119, 46, 119, 51, 46, 111, 114, 103, 47, 88, 77, 76, 47, 49, 57, 57, 56, 47, 110, 97, 109, 101, 115, 112, 97, 99, 101]⟩, .string ⟨#[104, 116, 116, 112, 58, 47, 47, 119, 119, 119, 46, 119, 51, 46, 111, 114, 103, 47, 50, 48, 48, 48, 47, 120, 109, 108, 110, 115, 47]⟩, .string ⟨#[117]⟩, .string ⟨#[]⟩] 9)) (.string ⟨#[120, 109, 108, 110, 115]⟩) (.string ⟨#[120, 109, 108]⟩) (.string ⟨#[104, 116, 116, 112, 58, 47, 47, 119, 119, 119, 46, 119, 51, 46, 111, 114, 103, 47, 50, 48, 48, 48, 47, 120, 109, 108, 110, 115, 47]⟩) (.string ⟨#[104, 116, 116, 112, 58, 47, 47, 119, 119, 119, 46, 119, 51, 46, 111, 114, 103, 47, 50, 48, 48, 48, 47, 120, 109, 108, 110, 115, 47]⟩) 35)
  have hsz := two_allocs w (.cells #[.string ⟨#[120, 109, 108]⟩, .string ⟨#[120, 109, 108, 110, 115]⟩, .string ⟨#[112]⟩, .string ⟨#[]⟩] 9) (.cells #[.string ⟨#[104, 116, 116, 112, 58, 47, 47, 119, 119, 119, 46, 119, 51, 46, 111, 114, 103, 47, 88, 77, 76, 47, 49, 57, 57, 56, 47, 110, 97, 109, 101, 115, 112, 97, 99, 101]⟩, .string ⟨#[104, 116, 116, 112, 58, 47, 47, 119, 119, 119, 46, 119, 51, 46, 111, 114, 103, 47, 50, 48, 48, 48, 47, 120, 109, 108, 110, 115, 47]⟩, .string ⟨#[117]⟩, .string ⟨#[]⟩] 9)
  rw [hsz] at HX
  clear hsz
  go_enter Try.func6, Try.ntmps6
  go_wp2_with fail
  refine (snewAt R (Below.refl _ _)).mono ?_
  rintro e w1 ⟨q, rfl, h⟩
  have H := Lib.hid h
  obtain ⟨k0, k1, k2, k3⟩ := HX.out w1 h.since
  clear h HX
  go_wp2_with fail
  refine (spushB R [⟨xmlnsN, xmlN, xmlnsU, xmlnsU⟩] 2 [] _ 1 rfl rfl (by decide) (by decide) (fit14 (by kernel_rfl)) (by kernel_rfl) (by kernel_rfl) H.out).mono ?_
  rintro e w1 ⟨rfl, h⟩
  replace H := Lib.hid h
  clear h k0 k1 k2 k3
  go_wp2_with fail
  refine (sdepthB R 0 (by kernel_rfl) H.out).mono ?_
  rintro e w1 ⟨rfl, h⟩
  replace H := Lib.hid h
  clear h
  go_wp2_with fail
  refine (suriB R _ ⟨#[104, 116, 116, 112, 58, 47, 47, 119, 119, 119, 46, 119, 51, 46, 111, 114, 103, 47, 88, 77, 76, 47, 49, 57, 57, 56, 47, 110, 97, 109, 101, 115, 112, 97, 99, 101]⟩ true (by decide) (by kernel_rfl) (by kernel_rfl) H.out).mono ?_
  rintro e w1 ⟨rfl, h⟩
  replace H := Lib.hid h
  clear h
  go_wp2_with fail
  refine (CT.out _).mono ?_
  rintro e w2 ⟨rfl, hb⟩
  have HE := Lib.hid (HB0.out.trans ((H.out.since.trans (hb.mono H.out.since.size)).mono HB0.out.size))
  clear hb H HB0
  go_wp2
  go_ret
  exact ⟨rfl, HE.out⟩
set_option maxHeartbeats 4000000 in
set_option maxRecDepth 100000 in
theorem rules_02 {Is : (Nat → Prop) → World → Value → List (List Bd) → Prop} (R : ScSaid Is) (p u a b : Int) (w : World) (h1 : IntKind.u64.wrap p = a) (h2 : Int.tmod a 4 = 0) (h3 : IntKind.u64.wrap u = b) (h4 : Int.tmod b 4 = 2) :
    Calls Try.prog 6 #[.int .i64 p, .int .i64 u] w fun e w' => e = .returned (.bool true) ∧ Below w.heap.size w w' := by
  have CT := Lib.hid (fun W => told14_any R W)
  have HB0 := Lib.hid ((((Below.refl w.heap.size w).alloc (Nat.le_refl _) (.cells #[.string ⟨#[120, 109, 108]⟩, .string ⟨#[120, 109, 108, 110, 115]⟩, .string ⟨#[112]⟩, .string ⟨#[]⟩] 9)).alloc (by show _ ≤ (w.heap.push _).size; rw [Array.size_push]; omega) (.cells #[.string ⟨#[104, 116, 116, 112, 58, 47, 47, 119, 119, 119, 46, 119, 51, 46, 111, 114, 103, 47, 88, 77, 76, 47, 49, 57, 57, 56, 47, 110, 97, 109, 101, 115, 112, 97, 99, 101]⟩, .string ⟨#[104, 116, 116, 112, 58, 47, 47, 119, 119, 119, 46, 119, 51, 46, 111, 114, 103, 47, 50, 48, 48, 48, 47, 120, 109, 108, 110, 115, 47]⟩, .string ⟨#[117]⟩, .string ⟨#[]⟩] 9)).alloc (by rw [two_allocs]; omega) (.cells #[.string ⟨#[120, 109, 108, 110, 115]⟩, .string ⟨#[120, 109, 108]⟩, .string ⟨#[104, 116, 116, 112, 58, 47, 47, 119, 119, 119, 46, 119, 51, 46, 111, 114, 103, 47, 50, 48, 48, 48, 47, 120, 109, 108, 110, 115, 47]⟩, .string ⟨#[117]⟩] 35))
  have HX := Lib.hid (box4 ((w.alloc (.cells #[.string ⟨#[120, 109, 108]⟩, .string ⟨#[120, 109, 108, 110, 115]⟩, .string ⟨#[112]⟩, .string ⟨#[]⟩] 9)).alloc (.cells #[.string ⟨#[104, 116, 116, 112, 58, 47, 47, 119, 119, 119, 46, 119, 51, 46, 111, 114, 103, 47, 88, 77, 76, 47, 49, 57, 57, 56, 47, 110, 97, 109, 101, 115, 112, 97, 99, 101]⟩, .string ⟨#[104, 116, 116, 112, 58, 47, 47, 119, 119, 119, 46, 119, 51, 46, 111, 114, 103, 47, 50, 48, 48, 48, 47, 120, 109, 108, 110, 115, 47]⟩, .string ⟨#[117]⟩, .string ⟨#[]⟩] 9)) (.string ⟨#[120, 109, 108, 110, 115]⟩) (.string ⟨#[120, 109, 108]⟩) (.string ⟨#[104, 116, 116, 112, 58, 47, 47, 119, 119, 119, 46, 119, 51, 46, 111, 114, 103, 47, 50, 48, 48, 48, 47, 120, 109, 108, 110, 115, 47]⟩) (.string ⟨#[117]⟩) 35)
  have hsz := two_allocs w (.cells #[.string ⟨#[120, 109, 108]⟩, .string ⟨#[120, 109, 108, 110, 115]⟩, .string ⟨#[112]⟩, .string ⟨#[]⟩] 9) (.cells #[.string ⟨#[104, 116, 116, 112, 58, 47, 47, 119, 119, 119, 46, 119, 51, 46, 111, 114, 103, 47, 88, 77, 76, 47, 49, 57, 57, 56, 47, 110, 97, 109, 101, 115, 112, 97, 99, 101]⟩, .string ⟨#[104, 116, 116, 112, 58, 47, 47, 119, 119, 119, 46, 119, 51, 46, 111, 114, 103, 47, 50, 48, 48, 48, 47, 120, 109, 108, 110, 115, 47]⟩, .string ⟨#[117]⟩, .string ⟨#[]⟩] 9)
  rw [hsz] at HX
  clear hsz
  go_enter Try.func6, Try.ntmps6
  go_wp2_with fail
  refine (snewAt R (Below.refl _ _)).mono ?_
  rintro e w1 ⟨q, rfl, h⟩
  have H := Lib.hid h
  obtain ⟨k0, k1, k2, k3⟩ := HX.out w1 h.since
  clear h HX
  go_wp2_with fail
  refine (spushB R [⟨xmlnsN, xmlN, xmlnsU, [117]⟩] 2 [] _ 1 rfl rfl (by decide) (by decide) (fit14 (by kernel_rfl)) (by kernel_rfl) (by kernel_rfl) H.out).mono ?_
  rintro e w1 ⟨rfl, h⟩
  replace H := Lib.hid h
  clear h k0 k1 k2 k3
  go_wp2_with fail
  refine (sdepthB R 0 (by kernel_rfl) H.out).mono ?_
  rintro e w1 ⟨rfl, h⟩
  replace H := Lib.hid h
  clear h
  go_wp2_with fail
  refine (suriB R _ ⟨#[104, 116, 116, 112, 58, 47, 47, 119, 119, 119, 46, 119, 51, 46, 111, 114, 103, 47, 88, 77, 76, 47, 49, 57, 57, 56, 47, 110, 97, 109, 101, 115, 112, 97, 99, 101]⟩ true (by decide) (by kernel_rfl) (by kernel_rfl) H.out).mono ?_
  rintro e w1 ⟨rfl, h⟩
  replace H := Lib.hid h
  clear h
  go_wp2_with fail
  refine (CT.out _).mono ?_
  rintro e w2 ⟨rfl, hb⟩
  have HE := Lib.hid (HB0.out.trans ((H.out.since.trans (hb.mono H.out.since.size)).mono HB0.out.size))
  clear hb H HB0
  go_wp2
  go_ret
  exact ⟨rfl, HE.out⟩
set_option maxHeartbeats 4000000 in
set_option maxRecDepth 100000 in
theorem rules_03 {Is : (Nat → Prop) → World → Value → List (List Bd) → Prop} (R : ScSaid Is) (p u a b : Int) (w : World) (h1 : IntKind.u64.wrap p = a) (h2 : Int.tmod a 4 = 0) (h3 : IntKind.u64.wrap u = b) (h4 : Int.tmod b 4 = 3) :
    Calls Try.prog 6 #[.int .i64 p, .int .i64 u] w fun e w' => e = .returned (.bool true) ∧ Below w.heap.size w w' := by
  have CT := Lib.hid (fun W => told14_any R W)
  have HB0 := Lib.hid ((((Below.refl w.heap.size w).alloc (Nat.le_refl _) (.cells #[.string ⟨#[120, 109, 108]⟩, .string ⟨#[120, 109, 108, 110, 115]⟩, .string ⟨#[112]⟩, .string ⟨#[]⟩] 9)).alloc (by show _ ≤ (w.heap.push _).size; rw [Array.size_push]; omega) (.cells #[.string ⟨#[104, 116, 116, 112, 58, 47, 47, 119, 119, 119, 46, 119, 51, 46, 111, 114, 103, 47, 88, 77, 76, 47, 49, 57, 57, 56, 47, 110, 97, 109, 101, 115, 112, 97, 99, 101]⟩, .string ⟨#[104, 116, 116, 112, 58, 47, 47, 119, 119, 119, 46, 119, 51, 46, 111, 114, 103, 47, 50, 48, 48, 48, 47, 120, 109, 108, 110, 115, 47]⟩, .string ⟨#[117]⟩, .string ⟨#[]⟩] 9)).alloc (by rw [two_allocs]; omega) (.cells #[.string ⟨#[120, 109, 108, 110, 115]⟩, .string ⟨#[120, 109, 108]⟩, .string ⟨#[104, 116, 116, 112, 58, 47, 47, 119, 119, 119, 46, 119, 51, 46, 111, 114, 103, 47, 50, 48, 48, 48, 47, 120, 109, 108, 110, 115, 47]⟩, .string ⟨#[]⟩] 35))
  have HX := Lib.hid (box4 ((w.alloc (.cells #[.string ⟨#[120, 109, 108]⟩, .string ⟨#[120, 109, 108, 110, 115]⟩, .string ⟨#[112]⟩, .string ⟨#[]⟩] 9)).alloc (.cells #[.string ⟨#[104, 116, 116, 112, 58, 47, 47, 119, 119, 119, 46, 119, 51, 46, 111, 114, 103, 47, 88, 77, 76, 47, 49, 57, 57, 56, 47, 110, 97, 109, 101, 115, 112, 97, 99, 101]⟩, .string ⟨#[104, 116, 116, 112, 58, 47, 47, 119, 119, 119, 46, 119, 51, 46, 111, 114, 103, 47, 50, 48, 48, 48, 47, 120, 109, 108, 110, 115, 47]⟩, .string ⟨#[117]⟩, .string ⟨#[]⟩] 9)) (.string ⟨#[120, 109, 108, 110, 115]⟩) (.string ⟨#[120, 109, 108]⟩) (.string ⟨#[104, 116, 116, 112, 58, 47, 47, 119, 119, 119, 46, 119, 51, 46, 111, 114, 103, 47, 50, 48, 48, 48, 47, 120, 109, 108, 110, 115, 47]⟩) (.string ⟨#[]⟩) 35)
  have hsz := two_allocs w (.cells #[.string ⟨#[120, 109, 108]⟩, .string ⟨#[120, 109, 108, 110, 115]⟩, .string ⟨#[112]⟩, .string ⟨#[]⟩] 9) (.cells #[.string ⟨#[104, 116, 116, 112, 58, 47, 47, 119, 119, 119, 46, 119, 51, 46, 111, 114, 103, 47, 88, 77, 76, 47, 49, 57, 57, 56, 47, 110, 97, 109, 101, 115, 112, 97, 99, 101]⟩, .string ⟨#[104, 116, 116, 112, 58, 47, 47, 119, 119, 119, 46, 119, 51, 46, 111, 114, 103, 47, 50, 48, 48, 48, 47, 120, 109, 108, 110, 115, 47]⟩, .string ⟨#[117]⟩, .string ⟨#[]⟩] 9)
  rw [hsz] at HX
  clear hsz
  go_enter Try.func6, Try.ntmps6
  go_wp2_with fail
  refine (snewAt R (Below.refl _ _)).mono ?_
  rintro e w1 ⟨q, rfl, h⟩
  have H := Lib.hid h
  obtain ⟨k0, k1, k2, k3⟩ := HX.out w1 h.since
  clear h HX
  go_wp2_with fail
  refine (spushB R [⟨xmlnsN, xmlN, xmlnsU, []⟩] 2 [] _ 1 rfl rfl (by decide) (by decide) (fit14 (by kernel_rfl)) (by kernel_rfl) (by kernel_rfl) H.out).mono ?_
  rintro e w1 ⟨rfl, h⟩
  replace H := Lib.hid h
  clear h k0 k1 k2 k3
  go_wp2_with fail
  refine (sdepthB R 0 (by kernel_rfl) H.out).mono ?_
  rintro e w1 ⟨rfl, h⟩
  replace H := Lib.hid h
  clear h
  go_wp2_with fail
  refine (suriB R _ ⟨#[104, 116, 116, 112, 58, 47, 47, 119, 119, 119, 46, 119, 51, 46, 111, 114, 103, 47, 88, 77, 76, 47, 49, 57, 57, 56, 47, 110, 97, 109, 101, 115, 112, 97, 99, 101]⟩ true (by decide) (by kernel_rfl) (by kernel_rfl) H.out).mono ?_
  rintro e w1 ⟨rfl, h⟩
  replace H := Lib.hid h
  clear h
  go_wp2_with fail
  refine (CT.out _).mono ?_
  rintro e w2 ⟨rfl, hb⟩
  have HE := Lib.hid (HB0.out.trans ((H.out.since.trans (hb.mono H.out.since.size)).mono HB0.out.size))
  clear hb H HB0
  go_wp2
  go_ret
  exact ⟨rfl, HE.out⟩
set_option maxHeartbeats 4000000 in
set_option maxRecDepth 100000 in
theorem rules_10 {Is : (Nat → Prop) → World → Value → List (List Bd) → Prop} (R : ScSaid Is) (p u a b : Int) (w : World) (h1 : IntKind.u64.wrap p = a) (h2 : Int.tmod a 4 = 1) (h3 : IntKind.u64.wrap u = b) (h4 : Int.tmod b 4 = 0) :
    Calls Try.prog 6 #[.int .i64 p, .int .i64 u] w fun e w' => e = .returned (.bool true) ∧ Below w.heap.size w w' := by
  have CT := Lib.hid (fun W => told14_any R W)
  have HB0 := Lib.hid ((((Below.refl w.heap.size w).alloc (Nat.le_refl _) (.cells #[.string ⟨#[120, 109, 108]⟩, .string ⟨#[120, 109, 108, 110, 115]⟩, .string ⟨#[112]⟩, .string ⟨#[]⟩] 9)).alloc (by show _ ≤ (w.heap.push _).size; rw [Array.size_push]; omega) (.cells #[.string ⟨#[104, 116, 116, 112, 58, 47, 47, 119, 119, 119, 46, 119, 51, 46, 111, 114, 103, 47, 88, 77, 76, 47, 49, 57, 57, 56, 47, 110, 97, 109, 101, 115, 112, 97, 99, 101]⟩, .string ⟨#[104, 116, 116, 112, 58, 47, 47, 119, 119, 119, 46, 119, 51, 46, 111, 114, 103, 47, 50, 48, 48, 48, 47, 120, 109, 108, 110, 115, 47]⟩, .string ⟨#[117]⟩, .string ⟨#[]⟩] 9)).alloc (by rw [two_allocs]; omega) (.cells #[.string ⟨#[120, 109, 108, 110, 115]⟩, .string ⟨#[120, 109, 108, 110, 115]⟩, .string ⟨#[104, 116, 116, 112, 58, 47, 47, 119, 119, 119, 46, 119, 51, 46, 111, 114, 103, 47, 50, 48, 48, 48, 47, 120, 109, 108, 110, 115, 47]⟩, .string ⟨#[104, 116, 116, 112, 58, 47, 47, 119, 119, 119, 46, 119, 51, 46, 111, 114, 103, 47, 88, 77, 76, 47, 49, 57, 57, 56, 47, 110, 97, 109, 101, 115, 112, 97, 99, 101]⟩] 35))
  have HX := Lib.hid (box4 ((w.alloc (.cells #[.string ⟨#[120, 109, 108]⟩, .string ⟨#[120, 109, 108, 110, 115]⟩, .string ⟨#[112]⟩, .string ⟨#[]⟩] 9)).alloc (.cells #[.string ⟨#[104, 116, 116, 112, 58, 47, 47, 119, 119, 119, 46, 119, 51, 46, 111, 114, 103, 47, 88, 77, 76, 47, 49, 57, 57, 56, 47, 110, 97, 109, 101, 115, 112, 97, 99, 101]⟩, .string ⟨#[104, 116, 116, 112, 58, 47, 47, 119, 119, 119, 46, 119, 51, 46, 111, 114, 103, 47, 50, 48, 48, 48, 47, 120, 109, 108, 110, 115, 47]⟩, .string ⟨#[117]⟩, .string ⟨#[]⟩] 9)) (.string ⟨#[120, 109, 108, 110, 115]⟩) (.string ⟨#[120, 109, 108, 110, 115]⟩) (.string ⟨#[104, 116, 116, 112, 58, 47, 47, 119, 119, 119, 46, 119, 51, 46, 111, 114, 103, 47, 50, 48, 48, 48, 47, 120, 109, 108, 110, 115, 47]⟩) (.string ⟨#[104, 116, 116, 112, 58, 47, 47, 119, 119, 119, 46, 119, 51, 46, 111, 114, 103, 47, 88, 77, 76, 47, 49, 57, 57, 56, 47, 110, 97, 109, 101, 115, 112, 97, 99, 101]⟩) 35)
  have hsz := two_allocs w (.cells #[.string ⟨#[120, 109, 108]⟩, .string ⟨#[120, 109, 108, 110, 115]⟩, .string ⟨#[112]⟩, .string ⟨#[]⟩] 9) (.cells #[.string ⟨#[104, 116, 116, 112, 58, 47, 47, 119, 119, 119, 46, 119, 51, 46, 111, 114, 103, 47, 88, 77, 76, 47, 49, 57, 57, 56, 47, 110, 97, 109, 101, 115, 112, 97, 99, 101]⟩, .string ⟨#[104, 116, 116, 112, 58, 47, 47, 119, 119, 119, 46, 119, 51, 46, 111, 114, 103, 47, 50, 48, 48, 48, 47, 120, 109, 108, 110, 115, 47]⟩, .string ⟨#[117]⟩, .string ⟨#[]⟩] 9)
  rw [hsz] at HX
  clear hsz
  go_enter Try.func6, Try.ntmps6
  go_wp2_with fail
  refine (snewAt R (Below.refl _ _)).mono ?_
  rintro e w1 ⟨q, rfl, h⟩
  have H := Lib.hid h
  obtain ⟨k0, k1, k2, k3⟩ := HX.out w1 h.since
  clear h HX
  go_wp2_with fail
  refine (spushB R [⟨xmlnsN, xmlnsN, xmlnsU, xmlU⟩] 2 [] _ 1 rfl rfl (by decide) (by decide) (fit14 (by kernel_rfl)) (by kernel_rfl) (by kernel_rfl) H.out).mono ?_
  rintro e w1 ⟨rfl, h⟩
  replace H := Lib.hid h
  clear h k0 k1 k2 k3
  go_wp2_with fail
  refine (sdepthB R 0 (by kernel_rfl) H.out).mono ?_
  rintro e w1 ⟨rfl, h⟩
  replace H := Lib.hid h
  clear h
  go_wp2_with fail
  refine (suriB R _ ⟨#[]⟩ false (by decide) (by kernel_rfl) (by kernel_rfl) H.out).mono ?_
  rintro e w1 ⟨rfl, h⟩
  replace H := Lib.hid h
  clear h
  go_wp2_with fail
  refine (CT.out _).mono ?_
  rintro e w2 ⟨rfl, hb⟩
  have HE := Lib.hid (HB0.out.trans ((H.out.since.trans (hb.mono H.out.since.size)).mono HB0.out.size))
  clear hb H HB0
  go_wp2
  go_ret
  exact ⟨rfl, HE.out⟩
set_option maxHeartbeats 4000000 in
set_option maxRecDepth 100000 in
theorem rules_11 {Is : (Nat → Prop) → World → Value → List (List Bd) → Prop} (R : ScSaid Is) (p u a b : Int) (w : World) (h1 : IntKind.u64.wrap p = a) (h2 : Int.tmod a 4 = 1) (h3 : IntKind.u64.wrap u = b) (h4 : Int.tmod b 4 = 1) :
    Calls Try.prog 6 #[.int .i64 p, .int .i64 u] w fun e w' => e = .returned (.bool true) ∧ Below w.heap.size w w' := by
  have CT := Lib.hid (fun W => told14_any R W)
  have HB0 := Lib.hid ((((Below.refl w.heap.size w).alloc (Nat.le_refl _) (.cells #[.string ⟨#[120, 109, 108]⟩, .string ⟨#[120, 109, 108, 110, 115]⟩, .string ⟨#[112]⟩, .string ⟨#[]⟩] 9)).alloc (by show _ ≤ (w.heap.push _).size; rw [Array.size_push]; omega) (.cells #[.string ⟨#[104, 116, 116, 112, 58, 47, 47, 119, 119, 119, 46, 119, 51, 46, 111, 114, 103, 47, 88, 77, 76, 47, 49, 57, 57, 56, 47, 110, 97, 109, 101, 115, 112, 97, 99, 101]⟩, .string ⟨#[104, 116, 116, 112, 58, 47, 47, 119, 119, 119, 46, 119, 51, 46, 111, 114, 103, 47, 50, 48, 48, 48, 47, 120, 109, 108, 110, 115, 47]⟩, .string ⟨#[117]⟩, .string ⟨#[]⟩] 9)).alloc (by rw [two_allocs]; omega) (.cells #[.string ⟨#[120, 109, 108, 110, 115]⟩, .string ⟨#[120, 109, 108, 110, 115]⟩, .string ⟨#[104, 116, 116, 112, 58, 47, 47, 119, 119, 119, 46, 119, 51, 46, 111, 114, 103, 47, 50, 48, 48, 48, 47, 120, 109, 108, 110, 115, 47]⟩, .string ⟨#[104, 116, 116, 112, 58, 47, 47, 119, 119, 119, 46, 119, 51, 46, 111, 114, 103, 47, 50, 48, 48, 48, 47, 120, 109, 108, 110, 115, 47]⟩] 35))
  have HX := Lib.hid (box4 ((w.alloc (.cells #[.string ⟨#[120, 109, 108]⟩, .string ⟨#[120, 109, 108, 110, 115]⟩, .string ⟨#[112]⟩, .string ⟨#[]⟩] 9)).alloc (.cells #[.string ⟨#[104, 116, 116, 112, 58, 47, 47, 119, 119, 119, 46, 119, 51, 46, 111, 114, 103, 47, 88, 77, 76, 47, 49, 57, 57, 56, 47, 110, 97, 109, 101, 115, 112, 97, 99, 101]⟩, .string ⟨#[104, 116, 116, 112, 58, 47, 47, 119, 119, 119, 46, 119, 51, 46, 111, 114, 103, 47, 50, 48, 48, 48, 47, 120, 109, 108, 110, 115, 47]⟩, .string ⟨#[117]⟩, .string ⟨#[]⟩] 9)) (.string ⟨#[120, 109, 108, 110, 115]⟩) (.string ⟨#[120, 109, 108, 110, 115]⟩) (.string ⟨#[104, 116, 116, 112, 58, 47, 47, 119, 119, 119, 46, 119, 51, 46, 111, 114, 103, 47, 50, 48, 48, 48, 47, 120, 109, 108, 110, 115, 47]⟩) (.string ⟨#[104, 116, 116, 112, 58, 47, 47, 119, 119, 119, 46, 119, 51, 46, 111, 114, 103, 47, 50, 48, 48, 48, 47, 120, 109, 108, 110, 115, 47]⟩) 35)
  have hsz := two_allocs w (.cells #[.string ⟨#[120, 109, 108]⟩, .string ⟨#[120, 109, 108, 110, 115]⟩, .string ⟨#[112]⟩, .string ⟨#[]⟩] 9) (.cells #[.string ⟨#[104, 116, 116, 112, 58, 47, 47, 119, 119, 119, 46, 119, 51, 46, 111, 114, 103, 47, 88, 77, 76, 47, 49, 57, 57, 56, 47, 110, 97, 109, 101, 115, 112, 97, 99, 101]⟩, .string ⟨#[104, 116, 116, 112, 58, 47, 47, 119, 119, 119, 46, 119, 51, 46, 111, 114, 103, 47, 50, 48, 48, 48, 47, 120, 109, 108, 110, 115, 47]⟩, .string ⟨#[117]⟩, .string ⟨#[]⟩] 9)
  rw [hsz] at HX
  clear hsz
  go_enter Try.func6, Try.ntmps6
  go_wp2_with fail
  refine (snewAt R (Below.refl _ _)).mono ?_
  rintro e w1 ⟨q, rfl, h⟩
  have H := Lib.hid h
  obtain ⟨k0, k1, k2, k3⟩ := HX.out w1 h.since
  clear h HX
  go_wp2_with fail
  refine (spushB R [⟨xmlnsN, xmlnsN, xmlnsU, xmlnsU⟩] 2 [] _ 1 rfl rfl (by decide) (by decide) (fit14 (by kernel_rfl)) (by kernel_rfl) (by kernel_rfl) H.out).mono ?_
  rintro e w1 ⟨rfl, h⟩
  replace H := Lib.hid h
  clear h k0 k1 k2 k3
  go_wp2_with fail
  refine (sdepthB R 0 (by kernel_rfl) H.out).mono ?_
  rintro e w1 ⟨rfl, h⟩
  replace H := Lib.hid h
  clear h
  go_wp2_with fail
  refine (suriB R _ ⟨#[]⟩ false (by decide) (by kernel_rfl) (by kernel_rfl) H.out).mono ?_
  rintro e w1 ⟨rfl, h⟩
  replace H := Lib.hid h
  clear h
  go_wp2_with fail
  refine (CT.out _).mono ?_
  rintro e w2 ⟨rfl, hb⟩
  have HE := Lib.hid (HB0.out.trans ((H.out.since.trans (hb.mono H.out.since.size)).mono HB0.out.size))
  clear hb H HB0
  go_wp2
  go_ret
  exact ⟨rfl, HE.out⟩
set_option maxHeartbeats 4000000 in
set_option maxRecDepth 100000 in
theorem rules_12 {Is : (Nat → Prop) → World → Value → List (List Bd) → Prop} (R : ScSaid Is) (p u a b : Int) (w : World) (h1 : IntKind.u64.wrap p = a) (h2 : Int.tmod a 4 = 1) (h3 : IntKind.u64.wrap u = b) (h4 : Int.tmod b 4 = 2) :
    Calls Try.prog 6 #[.int .i64 p, .int .i64 u] w fun e w' => e = .returned (.bool true) ∧ Below w.heap.size w w' := by
  have CT := Lib.hid (fun W => told14_any R W)
  have HB0 := Lib.hid ((((Below.refl w.heap.size w).alloc (Nat.le_refl _) (.cells #[.string ⟨#[120, 109, 108]⟩, .string ⟨#[120, 109, 108, 110, 115]⟩, .string ⟨#[112]⟩, .string ⟨#[]⟩] 9)).alloc (by show _ ≤ (w.heap.push _).size; rw [Array.size_push]; omega) (.cells #[.string ⟨#[104, 116, 116, 112, 58, 47, 47, 119, 119, 119, 46, 119, 51, 46, 111, 114, 103, 47, 88, 77, 76, 47, 49, 57, 57, 56, 47, 110, 97, 109, 101, 115, 112, 97, 99, 101]⟩, .string ⟨#[104, 116, 116, 112, 58, 47, 47, 119, 119, 119, 46, 119, 51, 46, 111, 114, 103, 47, 50, 48, 48, 48, 47, 120, 109, 108, 110, 115, 47]⟩, .string ⟨#[117]⟩, .string ⟨#[]⟩] 9)).alloc (by rw [two_allocs]; omega) (.cells #[.string ⟨#[120, 109, 108, 110, 115]⟩, .string ⟨#[120, 109, 108, 110, 115]⟩, .string ⟨#[104, 116, 116, 112, 58, 47, 47, 119, 119, 119, 46, 119, 51, 46, 111, 114, 103, 47, 50, 48, 48, 48, 47, 120, 109, 108, 110, 115, 47]⟩, .string ⟨#[117]⟩] 35))
  have HX := Lib.hid (box4 ((w.alloc (.cells #[.string ⟨#[120, 109, 108]⟩, .string ⟨#[120, 109, 108, 110, 115]⟩, .string ⟨#[112]⟩, .string ⟨#[]⟩] 9)).alloc (.cells #[.string ⟨#[104, 116, 116, 112, 58, 47, 47, 119, 119, 119, 46, 119, 51, 46, 111, 114, 103, 47, 88, 77, 76, 47, 49, 57, 57, 56, 47, 110, 97, 109, 101, 115, 112, 97, 99, 101]⟩, .string ⟨#[104, 116, 116, 112, 58, 47, 47, 119, 119, 119, 46, 119, 51, 46, 111, 114, 103, 47, 50, 48, 48, 48, 47, 120, 109, 108, 110, 115, 47]⟩, .string ⟨#[117]⟩, .string ⟨#[]⟩] 9)) (.string ⟨#[120, 109, 108, 110, 115]⟩) (.string ⟨#[120, 109, 108, 110, 115]⟩) (.string ⟨#[104, 116, 116, 112, 58, 47, 47, 119, 119, 119, 46, 119, 51, 46, 111, 114, 103, 47, 50, 48, 48, 48, 47, 120, 109, 108, 110, 115, 47]⟩) (.string ⟨#[117]⟩) 35)
  have hsz := two_allocs w (.cells #[.string ⟨#[120, 109, 108]⟩, .string ⟨#[120, 109, 108, 110, 115]⟩, .string ⟨#[112]⟩, .string ⟨#[]⟩] 9) (.cells #[.string ⟨#[104, 116, 116, 112, 58, 47, 47, 119, 119, 119, 46, 119, 51, 46, 111, 114, 103, 47, 88, 77, 76, 47, 49, 57, 57, 56, 47, 110, 97, 109, 101, 115, 112, 97, 99, 101]⟩, .string ⟨#[104, 116, 116, 112, 58, 47, 47, 119, 119, 119, 46, 119, 51, 46, 111, 114, 103, 47, 50, 48, 48, 48, 47, 120, 109, 108, 110, 115, 47]⟩, .string ⟨#[117]⟩, .string ⟨#[]⟩] 9)
  rw [hsz] at HX
  clear hsz
  go_enter Try.func6, Try.ntmps6
  go_wp2_with fail
  refine (snewAt R (Below.refl _ _)).mono ?_
  rintro e w1 ⟨q, rfl, h⟩
  have H := Lib.hid h
  obtain ⟨k0, k1, k2, k3⟩ := HX.out w1 h.since
  clear h HX
  go_wp2_with fail
  refine (spushB R [⟨xmlnsN, xmlnsN, xmlnsU, [117]⟩] 2 [] _ 1 rfl rfl (by decide) (by decide) (fit14 (by kernel_rfl)) (by kernel_rfl) (by kernel_rfl) H.out).mono ?_
  rintro e w1 ⟨rfl, h⟩
  replace H := Lib.hid h
  clear h k0 k1 k2 k3
  go_wp2_with fail
  refine (sdepthB R 0 (by kernel_rfl) H.out).mono ?_
  rintro e w1 ⟨rfl, h⟩
  replace H := Lib.hid h
  clear h
  go_wp2_with fail
  refine (suriB R _ ⟨#[]⟩ false (by decide) (by kernel_rfl) (by kernel_rfl) H.out).mono ?_
  rintro e w1 ⟨rfl, h⟩
  replace H := Lib.hid h
  clear h
  go_wp2_with fail
  refine (CT.out _).mono ?_
  rintro e w2 ⟨rfl, hb⟩
  have HE := Lib.hid (HB0.out.trans ((H.out.since.trans (hb.mono H.out.since.size)).mono HB0.out.size))
  clear hb H HB0
  go_wp2
  go_ret
  exact ⟨rfl, HE.out⟩
set_option maxHeartbeats 4000000 in
set_option maxRecDepth 100000 in
theorem rules_13 {Is : (Nat → Prop) → World → Value → List (List Bd) → Prop} (R : ScSaid Is) (p u a b : Int) (w : World) (h1 : IntKind.u64.wrap p = a) (h2 : Int.tmod a 4 = 1) (h3 : IntKind.u64.wrap u = b) (h4 : Int.tmod b 4 = 3) :
    Calls Try.prog 6 #[.int .i64 p, .int .i64 u] w fun e w' => e = .returned (.bool true) ∧ Below w.heap.size w w' := by
  have CT := Lib.hid (fun W => told14_any R W)
  have HB0 := Lib.hid ((((Below.refl w.heap.size w).alloc (Nat.le_refl _) (.cells #[.string ⟨#[120, 109, 108]⟩, .string ⟨#[120, 109, 108, 110, 115]⟩, .string ⟨#[112]⟩, .string ⟨#[]⟩] 9)).alloc (by show _ ≤ (w.heap.push _).size; rw [Array.size_push]; omega) (.cells #[.string ⟨#[104, 116, 116, 112, 58, 47, 47, 119, 119, 119, 46, 119, 51, 46, 111, 114, 103, 47, 88, 77, 76, 47, 49, 57, 57, 56, 47, 110, 97, 109, 101, 115, 112, 97, 99, 101]⟩, .string ⟨#[104, 116, 116, 112, 58, 47, 47, 119, 119, 119, 46, 119, 51, 46, 111, 114, 103, 47, 50, 48, 48, 48, 47, 120, 109, 108, 110, 115, 47]⟩, .string ⟨#[117]⟩, .string ⟨#[]⟩] 9)).alloc (by rw [two_allocs]; omega) (.cells #[.string ⟨#[120, 109, 108, 110, 115]⟩, .string ⟨#[120, 109, 108, 110, 115]⟩, .string ⟨#[104, 116, 116, 112, 58, 47, 47, 119, 119, 119, 46, 119, 51, 46, 111, 114, 103, 47, 50, 48, 48, 48, 47, 120, 109, 108, 110, 115, 47]⟩, .string ⟨#[]⟩] 35))
  have HX := Lib.hid (box4 ((w.alloc (.cells #[.string ⟨#[120, 109, 108]⟩, .string ⟨#[120, 109, 108, 110, 115]⟩, .string ⟨#[112]⟩, .string ⟨#[]⟩] 9)).alloc (.cells #[.string ⟨#[104, 116, 116, 112, 58, 47, 47, 119, 119, 119, 46, 119, 51, 46, 111, 114, 103, 47, 88, 77, 76, 47, 49, 57, 57, 56, 47, 110, 97, 109, 101, 115, 112, 97, 99, 101]⟩, .string ⟨#[104, 116, 116, 112, 58, 47, 47, 119, 119, 119, 46, 119, 51, 46, 111, 114, 103, 47, 50, 48, 48, 48, 47, 120, 109, 108, 110, 115, 47]⟩, .string ⟨#[117]⟩, .string ⟨#[]⟩] 9)) (.string ⟨#[120, 109, 108, 110, 115]⟩) (.string ⟨#[120, 109, 108, 110, 115]⟩) (.string ⟨#[104, 116, 116, 112, 58, 47, 47, 119, 119, 119, 46, 119, 51, 46, 111, 114, 103, 47, 50, 48, 48, 48, 47, 120, 109, 108, 110, 115, 47]⟩) (.string ⟨#[]⟩) 35)
  have hsz := two_allocs w (.cells #[.string ⟨#[120, 109, 108]⟩, .string ⟨#[120, 109, 108, 110, 115]⟩, .string ⟨#[112]⟩, .string ⟨#[]⟩] 9) (.cells #[.string ⟨#[104, 116, 116, 112, 58, 47, 47, 119, 119, 119, 46, 119, 51, 46, 111, 114, 103, 47, 88, 77, 76, 47, 49, 57, 57, 56, 47, 110, 97, 109, 101, 115, 112, 97, 99, 101]⟩, .string ⟨#[104, 116, 116, 112, 58, 47, 47, 119, 119, 119, 46, 119, 51, 46, 111, 114, 103, 47, 50, 48, 48, 48, 47, 120, 109, 108, 110, 115, 47]⟩, .string ⟨#[117]⟩, .string ⟨#[]⟩] 9)
  rw [hsz] at HX
  clear hsz
  go_enter Try.func6, Try.ntmps6
  go_wp2_with fail
  refine (snewAt R (Below.refl _ _)).mono ?_
  rintro e w1 ⟨q, rfl, h⟩
  have H := Lib.hid h
  obtain ⟨k0, k1, k2, k3⟩ := HX.out w1 h.since
  clear h HX
  go_wp2_with fail
  refine (spushB R [⟨xmlnsN, xmlnsN, xmlnsU, []⟩] 2 [] _ 1 rfl rfl (by decide) (by decide) (fit14 (by kernel_rfl)) (by kernel_rfl) (by kernel_rfl) H.out).mono ?_
  rintro e w1 ⟨rfl, h⟩
  replace H := Lib.hid h
  clear h k0 k1 k2 k3
  go_wp2_with fail
  refine (sdepthB R 0 (by kernel_rfl) H.out).mono ?_
  rintro e w1 ⟨rfl, h⟩
  replace H := Lib.hid h
  clear h
  go_wp2_with fail
  refine (suriB R _ ⟨#[]⟩ false (by decide) (by kernel_rfl) (by kernel_rfl) H.out).mono ?_
  rintro e w1 ⟨rfl, h⟩
  replace H := Lib.hid h
  clear h
  go_wp2_with fail
  refine (CT.out _).mono ?_
  rintro e w2 ⟨rfl, hb⟩
  have HE := Lib.hid (HB0.out.trans ((H.out.since.trans (hb.mono H.out.since.size)).mono HB0.out.size))
  clear hb H HB0
  go_wp2
  go_ret
  exact ⟨rfl, HE.out⟩
set_option maxHeartbeats 4000000 in
set_option maxRecDepth 100000 in
theorem rules_20 {Is : (Nat → Prop) → World → Value → List (List Bd) → Prop} (R : ScSaid Is) (p u a b : Int) (w : World) (h1 : IntKind.u64.wrap p = a) (h2 : Int.tmod a 4 = 2) (h3 : IntKind.u64.wrap u = b) (h4 : Int.tmod b 4 = 0) :
    Calls Try.prog 6 #[.int .i64 p, .int .i64 u] w fun e w' => e = .returned (.bool true) ∧ Below w.heap.size w w' := by
  have CT := Lib.hid (fun W => told14_any R W)
  have HB0 := Lib.hid ((((Below.refl w.heap.size w).alloc (Nat.le_refl _) (.cells #[.string ⟨#[120, 109, 108]⟩, .string ⟨#[120, 109, 108, 110, 115]⟩, .string ⟨#[112]⟩, .string ⟨#[]⟩] 9)).alloc (by show _ ≤ (w.heap.push _).size; rw [Array.size_push]; omega) (.cells #[.string ⟨#[104, 116, 116, 112, 58, 47, 47, 119, 119, 119, 46, 119, 51, 46, 111, 114, 103, 47, 88, 77, 76, 47, 49, 57, 57, 56, 47, 110, 97, 109, 101, 115, 112, 97, 99, 101]⟩, .string ⟨#[104, 116, 116, 112, 58, 47, 47, 119, 119, 119, 46, 119, 51, 46, 111, 114, 103, 47, 50, 48, 48, 48, 47, 120, 109, 108, 110, 115, 47]⟩, .string ⟨#[117]⟩, .string ⟨#[]⟩] 9)).alloc (by rw [two_allocs]; omega) (.cells #[.string ⟨#[120, 109, 108, 110, 115]⟩, .string ⟨#[112]⟩, .string ⟨#[104, 116, 116, 112, 58, 47, 47, 119, 119, 119, 46, 119, 51, 46, 111, 114, 103, 47, 50, 48, 48, 48, 47, 120, 109, 108, 110, 115, 47]⟩, .string ⟨#[104, 116, 116, 112, 58, 47, 47, 119, 119, 119, 46, 119, 51, 46, 111, 114, 103, 47, 88, 77, 76, 47, 49, 57, 57, 56, 47, 110, 97, 109, 101, 115, 112, 97, 99, 101]⟩] 35))
  have HX := Lib.hid (box4 ((w.alloc (.cells #[.string ⟨#[120, 109, 108]⟩, .string ⟨#[120, 109, 108, 110, 115]⟩, .string ⟨#[112]⟩, .string ⟨#[]⟩] 9)).alloc (.cells #[.string ⟨#[104, 116, 116, 112, 58, 47, 47, 119, 119, 119, 46, 119, 51, 46, 111, 114, 103, 47, 88, 77, 76, 47, 49, 57, 57, 56, 47, 110, 97, 109, 101, 115, 112, 97, 99, 101]⟩, .string ⟨#[104, 116, 116, 112, 58, 47, 47, 119, 119, 119, 46, 119, 51, 46, 111, 114, 103, 47, 50, 48, 48, 48, 47, 120, 109, 108, 110, 115, 47]⟩, .string ⟨#[117]⟩, .string ⟨#[]⟩] 9)) (.string ⟨#[120, 109, 108, 110, 115]⟩) (.string ⟨#[112]⟩) (.string ⟨#[104, 116, 116, 112, 58, 47, 47, 119, 119, 119, 46, 119, 51, 46, 111, 114, 103, 47, 50, 48, 48, 48, 47, 120, 109, 108, 110, 115, 47]⟩) (.string ⟨#[104, 116, 116, 112, 58, 47, 47, 119, 119, 119, 46, 119, 51, 46, 111, 114, 103, 47, 88, 77, 76, 47, 49, 57, 57, 56, 47, 110, 97, 109, 101, 115, 112, 97, 99, 101]⟩) 35)
  have hsz := two_allocs w (.cells #[.string ⟨#[120, 109, 108]⟩, .string ⟨#[120, 109, 108, 110, 115]⟩, .string ⟨#[112]⟩, .string ⟨#[]⟩] 9) (.cells #[.string ⟨#[104, 116, 116, 112, 58, 47, 47, 119, 119, 119, 46, 119, 51, 46, 111, 114, 103, 47, 88, 77, 76, 47, 49, 57, 57, 56, 47, 110, 97, 109, 101, 115, 112, 97, 99, 101]⟩, .string ⟨#[104, 116, 116, 112, 58, 47, 47, 119, 119, 119, 46, 119, 51, 46, 111, 114, 103, 47, 50, 48, 48, 48, 47, 120, 109, 108, 110, 115, 47]⟩, .string ⟨#[117]⟩, .string ⟨#[]⟩] 9)
  rw [hsz] at HX
  clear hsz
  go_enter Try.func6, Try.ntmps6
  go_wp2_with fail
  refine (snewAt R (Below.refl _ _)).mono ?_
  rintro e w1 ⟨q, rfl, h⟩
  have H := Lib.hid h
  obtain ⟨k0, k1, k2, k3⟩ := HX.out w1 h.since
  clear h HX
  go_wp2_with fail
  refine (spushB R [⟨xmlnsN, [112], xmlnsU, xmlU⟩] 2 [] _ 1 rfl rfl (by decide) (by decide) (fit14 (by kernel_rfl)) (by kernel_rfl) (by kernel_rfl) H.out).mono ?_
  rintro e w1 ⟨rfl, h⟩
  replace H := Lib.hid h
  clear h k0 k1 k2 k3
  go_wp2_with fail
  refine (sdepthB R 0 (by kernel_rfl) H.out).mono ?_
  rintro e w1 ⟨rfl, h⟩
  replace H := Lib.hid h
  clear h
  go_wp2_with fail
  refine (suriB R _ ⟨#[]⟩ false (by decide) (by kernel_rfl) (by kernel_rfl) H.out).mono ?_
  rintro e w1 ⟨rfl, h⟩
  replace H := Lib.hid h
  clear h
  go_wp2_with fail
  refine (CT.out _).mono ?_
  rintro e w2 ⟨rfl, hb⟩
  have HE := Lib.hid (HB0.out.trans ((H.out.since.trans (hb.mono H.out.since.size)).mono HB0.out.size))
  clear hb H HB0
  go_wp2
  go_ret
  exact ⟨rfl, HE.out⟩
set_option maxHeartbeats 4000000 in
set_option maxRecDepth 100000 in
theorem rules_21 {Is : (Nat → Prop) → World → Value → List (List Bd) → Prop} (R : ScSaid Is) (p u a b : Int) (w : World) (h1 : IntKind.u64.wrap p = a) (h2 : Int.tmod a 4 = 2) (h3 : IntKind.u64.wrap u = b) (h4 : Int.tmod b 4 = 1) :
    Calls Try.prog 6 #[.int .i64 p, .int .i64 u] w fun e w' => e = .returned (.bool true) ∧ Below w.heap.size w w' := by
  have CT := Lib.hid (fun W => told14_any R W)
  have HB0 := Lib.hid ((((Below.refl w.heap.size w).alloc (Nat.le_refl _) (.cells #[.string ⟨#[120, 109, 108]⟩, .string ⟨#[120, 109, 108, 110, 115]⟩, .string ⟨#[112]⟩, .string ⟨#[]⟩] 9)).alloc (by show _ ≤ (w.heap.push _).size; rw [Array.size_push]; omega) (.cells #[.string ⟨#[104, 116, 116, 112, 58, 47, 47, 119, 119, 119, 46, 119, 51, 46, 111, 114, 103, 47, 88, 77, 76, 47, 49, 57, 57, 56, 47, 110, 97, 109, 101, 115, 112, 97, 99, 101]⟩, .string ⟨#[104, 116, 116, 112, 58, 47, 47, 119, 119, 119, 46, 119, 51, 46, 111, 114, 103, 47, 50, 48, 48, 48, 47, 120, 109, 108, 110, 115, 47]⟩, .string ⟨#[117]⟩, .string ⟨#[]⟩] 9)).alloc (by rw [two_allocs]; omega) (.cells #[.string ⟨#[120, 109, 108, 110, 115]⟩, .string ⟨#[112]⟩, .string ⟨#[104, 116, 116, 112, 58, 47, 47, 119, 119, 119, 46, 119, 51, 46, 111, 114, 103, 47, 50, 48, 48, 48, 47, 120, 109, 108, 110, 115, 47]⟩, .string ⟨#[104, 116, 116, 112, 58, 47, 47, 119, 119, 119, 46, 119, 51, 46, 111, 114, 103, 47, 50, 48, 48, 48, 47, 120, 109, 108, 110, 115, 47]⟩] 35))
  have HX := Lib.hid (box4 ((w.alloc (.cells #[.string ⟨#[120, 109, 108]⟩, .string ⟨#[120, 109, 108, 110, 115]⟩, .string ⟨#[112]⟩, .string ⟨#[]⟩] 9)).alloc (.cells #[.string ⟨#[104, 116, 116, 112, 58, 47, 47, 119, 119, 119, 46, 119, 51, 46, 111, 114, 103, 47, 88, 77, 76, 47, 49, 57, 57, 56, 47, 110, 97, 109, 101, 115, 112, 97, 99, 101]⟩, .string ⟨#[104, 116, 116, 112, 58, 47, 47, 119, 119, 119, 46, 119, 51, 46, 111, 114, 103, 47, 50, 48, 48, 48, 47, 120, 109, 108, 110, 115, 47]⟩, .string ⟨#[117]⟩, .string ⟨#[]⟩] 9)) (.string ⟨#[120, 109, 108, 110, 115]⟩) (.string ⟨#[112]⟩) (.string ⟨#[104, 116, 116, 112, 58, 47, 47, 119, 119, 119, 46, 119, 51, 46, 111, 114, 103, 47, 50, 48, 48, 48, 47, 120, 109, 108, 110, 115, 47]⟩) (.string ⟨#[104, 116, 116, 112, 58, 47, 47, 119, 119, 119, 46, 119, 51, 46, 111, 114, 103, 47, 50, 48, 48, 48, 47, 120, 109, 108, 110, 115, 47]⟩) 35)
  have hsz := two_allocs w (.cells #[.string ⟨#[120, 109, 108]⟩, .string ⟨#[120, 109, 108, 110, 115]⟩, .string ⟨#[112]⟩, .string ⟨#[]⟩] 9) (.cells #[.string ⟨#[104, 116, 116, 112, 58, 47, 47, 119, 119, 119, 46, 119, 51, 46, 111, 114, 103, 47, 88, 77, 76, 47, 49, 57, 57, 56, 47, 110, 97, 109, 101, 115, 112, 97, 99, 101]⟩, .string ⟨#[104, 116, 116, 112, 58, 47, 47, 119, 119, 119, 46, 119, 51, 46, 111, 114, 103, 47, 50, 48, 48, 48, 47, 120, 109, 108, 110, 115, 47]⟩, .string ⟨#[117]⟩, .string ⟨#[]⟩] 9)
  rw [hsz] at HX
  clear hsz
  go_enter Try.func6, Try.ntmps6
  go_wp2_with fail
  refine (snewAt R (Below.refl _ _)).mono ?_
  rintro e w1 ⟨q, rfl, h⟩
  have H := Lib.hid h
  obtain ⟨k0, k1, k2, k3⟩ := HX.out w1 h.since
  clear h HX
  go_wp2_with fail
  refine (spushB R [⟨xmlnsN, [112], xmlnsU, xmlnsU⟩] 2 [] _ 1 rfl rfl (by decide) (by decide) (fit14 (by kernel_rfl)) (by kernel_rfl) (by kernel_rfl) H.out).mono ?_
  rintro e w1 ⟨rfl, h⟩
  replace H := Lib.hid h
  clear h k0 k1 k2 k3
  go_wp2_with fail
  refine (sdepthB R 0 (by kernel_rfl) H.out).mono ?_
  rintro e w1 ⟨rfl, h⟩
  replace H := Lib.hid h
  clear h
  go_wp2_with fail
  refine (suriB R _ ⟨#[]⟩ false (by decide) (by kernel_rfl) (by kernel_rfl) H.out).mono ?_
  rintro e w1 ⟨rfl, h⟩
  replace H := Lib.hid h
  clear h
  go_wp2_with fail
  refine (CT.out _).mono ?_
  rintro e w2 ⟨rfl, hb⟩
  have HE := Lib.hid (HB0.out.trans ((H.out.since.trans (hb.mono H.out.since.size)).mono HB0.out.size))
  clear hb H HB0
  go_wp2
  go_ret
  exact ⟨rfl, HE.out⟩
set_option maxHeartbeats 4000000 in
set_option maxRecDepth 100000 in
theorem rules_22 {Is : (Nat → Prop) → World → Value → List (List Bd) → Prop} (R : ScSaid Is) (p u a b : Int) (w : World) (h1 : IntKind.u64.wrap p = a) (h2 : Int.tmod a 4 = 2) (h3 : IntKind.u64.wrap u = b) (h4 : Int.tmod b 4 = 2) :
    Calls Try.prog 6 #[.int .i64 p, .int .i64 u] w fun e w' => e = .returned (.bool true) ∧ Below w.heap.size w w' := by
  have CT := Lib.hid (fun W => told14_any R W)
  have HB0 := Lib.hid ((((Below.refl w.heap.size w).alloc (Nat.le_refl _) (.cells #[.string ⟨#[120, 109, 108]⟩, .string ⟨#[120, 109, 108, 110, 115]⟩, .string ⟨#[112]⟩, .string ⟨#[]⟩] 9)).alloc (by show _ ≤ (w.heap.push _).size; rw [Array.size_push]; omega) (.cells #[.string ⟨#[104, 116, 116, 112, 58, 47, 47, 119, 119, 119, 46, 119, 51, 46, 111, 114, 103, 47, 88, 77, 76, 47, 49, 57, 57, 56, 47, 110, 97, 109, 101, 115, 112, 97, 99, 101]⟩, .string ⟨#[104, 116, 116, 112, 58, 47, 47, 119, 119, 119, 46, 119, 51, 46, 111, 114, 103, 47, 50, 48, 48, 48, 47, 120, 109, 108, 110, 115, 47]⟩, .string ⟨#[117]⟩, .string ⟨#[]⟩] 9)).alloc (by rw [two_allocs]; omega) (.cells #[.string ⟨#[120, 109, 108, 110, 115]⟩, .string ⟨#[112]⟩, .string ⟨#[104, 116, 116, 112, 58, 47, 47, 119, 119, 119, 46, 119, 51, 46, 111, 114, 103, 47, 50, 48, 48, 48, 47, 120, 109, 108, 110, 115, 47]⟩, .string ⟨#[117]⟩] 35))
  have HX := Lib.hid (box4 ((w.alloc (.cells #[.string ⟨#[120, 109, 108]⟩, .string ⟨#[120, 109, 108, 110, 115]⟩, .string ⟨#[112]⟩, .string ⟨#[]⟩] 9)).alloc (.cells #[.string ⟨#[104, 116, 116, 112, 58, 47, 47, 119, 119, 119, 46, 119, 51, 46, 111, 114, 103, 47, 88, 77, 76, 47, 49, 57, 57, 56, 47, 110, 97, 109, 101, 115, 112, 97, 99, 101]⟩, .string ⟨#[104, 116, 116, 112, 58, 47, 47, 119, 119, 119, 46, 119, 51, 46, 111, 114, 103, 47, 50, 48, 48, 48, 47, 120, 109, 108, 110, 115, 47]⟩, .string ⟨#[117]⟩, .string ⟨#[]⟩] 9)) (.string ⟨#[120, 109, 108, 110, 115]⟩) (.string ⟨#[112]⟩) (.string ⟨#[104, 116, 116, 112, 58, 47, 47, 119, 119, 119, 46, 119, 51, 46, 111, 114, 103, 47, 50, 48, 48, 48, 47, 120, 109, 108, 110, 115, 47]⟩) (.string ⟨#[117]⟩) 35)
  have hsz := two_allocs w (.cells #[.string ⟨#[120, 109, 108]⟩, .string ⟨#[120, 109, 108, 110, 115]⟩, .string ⟨#[112]⟩, .string ⟨#[]⟩] 9) (.cells #[.string ⟨#[104, 116, 116, 112, 58, 47, 47, 119, 119, 119, 46, 119, 51, 46, 111, 114, 103, 47, 88, 77, 76, 47, 49, 57, 57, 56, 47, 110, 97, 109, 101, 115, 112, 97, 99, 101]⟩, .string ⟨#[104, 116, 116, 112, 58, 47, 47, 119, 119, 119, 46, 119, 51, 46, 111, 114, 103, 47, 50, 48, 48, 48, 47, 120, 109, 108, 110, 115, 47]⟩, .string ⟨#[117]⟩, .string ⟨#[]⟩] 9)
  rw [hsz] at HX
  clear hsz
  go_enter Try.func6, Try.ntmps6
  go_wp2_with fail
  refine (snewAt R (Below.refl _ _)).mono ?_
  rintro e w1 ⟨q, rfl, h⟩
  have H := Lib.hid h
  obtain ⟨k0, k1, k2, k3⟩ := HX.out w1 h.since
  clear h HX
  go_wp2_with fail
  refine (spushB R [⟨xmlnsN, [112], xmlnsU, [117]⟩] 0 [[([112], [117])]] _ 1 rfl rfl (by decide) (by decide) (fit14 (by kernel_rfl)) (by kernel_rfl) (by kernel_rfl) H.out).mono ?_
  rintro e w1 ⟨rfl, h⟩
  replace H := Lib.hid h
  clear h k0 k1 k2 k3
  go_wp2_with fail
  refine (sdepthB R 1 (by kernel_rfl) H.out).mono ?_
  rintro e w1 ⟨rfl, h⟩
  replace H := Lib.hid h
  clear h
  go_wp2_with fail
  refine (suriB R _ ⟨#[117]⟩ true (by decide) (by kernel_rfl) (by kernel_rfl) H.out).mono ?_
  rintro e w1 ⟨rfl, h⟩
  replace H := Lib.hid h
  clear h
  go_wp2_with fail
  refine (CT.out _).mono ?_
  rintro e w2 ⟨rfl, hb⟩
  have HE := Lib.hid (HB0.out.trans ((H.out.since.trans (hb.mono H.out.since.size)).mono HB0.out.size))
  clear hb H HB0
  go_wp2
  go_ret
  exact ⟨rfl, HE.out⟩
set_option maxHeartbeats 4000000 in
set_option maxRecDepth 100000 in
theorem rules_23 {Is : (Nat → Prop) → World → Value → List (List Bd) → Prop} (R : ScSaid Is) (p u a b : Int) (w : World) (h1 : IntKind.u64.wrap p = a) (h2 : Int.tmod a 4 = 2) (h3 : IntKind.u64.wrap u = b) (h4 : Int.tmod b 4 = 3) :
    Calls Try.prog 6 #[.int .i64 p, .int .i64 u] w fun e w' => e = .returned (.bool true) ∧ Below w.heap.size w w' := by
  have CT := Lib.hid (fun W => told14_any R W)
  have HB0 := Lib.hid ((((Below.refl w.heap.size w).alloc (Nat.le_refl _) (.cells #[.string ⟨#[120, 109, 108]⟩, .string ⟨#[120, 109, 108, 110, 115]⟩, .string ⟨#[112]⟩, .string ⟨#[]⟩] 9)).alloc (by show _ ≤ (w.heap.push _).size; rw [Array.size_push]; omega) (.cells #[.string ⟨#[104, 116, 116, 112, 58, 47, 47, 119, 119, 119, 46, 119, 51, 46, 111, 114, 103, 47, 88, 77, 76, 47, 49, 57, 57, 56, 47, 110, 97, 109, 101, 115, 112, 97, 99, 101]⟩, .string ⟨#[104, 116, 116, 112, 58, 47, 47, 119, 119, 119, 46, 119, 51, 46, 111, 114, 103, 47, 50, 48, 48, 48, 47, 120, 109, 108, 110, 115, 47]⟩, .string ⟨#[117]⟩, .string ⟨#[]⟩] 9)).alloc (by rw [two_allocs]; omega) (.cells #[.string ⟨#[120, 109, 108, 110, 115]⟩, .string ⟨#[112]⟩, .string ⟨#[104, 116, 116, 112, 58, 47, 47, 119, 119, 119, 46, 119, 51, 46, 111, 114, 103, 47, 50, 48, 48, 48, 47, 120, 109, 108, 110, 115, 47]⟩, .string ⟨#[]⟩] 35))
  have HX := Lib.hid (box4 ((w.alloc (.cells #[.string ⟨#[120, 109, 108]⟩, .string ⟨#[120, 109, 108, 110, 115]⟩, .string ⟨#[112]⟩, .string ⟨#[]⟩] 9)).alloc (.cells #[.string ⟨#[104, 116, 116, 112, 58, 47, 47, 119, 119, 119, 46, 119, 51, 46, 111, 114, 103, 47, 88, 77, 76, 47, 49, 57, 57, 56, 47, 110, 97, 109, 101, 115, 112, 97, 99, 101]⟩, .string ⟨#[104, 116, 116, 112, 58, 47, 47, 119, 119, 119, 46, 119, 51, 46, 111, 114, 103, 47, 50, 48, 48, 48, 47, 120, 109, 108, 110, 115, 47]⟩, .string ⟨#[117]⟩, .string ⟨#[]⟩] 9)) (.string ⟨#[120, 109, 108, 110, 115]⟩) (.string ⟨#[112]⟩) (.string ⟨#[104, 116, 116, 112, 58, 47, 47, 119, 119, 119, 46, 119, 51, 46, 111, 114, 103, 47, 50, 48, 48, 48, 47, 120, 109, 108, 110, 115, 47]⟩) (.string ⟨#[]⟩) 35)
  have hsz := two_allocs w (.cells #[.string ⟨#[120, 109, 108]⟩, .string ⟨#[120, 109, 108, 110, 115]⟩, .string ⟨#[112]⟩, .string ⟨#[]⟩] 9) (.cells #[.string ⟨#[104, 116, 116, 112, 58, 47, 47, 119, 119, 119, 46, 119, 51, 46, 111, 114, 103, 47, 88, 77, 76, 47, 49, 57, 57, 56, 47, 110, 97, 109, 101, 115, 112, 97, 99, 101]⟩, .string ⟨#[104, 116, 116, 112, 58, 47, 47, 119, 119, 119, 46, 119, 51, 46, 111, 114, 103, 47, 50, 48, 48, 48, 47, 120, 109, 108, 110, 115, 47]⟩, .string ⟨#[117]⟩, .string ⟨#[]⟩] 9)
  rw [hsz] at HX
  clear hsz
  go_enter Try.func6, Try.ntmps6
  go_wp2_with fail
  refine (snewAt R (Below.refl _ _)).mono ?_
  rintro e w1 ⟨q, rfl, h⟩
  have H := Lib.hid h
  obtain ⟨k0, k1, k2, k3⟩ := HX.out w1 h.since
  clear h HX
  go_wp2_with fail
  refine (spushB R [⟨xmlnsN, [112], xmlnsU, []⟩] 2 [] _ 1 rfl rfl (by decide) (by decide) (fit14 (by kernel_rfl)) (by kernel_rfl) (by kernel_rfl) H.out).mono ?_
  rintro e w1 ⟨rfl, h⟩
  replace H := Lib.hid h
  clear h k0 k1 k2 k3
  go_wp2_with fail
  refine (sdepthB R 0 (by kernel_rfl) H.out).mono ?_
  rintro e w1 ⟨rfl, h⟩
  replace H := Lib.hid h
  clear h
  go_wp2_with fail
  refine (suriB R _ ⟨#[]⟩ false (by decide) (by kernel_rfl) (by kernel_rfl) H.out).mono ?_
  rintro e w1 ⟨rfl, h⟩
  replace H := Lib.hid h
  clear h
  go_wp2_with fail
  refine (CT.out _).mono ?_
  rintro e w2 ⟨rfl, hb⟩
  have HE := Lib.hid (HB0.out.trans ((H.out.since.trans (hb.mono H.out.since.size)).mono HB0.out.size))
  clear hb H HB0
  go_wp2
  go_ret
  exact ⟨rfl, HE.out⟩
set_option maxHeartbeats 4000000 in
set_option maxRecDepth 100000 in
theorem rules_30 {Is : (Nat → Prop) → World → Value → List (List Bd) → Prop} (R : ScSaid Is) (p u a b : Int) (w : World) (h1 : IntKind.u64.wrap p = a) (h2 : Int.tmod a 4 = 3) (h3 : IntKind.u64.wrap u = b) (h4 : Int.tmod b 4 = 0) :
    Calls Try.prog 6 #[.int .i64 p, .int .i64 u] w fun e w' => e = .returned (.bool true) ∧ Below w.heap.size w w' := by
  have CT := Lib.hid (fun W => told14_any R W)
  have HB0 := Lib.hid ((((Below.refl w.heap.size w).alloc (Nat.le_refl _) (.cells #[.string ⟨#[120, 109, 108]⟩, .string ⟨#[120, 109, 108, 110, 115]⟩, .string ⟨#[112]⟩, .string ⟨#[]⟩] 9)).alloc (by show _ ≤ (w.heap.push _).size; rw [Array.size_push]; omega) (.cells #[.string ⟨#[104, 116, 116, 112, 58, 47, 47, 119, 119, 119, 46, 119, 51, 46, 111, 114, 103, 47, 88, 77, 76, 47, 49, 57, 57, 56, 47, 110, 97, 109, 101, 115, 112, 97, 99, 101]⟩, .string ⟨#[104, 116, 116, 112, 58, 47, 47, 119, 119, 119, 46, 119, 51, 46, 111, 114, 103, 47, 50, 48, 48, 48, 47, 120, 109, 108, 110, 115, 47]⟩, .string ⟨#[117]⟩, .string ⟨#[]⟩] 9)).alloc (by rw [two_allocs]; omega) (.cells #[.string ⟨#[]⟩, .string ⟨#[120, 109, 108, 110, 115]⟩, .string ⟨#[104, 116, 116, 112, 58, 47, 47, 119, 119, 119, 46, 119, 51, 46, 111, 114, 103, 47, 50, 48, 48, 48, 47, 120, 109, 108, 110, 115, 47]⟩, .string ⟨#[104, 116, 116, 112, 58, 47, 47, 119, 119, 119, 46, 119, 51, 46, 111, 114, 103, 47, 88, 77, 76, 47, 49, 57, 57, 56, 47, 110, 97, 109, 101, 115, 112, 97, 99, 101]⟩] 35))
  have HX := Lib.hid (box4 ((w.alloc (.cells #[.string ⟨#[120, 109, 108]⟩, .string ⟨#[120, 109, 108, 110, 115]⟩, .string ⟨#[112]⟩, .string ⟨#[]⟩] 9)).alloc (.cells #[.string ⟨#[104, 116, 116, 112, 58, 47, 47, 119, 119, 119, 46, 119, 51, 46, 111, 114, 103, 47, 88, 77, 76, 47, 49, 57, 57, 56, 47, 110, 97, 109, 101, 115, 112, 97, 99, 101]⟩, .string ⟨#[104, 116, 116, 112, 58, 47, 47, 119, 119, 119, 46, 119, 51, 46, 111, 114, 103, 47, 50, 48, 48, 48, 47, 120, 109, 108, 110, 115, 47]⟩, .string ⟨#[117]⟩, .string ⟨#[]⟩] 9)) (.string ⟨#[]⟩) (.string ⟨#[120, 109, 108, 110, 115]⟩) (.string ⟨#[104, 116, 116, 112, 58, 47, 47, 119, 119, 119, 46, 119, 51, 46, 111, 114, 103, 47, 50, 48, 48, 48, 47, 120, 109, 108, 110, 115, 47]⟩) (.string ⟨#[104, 116, 116, 112, 58, 47, 47, 119, 119, 119, 46, 119, 51, 46, 111, 114, 103, 47, 88, 77, 76, 47, 49, 57, 57, 56, 47, 110, 97, 109, 101, 115, 112, 97, 99, 101]⟩) 35)
  have hsz := two_allocs w (.cells #[.string ⟨#[120, 109, 108]⟩, .string ⟨#[120, 109, 108, 110, 115]⟩, .string ⟨#[112]⟩, .string ⟨#[]⟩] 9) (.cells #[.string ⟨#[104, 116, 116, 112, 58, 47, 47, 119, 119, 119, 46, 119, 51, 46, 111, 114, 103, 47, 88, 77, 76, 47, 49, 57, 57, 56, 47, 110, 97, 109, 101, 115, 112, 97, 99, 101]⟩, .string ⟨#[104, 116, 116, 112, 58, 47, 47, 119, 119, 119, 46, 119, 51, 46, 111, 114, 103, 47, 50, 48, 48, 48, 47, 120, 109, 108, 110, 115, 47]⟩, .string ⟨#[117]⟩, .string ⟨#[]⟩] 9)
  rw [hsz] at HX
  clear hsz
  go_enter Try.func6, Try.ntmps6
  go_wp2_with fail
  refine (snewAt R (Below.refl _ _)).mono ?_
  rintro e w1 ⟨q, rfl, h⟩
  have H := Lib.hid h
  obtain ⟨k0, k1, k2, k3⟩ := HX.out w1 h.since
  clear h HX
  go_wp2_with fail
  refine (spushB R [⟨[], xmlnsN, xmlnsU, xmlU⟩] 2 [] _ 1 rfl rfl (by decide) (by decide) (fit14 (by kernel_rfl)) (by kernel_rfl) (by kernel_rfl) H.out).mono ?_
  rintro e w1 ⟨rfl, h⟩
  replace H := Lib.hid h
  clear h k0 k1 k2 k3
  go_wp2_with fail
  refine (sdepthB R 0 (by kernel_rfl) H.out).mono ?_
  rintro e w1 ⟨rfl, h⟩
  replace H := Lib.hid h
  clear h
  go_wp2_with fail
  refine (suriB R _ ⟨#[]⟩ true (by decide) (by kernel_rfl) (by kernel_rfl) H.out).mono ?_
  rintro e w1 ⟨rfl, h⟩
  replace H := Lib.hid h
  clear h
  go_wp2_with fail
  refine (CT.out _).mono ?_
  rintro e w2 ⟨rfl, hb⟩
  have HE := Lib.hid (HB0.out.trans ((H.out.since.trans (hb.mono H.out.since.size)).mono HB0.out.size))
  clear hb H HB0
  go_wp2
  go_ret
  exact ⟨rfl, HE.out⟩
set_option maxHeartbeats 4000000 in
set_option maxRecDepth 100000 in
theorem rules_31 {Is : (Nat → Prop) → World → Value → List (List Bd) → Prop} (R : ScSaid Is) (p u a b : Int) (w : World) (h1 : IntKind.u64.wrap p = a) (h2 : Int.tmod a 4 = 3) (h3 : IntKind.u64.wrap u = b) (h4 : Int.tmod b 4 = 1) :
    Calls Try.prog 6 #[.int .i64 p, .int .i64 u] w fun e w' => e = .returned (.bool true) ∧ Below w.heap.size w w' := by
  have CT := Lib.hid (fun W => told14_any R W)
  have HB0 := Lib.hid ((((Below.refl w.heap.size w).alloc (Nat.le_refl _) (.cells #[.string ⟨#[120, 109, 108]⟩, .string ⟨#[120, 109, 108, 110, 115]⟩, .string ⟨#[112]⟩, .string ⟨#[]⟩] 9)).alloc (by show _ ≤ (w.heap.push _).size; rw [Array.size_push]; omega) (.cells #[.string ⟨#[104, 116, 116, 112, 58, 47, 47, 119, 119, 119, 46, 119, 51, 46, 111, 114, 103, 47, 88, 77, 76, 47, 49, 57, 57, 56, 47, 110, 97, 109, 101, 115, 112, 97, 99, 101]⟩, .string ⟨#[104, 116, 116, 112, 58, 47, 47, 119, 119, 119, 46, 119, 51, 46, 111, 114, 103, 47, 50, 48, 48, 48, 47, 120, 109, 108, 110, 115, 47]⟩, .string ⟨#[117]⟩, .string ⟨#[]⟩] 9)).alloc (by rw [two_allocs]; omega) (.cells #[.string ⟨#[]⟩, .string ⟨#[120, 109, 108, 110, 115]⟩, .string ⟨#[104, 116, 116, 112, 58, 47, 47, 119, 119, 119, 46, 119, 51, 46, 111, 114, 103, 47, 50, 48, 48, 48, 47, 120, 109, 108, 110, 115, 47]⟩, .string ⟨#[104, 116, 116, 112, 58, 47, 47, 119, 119, 119, 46, 119, 51, 46, 111, 114, 103, 47, 50, 48, 48, 48, 47, 120, 109, 108, 110, 115, 47]⟩] 35))
  have HX := Lib.hid (box4 ((w.alloc (.cells #[.string ⟨#[120, 109, 108]⟩, .string ⟨#[120, 109, 108, 110, 115]⟩, .string ⟨#[112]⟩, .string ⟨#[]⟩] 9)).alloc (.cells #[.string ⟨#[104, 116, 116, 112, 58, 47, 47, 119, 119, 119, 46, 119, 51, 46, 111, 114, 103, 47, 88, 77, 76, 47, 49, 57, 57, 56, 47, 110, 97, 109, 101, 115, 112, 97, 99, 101]⟩, .string ⟨#[104, 116, 116, 112, 58, 47, 47, 119, 119, 119, 46, 119, 51, 46, 111, 114, 103, 47, 50, 48, 48, 48, 47, 120, 109, 108, 110, 115, 47]⟩, .string ⟨#[117]⟩, .string ⟨#[]⟩] 9)) (.string ⟨#[]⟩) (.string ⟨#[120, 109, 108, 110, 115]⟩) (.string ⟨#[104, 116, 116, 112, 58, 47, 47, 119, 119, 119, 46, 119, 51, 46, 111, 114, 103, 47, 50, 48, 48, 48, 47, 120, 109, 108, 110, 115, 47]⟩) (.string ⟨#[104, 116, 116, 112, 58, 47, 47, 119, 119, 119, 46, 119, 51, 46, 111, 114, 103, 47, 50, 48, 48, 48, 47, 120, 109, 108, 110, 115, 47]⟩) 35)
  have hsz := two_allocs w (.cells #[.string ⟨#[120, 109, 108]⟩, .string ⟨#[120, 109, 108, 110, 115]⟩, .string ⟨#[112]⟩, .string ⟨#[]⟩] 9) (.cells #[.string ⟨#[104, 116, 116, 112, 58, 47, 47, 119, 119, 119, 46, 119, 51, 46, 111, 114, 103, 47, 88, 77, 76, 47, 49, 57, 57, 56, 47, 110, 97, 109, 101, 115, 112, 97, 99, 101]⟩, .string ⟨#[104, 116, 116, 112, 58, 47, 47, 119, 119, 119, 46, 119, 51, 46, 111, 114, 103, 47, 50, 48, 48, 48, 47, 120, 109, 108, 110, 115, 47]⟩, .string ⟨#[117]⟩, .string ⟨#[]⟩] 9)
  rw [hsz] at HX
  clear hsz
  go_enter Try.func6, Try.ntmps6
  go_wp2_with fail
  refine (snewAt R (Below.refl _ _)).mono ?_
  rintro e w1 ⟨q, rfl, h⟩
  have H := Lib.hid h
  obtain ⟨k0, k1, k2, k3⟩ := HX.out w1 h.since
  clear h HX
  go_wp2_with fail
  refine (spushB R [⟨[], xmlnsN, xmlnsU, xmlnsU⟩] 2 [] _ 1 rfl rfl (by decide) (by decide) (fit14 (by kernel_rfl)) (by kernel_rfl) (by kernel_rfl) H.out).mono ?_
  rintro e w1 ⟨rfl, h⟩
  replace H := Lib.hid h
  clear h k0 k1 k2 k3
  go_wp2_with fail
  refine (sdepthB R 0 (by kernel_rfl) H.out).mono ?_
  rintro e w1 ⟨rfl, h⟩
  replace H := Lib.hid h
  clear h
  go_wp2_with fail
  refine (suriB R _ ⟨#[]⟩ true (by decide) (by kernel_rfl) (by kernel_rfl) H.out).mono ?_
  rintro e w1 ⟨rfl, h⟩
  replace H := Lib.hid h
  clear h
  go_wp2_with fail
  refine (CT.out _).mono ?_
  rintro e w2 ⟨rfl, hb⟩
  have HE := Lib.hid (HB0.out.trans ((H.out.since.trans (hb.mono H.out.since.size)).mono HB0.out.size))
  clear hb H HB0
  go_wp2
  go_ret
  exact ⟨rfl, HE.out⟩
set_option maxHeartbeats 4000000 in
set_option maxRecDepth 100000 in
theorem rules_32 {Is : (Nat → Prop) → World → Value → List (List Bd) → Prop} (R : ScSaid Is) (p u a b : Int) (w : World) (h1 : IntKind.u64.wrap p = a) (h2 : Int.tmod a 4 = 3) (h3 : IntKind.u64.wrap u = b) (h4 : Int.tmod b 4 = 2) :
    Calls Try.prog 6 #[.int .i64 p, .int .i64 u] w fun e w' => e = .returned (.bool true) ∧ Below w.heap.size w w' := by
  have CT := Lib.hid (fun W => told14_any R W)
  have HB0 := Lib.hid ((((Below.refl w.heap.size w).alloc (Nat.le_refl _) (.cells #[.string ⟨#[120, 109, 108]⟩, .string ⟨#[120, 109, 108, 110, 115]⟩, .string ⟨#[112]⟩, .string ⟨#[]⟩] 9)).alloc (by show _ ≤ (w.heap.push _).size; rw [Array.size_push]; omega) (.cells #[.string ⟨#[104, 116, 116, 112, 58, 47, 47, 119, 119, 119, 46, 119, 51, 46, 111, 114, 103, 47, 88, 77, 76, 47, 49, 57, 57, 56, 47, 110, 97, 109, 101, 115, 112, 97, 99, 101]⟩, .string ⟨#[104, 116, 116, 112, 58, 47, 47, 119, 119, 119, 46, 119, 51, 46, 111, 114, 103, 47, 50, 48, 48, 48, 47, 120, 109, 108, 110, 115, 47]⟩, .string ⟨#[117]⟩, .string ⟨#[]⟩] 9)).alloc (by rw [two_allocs]; omega) (.cells #[.string ⟨#[]⟩, .string ⟨#[120, 109, 108, 110, 115]⟩, .string ⟨#[104, 116, 116, 112, 58, 47, 47, 119, 119, 119, 46, 119, 51, 46, 111, 114, 103, 47, 50, 48, 48, 48, 47, 120, 109, 108, 110, 115, 47]⟩, .string ⟨#[117]⟩] 35))
  have HX := Lib.hid (box4 ((w.alloc (.cells #[.string ⟨#[120, 109, 108]⟩, .string ⟨#[120, 109, 108, 110, 115]⟩, .string ⟨#[112]⟩, .string ⟨#[]⟩] 9)).alloc (.cells #[.string ⟨#[104, 116, 116, 112, 58, 47, 47, 119, 119, 119, 46, 119, 51, 46, 111, 114, 103, 47, 88, 77, 76, 47, 49, 57, 57, 56, 47, 110, 97, 109, 101, 115, 112, 97, 99, 101]⟩, .string ⟨#[104, 116, 116, 112, 58, 47, 47, 119, 119, 119, 46, 119, 51, 46, 111, 114, 103, 47, 50, 48, 48, 48, 47, 120, 109, 108, 110, 115, 47]⟩, .string ⟨#[117]⟩, .string ⟨#[]⟩] 9)) (.string ⟨#[]⟩) (.string ⟨#[120, 109, 108, 110, 115]⟩) (.string ⟨#[104, 116, 116, 112, 58, 47, 47, 119, 119, 119, 46, 119, 51, 46, 111, 114, 103, 47, 50, 48, 48, 48, 47, 120, 109, 108, 110, 115, 47]⟩) (.string ⟨#[117]⟩) 35)
  have hsz := two_allocs w (.cells #[.string ⟨#[120, 109, 108]⟩, .string ⟨#[120, 109, 108, 110, 115]⟩, .string ⟨#[112]⟩, .string ⟨#[]⟩] 9) (.cells #[.string ⟨#[104, 116, 116, 112, 58, 47, 47, 119, 119, 119, 46, 119, 51, 46, 111, 114, 103, 47, 88, 77, 76, 47, 49, 57, 57, 56, 47, 110, 97, 109, 101, 115, 112, 97, 99, 101]⟩, .string ⟨#[104, 116, 116, 112, 58, 47, 47, 119, 119, 119, 46, 119, 51, 46, 111, 114, 103, 47, 50, 48, 48, 48, 47, 120, 109, 108, 110, 115, 47]⟩, .string ⟨#[117]⟩, .string ⟨#[]⟩] 9)
  rw [hsz] at HX
  clear hsz
  go_enter Try.func6, Try.ntmps6
  go_wp2_with fail
  refine (snewAt R (Below.refl _ _)).mono ?_
  rintro e w1 ⟨q, rfl, h⟩
  have H := Lib.hid h
  obtain ⟨k0, k1, k2, k3⟩ := HX.out w1 h.since
  clear h HX
  go_wp2_with fail
  refine (spushB R [⟨[], xmlnsN, xmlnsU, [117]⟩] 0 [[([], [117])]] _ 1 rfl rfl (by decide) (by decide) (fit14 (by kernel_rfl)) (by kernel_rfl) (by kernel_rfl) H.out).mono ?_
  rintro e w1 ⟨rfl, h⟩
  replace H := Lib.hid h
  clear h k0 k1 k2 k3
  go_wp2_with fail
  refine (sdepthB R 1 (by kernel_rfl) H.out).mono ?_
  rintro e w1 ⟨rfl, h⟩
  replace H := Lib.hid h
  clear h
  go_wp2_with fail
  refine (suriB R _ ⟨#[117]⟩ true (by decide) (by kernel_rfl) (by kernel_rfl) H.out).mono ?_
  rintro e w1 ⟨rfl, h⟩
  replace H := Lib.hid h
  clear h
  go_wp2_with fail
  refine (CT.out _).mono ?_
  rintro e w2 ⟨rfl, hb⟩
  have HE := Lib.hid (HB0.out.trans ((H.out.since.trans (hb.mono H.out.since.size)).mono HB0.out.size))
  clear hb H HB0
  go_wp2
  go_ret
  exact ⟨rfl, HE.out⟩
set_option maxHeartbeats 4000000 in
set_option maxRecDepth 100000 in
theorem rules_33 {Is : (Nat → Prop) → World → Value → List (List Bd) → Prop} (R : ScSaid Is) (p u a b : Int) (w : World) (h1 : IntKind.u64.wrap p = a) (h2 : Int.tmod a 4 = 3) (h3 : IntKind.u64.wrap u = b) (h4 : Int.tmod b 4 = 3) :
    Calls Try.prog 6 #[.int .i64 p, .int .i64 u] w fun e w' => e = .returned (.bool true) ∧ Below w.heap.size w w' := by
  have CT := Lib.hid (fun W => told14_any R W)
  have HB0 := Lib.hid ((((Below.refl w.heap.size w).alloc (Nat.le_refl _) (.cells #[.string ⟨#[120, 109, 108]⟩, .string ⟨#[120, 109, 108, 110, 115]⟩, .string ⟨#[112]⟩, .string ⟨#[]⟩] 9)).alloc (by show _ ≤ (w.heap.push _).size; rw [Array.size_push]; omega) (.cells #[.string ⟨#[104, 116, 116, 112, 58, 47, 47, 119, 119, 119, 46, 119, 51, 46, 111, 114, 103, 47, 88, 77, 76, 47, 49, 57, 57, 56, 47, 110, 97, 109, 101, 115, 112, 97, 99, 101]⟩, .string ⟨#[104, 116, 116, 112, 58, 47, 47, 119, 119, 119, 46, 119, 51, 46, 111, 114, 103, 47, 50, 48, 48, 48, 47, 120, 109, 108, 110, 115, 47]⟩, .string ⟨#[117]⟩, .string ⟨#[]⟩] 9)).alloc (by rw [two_allocs]; omega) (.cells #[.string ⟨#[]⟩, .string ⟨#[120, 109, 108, 110, 115]⟩, .string ⟨#[104, 116, 116, 112, 58, 47, 47, 119, 119, 119, 46, 119, 51, 46, 111, 114, 103, 47, 50, 48, 48, 48, 47, 120, 109, 108, 110, 115, 47]⟩, .string ⟨#[]⟩] 35))
  have HX := Lib.hid (box4 ((w.alloc (.cells #[.string ⟨#[120, 109, 108]⟩, .string ⟨#[120, 109, 108, 110, 115]⟩, .string ⟨#[112]⟩, .string ⟨#[]⟩] 9)).alloc (.cells #[.string ⟨#[104, 116, 116, 112, 58, 47, 47, 119, 119, 119, 46, 119, 51, 46, 111, 114, 103, 47, 88, 77, 76, 47, 49, 57, 57, 56, 47, 110, 97, 109, 101, 115, 112, 97, 99, 101]⟩, .string ⟨#[104, 116, 116, 112, 58, 47, 47, 119, 119, 119, 46, 119, 51, 46, 111, 114, 103, 47, 50, 48, 48, 48, 47, 120, 109, 108, 110, 115, 47]⟩, .string ⟨#[117]⟩, .string ⟨#[]⟩] 9)) (.string ⟨#[]⟩) (.string ⟨#[120, 109, 108, 110, 115]⟩) (.string ⟨#[104, 116, 116, 112, 58, 47, 47, 119, 119, 119, 46, 119, 51, 46, 111, 114, 103, 47, 50, 48, 48, 48, 47, 120, 109, 108, 110, 115, 47]⟩) (.string ⟨#[]⟩) 35)
  have hsz := two_allocs w (.cells #[.string ⟨#[120, 109, 108]⟩, .string ⟨#[120, 109, 108, 110, 115]⟩, .string ⟨#[112]⟩, .string ⟨#[]⟩] 9) (.cells #[.string ⟨#[104, 116, 116, 112, 58, 47, 47, 119, 119, 119, 46, 119, 51, 46, 111, 114, 103, 47, 88, 77, 76, 47, 49, 57, 57, 56, 47, 110, 97, 109, 101, 115, 112, 97, 99, 101]⟩, .string ⟨#[104, 116, 116, 112, 58, 47, 47, 119, 119, 119, 46, 119, 51, 46, 111, 114, 103, 47, 50, 48, 48, 48, 47, 120, 109, 108, 110, 115, 47]⟩, .string ⟨#[117]⟩, .string ⟨#[]⟩] 9)
  rw [hsz] at HX
  clear hsz
  go_enter Try.func6, Try.ntmps6
  go_wp2_with fail
  refine (snewAt R (Below.refl _ _)).mono ?_
  rintro e w1 ⟨q, rfl, h⟩
  have H := Lib.hid h
  obtain ⟨k0, k1, k2, k3⟩ := HX.out w1 h.since
  clear h HX
  go_wp2_with fail
  refine (spushB R [⟨[], xmlnsN, xmlnsU, []⟩] 0 [[([], [])]] _ 1 rfl rfl (by decide) (by decide) (fit14 (by kernel_rfl)) (by kernel_rfl) (by kernel_rfl) H.out).mono ?_
  rintro e w1 ⟨rfl, h⟩
  replace H := Lib.hid h
  clear h k0 k1 k2 k3
  go_wp2_with fail
  refine (sdepthB R 1 (by kernel_rfl) H.out).mono ?_
  rintro e w1 ⟨rfl, h⟩
  replace H := Lib.hid h
  clear h
  go_wp2_with fail
  refine (suriB R _ ⟨#[]⟩ true (by decide) (by kernel_rfl) (by kernel_rfl) H.out).mono ?_
  rintro e w1 ⟨rfl, h⟩
  replace H := Lib.hid h
  clear h
  go_wp2_with fail
  refine (CT.out _).mono ?_
  rintro e w2 ⟨rfl, hb⟩
  have HE := Lib.hid (HB0.out.trans ((H.out.since.trans (hb.mono H.out.since.size)).mono HB0.out.size))
  clear hb H HB0
  go_wp2
  go_ret
  exact ⟨rfl, HE.out⟩
theorem rules_any {Is : (Nat → Prop) → World → Value → List (List Bd) → Prop} (R : ScSaid Is) (p u : Int) (w : World) :
    Calls Try.prog 6 #[.int .i64 p, .int .i64 u] w fun e w' => e = .returned (.bool true) ∧ Below w.heap.size w w' := by
  obtain ⟨a, x, h1, h2, hx, _⟩ := wrap_mod p 4 (by decide) (by decide)
  obtain ⟨b, y, h3, h4, hy, _⟩ := wrap_mod u 4 (by decide) (by decide)
  rcases (show x = 0 ∨ x = 1 ∨ x = 2 ∨ x = 3 by omega) with rfl | rfl | rfl | rfl <;> rcases (show y = 0 ∨ y = 1 ∨ y = 2 ∨ y = 3 by omega) with rfl | rfl | rfl | rfl
  · exact rules_00 R p u a b w h1 h2 h3 h4
  · exact rules_01 R p u a b w h1 h2 h3 h4
  · exact rules_02 R p u a b w h1 h2 h3 h4
  · exact rules_03 R p u a b w h1 h2 h3 h4
  · exact rules_10 R p u a b w h1 h2 h3 h4
  · exact rules_11 R p u a b w h1 h2 h3 h4
  · exact rules_12 R p u a b w h1 h2 h3 h4
  · exact rules_13 R p u a b w h1 h2 h3 h4
  · exact rules_20 R p u a b w h1 h2 h3 h4
  · exact rules_21 R p u a b w h1 h2 h3 h4
  · exact rules_22 R p u a b w h1 h2 h3 h4
  · exact rules_23 R p u a b w h1 h2 h3 h4
  · exact rules_30 R p u a b w h1 h2 h3 h4
  · exact rules_31 R p u a b w h1 h2 h3 h4
  · exact rules_32 R p u a b w h1 h2 h3 h4
  · exact rules_33 R p u a b w h1 h2 h3 h4
end Go.Proofs.Ythhnpnjnlbjdjaa
