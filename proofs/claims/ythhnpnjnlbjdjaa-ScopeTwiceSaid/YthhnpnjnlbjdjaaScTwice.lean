/-
  LAW ScopeTwice. (Written by gen_twice.py.)
-/
import Derived.Test.YthhnpnjnlbjdjaaScDecls
import Derived.Test.YthhnpnjnlbjdjaaScRules
namespace Go.Proofs.Ythhnpnjnlbjdjaa
open Go.RowKit

def pre4 : List Nm := [[], [112], [113], [97, 49]]
def uri3 : List Nm := [[117], [118], [119]]
theorem pre4_at (x : Nat) (hx : x < 4) : ([Value.string ⟨#[]⟩, .string ⟨#[112]⟩, .string ⟨#[113]⟩, .string ⟨#[97, 49]⟩][x]'hx) = .string (bytes (pre4.getD x [])) := by
  rcases (show x = 0 ∨ x = 1 ∨ x = 2 ∨ x = 3 by omega) with rfl | rfl | rfl | rfl <;> rfl
theorem uri3_at (x : Nat) (hx : x < 3) : (#[Value.string ⟨#[117]⟩, .string ⟨#[118]⟩, .string ⟨#[119]⟩] : Array Value)[x]? = some (.string (bytes (uri3.getD x []))) := by
  rcases (show x = 0 ∨ x = 1 ∨ x = 2 by omega) with rfl | rfl | rfl <;> rfl
theorem uri3_l (x : Nat) (hx : x < 3) : ([Value.string ⟨#[117]⟩, .string ⟨#[118]⟩, .string ⟨#[119]⟩][x]'hx) = .string (bytes (uri3.getD x [])) := by
  rcases (show x = 0 ∨ x = 1 ∨ x = 2 by omega) with rfl | rfl | rfl <;> rfl
def attT (p X : Nm) : At4 := if p = [] then ⟨[], xmlnsN, xmlnsU, X⟩ else ⟨xmlnsN, p, xmlnsU, X⟩
/-- what is told of a prefix that is bound twice -/
structure TwiceD (p X Y : Nm) : Prop where
  e1 : pushE [attT p X, attT p Y] = 2
  s1 : pushS [] [attT p X, attT p Y] = []
  e2 : pushE [attT p X] = 0
  s2 : pushS [] [attT p X] = [[(p, X)]]
  e3 : pushE [attT p Y] = 0
  s3 : pushS [[(p, X)]] [attT p Y] = [[(p, Y)], [(p, X)]]
  u : uriS [[(p, Y)], [(p, X)]] p = Y
  i : isS [[(p, Y)], [(p, X)]] p = true
  all : (allS [[(p, Y)], [(p, X)]]).map declA = [attT p Y, ⟨xmlnsN, xmlN, xmlnsU, xmlU⟩]
  q : prefS [[(p, Y)], [(p, X)]] Y = p
  f : prefE [[(p, Y)], [(p, X)]] Y = decide (p ≠ [])
  o : prefE [[(p, Y)], [(p, X)]] X = (decide (p ≠ []) && decide (X = Y))
  fx : FitA (attT p X)
  fy : FitA (attT p Y)
  pl : p.length ≤ 8388608
  xl : X.length ≤ 8388608
  yl : Y.length ≤ 8388608
theorem twiceD (x y z : Nat) (hx : x < 4) (hy : y < 3) (hz : z < 3) : TwiceD (pre4.getD x []) (uri3.getD y []) (uri3.getD z []) := by
  rcases (show x = 0 ∨ x = 1 ∨ x = 2 ∨ x = 3 by omega) with rfl | rfl | rfl | rfl <;> rcases (show y = 0 ∨ y = 1 ∨ y = 2 by omega) with rfl | rfl | rfl <;> rcases (show z = 0 ∨ z = 1 ∨ z = 2 by omega) with rfl | rfl | rfl <;>
    exact ⟨by kernel_rfl, by kernel_rfl, by kernel_rfl, by kernel_rfl, by kernel_rfl, by kernel_rfl, by kernel_rfl, by kernel_rfl, by kernel_rfl, by kernel_rfl, by kernel_rfl, by kernel_rfl, by unfold FitA; decide, by unfold FitA; decide, by decide, by decide, by decide⟩
theorem dbelow2 (w : World) (o1 o2 : Obj) : Below w.heap.size w ((w.alloc o1).alloc o2).drew :=
  (((Below.refl w.heap.size w).alloc (Nat.le_refl _) o1).alloc (by rw [dsize1]; omega) o2).drew
theorem semp14 {a : Nm} (h : a ≠ []) : (bytes a).toList.isEmpty = false := by
  rw [bytesL_toList]
  cases a
  · exact absurd rfl h
  · rfl
theorem fit_one {a : At4} (h : FitA a) : ∀ x ∈ [a], FitA x := fun x hx => by
  rw [List.mem_singleton.1 hx]; exact h
theorem fit_two {a b : At4} (h : FitA a) (k : FitA b) : ∀ x ∈ [a, b], FitA x := fun x hx => by
  rcases List.mem_cons.1 hx with e | e
  · rw [e]; exact h
  · rw [List.mem_singleton.1 e]; exact k
def TwiceR (W1 : World) (X Y : Nm) (a a' : Act) (w' : World) : Prop :=
  a' = ((((((((((((((a.put (some 26) (a'.tmps.getD 26 undef)).put (some 27) (a'.tmps.getD 27 undef)).put (some 28) (a'.tmps.getD 28 undef)).put (some 29) (a'.tmps.getD 29 undef)).put (some 30) (a'.tmps.getD 30 undef)).put (some 31) (a'.tmps.getD 31 undef)).put (some 32) (a'.tmps.getD 32 undef)).put (some 33) (a'.tmps.getD 33 undef)).put (some 34) (a'.tmps.getD 34 undef)).put (some 35) (a'.tmps.getD 35 undef)).put (some 36) (a'.tmps.getD 36 undef)).put (some 37) (a'.tmps.getD 37 undef)).put (some 8) (a'.tmps.getD 8 undef)).put (some 9) (a'.tmps.getD 9 undef)) ∧ a'.tmps.getD 8 undef = .string (bytes X) ∧ a'.tmps.getD 9 undef = .string (bytes Y) ∧ Below W1.heap.size W1 w'
set_option maxHeartbeats 8000000 in
set_option maxRecDepth 100000 in
theorem twice_any {Is : (Nat → Prop) → World → Value → List (List Bd) → Prop} (R : ScSaid Is) (pi ai bi : Int) (W : World) :
    Calls Try.prog 7 #[.int .i64 pi, .int .i64 ai, .int .i64 bi] W fun e w' => e = .returned (.bool true) ∧ Below W.heap.size W w' := by
  obtain ⟨u1, x, g1, g2a, hx, g3, _⟩ := wrap_mod pi 4 (by decide) (by decide)
  obtain ⟨u2, y, g4, g5a, hy, g6, _⟩ := wrap_mod ai 3 (by decide) (by decide)
  obtain ⟨u3, z, g7, g8a, hz, g9, _⟩ := wrap_mod bi 3 (by decide) (by decide)
  have g2 : Int.tmod (u1 : Int) 4 = (x : Int) := g2a
  have g5 : Int.tmod (u2 : Int) 3 = (y : Int) := g5a
  have g8 : Int.tmod (u3 : Int) 3 = (z : Int) := g8a
  clear g2a g5a g8a
  have D0 := twiceD x y z hx hy hz
  have hp4 := pre4_at x hx
  have hx3 := uri3_at y hy
  have hy3 := uri3_at z hz
  have hxl := uri3_l y hy
  have hyl := uri3_l z hz
  obtain ⟨p, hp⟩ : ∃ p, pre4.getD x [] = p := ⟨_, rfl⟩
  obtain ⟨X, hX⟩ : ∃ X, uri3.getD y [] = X := ⟨_, rfl⟩
  obtain ⟨Y, hY⟩ : ∃ Y, uri3.getD z [] = Y := ⟨_, rfl⟩
  rw [hp, hX, hY] at D0
  rw [hp] at hp4
  rw [hX] at hx3 hxl
  rw [hY] at hy3 hyl
  clear hp hX hY
  have D := Lib.hid D0
  clear D0
  have CT := Lib.hid (fun V => told14_any R V)
  have j1 : (0 : Int) ≤ (x : Int) := by omega
  have j2 : (x : Int) < 4 := by omega
  have j3 : (0 : Int) ≤ (y : Int) := by omega
  have j4 : (y : Int) < 3 := by omega
  have j5 : (0 : Int) ≤ (z : Int) := by omega
  have j6 : (z : Int) < 3 := by omega
  have HB1 := Lib.hid ((Below.refl W.heap.size W).alloc (Nat.le_refl _) (.cells #[.string ⟨#[]⟩, .string ⟨#[112]⟩, .string ⟨#[113]⟩, .string ⟨#[97, 49]⟩] 9))
  go_enter Try.func7, Try.ntmps7
  go_wp2_with fail
  obtain ⟨W1, hW1⟩ : ∃ W1, W.alloc (.cells #[.string ⟨#[]⟩, .string ⟨#[112]⟩, .string ⟨#[113]⟩, .string ⟨#[97, 49]⟩] 9) = W1 := ⟨_, rfl⟩
  rw [hW1] at HB1 ⊢
  clear hW1
  refine region_weaken (TwiceR W1 X Y) ?_ ?_
  · repeat (rename_i hx; clear hx)
    clear D CT HB1 g1 g2 g3 hp4 j1 j2
    refine wp_region_held_drew (S := fun _ => True) (by kernel_rfl) trivial (fun hHeld => ?_)
    (refine dtake_wanted 1 (v := ?_) rfl (by kernel_rfl) (by kernel_rfl) (by kernel_rfl) (fun _ _ _ h => nomatch h.1) (by rfl) (by first | trivial | assumption) ?_ ?_; rotate_left; focus (intro w hSw; (try dsimp only at hSw); go_simp; try with_reducible rfl))
    try simp only [Act.put, List.setIfInBounds_toArray, List.set_cons_zero, List.set_cons_succ]
    (refine dtake_wanted 2 (v := ?_) rfl (by kernel_rfl) (by kernel_rfl) (by kernel_rfl) (fun _ _ _ h => nomatch h.1) (by rfl) (by first | trivial | assumption) ?_ ?_; rotate_left; focus (intro w hSw; (try dsimp only at hSw); go_simp; try with_reducible rfl))
    try simp only [Act.put, List.setIfInBounds_toArray, List.set_cons_zero, List.set_cons_succ]
    (refine dtake_wanted 3 (v := ?_) rfl (by kernel_rfl) (by kernel_rfl) (by kernel_rfl) (fun _ _ _ h => nomatch h.1) (by rfl) (by first | trivial | assumption) ?_ ?_; rotate_left; focus (intro w hSw; (try dsimp only at hSw); go_simp; try with_reducible rfl))
    try simp only [Act.put, List.setIfInBounds_toArray, List.set_cons_zero, List.set_cons_succ]
    (refine dtake_wanted 7 (v := ?_) rfl (by kernel_rfl) (by kernel_rfl) (by kernel_rfl) (fun _ _ _ h => nomatch h.1) (by rfl) (by first | trivial | assumption) ?_ ?_; rotate_left; focus (intro w hSw; (try dsimp only at hSw); go_simp; try with_reducible rfl))
    try simp only [Act.put, List.setIfInBounds_toArray, List.set_cons_zero, List.set_cons_succ]
    (refine dtake_wanted 8 (v := ?_) rfl (by kernel_rfl) (by kernel_rfl) (by kernel_rfl) (fun _ _ _ h => nomatch h.1) (by rfl) (by first | trivial | assumption) ?_ ?_; rotate_left; focus (intro w hSw; (try dsimp only at hSw); go_simp; try with_reducible rfl))
    try simp only [Act.put, List.setIfInBounds_toArray, List.set_cons_zero, List.set_cons_succ]
    (refine dtake_wanted 9 (v := ?_) rfl (by kernel_rfl) (by kernel_rfl) (by kernel_rfl) (fun _ _ _ h => nomatch h.1) (by rfl) (by first | trivial | assumption) ?_ ?_; rotate_left; focus (intro w hSw; (try dsimp only at hSw); go_simp; try with_reducible rfl))
    try simp only [Act.put, List.setIfInBounds_toArray, List.set_cons_zero, List.set_cons_succ]
    refine dbranch_two 0 6 rfl rfl (by kernel_rfl) (fun K hK => ?_) (fun K hK => ?_)
    ·
      go_simp
      refine hK.out _ _ (by first | trivial | exact dkeep1 ‹_›) (fun hH1 => ?_)
      clear hK K
      try simp only [Act.put, List.setIfInBounds_toArray, List.set_cons_zero, List.set_cons_succ]
      refine held_switch (S' := fun W => W.cell? ⟨W1.heap.size, y, none⟩ = some (.string (bytes X))) (fun _ _ => trivial) (dnew _ _ _ _ _ _ rfl hx3) (fun hS1 => ?_)
      (refine dtake_wanted 4 (v := ?_) rfl (by kernel_rfl) (by kernel_rfl) (by kernel_rfl) (fun _ _ _ h => nomatch h.1) (by rfl) (by first | trivial | assumption) ?_ ?_; rotate_left; focus (intro w hSw; (try dsimp only at hSw); go_simp; try with_reducible rfl))
      try simp only [Act.put, List.setIfInBounds_toArray, List.set_cons_zero, List.set_cons_succ]
      (refine dtake_wanted 5 (v := ?_) rfl (by kernel_rfl) (by kernel_rfl) (by kernel_rfl) (fun _ _ _ h => nomatch h.1) (by rfl) (by first | trivial | assumption) ?_ ?_; rotate_left; focus (intro w hSw; (try dsimp only at hSw); go_simp; try with_reducible rfl))
      try simp only [Act.put, List.setIfInBounds_toArray, List.set_cons_zero, List.set_cons_succ]
      (refine dtake_wanted 12 (v := ?_) rfl (by kernel_rfl) (by kernel_rfl) (by kernel_rfl) (fun _ _ _ h => nomatch h.1) (by rfl) (by first | trivial | assumption) ?_ ?_; rotate_left; focus (intro w hSw; (try dsimp only at hSw); go_simp; try with_reducible rfl))
      try simp only [Act.put, List.setIfInBounds_toArray, List.set_cons_zero, List.set_cons_succ]
      refine dbranch_one 6 rfl (by kernel_rfl) (fun K hK => ?_)
      go_simp
      refine hK.out _ _ (by first | trivial | exact dkeep1 ‹_›) (fun hH2 => ?_)
      clear hK K
      try simp only [Act.put, List.setIfInBounds_toArray, List.set_cons_zero, List.set_cons_succ]
      refine held_switch (S' := fun W => W.cell? ⟨W1.heap.size, y, none⟩ = some (.string (bytes X)) ∧ W.cell? ⟨W1.heap.size + 1, z, none⟩ = some (.string (bytes Y))) (fun _ h => h.1) (⟨hH2, dnew _ _ _ _ _ _ (dsize1 _ _) hy3⟩) (fun hS2 => ?_)
      (refine dtake_wanted 10 (v := ?_) rfl (by kernel_rfl) (by kernel_rfl) (by kernel_rfl) (fun _ _ _ h => nomatch h.1) (by rfl) (by first | trivial | assumption) ?_ ?_; rotate_left; focus (intro w hSw; (try dsimp only at hSw); go_simp; try with_reducible rfl))
      try simp only [Act.put, List.setIfInBounds_toArray, List.set_cons_zero, List.set_cons_succ]
      (refine dtake_wanted 11 (v := ?_) rfl (by kernel_rfl) (by kernel_rfl) (by kernel_rfl) (fun _ _ _ h => nomatch h.1) (by rfl) (by first | trivial | assumption) ?_ ?_; rotate_left; focus (intro w hSw; (try dsimp only at hSw); go_simp; try with_reducible rfl))
      try simp only [Act.put, List.setIfInBounds_toArray, List.set_cons_zero, List.set_cons_succ]
      (refine dtake_wanted 13 (v := ?_) rfl (by kernel_rfl) (by kernel_rfl) (by kernel_rfl) (fun _ _ _ h => nomatch h.1) (by rfl) (by first | trivial | assumption) ?_ ?_; rotate_left; focus (intro w hSw; (try dsimp only at hSw); go_simp; try with_reducible rfl))
      try simp only [Act.put, List.setIfInBounds_toArray, List.set_cons_zero, List.set_cons_succ]
      refine wpAnyH_done (by kernel_rfl) ?_ _
      exact ⟨rfl, by kernel_rfl, by kernel_rfl, by kernel_rfl, dbelow2 _ _ _⟩
    ·
      go_simp
      refine hK.out _ _ (by first | trivial | exact dkeep1 ‹_›) (fun hH1 => ?_)
      clear hK K
      try simp only [Act.put, List.setIfInBounds_toArray, List.set_cons_zero, List.set_cons_succ]
      refine held_switch (S' := fun W => W.cell? ⟨W1.heap.size, z, none⟩ = some (.string (bytes Y))) (fun _ _ => trivial) (dnew _ _ _ _ _ _ rfl hy3) (fun hS1 => ?_)
      (refine dtake_wanted 10 (v := ?_) rfl (by kernel_rfl) (by kernel_rfl) (by kernel_rfl) (fun _ _ _ h => nomatch h.1) (by rfl) (by first | trivial | assumption) ?_ ?_; rotate_left; focus (intro w hSw; (try dsimp only at hSw); go_simp; try with_reducible rfl))
      try simp only [Act.put, List.setIfInBounds_toArray, List.set_cons_zero, List.set_cons_succ]
      (refine dtake_wanted 11 (v := ?_) rfl (by kernel_rfl) (by kernel_rfl) (by kernel_rfl) (fun _ _ _ h => nomatch h.1) (by rfl) (by first | trivial | assumption) ?_ ?_; rotate_left; focus (intro w hSw; (try dsimp only at hSw); go_simp; try with_reducible rfl))
      try simp only [Act.put, List.setIfInBounds_toArray, List.set_cons_zero, List.set_cons_succ]
      refine dbranch_one 0 rfl (by kernel_rfl) (fun K hK => ?_)
      go_simp
      refine hK.out _ _ (by first | trivial | exact dkeep1 ‹_›) (fun hH2 => ?_)
      clear hK K
      try simp only [Act.put, List.setIfInBounds_toArray, List.set_cons_zero, List.set_cons_succ]
      refine held_switch (S' := fun W => W.cell? ⟨W1.heap.size + 1, y, none⟩ = some (.string (bytes X)) ∧ W.cell? ⟨W1.heap.size, z, none⟩ = some (.string (bytes Y))) (fun _ h => h.2) (⟨dnew _ _ _ _ _ _ (dsize1 _ _) hx3, hH2⟩) (fun hS2 => ?_)
      (refine dtake_wanted 4 (v := ?_) rfl (by kernel_rfl) (by kernel_rfl) (by kernel_rfl) (fun _ _ _ h => nomatch h.1) (by rfl) (by first | trivial | assumption) ?_ ?_; rotate_left; focus (intro w hSw; (try dsimp only at hSw); go_simp; try with_reducible rfl))
      try simp only [Act.put, List.setIfInBounds_toArray, List.set_cons_zero, List.set_cons_succ]
      (refine dtake_wanted 5 (v := ?_) rfl (by kernel_rfl) (by kernel_rfl) (by kernel_rfl) (fun _ _ _ h => nomatch h.1) (by rfl) (by first | trivial | assumption) ?_ ?_; rotate_left; focus (intro w hSw; (try dsimp only at hSw); go_simp; try with_reducible rfl))
      try simp only [Act.put, List.setIfInBounds_toArray, List.set_cons_zero, List.set_cons_succ]
      (refine dtake_wanted 12 (v := ?_) rfl (by kernel_rfl) (by kernel_rfl) (by kernel_rfl) (fun _ _ _ h => nomatch h.1) (by rfl) (by first | trivial | assumption) ?_ ?_; rotate_left; focus (intro w hSw; (try dsimp only at hSw); go_simp; try with_reducible rfl))
      try simp only [Act.put, List.setIfInBounds_toArray, List.set_cons_zero, List.set_cons_succ]
      (refine dtake_wanted 13 (v := ?_) rfl (by kernel_rfl) (by kernel_rfl) (by kernel_rfl) (fun _ _ _ h => nomatch h.1) (by rfl) (by first | trivial | assumption) ?_ ?_; rotate_left; focus (intro w hSw; (try dsimp only at hSw); go_simp; try with_reducible rfl))
      try simp only [Act.put, List.setIfInBounds_toArray, List.set_cons_zero, List.set_cons_succ]
      refine wpAnyH_done (by kernel_rfl) ?_ _
      exact ⟨rfl, by kernel_rfl, by kernel_rfl, by kernel_rfl, dbelow2 _ _ _⟩
  · rintro a' w' ⟨ha, h8, h9, hb⟩
    rw [h8, h9] at ha
    generalize a'.tmps.getD 26 undef = t26 at ha
    generalize a'.tmps.getD 27 undef = t27 at ha
    generalize a'.tmps.getD 28 undef = t28 at ha
    generalize a'.tmps.getD 29 undef = t29 at ha
    generalize a'.tmps.getD 30 undef = t30 at ha
    generalize a'.tmps.getD 31 undef = t31 at ha
    generalize a'.tmps.getD 32 undef = t32 at ha
    generalize a'.tmps.getD 33 undef = t33 at ha
    generalize a'.tmps.getD 34 undef = t34 at ha
    generalize a'.tmps.getD 35 undef = t35 at ha
    generalize a'.tmps.getD 36 undef = t36 at ha
    generalize a'.tmps.getD 37 undef = t37 at ha
    clear h8 h9
    subst ha
    have HB2 := Lib.hid (HB1.out.trans (hb.mono HB1.out.size))
    clear hb HB1 g1 g2 g3 g4 g5 g6 g7 g8 g9 hp4 hx3 hy3 hxl hyl j1 j2 j3 j4 j5 j6 hx hy hz
    simp only [Act.put, List.setIfInBounds_toArray, List.set_cons_succ, List.set_cons_zero]
    simp only [Exit.then]
    go_at_K
    by_cases hp0 : p = []
    · subst hp0
      have ce : (bytes ([] : Nm)).toList.isEmpty = true := by rw [bytesL_toList]; rfl
      have HX1 := Lib.hid (box4 w' (.string ⟨#[]⟩) (.string ⟨#[120, 109, 108, 110, 115]⟩) (.string ⟨#[104, 116, 116, 112, 58, 47, 47, 119, 119, 119, 46, 119, 51, 46, 111, 114, 103, 47, 50, 48, 48, 48, 47, 120, 109, 108, 110, 115, 47]⟩) (.string (bytes X)) 35)
      have HX2 := Lib.hid (box4 (w'.alloc (.cells #[.string ⟨#[]⟩, .string ⟨#[120, 109, 108, 110, 115]⟩, .string ⟨#[104, 116, 116, 112, 58, 47, 47, 119, 119, 119, 46, 119, 51, 46, 111, 114, 103, 47, 50, 48, 48, 48, 47, 120, 109, 108, 110, 115, 47]⟩, .string (bytes X)] 35)) (.string ⟨#[]⟩) (.string ⟨#[120, 109, 108, 110, 115]⟩) (.string ⟨#[104, 116, 116, 112, 58, 47, 47, 119, 119, 119, 46, 119, 51, 46, 111, 114, 103, 47, 50, 48, 48, 48, 47, 120, 109, 108, 110, 115, 47]⟩) (.string (bytes Y)) 35)
      have hM := dsize1 w' (.cells #[.string ⟨#[]⟩, .string ⟨#[120, 109, 108, 110, 115]⟩, .string ⟨#[104, 116, 116, 112, 58, 47, 47, 119, 119, 119, 46, 119, 51, 46, 111, 114, 103, 47, 50, 48, 48, 48, 47, 120, 109, 108, 110, 115, 47]⟩, .string (bytes X)] 35)
      rw [hM] at HX2
      clear hM
      have HB3 := Lib.hid (HB2.out.trans ((((Below.refl w'.heap.size w').alloc (Nat.le_refl _) (.cells #[.string ⟨#[]⟩, .string ⟨#[120, 109, 108, 110, 115]⟩, .string ⟨#[104, 116, 116, 112, 58, 47, 47, 119, 119, 119, 46, 119, 51, 46, 111, 114, 103, 47, 50, 48, 48, 48, 47, 120, 109, 108, 110, 115, 47]⟩, .string (bytes X)] 35)).alloc (by rw [dsize1]; omega) (.cells #[.string ⟨#[]⟩, .string ⟨#[120, 109, 108, 110, 115]⟩, .string ⟨#[104, 116, 116, 112, 58, 47, 47, 119, 119, 119, 46, 119, 51, 46, 111, 114, 103, 47, 50, 48, 48, 48, 47, 120, 109, 108, 110, 115, 47]⟩, .string (bytes Y)] 35)).mono HB2.out.size))
      have HBX := Lib.hid ((Below.refl (w'.alloc (.cells #[.string ⟨#[]⟩, .string ⟨#[120, 109, 108, 110, 115]⟩, .string ⟨#[104, 116, 116, 112, 58, 47, 47, 119, 119, 119, 46, 119, 51, 46, 111, 114, 103, 47, 50, 48, 48, 48, 47, 120, 109, 108, 110, 115, 47]⟩, .string (bytes X)] 35)).heap.size (w'.alloc (.cells #[.string ⟨#[]⟩, .string ⟨#[120, 109, 108, 110, 115]⟩, .string ⟨#[104, 116, 116, 112, 58, 47, 47, 119, 119, 119, 46, 119, 51, 46, 111, 114, 103, 47, 50, 48, 48, 48, 47, 120, 109, 108, 110, 115, 47]⟩, .string (bytes X)] 35))).alloc (Nat.le_refl _) (.cells #[.string ⟨#[]⟩, .string ⟨#[120, 109, 108, 110, 115]⟩, .string ⟨#[104, 116, 116, 112, 58, 47, 47, 119, 119, 119, 46, 119, 51, 46, 111, 114, 103, 47, 50, 48, 48, 48, 47, 120, 109, 108, 110, 115, 47]⟩, .string (bytes Y)] 35))
      have EX : attT [] X = ⟨[], xmlnsN, xmlnsU, X⟩ := rfl
      have EY : attT [] Y = ⟨[], xmlnsN, xmlnsU, Y⟩ := rfl
      have HFX : Hid (FitA ⟨[], xmlnsN, xmlnsU, X⟩) := Lib.hid (by have := D.out.fx; rw [EX] at this; exact this)
      have HFY : Hid (FitA ⟨[], xmlnsN, xmlnsU, Y⟩) := Lib.hid (by have := D.out.fy; rw [EY] at this; exact this)
      have HE1 := Lib.hid (show pushE [⟨[], xmlnsN, xmlnsU, X⟩, ⟨[], xmlnsN, xmlnsU, Y⟩] = 2 by rw [← EX, ← EY]; exact D.out.e1)
      have HS1 := Lib.hid (show pushS [] [⟨[], xmlnsN, xmlnsU, X⟩, ⟨[], xmlnsN, xmlnsU, Y⟩] = [] by rw [← EX, ← EY]; exact D.out.s1)
      have HE2 := Lib.hid (show pushE [⟨[], xmlnsN, xmlnsU, X⟩] = 0 by rw [← EX]; exact D.out.e2)
      have HS2 := Lib.hid (show pushS [] [⟨[], xmlnsN, xmlnsU, X⟩] = [[([], X)]] by rw [← EX]; exact D.out.s2)
      have HE3 := Lib.hid (show pushE [⟨[], xmlnsN, xmlnsU, Y⟩] = 0 by rw [← EY]; exact D.out.e3)
      have HS3 := Lib.hid (show pushS [[([], X)]] [⟨[], xmlnsN, xmlnsU, Y⟩] = [[([], Y)], [([], X)]] by rw [← EY]; exact D.out.s3)
      have HAL := Lib.hid (show (allS [[([], Y)], [([], X)]]).map declA = [⟨[], xmlnsN, xmlnsU, Y⟩, ⟨xmlnsN, xmlN, xmlnsU, xmlU⟩] by rw [← EY]; exact D.out.all)
      clear EX EY
      go_wp2_with fail
      refine (snewAt R (Below.refl _ _)).mono ?_
      rintro e w1 ⟨q, rfl, h⟩
      have H := Lib.hid h
      obtain ⟨c0, c1, c2, c3⟩ := HX1.out _ (HBX.out.trans (h.since.mono HBX.out.size))
      obtain ⟨b0, b1, b2, b3⟩ := HX2.out _ h.since
      clear h
      go_wp2_with fail
      refine (spushB R [⟨[], xmlnsN, xmlnsU, X⟩, ⟨[], xmlnsN, xmlnsU, Y⟩] 2 [] _ 2 rfl rfl (by simp) (by simp) (fit_two HFX.out HFY.out) HE1.out HS1.out H.out).mono ?_
      rintro e w1 ⟨rfl, h⟩
      replace H := Lib.hid h
      obtain ⟨c0, c1, c2, c3⟩ := HX1.out _ (HBX.out.trans (h.since.mono HBX.out.size))
      obtain ⟨b0, b1, b2, b3⟩ := HX2.out _ h.since
      clear h
      go_wp2_with fail
      refine (sdepthB R 0 rfl H.out).mono ?_
      rintro e w1 ⟨rfl, h⟩
      replace H := Lib.hid h
      obtain ⟨c0, c1, c2, c3⟩ := HX1.out _ (HBX.out.trans (h.since.mono HBX.out.size))
      obtain ⟨b0, b1, b2, b3⟩ := HX2.out _ h.since
      clear h
      go_wp2_with fail
      refine (spushB R [⟨[], xmlnsN, xmlnsU, X⟩] 0 [[([], X)]] _ 1 rfl rfl (by simp) (by simp) (fit_one HFX.out) HE2.out HS2.out H.out).mono ?_
      rintro e w1 ⟨rfl, h⟩
      replace H := Lib.hid h
      obtain ⟨c0, c1, c2, c3⟩ := HX1.out _ (HBX.out.trans (h.since.mono HBX.out.size))
      obtain ⟨b0, b1, b2, b3⟩ := HX2.out _ h.since
      clear h
      go_wp2_with fail
      refine (spushB R [⟨[], xmlnsN, xmlnsU, Y⟩] 0 [[([], Y)], [([], X)]] _ 1 rfl rfl (by simp) (by simp) (fit_one HFY.out) HE3.out HS3.out H.out).mono ?_
      rintro e w1 ⟨rfl, h⟩
      replace H := Lib.hid h
      clear h
      have CU := Lib.hid (suriAt R [] D.out.pl H.out)
      rw [D.out.u, D.out.i] at CU
      go_wp2_with fail
      refine (CU.out).mono ?_
      rintro e w1 ⟨rfl, h⟩
      replace H := Lib.hid h
      clear h
      clear CU
      go_wp2_with fail
      refine (sallAt R H.out).mono ?_
      rintro e w1 ⟨sl, rfl, K, h, ha, _⟩
      rw [HAL.out] at ha
      obtain ⟨sa, sc, rfl⟩ := ha.slice
      obtain ⟨ab, aoff, rfl, _, _, _, _⟩ := ha.cell (by simp)
      have HA := Lib.hid ha
      have HH := Lib.hid h
      clear h ha H
      have CP := Lib.hid (sprefAt R Y D.out.yl HH.out)
      rw [D.out.q, D.out.f] at CP
      rw [show decide (([] : Nm) ≠ []) = false from rfl] at CP
      go_wp2_with fail
      refine (CP.out).mono ?_
      rintro e w1 ⟨rfl, h⟩
      have H := Lib.hid h
      clear h
      have CQ := Lib.hid (sprefAt R X D.out.xl H.out)
      rw [D.out.o] at CQ
      rw [show (decide (([] : Nm) ≠ []) && decide (X = Y)) = false from rfl] at CQ
      go_wp2_with fail
      refine (CQ.out).mono ?_
      rintro e w1 ⟨rfl, h⟩
      replace H := Lib.hid h
      clear h
      clear CP CQ
      go_wp2_with fail
      refine (CT.out _).mono ?_
      rintro e w2 ⟨rfl, hb⟩
      have h5 := H.out.other R hb
      have hx := h5.ats HA.out
      obtain ⟨b', off', e1, _, _, _, hc⟩ := hx.cell (by simp)
      injection e1 with e1
      injection e1 with e1 e2 _
      subst e1; subst e2
      have k03 : w2.cell? ⟨ab, aoff + 3, none⟩ = some (.string (bytes Y)) := (hc 0 (by simp)).2.2.2
      have HE := Lib.hid (HB3.out.trans (h5.since.mono HB3.out.size))
      clear h5 hx hc hb H HH HA
      go_wp2
      go_ret
      exact ⟨rfl, HE.out⟩
    · have ce := semp14 hp0
      have EX : attT p X = ⟨xmlnsN, p, xmlnsU, X⟩ := if_neg hp0
      have EY : attT p Y = ⟨xmlnsN, p, xmlnsU, Y⟩ := if_neg hp0
      have HP0 := Lib.hid hp0
      clear hp0
      by_cases hxy : X = Y
      · have cx : ((bytes X).toList == (bytes Y).toList) = true := by rw [hxy]; simp
        have HXY := Lib.hid hxy
        clear hxy
        have HX1 := Lib.hid (box4 w' (.string ⟨#[120, 109, 108, 110, 115]⟩) (.string (bytes p)) (.string ⟨#[104, 116, 116, 112, 58, 47, 47, 119, 119, 119, 46, 119, 51, 46, 111, 114, 103, 47, 50, 48, 48, 48, 47, 120, 109, 108, 110, 115, 47]⟩) (.string (bytes X)) 35)
        have HX2 := Lib.hid (box4 (w'.alloc (.cells #[.string ⟨#[120, 109, 108, 110, 115]⟩, .string (bytes p), .string ⟨#[104, 116, 116, 112, 58, 47, 47, 119, 119, 119, 46, 119, 51, 46, 111, 114, 103, 47, 50, 48, 48, 48, 47, 120, 109, 108, 110, 115, 47]⟩, .string (bytes X)] 35)) (.string ⟨#[120, 109, 108, 110, 115]⟩) (.string (bytes p)) (.string ⟨#[104, 116, 116, 112, 58, 47, 47, 119, 119, 119, 46, 119, 51, 46, 111, 114, 103, 47, 50, 48, 48, 48, 47, 120, 109, 108, 110, 115, 47]⟩) (.string (bytes Y)) 35)
        have hM := dsize1 w' (.cells #[.string ⟨#[120, 109, 108, 110, 115]⟩, .string (bytes p), .string ⟨#[104, 116, 116, 112, 58, 47, 47, 119, 119, 119, 46, 119, 51, 46, 111, 114, 103, 47, 50, 48, 48, 48, 47, 120, 109, 108, 110, 115, 47]⟩, .string (bytes X)] 35)
        rw [hM] at HX2
        clear hM
        have HB3 := Lib.hid (HB2.out.trans ((((Below.refl w'.heap.size w').alloc (Nat.le_refl _) (.cells #[.string ⟨#[120, 109, 108, 110, 115]⟩, .string (bytes p), .string ⟨#[104, 116, 116, 112, 58, 47, 47, 119, 119, 119, 46, 119, 51, 46, 111, 114, 103, 47, 50, 48, 48, 48, 47, 120, 109, 108, 110, 115, 47]⟩, .string (bytes X)] 35)).alloc (by rw [dsize1]; omega) (.cells #[.string ⟨#[120, 109, 108, 110, 115]⟩, .string (bytes p), .string ⟨#[104, 116, 116, 112, 58, 47, 47, 119, 119, 119, 46, 119, 51, 46, 111, 114, 103, 47, 50, 48, 48, 48, 47, 120, 109, 108, 110, 115, 47]⟩, .string (bytes Y)] 35)).mono HB2.out.size))
        have HBX := Lib.hid ((Below.refl (w'.alloc (.cells #[.string ⟨#[120, 109, 108, 110, 115]⟩, .string (bytes p), .string ⟨#[104, 116, 116, 112, 58, 47, 47, 119, 119, 119, 46, 119, 51, 46, 111, 114, 103, 47, 50, 48, 48, 48, 47, 120, 109, 108, 110, 115, 47]⟩, .string (bytes X)] 35)).heap.size (w'.alloc (.cells #[.string ⟨#[120, 109, 108, 110, 115]⟩, .string (bytes p), .string ⟨#[104, 116, 116, 112, 58, 47, 47, 119, 119, 119, 46, 119, 51, 46, 111, 114, 103, 47, 50, 48, 48, 48, 47, 120, 109, 108, 110, 115, 47]⟩, .string (bytes X)] 35))).alloc (Nat.le_refl _) (.cells #[.string ⟨#[120, 109, 108, 110, 115]⟩, .string (bytes p), .string ⟨#[104, 116, 116, 112, 58, 47, 47, 119, 119, 119, 46, 119, 51, 46, 111, 114, 103, 47, 50, 48, 48, 48, 47, 120, 109, 108, 110, 115, 47]⟩, .string (bytes Y)] 35))
        have HFX : Hid (FitA ⟨xmlnsN, p, xmlnsU, X⟩) := Lib.hid (by have := D.out.fx; rw [EX] at this; exact this)
        have HFY : Hid (FitA ⟨xmlnsN, p, xmlnsU, Y⟩) := Lib.hid (by have := D.out.fy; rw [EY] at this; exact this)
        have HE1 := Lib.hid (show pushE [⟨xmlnsN, p, xmlnsU, X⟩, ⟨xmlnsN, p, xmlnsU, Y⟩] = 2 by rw [← EX, ← EY]; exact D.out.e1)
        have HS1 := Lib.hid (show pushS [] [⟨xmlnsN, p, xmlnsU, X⟩, ⟨xmlnsN, p, xmlnsU, Y⟩] = [] by rw [← EX, ← EY]; exact D.out.s1)
        have HE2 := Lib.hid (show pushE [⟨xmlnsN, p, xmlnsU, X⟩] = 0 by rw [← EX]; exact D.out.e2)
        have HS2 := Lib.hid (show pushS [] [⟨xmlnsN, p, xmlnsU, X⟩] = [[(p, X)]] by rw [← EX]; exact D.out.s2)
        have HE3 := Lib.hid (show pushE [⟨xmlnsN, p, xmlnsU, Y⟩] = 0 by rw [← EY]; exact D.out.e3)
        have HS3 := Lib.hid (show pushS [[(p, X)]] [⟨xmlnsN, p, xmlnsU, Y⟩] = [[(p, Y)], [(p, X)]] by rw [← EY]; exact D.out.s3)
        have HAL := Lib.hid (show (allS [[(p, Y)], [(p, X)]]).map declA = [⟨xmlnsN, p, xmlnsU, Y⟩, ⟨xmlnsN, xmlN, xmlnsU, xmlU⟩] by rw [← EY]; exact D.out.all)
        clear EX EY
        go_wp2_with fail
        refine (snewAt R (Below.refl _ _)).mono ?_
        rintro e w1 ⟨q, rfl, h⟩
        have H := Lib.hid h
        obtain ⟨c0, c1, c2, c3⟩ := HX1.out _ (HBX.out.trans (h.since.mono HBX.out.size))
        obtain ⟨b0, b1, b2, b3⟩ := HX2.out _ h.since
        clear h
        go_wp2_with fail
        refine (spushB R [⟨xmlnsN, p, xmlnsU, X⟩, ⟨xmlnsN, p, xmlnsU, Y⟩] 2 [] _ 2 rfl rfl (by simp) (by simp) (fit_two HFX.out HFY.out) HE1.out HS1.out H.out).mono ?_
        rintro e w1 ⟨rfl, h⟩
        replace H := Lib.hid h
        obtain ⟨c0, c1, c2, c3⟩ := HX1.out _ (HBX.out.trans (h.since.mono HBX.out.size))
        obtain ⟨b0, b1, b2, b3⟩ := HX2.out _ h.since
        clear h
        go_wp2_with fail
        refine (sdepthB R 0 rfl H.out).mono ?_
        rintro e w1 ⟨rfl, h⟩
        replace H := Lib.hid h
        obtain ⟨c0, c1, c2, c3⟩ := HX1.out _ (HBX.out.trans (h.since.mono HBX.out.size))
        obtain ⟨b0, b1, b2, b3⟩ := HX2.out _ h.since
        clear h
        go_wp2_with fail
        refine (spushB R [⟨xmlnsN, p, xmlnsU, X⟩] 0 [[(p, X)]] _ 1 rfl rfl (by simp) (by simp) (fit_one HFX.out) HE2.out HS2.out H.out).mono ?_
        rintro e w1 ⟨rfl, h⟩
        replace H := Lib.hid h
        obtain ⟨c0, c1, c2, c3⟩ := HX1.out _ (HBX.out.trans (h.since.mono HBX.out.size))
        obtain ⟨b0, b1, b2, b3⟩ := HX2.out _ h.since
        clear h
        go_wp2_with fail
        refine (spushB R [⟨xmlnsN, p, xmlnsU, Y⟩] 0 [[(p, Y)], [(p, X)]] _ 1 rfl rfl (by simp) (by simp) (fit_one HFY.out) HE3.out HS3.out H.out).mono ?_
        rintro e w1 ⟨rfl, h⟩
        replace H := Lib.hid h
        clear h
        have CU := Lib.hid (suriAt R p D.out.pl H.out)
        rw [D.out.u, D.out.i] at CU
        go_wp2_with fail
        refine (CU.out).mono ?_
        rintro e w1 ⟨rfl, h⟩
        replace H := Lib.hid h
        clear h
        clear CU
        go_wp2_with fail
        refine (sallAt R H.out).mono ?_
        rintro e w1 ⟨sl, rfl, K, h, ha, _⟩
        rw [HAL.out] at ha
        obtain ⟨sa, sc, rfl⟩ := ha.slice
        obtain ⟨ab, aoff, rfl, _, _, _, _⟩ := ha.cell (by simp)
        have HA := Lib.hid ha
        have HH := Lib.hid h
        clear h ha H
        have CP := Lib.hid (sprefAt R Y D.out.yl HH.out)
        rw [D.out.q, D.out.f] at CP
        rw [show decide (p ≠ []) = true from decide_eq_true HP0.out] at CP
        go_wp2_with fail
        refine (CP.out).mono ?_
        rintro e w1 ⟨rfl, h⟩
        have H := Lib.hid h
        clear h
        have CQ := Lib.hid (sprefAt R X D.out.xl H.out)
        rw [D.out.o] at CQ
        rw [show (decide (p ≠ []) && decide (X = Y)) = true by rw [decide_eq_true HP0.out, decide_eq_true HXY.out]; rfl] at CQ
        go_wp2_with fail
        refine (CQ.out).mono ?_
        rintro e w1 ⟨rfl, h⟩
        replace H := Lib.hid h
        clear h
        clear CP CQ
        go_wp2_with fail
        refine (CT.out _).mono ?_
        rintro e w2 ⟨rfl, hb⟩
        have h5 := H.out.other R hb
        have hx := h5.ats HA.out
        obtain ⟨b', off', e1, _, _, _, hc⟩ := hx.cell (by simp)
        injection e1 with e1
        injection e1 with e1 e2 _
        subst e1; subst e2
        have k03 : w2.cell? ⟨ab, aoff + 3, none⟩ = some (.string (bytes Y)) := (hc 0 (by simp)).2.2.2
        have HE := Lib.hid (HB3.out.trans (h5.since.mono HB3.out.size))
        clear h5 hx hc hb H HH HA
        go_wp2
        go_ret
        exact ⟨rfl, HE.out⟩
      · have cx : ((bytes X).toList == (bytes Y).toList) = false := bytesL_ne hxy
        have HXY := Lib.hid hxy
        clear hxy
        have HX1 := Lib.hid (box4 w' (.string ⟨#[120, 109, 108, 110, 115]⟩) (.string (bytes p)) (.string ⟨#[104, 116, 116, 112, 58, 47, 47, 119, 119, 119, 46, 119, 51, 46, 111, 114, 103, 47, 50, 48, 48, 48, 47, 120, 109, 108, 110, 115, 47]⟩) (.string (bytes X)) 35)
        have HX2 := Lib.hid (box4 (w'.alloc (.cells #[.string ⟨#[120, 109, 108, 110, 115]⟩, .string (bytes p), .string ⟨#[104, 116, 116, 112, 58, 47, 47, 119, 119, 119, 46, 119, 51, 46, 111, 114, 103, 47, 50, 48, 48, 48, 47, 120, 109, 108, 110, 115, 47]⟩, .string (bytes X)] 35)) (.string ⟨#[120, 109, 108, 110, 115]⟩) (.string (bytes p)) (.string ⟨#[104, 116, 116, 112, 58, 47, 47, 119, 119, 119, 46, 119, 51, 46, 111, 114, 103, 47, 50, 48, 48, 48, 47, 120, 109, 108, 110, 115, 47]⟩) (.string (bytes Y)) 35)
        have hM := dsize1 w' (.cells #[.string ⟨#[120, 109, 108, 110, 115]⟩, .string (bytes p), .string ⟨#[104, 116, 116, 112, 58, 47, 47, 119, 119, 119, 46, 119, 51, 46, 111, 114, 103, 47, 50, 48, 48, 48, 47, 120, 109, 108, 110, 115, 47]⟩, .string (bytes X)] 35)
        rw [hM] at HX2
        clear hM
        have HB3 := Lib.hid (HB2.out.trans ((((Below.refl w'.heap.size w').alloc (Nat.le_refl _) (.cells #[.string ⟨#[120, 109, 108, 110, 115]⟩, .string (bytes p), .string ⟨#[104, 116, 116, 112, 58, 47, 47, 119, 119, 119, 46, 119, 51, 46, 111, 114, 103, 47, 50, 48, 48, 48, 47, 120, 109, 108, 110, 115, 47]⟩, .string (bytes X)] 35)).alloc (by rw [dsize1]; omega) (.cells #[.string ⟨#[120, 109, 108, 110, 115]⟩, .string (bytes p), .string ⟨#[104, 116, 116, 112, 58, 47, 47, 119, 119, 119, 46, 119, 51, 46, 111, 114, 103, 47, 50, 48, 48, 48, 47, 120, 109, 108, 110, 115, 47]⟩, .string (bytes Y)] 35)).mono HB2.out.size))
        have HBX := Lib.hid ((Below.refl (w'.alloc (.cells #[.string ⟨#[120, 109, 108, 110, 115]⟩, .string (bytes p), .string ⟨#[104, 116, 116, 112, 58, 47, 47, 119, 119, 119, 46, 119, 51, 46, 111, 114, 103, 47, 50, 48, 48, 48, 47, 120, 109, 108, 110, 115, 47]⟩, .string (bytes X)] 35)).heap.size (w'.alloc (.cells #[.string ⟨#[120, 109, 108, 110, 115]⟩, .string (bytes p), .string ⟨#[104, 116, 116, 112, 58, 47, 47, 119, 119, 119, 46, 119, 51, 46, 111, 114, 103, 47, 50, 48, 48, 48, 47, 120, 109, 108, 110, 115, 47]⟩, .string (bytes X)] 35))).alloc (Nat.le_refl _) (.cells #[.string ⟨#[120, 109, 108, 110, 115]⟩, .string (bytes p), .string ⟨#[104, 116, 116, 112, 58, 47, 47, 119, 119, 119, 46, 119, 51, 46, 111, 114, 103, 47, 50, 48, 48, 48, 47, 120, 109, 108, 110, 115, 47]⟩, .string (bytes Y)] 35))
        have HFX : Hid (FitA ⟨xmlnsN, p, xmlnsU, X⟩) := Lib.hid (by have := D.out.fx; rw [EX] at this; exact this)
        have HFY : Hid (FitA ⟨xmlnsN, p, xmlnsU, Y⟩) := Lib.hid (by have := D.out.fy; rw [EY] at this; exact this)
        have HE1 := Lib.hid (show pushE [⟨xmlnsN, p, xmlnsU, X⟩, ⟨xmlnsN, p, xmlnsU, Y⟩] = 2 by rw [← EX, ← EY]; exact D.out.e1)
        have HS1 := Lib.hid (show pushS [] [⟨xmlnsN, p, xmlnsU, X⟩, ⟨xmlnsN, p, xmlnsU, Y⟩] = [] by rw [← EX, ← EY]; exact D.out.s1)
        have HE2 := Lib.hid (show pushE [⟨xmlnsN, p, xmlnsU, X⟩] = 0 by rw [← EX]; exact D.out.e2)
        have HS2 := Lib.hid (show pushS [] [⟨xmlnsN, p, xmlnsU, X⟩] = [[(p, X)]] by rw [← EX]; exact D.out.s2)
        have HE3 := Lib.hid (show pushE [⟨xmlnsN, p, xmlnsU, Y⟩] = 0 by rw [← EY]; exact D.out.e3)
        have HS3 := Lib.hid (show pushS [[(p, X)]] [⟨xmlnsN, p, xmlnsU, Y⟩] = [[(p, Y)], [(p, X)]] by rw [← EY]; exact D.out.s3)
        have HAL := Lib.hid (show (allS [[(p, Y)], [(p, X)]]).map declA = [⟨xmlnsN, p, xmlnsU, Y⟩, ⟨xmlnsN, xmlN, xmlnsU, xmlU⟩] by rw [← EY]; exact D.out.all)
        clear EX EY
        go_wp2_with fail
        refine (snewAt R (Below.refl _ _)).mono ?_
        rintro e w1 ⟨q, rfl, h⟩
        have H := Lib.hid h
        obtain ⟨c0, c1, c2, c3⟩ := HX1.out _ (HBX.out.trans (h.since.mono HBX.out.size))
        obtain ⟨b0, b1, b2, b3⟩ := HX2.out _ h.since
        clear h
        go_wp2_with fail
        refine (spushB R [⟨xmlnsN, p, xmlnsU, X⟩, ⟨xmlnsN, p, xmlnsU, Y⟩] 2 [] _ 2 rfl rfl (by simp) (by simp) (fit_two HFX.out HFY.out) HE1.out HS1.out H.out).mono ?_
        rintro e w1 ⟨rfl, h⟩
        replace H := Lib.hid h
        obtain ⟨c0, c1, c2, c3⟩ := HX1.out _ (HBX.out.trans (h.since.mono HBX.out.size))
        obtain ⟨b0, b1, b2, b3⟩ := HX2.out _ h.since
        clear h
        go_wp2_with fail
        refine (sdepthB R 0 rfl H.out).mono ?_
        rintro e w1 ⟨rfl, h⟩
        replace H := Lib.hid h
        obtain ⟨c0, c1, c2, c3⟩ := HX1.out _ (HBX.out.trans (h.since.mono HBX.out.size))
        obtain ⟨b0, b1, b2, b3⟩ := HX2.out _ h.since
        clear h
        go_wp2_with fail
        refine (spushB R [⟨xmlnsN, p, xmlnsU, X⟩] 0 [[(p, X)]] _ 1 rfl rfl (by simp) (by simp) (fit_one HFX.out) HE2.out HS2.out H.out).mono ?_
        rintro e w1 ⟨rfl, h⟩
        replace H := Lib.hid h
        obtain ⟨c0, c1, c2, c3⟩ := HX1.out _ (HBX.out.trans (h.since.mono HBX.out.size))
        obtain ⟨b0, b1, b2, b3⟩ := HX2.out _ h.since
        clear h
        go_wp2_with fail
        refine (spushB R [⟨xmlnsN, p, xmlnsU, Y⟩] 0 [[(p, Y)], [(p, X)]] _ 1 rfl rfl (by simp) (by simp) (fit_one HFY.out) HE3.out HS3.out H.out).mono ?_
        rintro e w1 ⟨rfl, h⟩
        replace H := Lib.hid h
        clear h
        have CU := Lib.hid (suriAt R p D.out.pl H.out)
        rw [D.out.u, D.out.i] at CU
        go_wp2_with fail
        refine (CU.out).mono ?_
        rintro e w1 ⟨rfl, h⟩
        replace H := Lib.hid h
        clear h
        clear CU
        go_wp2_with fail
        refine (sallAt R H.out).mono ?_
        rintro e w1 ⟨sl, rfl, K, h, ha, _⟩
        rw [HAL.out] at ha
        obtain ⟨sa, sc, rfl⟩ := ha.slice
        obtain ⟨ab, aoff, rfl, _, _, _, _⟩ := ha.cell (by simp)
        have HA := Lib.hid ha
        have HH := Lib.hid h
        clear h ha H
        have CP := Lib.hid (sprefAt R Y D.out.yl HH.out)
        rw [D.out.q, D.out.f] at CP
        rw [show decide (p ≠ []) = true from decide_eq_true HP0.out] at CP
        go_wp2_with fail
        refine (CP.out).mono ?_
        rintro e w1 ⟨rfl, h⟩
        have H := Lib.hid h
        clear h
        have CQ := Lib.hid (sprefAt R X D.out.xl H.out)
        rw [D.out.o] at CQ
        rw [show (decide (p ≠ []) && decide (X = Y)) = false by rw [decide_eq_true HP0.out, decide_eq_false HXY.out]; rfl] at CQ
        go_wp2_with fail
        refine (CQ.out).mono ?_
        rintro e w1 ⟨rfl, h⟩
        replace H := Lib.hid h
        clear h
        clear CP CQ
        go_wp2_with fail
        refine (CT.out _).mono ?_
        rintro e w2 ⟨rfl, hb⟩
        have h5 := H.out.other R hb
        have hx := h5.ats HA.out
        obtain ⟨b', off', e1, _, _, _, hc⟩ := hx.cell (by simp)
        injection e1 with e1
        injection e1 with e1 e2 _
        subst e1; subst e2
        have k03 : w2.cell? ⟨ab, aoff + 3, none⟩ = some (.string (bytes Y)) := (hc 0 (by simp)).2.2.2
        have HE := Lib.hid (HB3.out.trans (h5.since.mono HB3.out.size))
        clear h5 hx hc hb H HH HA
        go_wp2
        go_ret
        exact ⟨rfl, HE.out⟩
end Go.Proofs.Ythhnpnjnlbjdjaa
