/-
  LAW ScopePlays. (Written by gen_scplays.py.)
-/
import Derived.Test.YthhnpnjnlbjdjaaScPlAt
namespace Go.Proofs.Ythhnpnjnlbjdjaa
open Go.RowKit

def tabP (p : Nm) : List Nm := [p, [112], [113], [], xmlN, xmlnsN]
def tabU (u : Nm) : List Nm := [u, [117], [118], [], xmlU, [119]]
theorem tabP_at (p : Nm) (j : Nat) (hj : j < 6) : (#[.string (bytes p), .string ⟨#[112]⟩, .string ⟨#[113]⟩, .string ⟨#[]⟩, .string ⟨#[120, 109, 108]⟩, .string ⟨#[120, 109, 108, 110, 115]⟩] : Array Value)[j]? = some (.string (bytes ((tabP p).getD j []))) := by
  rcases (show j = 0 ∨ j = 1 ∨ j = 2 ∨ j = 3 ∨ j = 4 ∨ j = 5 by omega) with rfl | rfl | rfl | rfl | rfl | rfl <;> rfl
theorem tabU_at (u : Nm) (j : Nat) (hj : j < 6) : (#[.string (bytes u), .string ⟨#[117]⟩, .string ⟨#[118]⟩, .string ⟨#[]⟩, .string ⟨#[104, 116, 116, 112, 58, 47, 47, 119, 119, 119, 46, 119, 51, 46, 111, 114, 103, 47, 88, 77, 76, 47, 49, 57, 57, 56, 47, 110, 97, 109, 101, 115, 112, 97, 99, 101]⟩, .string ⟨#[119]⟩] : Array Value)[j]? = some (.string (bytes ((tabU u).getD j []))) := by
  rcases (show j = 0 ∨ j = 1 ∨ j = 2 ∨ j = 3 ∨ j = 4 ∨ j = 5 by omega) with rfl | rfl | rfl | rfl | rfl | rfl <;> rfl
theorem tabP_l (p : Nm) (j : Nat) (hj : j < 6) : ([.string (bytes p), .string ⟨#[112]⟩, .string ⟨#[113]⟩, .string ⟨#[]⟩, .string ⟨#[120, 109, 108]⟩, .string ⟨#[120, 109, 108, 110, 115]⟩] : List Value)[j]'hj = .string (bytes ((tabP p).getD j [])) := by
  rcases (show j = 0 ∨ j = 1 ∨ j = 2 ∨ j = 3 ∨ j = 4 ∨ j = 5 by omega) with rfl | rfl | rfl | rfl | rfl | rfl <;> rfl
theorem tabU_l (u : Nm) (j : Nat) (hj : j < 6) : ([.string (bytes u), .string ⟨#[117]⟩, .string ⟨#[118]⟩, .string ⟨#[]⟩, .string ⟨#[104, 116, 116, 112, 58, 47, 47, 119, 119, 119, 46, 119, 51, 46, 111, 114, 103, 47, 88, 77, 76, 47, 49, 57, 57, 56, 47, 110, 97, 109, 101, 115, 112, 97, 99, 101]⟩, .string ⟨#[119]⟩] : List Value)[j]'hj = .string (bytes ((tabU u).getD j [])) := by
  rcases (show j = 0 ∨ j = 1 ∨ j = 2 ∨ j = 3 ∨ j = 4 ∨ j = 5 by omega) with rfl | rfl | rfl | rfl | rfl | rfl <;> rfl
theorem tabP_len (p : Nm) (j : Nat) (hj : j < 6) (hp : p.length ≤ 50) : ((tabP p).getD j []).length ≤ 8388608 := by
  rcases (show j = 0 ∨ j = 1 ∨ j = 2 ∨ j = 3 ∨ j = 4 ∨ j = 5 by omega) with rfl | rfl | rfl | rfl | rfl | rfl <;> first | exact Nat.le_of_ble_eq_true rfl | (show p.length ≤ _; omega)
theorem tabU_len (u : Nm) (j : Nat) (hj : j < 6) (hu : u.length ≤ 50) : ((tabU u).getD j []).length ≤ 8388608 := by
  rcases (show j = 0 ∨ j = 1 ∨ j = 2 ∨ j = 3 ∨ j = 4 ∨ j = 5 by omega) with rfl | rfl | rfl | rfl | rfl | rfl <;> first | exact Nat.le_of_ble_eq_true rfl | (show u.length ≤ _; omega)
theorem dbelow2s (w : World) (o1 o2 : Obj) : Below w.heap.size w ((w.alloc o1).alloc o2).drew :=
  (((Below.refl w.heap.size w).alloc (Nat.le_refl _) o1).alloc (by rw [dsize1]; omega) o2).drew
def PlaysR (W1 : World) (X Y : Nm) (a a' : Act) (w' : World) : Prop :=
  a' = ((((((((((((a.put (some 88) (a'.tmps.getD 88 undef)).put (some 89) (a'.tmps.getD 89 undef)).put (some 90) (a'.tmps.getD 90 undef)).put (some 91) (a'.tmps.getD 91 undef)).put (some 92) (a'.tmps.getD 92 undef)).put (some 93) (a'.tmps.getD 93 undef)).put (some 94) (a'.tmps.getD 94 undef)).put (some 95) (a'.tmps.getD 95 undef)).put (some 96) (a'.tmps.getD 96 undef)).put (some 97) (a'.tmps.getD 97 undef)).put (some 13) (a'.tmps.getD 13 undef)).put (some 14) (a'.tmps.getD 14 undef)) ∧ a'.tmps.getD 13 undef = .string (bytes X) ∧ a'.tmps.getD 14 undef = .string (bytes Y) ∧ Below W1.heap.size W1 w'
set_option maxHeartbeats 8000000 in
set_option maxRecDepth 100000 in
theorem plays_any {Is : (Nat → Prop) → World → Value → List (List Bd) → Prop} (R : ScSaid Is) (v : Value) (pb ub : ByteArray) (W : World) (hv : OpsArg W v) :
    Calls Try.prog 4 #[v, .string pb, .string ub] W fun e w' => e = .returned (.bool true) ∧ Below W.heap.size W w' := by
  obtain ⟨p, rfl⟩ : ∃ p : Nm, pb = bytes p := ⟨pb.data.toList, rfl⟩
  obtain ⟨u, rfl⟩ : ∃ u : Nm, ub = bytes u := ⟨ub.data.toList, rfl⟩
  obtain ⟨va, vc, ops, rfl, hol, hops⟩ := hv
  have HOPS := Lib.hid hops
  have CT := Lib.hid (fun V => told14_any R V)
  clear hops
  by_cases hbig : ops.length ≤ 25 ∧ (bytes p).size ≤ 50 ∧ (bytes u).size ≤ 50
  · obtain ⟨h1, h2, h3⟩ := hbig
    have g1 : ¬ (25 : Int) < (ops.length : Int) := by omega
    have g2 : ¬ (50 : Int) < ((bytes p).size : Int) := by omega
    have g3 : ¬ (50 : Int) < ((bytes u).size : Int) := by omega
    rw [bytesL_len] at h2 h3
    go_enter Try.func4, Try.ntmps4
    go_wp2_with fail
    refine (snewAt (w0 := W) R (Below.refl _ _)).mono ?_
    rintro e w1 ⟨q, rfl, h⟩
    have HP := Lib.hid (pl_new R h)
    clear h
    go_wp2_with fail
    generalize w1.heap.size = rb at HP ⊢
    generalize w1.alloc _ = wn at HP ⊢
    clear g1 g2 g3
    go_loopw [9] (fun iv wr => ∃ (i : Nat) (S : List (List Bd)), i ≤ ops.length ∧ S.length ≤ i ∧ iv = .int .i64 i ∧ Hid ((∀ lv ∈ S, lv.length ≤ 8) ∧ PlAt Is W (.pointer (some q)) rb S S wr)) (fun iv _ => ops.length - (intOf iv).toNat)
    case atStart => exact ⟨0, [], Nat.zero_le _, Nat.zero_le _, rfl, Lib.hid ⟨fun _ h => (by cases h), HP.out⟩⟩
    case round =>
      obtain ⟨i, S, hi, hSi, rfl, HR⟩ := hrel
      by_cases hlt : i < ops.length
      · obtain ⟨ob, oo, rfl, hbl, hcells⟩ := HOPS.out.resolve_left (fun e => by rw [e] at hlt; simp at hlt)
        obtain ⟨hk0, lv, hc1, hints⟩ := hcells i hlt
        have HCS := Lib.hid (fun V (hb : Below W.heap.size W V) => show V.cell? ⟨ob, oo + i * 2, none⟩ = some (.int .i64 (op14I ops i).1) ∧ V.cell? ⟨ob, oo + i * 2 + 1, none⟩ = some lv ∧ IntsV V lv (op14I ops i).2 from ⟨(hb.cell (p := ⟨ob, oo + i * 2, none⟩) hbl).trans hk0, (hb.cell (p := ⟨ob, oo + i * 2 + 1, none⟩) hbl).trans hc1, hints.below hb⟩)
        have j1 : (0 : Int) ≤ (i : Int) := by omega
        have j2 : (i : Int) < (ops.length : Int) := by omega
        clear hk0 hcells hc1 hints
        generalize op14I ops i = o at HCS
        obtain ⟨kind, zs⟩ := o
        dsimp only at HCS
        obtain ⟨c0, c1, hz⟩ := HCS.out _ HR.out.2.since
        have HZ := Lib.hid hz
        obtain ⟨k, hk⟩ : ∃ k, bits BinOp.and IntKind.i64 kind 7 = k := ⟨_, rfl⟩
        clear hz
        have hex : k < 5 ∨ k = 5 ∨ 5 < k := by omega
        rcases hex with hk1 | rfl | hk1
        · go_wp2_with fail
          refine (rdecls4 lv _ _ HZ.out).mono ?_
          rintro e w3 ⟨sl, rfl, hb3, hats⟩
          have HD := Lib.hid (HR.out.2.decls R hb3 hats)
          have h48 := declsZ_few zs 4 (by decide)
          clear hb3 hats c0 c1
          go_wp2_with fail
          refine (HD.out.spush R (by omega) (by omega) (declsZ_fit _ _)).mono ?_
          rintro e w4 ⟨rfl, hd4⟩
          have HD4 := Lib.hid hd4
          clear hd4
          go_wp2_with fail
          refine (HD4.out.rpush R (by omega) h48 (goodA_decls _ _)).mono ?_
          rintro e w5 ⟨rfl, hp5⟩
          obtain ⟨S', HQ, hq⟩ : ∃ S' : List (List Bd), Hid ((∀ lv ∈ S', lv.length ≤ 8) ∧ PlAt Is W (.pointer (some q)) rb S' S' w5) ∧ S'.length ≤ i + 1 := ⟨pushS S (declsZ zs 4), Lib.hid ⟨pushS_small HR.out.1 zs, hp5⟩, by have := push_len S (declsZ zs 4); omega⟩
          generalize pushE (declsZ zs 4) = pe
          clear hp5 HD HD4 h48 HR HP
          go_wp2_with fail
          go_loopw [12] (fun jv wb => ∃ j : Nat, j ≤ 6 ∧ jv = .int .i64 j ∧ Hid (PlAt Is W (.pointer (some q)) rb S' S' wb)) (fun jv _ => 6 - (intOf jv).toNat)
          case atStart => exact ⟨0, by omega, rfl, Lib.hid HQ.out.2⟩
          case round =>
            obtain ⟨j, hj, rfl, HB⟩ := hrel
            by_cases hj6 : j < 6
            · have hx3 := tabP_at p j hj6
              have hy3 := tabU_at u j hj6
              have hxl := tabP_l p j hj6
              have hyl := tabU_l u j hj6
              have hXL := tabP_len p j hj6 h2
              have hYL := tabU_len u j hj6 h3
              generalize (tabP p).getD j [] = X at hx3 hxl hXL
              generalize (tabU u).getD j [] = Y at hy3 hyl hYL
              have HXL := Lib.hid hXL
              have HYL := Lib.hid hYL
              have k1 : (0 : Int) ≤ (j : Int) := by omega
              have k2 : (j : Int) < 6 := by omega
              clear hXL hYL
              go_wp2_with fail
              refine region_weaken (PlaysR wr X Y) ?_ ?_
              · clear HCS HZ HQ HB HOPS CT HXL HYL
                refine wp_region_held_drew (S := fun _ => True) (by kernel_rfl) trivial (fun hHeld => ?_)
                (refine dtake_wanted 0 (v := ?_) rfl (by kernel_rfl) (by kernel_rfl) (by kernel_rfl) (fun _ _ _ h => nomatch h.1) (by rfl) (by first | trivial | assumption) ?_ ?_; rotate_left; focus (intro w hSw; (try dsimp only at hSw); go_simp; try with_reducible rfl))
                try simp only [Act.put, List.setIfInBounds_toArray, List.set_cons_zero, List.set_cons_succ]
                (refine dtake_wanted 2 (v := ?_) rfl (by kernel_rfl) (by kernel_rfl) (by kernel_rfl) (fun _ _ _ h => nomatch h.1) (by rfl) (by first | trivial | assumption) ?_ ?_; rotate_left; focus (intro w hSw; (try dsimp only at hSw); go_simp; try with_reducible rfl))
                try simp only [Act.put, List.setIfInBounds_toArray, List.set_cons_zero, List.set_cons_succ]
                (refine dtake_wanted 5 (v := ?_) rfl (by kernel_rfl) (by kernel_rfl) (by kernel_rfl) (fun _ _ _ h => nomatch h.1) (by rfl) (by first | trivial | assumption) ?_ ?_; rotate_left; focus (intro w hSw; (try dsimp only at hSw); go_simp; try with_reducible rfl))
                try simp only [Act.put, List.setIfInBounds_toArray, List.set_cons_zero, List.set_cons_succ]
                (refine dtake_wanted 7 (v := ?_) rfl (by kernel_rfl) (by kernel_rfl) (by kernel_rfl) (fun _ _ _ h => nomatch h.1) (by rfl) (by first | trivial | assumption) ?_ ?_; rotate_left; focus (intro w hSw; (try dsimp only at hSw); go_simp; try with_reducible rfl))
                try simp only [Act.put, List.setIfInBounds_toArray, List.set_cons_zero, List.set_cons_succ]
                refine dbranch_two 1 6 rfl rfl (by kernel_rfl) (fun K hK => ?_) (fun K hK => ?_)
                ·
                  go_simp
                  refine hK.out _ _ (by first | trivial | exact dkeep1 ‹_›) (fun hH1 => ?_)
                  clear hK K
                  try simp only [Act.put, List.setIfInBounds_toArray, List.set_cons_zero, List.set_cons_succ]
                  refine held_switch (S' := fun W => W.cell? ⟨wr.heap.size, j, none⟩ = some (.string (bytes X))) (fun _ _ => trivial) (dnew _ _ _ _ _ _ rfl hx3) (fun hS1 => ?_)
                  (refine dtake_wanted 3 (v := ?_) rfl (by kernel_rfl) (by kernel_rfl) (by kernel_rfl) (fun _ _ _ h => nomatch h.1) (by rfl) (by first | trivial | assumption) ?_ ?_; rotate_left; focus (intro w hSw; (try dsimp only at hSw); go_simp; try with_reducible rfl))
                  try simp only [Act.put, List.setIfInBounds_toArray, List.set_cons_zero, List.set_cons_succ]
                  (refine dtake_wanted 4 (v := ?_) rfl (by kernel_rfl) (by kernel_rfl) (by kernel_rfl) (fun _ _ _ h => nomatch h.1) (by rfl) (by first | trivial | assumption) ?_ ?_; rotate_left; focus (intro w hSw; (try dsimp only at hSw); go_simp; try with_reducible rfl))
                  try simp only [Act.put, List.setIfInBounds_toArray, List.set_cons_zero, List.set_cons_succ]
                  (refine dtake_wanted 10 (v := ?_) rfl (by kernel_rfl) (by kernel_rfl) (by kernel_rfl) (fun _ _ _ h => nomatch h.1) (by rfl) (by first | trivial | assumption) ?_ ?_; rotate_left; focus (intro w hSw; (try dsimp only at hSw); go_simp; try with_reducible rfl))
                  try simp only [Act.put, List.setIfInBounds_toArray, List.set_cons_zero, List.set_cons_succ]
                  refine dbranch_one 6 rfl (by kernel_rfl) (fun K hK => ?_)
                  go_simp
                  refine hK.out _ _ (by first | trivial | exact dkeep1 ‹_›) (fun hH2 => ?_)
                  clear hK K
                  try simp only [Act.put, List.setIfInBounds_toArray, List.set_cons_zero, List.set_cons_succ]
                  refine held_switch (S' := fun W => W.cell? ⟨wr.heap.size, j, none⟩ = some (.string (bytes X)) ∧ W.cell? ⟨wr.heap.size + 1, j, none⟩ = some (.string (bytes Y))) (fun _ h => h.1) (⟨hH2, dnew _ _ _ _ _ _ (dsize1 _ _) hy3⟩) (fun hS2 => ?_)
                  (refine dtake_wanted 8 (v := ?_) rfl (by kernel_rfl) (by kernel_rfl) (by kernel_rfl) (fun _ _ _ h => nomatch h.1) (by rfl) (by first | trivial | assumption) ?_ ?_; rotate_left; focus (intro w hSw; (try dsimp only at hSw); go_simp; try with_reducible rfl))
                  try simp only [Act.put, List.setIfInBounds_toArray, List.set_cons_zero, List.set_cons_succ]
                  (refine dtake_wanted 9 (v := ?_) rfl (by kernel_rfl) (by kernel_rfl) (by kernel_rfl) (fun _ _ _ h => nomatch h.1) (by rfl) (by first | trivial | assumption) ?_ ?_; rotate_left; focus (intro w hSw; (try dsimp only at hSw); go_simp; try with_reducible rfl))
                  try simp only [Act.put, List.setIfInBounds_toArray, List.set_cons_zero, List.set_cons_succ]
                  (refine dtake_wanted 11 (v := ?_) rfl (by kernel_rfl) (by kernel_rfl) (by kernel_rfl) (fun _ _ _ h => nomatch h.1) (by rfl) (by first | trivial | assumption) ?_ ?_; rotate_left; focus (intro w hSw; (try dsimp only at hSw); go_simp; try with_reducible rfl))
                  try simp only [Act.put, List.setIfInBounds_toArray, List.set_cons_zero, List.set_cons_succ]
                  refine wpAnyH_done (by kernel_rfl) ?_ _
                  exact ⟨rfl, by kernel_rfl, by kernel_rfl, by kernel_rfl, dbelow2s _ _ _⟩
                ·
                  go_simp
                  refine hK.out _ _ (by first | trivial | exact dkeep1 ‹_›) (fun hH1 => ?_)
                  clear hK K
                  try simp only [Act.put, List.setIfInBounds_toArray, List.set_cons_zero, List.set_cons_succ]
                  refine held_switch (S' := fun W => W.cell? ⟨wr.heap.size, j, none⟩ = some (.string (bytes Y))) (fun _ _ => trivial) (dnew _ _ _ _ _ _ rfl hy3) (fun hS1 => ?_)
                  (refine dtake_wanted 8 (v := ?_) rfl (by kernel_rfl) (by kernel_rfl) (by kernel_rfl) (fun _ _ _ h => nomatch h.1) (by rfl) (by first | trivial | assumption) ?_ ?_; rotate_left; focus (intro w hSw; (try dsimp only at hSw); go_simp; try with_reducible rfl))
                  try simp only [Act.put, List.setIfInBounds_toArray, List.set_cons_zero, List.set_cons_succ]
                  (refine dtake_wanted 9 (v := ?_) rfl (by kernel_rfl) (by kernel_rfl) (by kernel_rfl) (fun _ _ _ h => nomatch h.1) (by rfl) (by first | trivial | assumption) ?_ ?_; rotate_left; focus (intro w hSw; (try dsimp only at hSw); go_simp; try with_reducible rfl))
                  try simp only [Act.put, List.setIfInBounds_toArray, List.set_cons_zero, List.set_cons_succ]
                  refine dbranch_one 1 rfl (by kernel_rfl) (fun K hK => ?_)
                  go_simp
                  refine hK.out _ _ (by first | trivial | exact dkeep1 ‹_›) (fun hH2 => ?_)
                  clear hK K
                  try simp only [Act.put, List.setIfInBounds_toArray, List.set_cons_zero, List.set_cons_succ]
                  refine held_switch (S' := fun W => W.cell? ⟨wr.heap.size + 1, j, none⟩ = some (.string (bytes X)) ∧ W.cell? ⟨wr.heap.size, j, none⟩ = some (.string (bytes Y))) (fun _ h => h.2) (⟨dnew _ _ _ _ _ _ (dsize1 _ _) hx3, hH2⟩) (fun hS2 => ?_)
                  (refine dtake_wanted 3 (v := ?_) rfl (by kernel_rfl) (by kernel_rfl) (by kernel_rfl) (fun _ _ _ h => nomatch h.1) (by rfl) (by first | trivial | assumption) ?_ ?_; rotate_left; focus (intro w hSw; (try dsimp only at hSw); go_simp; try with_reducible rfl))
                  try simp only [Act.put, List.setIfInBounds_toArray, List.set_cons_zero, List.set_cons_succ]
                  (refine dtake_wanted 4 (v := ?_) rfl (by kernel_rfl) (by kernel_rfl) (by kernel_rfl) (fun _ _ _ h => nomatch h.1) (by rfl) (by first | trivial | assumption) ?_ ?_; rotate_left; focus (intro w hSw; (try dsimp only at hSw); go_simp; try with_reducible rfl))
                  try simp only [Act.put, List.setIfInBounds_toArray, List.set_cons_zero, List.set_cons_succ]
                  (refine dtake_wanted 10 (v := ?_) rfl (by kernel_rfl) (by kernel_rfl) (by kernel_rfl) (fun _ _ _ h => nomatch h.1) (by rfl) (by first | trivial | assumption) ?_ ?_; rotate_left; focus (intro w hSw; (try dsimp only at hSw); go_simp; try with_reducible rfl))
                  try simp only [Act.put, List.setIfInBounds_toArray, List.set_cons_zero, List.set_cons_succ]
                  (refine dtake_wanted 11 (v := ?_) rfl (by kernel_rfl) (by kernel_rfl) (by kernel_rfl) (fun _ _ _ h => nomatch h.1) (by rfl) (by first | trivial | assumption) ?_ ?_; rotate_left; focus (intro w hSw; (try dsimp only at hSw); go_simp; try with_reducible rfl))
                  try simp only [Act.put, List.setIfInBounds_toArray, List.set_cons_zero, List.set_cons_succ]
                  refine wpAnyH_done (by kernel_rfl) ?_ _
                  exact ⟨rfl, by kernel_rfl, by kernel_rfl, by kernel_rfl, dbelow2s _ _ _⟩
              · rintro a' w' ⟨ha, h8, h9, hb⟩
                rw [h8, h9] at ha
                generalize a'.tmps.getD 88 undef = t88 at ha
                generalize a'.tmps.getD 89 undef = t89 at ha
                generalize a'.tmps.getD 90 undef = t90 at ha
                generalize a'.tmps.getD 91 undef = t91 at ha
                generalize a'.tmps.getD 92 undef = t92 at ha
                generalize a'.tmps.getD 93 undef = t93 at ha
                generalize a'.tmps.getD 94 undef = t94 at ha
                generalize a'.tmps.getD 95 undef = t95 at ha
                generalize a'.tmps.getD 96 undef = t96 at ha
                generalize a'.tmps.getD 97 undef = t97 at ha
                clear h8 h9
                subst ha
                have HP2 := Lib.hid (HB.out.below R hb)
                clear hb hx3 hy3 hxl hyl k1 k2
                simp only [Act.put, List.setIfInBounds_toArray, List.set_cons_succ, List.set_cons_zero]
                simp only [Exit.then]
                go_at_K
                go_wp2_with fail
                refine (HP2.out.suri R X HXL.out).mono ?_
                rintro e w6 ⟨rfl, hp6⟩
                have HP6 := Lib.hid hp6
                clear hp6 HP2
                have CR := Lib.hid (HP6.out.ruri R X)
                generalize uriS S' X = xa at CR
                generalize isS S' X = xb at CR
                go_wp2_with fail
                refine CR.out.mono ?_
                rintro e w7 ⟨rfl, hp7⟩
                have HP7 := Lib.hid hp7
                clear hp7 HP6 CR
                go_wp2_with fail
                refine (HP7.out.spref R Y HYL.out).mono ?_
                rintro e w8 ⟨rfl, hp8⟩
                have HP8 := Lib.hid hp8
                clear hp8 HP7
                have CR := Lib.hid (HP8.out.rpref R (by omega) HQ.out.1 Y)
                generalize prefS S' Y = ya at CR
                generalize prefE S' Y = yb at CR
                go_wp2_with fail
                refine CR.out.mono ?_
                rintro e w9 ⟨rfl, hp9⟩
                have HP9 := Lib.hid hp9
                clear hp9 HP8 CR
                have ca := bytesL_eq xa
                have cb := bytesL_eq ya
                go_wp2
                go_roundw
                case rel => exact ⟨j + 1, by omega, by go_num, HP9⟩
                case measure => simp [intOf]; omega
            · obtain rfl : j = 6 := by omega
              obtain ⟨oa, cap, hcell⟩ := HB.out.cell
              have HC := Lib.hid (PlC.drew R ⟨HB.out, hcell⟩)
              have HSM := Lib.hid HQ.out.1
              have hfew := allS_few (by omega) HQ.out.1
              clear hcell HB HQ
              go_wp2_with fail
              refine wp_region_held_drew (S := PlC Is W (.pointer (some q)) rb S' (.slice oa S'.length cap)) (by kernel_rfl) HC.out (fun hHeld => ?_)
              (refine dtake_wanted 0 (v := ?_) rfl (by kernel_rfl) (by kernel_rfl) (by kernel_rfl) (fun _ _ _ h => h) (by rfl) (by first | trivial | assumption) ?_ ?_; rotate_left; focus (intro w hSw; (try dsimp only at hSw); go_simp; try with_reducible rfl))
              try simp only [Act.put, List.setIfInBounds_toArray, List.set_cons_zero, List.set_cons_succ]
              (refine dtake_wanted 2 (v := ?_) rfl (by kernel_rfl) (by kernel_rfl) (by kernel_rfl) (fun _ _ _ h => h) (by rfl) (by first | trivial | assumption) ?_ ?_; rotate_left; focus (intro w hSw; (try dsimp only at hSw); go_simp; try with_reducible rfl))
              try simp only [Act.put, List.setIfInBounds_toArray, List.set_cons_zero, List.set_cons_succ]
              (refine dtake_wanted 3 (v := ?_) rfl (by kernel_rfl) (by kernel_rfl) (by kernel_rfl) (fun _ _ _ h => h) (by rfl) (by first | trivial | assumption) ?_ ?_; rotate_left; focus (intro w hSw; (try dsimp only at hSw); go_simp; try with_reducible rfl))
              try simp only [Act.put, List.setIfInBounds_toArray, List.set_cons_zero, List.set_cons_succ]
              (refine dtake_wanted 4 (v := ?_) rfl (by kernel_rfl) (by kernel_rfl) (by kernel_rfl) (fun _ _ _ h => h) (by rfl) (by first | trivial | assumption) ?_ ?_; rotate_left; focus (intro w hSw; (try dsimp only at hSw); go_simp; try with_reducible rfl))
              try simp only [Act.put, List.setIfInBounds_toArray, List.set_cons_zero, List.set_cons_succ]
              (refine dtake_wanted 5 (v := ?_) rfl (by kernel_rfl) (by kernel_rfl) (by kernel_rfl) (fun _ _ _ h => h) (by rfl) (by first | trivial | assumption) ?_ ?_; rotate_left; focus (intro w hSw; have hcw := hSw.2; clear hSw; go_simp; try with_reducible rfl))
              try simp only [Act.put, List.setIfInBounds_toArray, List.set_cons_zero, List.set_cons_succ]
              (refine dtake_wanted 6 (v := ?_) rfl (by kernel_rfl) (by kernel_rfl) (by kernel_rfl) (fun _ _ _ h => h) (by rfl) (by first | trivial | assumption) ?_ ?_; rotate_left; focus (intro w hSw; (try dsimp only at hSw); go_simp; try with_reducible rfl))
              try simp only [Act.put, List.setIfInBounds_toArray, List.set_cons_zero, List.set_cons_succ]
              refine dbranch_one 1 rfl (by kernel_rfl) (fun K hK => ?_)
              go_simp
              (go_at_call 21; refine (PlC.depth R HC.out).mono ?_; rintro e u1 ⟨rfl, hp1⟩)
              refine hK.out _ _ hp1 (fun hHeld1 => ?_)
              clear hK K hHeld
              try simp only [Act.put, List.setIfInBounds_toArray, List.set_cons_zero, List.set_cons_succ]
              (refine dtake_wanted 7 (v := ?_) rfl (by kernel_rfl) (by kernel_rfl) (by kernel_rfl) (fun _ _ _ h => h) (by rfl) (by first | trivial | assumption) ?_ ?_; rotate_left; focus (intro w hSw; (try dsimp only at hSw); go_simp; try with_reducible rfl))
              try simp only [Act.put, List.setIfInBounds_toArray, List.set_cons_zero, List.set_cons_succ]
              (refine dtake_wanted 8 (v := ?_) rfl (by kernel_rfl) (by kernel_rfl) (by kernel_rfl) (fun _ _ _ h => h) (by rfl) (by first | trivial | assumption) ?_ ?_; rotate_left; focus (intro w hSw; (try dsimp only at hSw); go_simp; try with_reducible rfl))
              try simp only [Act.put, List.setIfInBounds_toArray, List.set_cons_zero, List.set_cons_succ]
              (refine dtake_wanted 9 (v := ?_) rfl (by kernel_rfl) (by kernel_rfl) (by kernel_rfl) (fun _ _ _ h => h) (by rfl) (by first | trivial | assumption) ?_ ?_; rotate_left; focus (intro w hSw; (try dsimp only at hSw); go_simp; try with_reducible rfl))
              try simp only [Act.put, List.setIfInBounds_toArray, List.set_cons_zero, List.set_cons_succ]
              (refine dtake_wanted 11 (v := ?_) rfl (by kernel_rfl) (by kernel_rfl) (by kernel_rfl) (fun _ _ _ h => h) (by rfl) (by first | trivial | assumption) ?_ ?_; rotate_left; focus (intro w hSw; (try dsimp only at hSw); go_simp; try with_reducible rfl))
              try simp only [Act.put, List.setIfInBounds_toArray, List.set_cons_zero, List.set_cons_succ]
              refine dbranch_one 10 rfl (by kernel_rfl) (fun K hK => ?_)
              go_simp
              (go_at_call 11; refine (PlC.all R hp1).mono ?_; rintro e u2 ⟨sl2, rfl, hp2, ha2⟩)
              refine hK.out _ _ hp2 (fun hHeld2 => ?_)
              clear hK K hHeld1
              try simp only [Act.put, List.setIfInBounds_toArray, List.set_cons_zero, List.set_cons_succ]
              refine dbranch_one 12 rfl (by kernel_rfl) (fun K hK => ?_)
              go_simp
              (go_at_call 23; refine (PlC.bound R hp2 (by omega) HSM.out ha2).mono ?_; rintro e u3 ⟨sl3, rfl, hp3, ha3, hb3⟩)
              refine hK.out _ _ hp3 (fun hHeld3 => ?_)
              clear hK K hHeld2
              try simp only [Act.put, List.setIfInBounds_toArray, List.set_cons_zero, List.set_cons_succ]
              refine dbranch_one 13 rfl (by kernel_rfl) (fun K hK => ?_)
              go_simp
              (go_at_call 22; refine (rfsame_any (by rw [List.length_map]; omega) ha3 hb3).mono ?_; rintro e u4 ⟨rfl, hb4⟩)
              refine hK.out _ _ (hp3.below R hb4) (fun hHeld4 => ?_)
              clear hK K hHeld3
              try simp only [Act.put, List.setIfInBounds_toArray, List.set_cons_zero, List.set_cons_succ]
              (refine dtake_wanted 14 (v := ?_) rfl (by kernel_rfl) (by kernel_rfl) (by kernel_rfl) (fun _ _ _ h => h) (by rfl) (by first | trivial | assumption) ?_ ?_; rotate_left; focus (intro w hSw; (try dsimp only at hSw); go_simp; try with_reducible rfl))
              try simp only [Act.put, List.setIfInBounds_toArray, List.set_cons_zero, List.set_cons_succ]
              (refine dtake_wanted 15 (v := ?_) rfl (by kernel_rfl) (by kernel_rfl) (by kernel_rfl) (fun _ _ _ h => h) (by rfl) (by first | trivial | assumption) ?_ ?_; rotate_left; focus (intro w hSw; (try dsimp only at hSw); go_simp; try with_reducible rfl))
              try simp only [Act.put, List.setIfInBounds_toArray, List.set_cons_zero, List.set_cons_succ]
              refine wpAnyH_done (by kernel_rfl) ?_ _
              have HQ4 : Hid ((∀ lv ∈ S', lv.length ≤ 8) ∧ PlAt Is W (.pointer (some q)) rb S' S' u4) := Lib.hid ⟨HSM.out, hHeld4.1⟩
              clear hHeld4 hp1 hp2 hp3 ha2 ha3 hb3 hb4 HC HSM
              go_wp2
              go_roundw
              case rel => exact ⟨i + 1, S', by omega, hq, by go_num, HQ4⟩
              case measure => simp [intOf]; omega
        · have hnS := HR.out.2.nice
          obtain ⟨pe, hpe⟩ : ∃ pe, decide (S ≠ []) = pe := ⟨_, rfl⟩
          have CP := Lib.hid (HR.out.2.spop R)
          rw [hpe] at CP
          have HPE := Lib.hid hpe
          clear hpe
          go_wp2_with fail
          refine CP.out.mono ?_
          rintro e w4 ⟨rfl, hp4⟩
          have HP4 := Lib.hid hp4
          clear hp4 c0 c1
          have CQ := Lib.hid (HP4.out.rpop R hnS)
          rw [HPE.out] at CQ
          go_wp2_with fail
          refine CQ.out.mono ?_
          rintro e w5 ⟨rfl, hp5⟩
          obtain ⟨S', HQ, hq⟩ : ∃ S' : List (List Bd), Hid ((∀ lv ∈ S', lv.length ≤ 8) ∧ PlAt Is W (.pointer (some q)) rb S' S' w5) ∧ S'.length ≤ i + 1 := ⟨S.tail, Lib.hid ⟨tail_small HR.out.1, hp5⟩, by rw [List.length_tail]; omega⟩
          clear hp5 HP4 HR HP hnS CP CQ HPE
          cases pe
          all_goals
            go_wp2_with fail
            go_loopw [12] (fun jv wb => ∃ j : Nat, j ≤ 6 ∧ jv = .int .i64 j ∧ Hid (PlAt Is W (.pointer (some q)) rb S' S' wb)) (fun jv _ => 6 - (intOf jv).toNat)
            case atStart => exact ⟨0, by omega, rfl, Lib.hid HQ.out.2⟩
            case round =>
              obtain ⟨j, hj, rfl, HB⟩ := hrel
              by_cases hj6 : j < 6
              · have hx3 := tabP_at p j hj6
                have hy3 := tabU_at u j hj6
                have hxl := tabP_l p j hj6
                have hyl := tabU_l u j hj6
                have hXL := tabP_len p j hj6 h2
                have hYL := tabU_len u j hj6 h3
                generalize (tabP p).getD j [] = X at hx3 hxl hXL
                generalize (tabU u).getD j [] = Y at hy3 hyl hYL
                have HXL := Lib.hid hXL
                have HYL := Lib.hid hYL
                have k1 : (0 : Int) ≤ (j : Int) := by omega
                have k2 : (j : Int) < 6 := by omega
                clear hXL hYL
                go_wp2_with fail
                refine region_weaken (PlaysR wr X Y) ?_ ?_
                · clear HCS HZ HQ HB HOPS CT HXL HYL
                  refine wp_region_held_drew (S := fun _ => True) (by kernel_rfl) trivial (fun hHeld => ?_)
                  (refine dtake_wanted 0 (v := ?_) rfl (by kernel_rfl) (by kernel_rfl) (by kernel_rfl) (fun _ _ _ h => nomatch h.1) (by rfl) (by first | trivial | assumption) ?_ ?_; rotate_left; focus (intro w hSw; (try dsimp only at hSw); go_simp; try with_reducible rfl))
                  try simp only [Act.put, List.setIfInBounds_toArray, List.set_cons_zero, List.set_cons_succ]
                  (refine dtake_wanted 2 (v := ?_) rfl (by kernel_rfl) (by kernel_rfl) (by kernel_rfl) (fun _ _ _ h => nomatch h.1) (by rfl) (by first | trivial | assumption) ?_ ?_; rotate_left; focus (intro w hSw; (try dsimp only at hSw); go_simp; try with_reducible rfl))
                  try simp only [Act.put, List.setIfInBounds_toArray, List.set_cons_zero, List.set_cons_succ]
                  (refine dtake_wanted 5 (v := ?_) rfl (by kernel_rfl) (by kernel_rfl) (by kernel_rfl) (fun _ _ _ h => nomatch h.1) (by rfl) (by first | trivial | assumption) ?_ ?_; rotate_left; focus (intro w hSw; (try dsimp only at hSw); go_simp; try with_reducible rfl))
                  try simp only [Act.put, List.setIfInBounds_toArray, List.set_cons_zero, List.set_cons_succ]
                  (refine dtake_wanted 7 (v := ?_) rfl (by kernel_rfl) (by kernel_rfl) (by kernel_rfl) (fun _ _ _ h => nomatch h.1) (by rfl) (by first | trivial | assumption) ?_ ?_; rotate_left; focus (intro w hSw; (try dsimp only at hSw); go_simp; try with_reducible rfl))
                  try simp only [Act.put, List.setIfInBounds_toArray, List.set_cons_zero, List.set_cons_succ]
                  refine dbranch_two 1 6 rfl rfl (by kernel_rfl) (fun K hK => ?_) (fun K hK => ?_)
                  ·
                    go_simp
                    refine hK.out _ _ (by first | trivial | exact dkeep1 ‹_›) (fun hH1 => ?_)
                    clear hK K
                    try simp only [Act.put, List.setIfInBounds_toArray, List.set_cons_zero, List.set_cons_succ]
                    refine held_switch (S' := fun W => W.cell? ⟨wr.heap.size, j, none⟩ = some (.string (bytes X))) (fun _ _ => trivial) (dnew _ _ _ _ _ _ rfl hx3) (fun hS1 => ?_)
                    (refine dtake_wanted 3 (v := ?_) rfl (by kernel_rfl) (by kernel_rfl) (by kernel_rfl) (fun _ _ _ h => nomatch h.1) (by rfl) (by first | trivial | assumption) ?_ ?_; rotate_left; focus (intro w hSw; (try dsimp only at hSw); go_simp; try with_reducible rfl))
                    try simp only [Act.put, List.setIfInBounds_toArray, List.set_cons_zero, List.set_cons_succ]
                    (refine dtake_wanted 4 (v := ?_) rfl (by kernel_rfl) (by kernel_rfl) (by kernel_rfl) (fun _ _ _ h => nomatch h.1) (by rfl) (by first | trivial | assumption) ?_ ?_; rotate_left; focus (intro w hSw; (try dsimp only at hSw); go_simp; try with_reducible rfl))
                    try simp only [Act.put, List.setIfInBounds_toArray, List.set_cons_zero, List.set_cons_succ]
                    (refine dtake_wanted 10 (v := ?_) rfl (by kernel_rfl) (by kernel_rfl) (by kernel_rfl) (fun _ _ _ h => nomatch h.1) (by rfl) (by first | trivial | assumption) ?_ ?_; rotate_left; focus (intro w hSw; (try dsimp only at hSw); go_simp; try with_reducible rfl))
                    try simp only [Act.put, List.setIfInBounds_toArray, List.set_cons_zero, List.set_cons_succ]
                    refine dbranch_one 6 rfl (by kernel_rfl) (fun K hK => ?_)
                    go_simp
                    refine hK.out _ _ (by first | trivial | exact dkeep1 ‹_›) (fun hH2 => ?_)
                    clear hK K
                    try simp only [Act.put, List.setIfInBounds_toArray, List.set_cons_zero, List.set_cons_succ]
                    refine held_switch (S' := fun W => W.cell? ⟨wr.heap.size, j, none⟩ = some (.string (bytes X)) ∧ W.cell? ⟨wr.heap.size + 1, j, none⟩ = some (.string (bytes Y))) (fun _ h => h.1) (⟨hH2, dnew _ _ _ _ _ _ (dsize1 _ _) hy3⟩) (fun hS2 => ?_)
                    (refine dtake_wanted 8 (v := ?_) rfl (by kernel_rfl) (by kernel_rfl) (by kernel_rfl) (fun _ _ _ h => nomatch h.1) (by rfl) (by first | trivial | assumption) ?_ ?_; rotate_left; focus (intro w hSw; (try dsimp only at hSw); go_simp; try with_reducible rfl))
                    try simp only [Act.put, List.setIfInBounds_toArray, List.set_cons_zero, List.set_cons_succ]
                    (refine dtake_wanted 9 (v := ?_) rfl (by kernel_rfl) (by kernel_rfl) (by kernel_rfl) (fun _ _ _ h => nomatch h.1) (by rfl) (by first | trivial | assumption) ?_ ?_; rotate_left; focus (intro w hSw; (try dsimp only at hSw); go_simp; try with_reducible rfl))
                    try simp only [Act.put, List.setIfInBounds_toArray, List.set_cons_zero, List.set_cons_succ]
                    (refine dtake_wanted 11 (v := ?_) rfl (by kernel_rfl) (by kernel_rfl) (by kernel_rfl) (fun _ _ _ h => nomatch h.1) (by rfl) (by first | trivial | assumption) ?_ ?_; rotate_left; focus (intro w hSw; (try dsimp only at hSw); go_simp; try with_reducible rfl))
                    try simp only [Act.put, List.setIfInBounds_toArray, List.set_cons_zero, List.set_cons_succ]
                    refine wpAnyH_done (by kernel_rfl) ?_ _
                    exact ⟨rfl, by kernel_rfl, by kernel_rfl, by kernel_rfl, dbelow2s _ _ _⟩
                  ·
                    go_simp
                    refine hK.out _ _ (by first | trivial | exact dkeep1 ‹_›) (fun hH1 => ?_)
                    clear hK K
                    try simp only [Act.put, List.setIfInBounds_toArray, List.set_cons_zero, List.set_cons_succ]
                    refine held_switch (S' := fun W => W.cell? ⟨wr.heap.size, j, none⟩ = some (.string (bytes Y))) (fun _ _ => trivial) (dnew _ _ _ _ _ _ rfl hy3) (fun hS1 => ?_)
                    (refine dtake_wanted 8 (v := ?_) rfl (by kernel_rfl) (by kernel_rfl) (by kernel_rfl) (fun _ _ _ h => nomatch h.1) (by rfl) (by first | trivial | assumption) ?_ ?_; rotate_left; focus (intro w hSw; (try dsimp only at hSw); go_simp; try with_reducible rfl))
                    try simp only [Act.put, List.setIfInBounds_toArray, List.set_cons_zero, List.set_cons_succ]
                    (refine dtake_wanted 9 (v := ?_) rfl (by kernel_rfl) (by kernel_rfl) (by kernel_rfl) (fun _ _ _ h => nomatch h.1) (by rfl) (by first | trivial | assumption) ?_ ?_; rotate_left; focus (intro w hSw; (try dsimp only at hSw); go_simp; try with_reducible rfl))
                    try simp only [Act.put, List.setIfInBounds_toArray, List.set_cons_zero, List.set_cons_succ]
                    refine dbranch_one 1 rfl (by kernel_rfl) (fun K hK => ?_)
                    go_simp
                    refine hK.out _ _ (by first | trivial | exact dkeep1 ‹_›) (fun hH2 => ?_)
                    clear hK K
                    try simp only [Act.put, List.setIfInBounds_toArray, List.set_cons_zero, List.set_cons_succ]
                    refine held_switch (S' := fun W => W.cell? ⟨wr.heap.size + 1, j, none⟩ = some (.string (bytes X)) ∧ W.cell? ⟨wr.heap.size, j, none⟩ = some (.string (bytes Y))) (fun _ h => h.2) (⟨dnew _ _ _ _ _ _ (dsize1 _ _) hx3, hH2⟩) (fun hS2 => ?_)
                    (refine dtake_wanted 3 (v := ?_) rfl (by kernel_rfl) (by kernel_rfl) (by kernel_rfl) (fun _ _ _ h => nomatch h.1) (by rfl) (by first | trivial | assumption) ?_ ?_; rotate_left; focus (intro w hSw; (try dsimp only at hSw); go_simp; try with_reducible rfl))
                    try simp only [Act.put, List.setIfInBounds_toArray, List.set_cons_zero, List.set_cons_succ]
                    (refine dtake_wanted 4 (v := ?_) rfl (by kernel_rfl) (by kernel_rfl) (by kernel_rfl) (fun _ _ _ h => nomatch h.1) (by rfl) (by first | trivial | assumption) ?_ ?_; rotate_left; focus (intro w hSw; (try dsimp only at hSw); go_simp; try with_reducible rfl))
                    try simp only [Act.put, List.setIfInBounds_toArray, List.set_cons_zero, List.set_cons_succ]
                    (refine dtake_wanted 10 (v := ?_) rfl (by kernel_rfl) (by kernel_rfl) (by kernel_rfl) (fun _ _ _ h => nomatch h.1) (by rfl) (by first | trivial | assumption) ?_ ?_; rotate_left; focus (intro w hSw; (try dsimp only at hSw); go_simp; try with_reducible rfl))
                    try simp only [Act.put, List.setIfInBounds_toArray, List.set_cons_zero, List.set_cons_succ]
                    (refine dtake_wanted 11 (v := ?_) rfl (by kernel_rfl) (by kernel_rfl) (by kernel_rfl) (fun _ _ _ h => nomatch h.1) (by rfl) (by first | trivial | assumption) ?_ ?_; rotate_left; focus (intro w hSw; (try dsimp only at hSw); go_simp; try with_reducible rfl))
                    try simp only [Act.put, List.setIfInBounds_toArray, List.set_cons_zero, List.set_cons_succ]
                    refine wpAnyH_done (by kernel_rfl) ?_ _
                    exact ⟨rfl, by kernel_rfl, by kernel_rfl, by kernel_rfl, dbelow2s _ _ _⟩
                · rintro a' w' ⟨ha, h8, h9, hb⟩
                  rw [h8, h9] at ha
                  generalize a'.tmps.getD 88 undef = t88 at ha
                  generalize a'.tmps.getD 89 undef = t89 at ha
                  generalize a'.tmps.getD 90 undef = t90 at ha
                  generalize a'.tmps.getD 91 undef = t91 at ha
                  generalize a'.tmps.getD 92 undef = t92 at ha
                  generalize a'.tmps.getD 93 undef = t93 at ha
                  generalize a'.tmps.getD 94 undef = t94 at ha
                  generalize a'.tmps.getD 95 undef = t95 at ha
                  generalize a'.tmps.getD 96 undef = t96 at ha
                  generalize a'.tmps.getD 97 undef = t97 at ha
                  clear h8 h9
                  subst ha
                  have HP2 := Lib.hid (HB.out.below R hb)
                  clear hb hx3 hy3 hxl hyl k1 k2
                  simp only [Act.put, List.setIfInBounds_toArray, List.set_cons_succ, List.set_cons_zero]
                  simp only [Exit.then]
                  go_at_K
                  go_wp2_with fail
                  refine (HP2.out.suri R X HXL.out).mono ?_
                  rintro e w6 ⟨rfl, hp6⟩
                  have HP6 := Lib.hid hp6
                  clear hp6 HP2
                  have CR := Lib.hid (HP6.out.ruri R X)
                  generalize uriS S' X = xa at CR
                  generalize isS S' X = xb at CR
                  go_wp2_with fail
                  refine CR.out.mono ?_
                  rintro e w7 ⟨rfl, hp7⟩
                  have HP7 := Lib.hid hp7
                  clear hp7 HP6 CR
                  go_wp2_with fail
                  refine (HP7.out.spref R Y HYL.out).mono ?_
                  rintro e w8 ⟨rfl, hp8⟩
                  have HP8 := Lib.hid hp8
                  clear hp8 HP7
                  have CR := Lib.hid (HP8.out.rpref R (by omega) HQ.out.1 Y)
                  generalize prefS S' Y = ya at CR
                  generalize prefE S' Y = yb at CR
                  go_wp2_with fail
                  refine CR.out.mono ?_
                  rintro e w9 ⟨rfl, hp9⟩
                  have HP9 := Lib.hid hp9
                  clear hp9 HP8 CR
                  have ca := bytesL_eq xa
                  have cb := bytesL_eq ya
                  go_wp2
                  go_roundw
                  case rel => exact ⟨j + 1, by omega, by go_num, HP9⟩
                  case measure => simp [intOf]; omega
              · obtain rfl : j = 6 := by omega
                obtain ⟨oa, cap, hcell⟩ := HB.out.cell
                have HC := Lib.hid (PlC.drew R ⟨HB.out, hcell⟩)
                have HSM := Lib.hid HQ.out.1
                have hfew := allS_few (by omega) HQ.out.1
                clear hcell HB HQ
                go_wp2_with fail
                refine wp_region_held_drew (S := PlC Is W (.pointer (some q)) rb S' (.slice oa S'.length cap)) (by kernel_rfl) HC.out (fun hHeld => ?_)
                (refine dtake_wanted 0 (v := ?_) rfl (by kernel_rfl) (by kernel_rfl) (by kernel_rfl) (fun _ _ _ h => h) (by rfl) (by first | trivial | assumption) ?_ ?_; rotate_left; focus (intro w hSw; (try dsimp only at hSw); go_simp; try with_reducible rfl))
                try simp only [Act.put, List.setIfInBounds_toArray, List.set_cons_zero, List.set_cons_succ]
                (refine dtake_wanted 2 (v := ?_) rfl (by kernel_rfl) (by kernel_rfl) (by kernel_rfl) (fun _ _ _ h => h) (by rfl) (by first | trivial | assumption) ?_ ?_; rotate_left; focus (intro w hSw; (try dsimp only at hSw); go_simp; try with_reducible rfl))
                try simp only [Act.put, List.setIfInBounds_toArray, List.set_cons_zero, List.set_cons_succ]
                (refine dtake_wanted 3 (v := ?_) rfl (by kernel_rfl) (by kernel_rfl) (by kernel_rfl) (fun _ _ _ h => h) (by rfl) (by first | trivial | assumption) ?_ ?_; rotate_left; focus (intro w hSw; (try dsimp only at hSw); go_simp; try with_reducible rfl))
                try simp only [Act.put, List.setIfInBounds_toArray, List.set_cons_zero, List.set_cons_succ]
                (refine dtake_wanted 4 (v := ?_) rfl (by kernel_rfl) (by kernel_rfl) (by kernel_rfl) (fun _ _ _ h => h) (by rfl) (by first | trivial | assumption) ?_ ?_; rotate_left; focus (intro w hSw; (try dsimp only at hSw); go_simp; try with_reducible rfl))
                try simp only [Act.put, List.setIfInBounds_toArray, List.set_cons_zero, List.set_cons_succ]
                (refine dtake_wanted 5 (v := ?_) rfl (by kernel_rfl) (by kernel_rfl) (by kernel_rfl) (fun _ _ _ h => h) (by rfl) (by first | trivial | assumption) ?_ ?_; rotate_left; focus (intro w hSw; have hcw := hSw.2; clear hSw; go_simp; try with_reducible rfl))
                try simp only [Act.put, List.setIfInBounds_toArray, List.set_cons_zero, List.set_cons_succ]
                (refine dtake_wanted 6 (v := ?_) rfl (by kernel_rfl) (by kernel_rfl) (by kernel_rfl) (fun _ _ _ h => h) (by rfl) (by first | trivial | assumption) ?_ ?_; rotate_left; focus (intro w hSw; (try dsimp only at hSw); go_simp; try with_reducible rfl))
                try simp only [Act.put, List.setIfInBounds_toArray, List.set_cons_zero, List.set_cons_succ]
                refine dbranch_one 1 rfl (by kernel_rfl) (fun K hK => ?_)
                go_simp
                (go_at_call 21; refine (PlC.depth R HC.out).mono ?_; rintro e u1 ⟨rfl, hp1⟩)
                refine hK.out _ _ hp1 (fun hHeld1 => ?_)
                clear hK K hHeld
                try simp only [Act.put, List.setIfInBounds_toArray, List.set_cons_zero, List.set_cons_succ]
                (refine dtake_wanted 7 (v := ?_) rfl (by kernel_rfl) (by kernel_rfl) (by kernel_rfl) (fun _ _ _ h => h) (by rfl) (by first | trivial | assumption) ?_ ?_; rotate_left; focus (intro w hSw; (try dsimp only at hSw); go_simp; try with_reducible rfl))
                try simp only [Act.put, List.setIfInBounds_toArray, List.set_cons_zero, List.set_cons_succ]
                (refine dtake_wanted 8 (v := ?_) rfl (by kernel_rfl) (by kernel_rfl) (by kernel_rfl) (fun _ _ _ h => h) (by rfl) (by first | trivial | assumption) ?_ ?_; rotate_left; focus (intro w hSw; (try dsimp only at hSw); go_simp; try with_reducible rfl))
                try simp only [Act.put, List.setIfInBounds_toArray, List.set_cons_zero, List.set_cons_succ]
                (refine dtake_wanted 9 (v := ?_) rfl (by kernel_rfl) (by kernel_rfl) (by kernel_rfl) (fun _ _ _ h => h) (by rfl) (by first | trivial | assumption) ?_ ?_; rotate_left; focus (intro w hSw; (try dsimp only at hSw); go_simp; try with_reducible rfl))
                try simp only [Act.put, List.setIfInBounds_toArray, List.set_cons_zero, List.set_cons_succ]
                (refine dtake_wanted 11 (v := ?_) rfl (by kernel_rfl) (by kernel_rfl) (by kernel_rfl) (fun _ _ _ h => h) (by rfl) (by first | trivial | assumption) ?_ ?_; rotate_left; focus (intro w hSw; (try dsimp only at hSw); go_simp; try with_reducible rfl))
                try simp only [Act.put, List.setIfInBounds_toArray, List.set_cons_zero, List.set_cons_succ]
                refine dbranch_one 10 rfl (by kernel_rfl) (fun K hK => ?_)
                go_simp
                (go_at_call 11; refine (PlC.all R hp1).mono ?_; rintro e u2 ⟨sl2, rfl, hp2, ha2⟩)
                refine hK.out _ _ hp2 (fun hHeld2 => ?_)
                clear hK K hHeld1
                try simp only [Act.put, List.setIfInBounds_toArray, List.set_cons_zero, List.set_cons_succ]
                refine dbranch_one 12 rfl (by kernel_rfl) (fun K hK => ?_)
                go_simp
                (go_at_call 23; refine (PlC.bound R hp2 (by omega) HSM.out ha2).mono ?_; rintro e u3 ⟨sl3, rfl, hp3, ha3, hb3⟩)
                refine hK.out _ _ hp3 (fun hHeld3 => ?_)
                clear hK K hHeld2
                try simp only [Act.put, List.setIfInBounds_toArray, List.set_cons_zero, List.set_cons_succ]
                refine dbranch_one 13 rfl (by kernel_rfl) (fun K hK => ?_)
                go_simp
                (go_at_call 22; refine (rfsame_any (by rw [List.length_map]; omega) ha3 hb3).mono ?_; rintro e u4 ⟨rfl, hb4⟩)
                refine hK.out _ _ (hp3.below R hb4) (fun hHeld4 => ?_)
                clear hK K hHeld3
                try simp only [Act.put, List.setIfInBounds_toArray, List.set_cons_zero, List.set_cons_succ]
                (refine dtake_wanted 14 (v := ?_) rfl (by kernel_rfl) (by kernel_rfl) (by kernel_rfl) (fun _ _ _ h => h) (by rfl) (by first | trivial | assumption) ?_ ?_; rotate_left; focus (intro w hSw; (try dsimp only at hSw); go_simp; try with_reducible rfl))
                try simp only [Act.put, List.setIfInBounds_toArray, List.set_cons_zero, List.set_cons_succ]
                (refine dtake_wanted 15 (v := ?_) rfl (by kernel_rfl) (by kernel_rfl) (by kernel_rfl) (fun _ _ _ h => h) (by rfl) (by first | trivial | assumption) ?_ ?_; rotate_left; focus (intro w hSw; (try dsimp only at hSw); go_simp; try with_reducible rfl))
                try simp only [Act.put, List.setIfInBounds_toArray, List.set_cons_zero, List.set_cons_succ]
                refine wpAnyH_done (by kernel_rfl) ?_ _
                have HQ4 : Hid ((∀ lv ∈ S', lv.length ≤ 8) ∧ PlAt Is W (.pointer (some q)) rb S' S' u4) := Lib.hid ⟨HSM.out, hHeld4.1⟩
                clear hHeld4 hp1 hp2 hp3 ha2 ha3 hb3 hb4 HC HSM
                go_wp2
                go_roundw
                case rel => exact ⟨i + 1, S', by omega, hq, by go_num, HQ4⟩
                case measure => simp [intOf]; omega
        · obtain ⟨S', HQ, hq⟩ : ∃ S' : List (List Bd), Hid ((∀ lv ∈ S', lv.length ≤ 8) ∧ PlAt Is W (.pointer (some q)) rb S' S' wr) ∧ S'.length ≤ i + 1 := ⟨S, HR, by omega⟩
          have hk2 : ¬ k < 5 := by omega
          have hk3 : ¬ k = 5 := by omega
          clear HR HP
          go_wp2_with fail
          go_loopw [12] (fun jv wb => ∃ j : Nat, j ≤ 6 ∧ jv = .int .i64 j ∧ Hid (PlAt Is W (.pointer (some q)) rb S' S' wb)) (fun jv _ => 6 - (intOf jv).toNat)
          case atStart => exact ⟨0, by omega, rfl, Lib.hid HQ.out.2⟩
          case round =>
            obtain ⟨j, hj, rfl, HB⟩ := hrel
            by_cases hj6 : j < 6
            · have hx3 := tabP_at p j hj6
              have hy3 := tabU_at u j hj6
              have hxl := tabP_l p j hj6
              have hyl := tabU_l u j hj6
              have hXL := tabP_len p j hj6 h2
              have hYL := tabU_len u j hj6 h3
              generalize (tabP p).getD j [] = X at hx3 hxl hXL
              generalize (tabU u).getD j [] = Y at hy3 hyl hYL
              have HXL := Lib.hid hXL
              have HYL := Lib.hid hYL
              have k1 : (0 : Int) ≤ (j : Int) := by omega
              have k2 : (j : Int) < 6 := by omega
              clear hXL hYL
              go_wp2_with fail
              refine region_weaken (PlaysR wr X Y) ?_ ?_
              · clear HCS HZ HQ HB HOPS CT HXL HYL
                refine wp_region_held_drew (S := fun _ => True) (by kernel_rfl) trivial (fun hHeld => ?_)
                (refine dtake_wanted 0 (v := ?_) rfl (by kernel_rfl) (by kernel_rfl) (by kernel_rfl) (fun _ _ _ h => nomatch h.1) (by rfl) (by first | trivial | assumption) ?_ ?_; rotate_left; focus (intro w hSw; (try dsimp only at hSw); go_simp; try with_reducible rfl))
                try simp only [Act.put, List.setIfInBounds_toArray, List.set_cons_zero, List.set_cons_succ]
                (refine dtake_wanted 2 (v := ?_) rfl (by kernel_rfl) (by kernel_rfl) (by kernel_rfl) (fun _ _ _ h => nomatch h.1) (by rfl) (by first | trivial | assumption) ?_ ?_; rotate_left; focus (intro w hSw; (try dsimp only at hSw); go_simp; try with_reducible rfl))
                try simp only [Act.put, List.setIfInBounds_toArray, List.set_cons_zero, List.set_cons_succ]
                (refine dtake_wanted 5 (v := ?_) rfl (by kernel_rfl) (by kernel_rfl) (by kernel_rfl) (fun _ _ _ h => nomatch h.1) (by rfl) (by first | trivial | assumption) ?_ ?_; rotate_left; focus (intro w hSw; (try dsimp only at hSw); go_simp; try with_reducible rfl))
                try simp only [Act.put, List.setIfInBounds_toArray, List.set_cons_zero, List.set_cons_succ]
                (refine dtake_wanted 7 (v := ?_) rfl (by kernel_rfl) (by kernel_rfl) (by kernel_rfl) (fun _ _ _ h => nomatch h.1) (by rfl) (by first | trivial | assumption) ?_ ?_; rotate_left; focus (intro w hSw; (try dsimp only at hSw); go_simp; try with_reducible rfl))
                try simp only [Act.put, List.setIfInBounds_toArray, List.set_cons_zero, List.set_cons_succ]
                refine dbranch_two 1 6 rfl rfl (by kernel_rfl) (fun K hK => ?_) (fun K hK => ?_)
                ·
                  go_simp
                  refine hK.out _ _ (by first | trivial | exact dkeep1 ‹_›) (fun hH1 => ?_)
                  clear hK K
                  try simp only [Act.put, List.setIfInBounds_toArray, List.set_cons_zero, List.set_cons_succ]
                  refine held_switch (S' := fun W => W.cell? ⟨wr.heap.size, j, none⟩ = some (.string (bytes X))) (fun _ _ => trivial) (dnew _ _ _ _ _ _ rfl hx3) (fun hS1 => ?_)
                  (refine dtake_wanted 3 (v := ?_) rfl (by kernel_rfl) (by kernel_rfl) (by kernel_rfl) (fun _ _ _ h => nomatch h.1) (by rfl) (by first | trivial | assumption) ?_ ?_; rotate_left; focus (intro w hSw; (try dsimp only at hSw); go_simp; try with_reducible rfl))
                  try simp only [Act.put, List.setIfInBounds_toArray, List.set_cons_zero, List.set_cons_succ]
                  (refine dtake_wanted 4 (v := ?_) rfl (by kernel_rfl) (by kernel_rfl) (by kernel_rfl) (fun _ _ _ h => nomatch h.1) (by rfl) (by first | trivial | assumption) ?_ ?_; rotate_left; focus (intro w hSw; (try dsimp only at hSw); go_simp; try with_reducible rfl))
                  try simp only [Act.put, List.setIfInBounds_toArray, List.set_cons_zero, List.set_cons_succ]
                  (refine dtake_wanted 10 (v := ?_) rfl (by kernel_rfl) (by kernel_rfl) (by kernel_rfl) (fun _ _ _ h => nomatch h.1) (by rfl) (by first | trivial | assumption) ?_ ?_; rotate_left; focus (intro w hSw; (try dsimp only at hSw); go_simp; try with_reducible rfl))
                  try simp only [Act.put, List.setIfInBounds_toArray, List.set_cons_zero, List.set_cons_succ]
                  refine dbranch_one 6 rfl (by kernel_rfl) (fun K hK => ?_)
                  go_simp
                  refine hK.out _ _ (by first | trivial | exact dkeep1 ‹_›) (fun hH2 => ?_)
                  clear hK K
                  try simp only [Act.put, List.setIfInBounds_toArray, List.set_cons_zero, List.set_cons_succ]
                  refine held_switch (S' := fun W => W.cell? ⟨wr.heap.size, j, none⟩ = some (.string (bytes X)) ∧ W.cell? ⟨wr.heap.size + 1, j, none⟩ = some (.string (bytes Y))) (fun _ h => h.1) (⟨hH2, dnew _ _ _ _ _ _ (dsize1 _ _) hy3⟩) (fun hS2 => ?_)
                  (refine dtake_wanted 8 (v := ?_) rfl (by kernel_rfl) (by kernel_rfl) (by kernel_rfl) (fun _ _ _ h => nomatch h.1) (by rfl) (by first | trivial | assumption) ?_ ?_; rotate_left; focus (intro w hSw; (try dsimp only at hSw); go_simp; try with_reducible rfl))
                  try simp only [Act.put, List.setIfInBounds_toArray, List.set_cons_zero, List.set_cons_succ]
                  (refine dtake_wanted 9 (v := ?_) rfl (by kernel_rfl) (by kernel_rfl) (by kernel_rfl) (fun _ _ _ h => nomatch h.1) (by rfl) (by first | trivial | assumption) ?_ ?_; rotate_left; focus (intro w hSw; (try dsimp only at hSw); go_simp; try with_reducible rfl))
                  try simp only [Act.put, List.setIfInBounds_toArray, List.set_cons_zero, List.set_cons_succ]
                  (refine dtake_wanted 11 (v := ?_) rfl (by kernel_rfl) (by kernel_rfl) (by kernel_rfl) (fun _ _ _ h => nomatch h.1) (by rfl) (by first | trivial | assumption) ?_ ?_; rotate_left; focus (intro w hSw; (try dsimp only at hSw); go_simp; try with_reducible rfl))
                  try simp only [Act.put, List.setIfInBounds_toArray, List.set_cons_zero, List.set_cons_succ]
                  refine wpAnyH_done (by kernel_rfl) ?_ _
                  exact ⟨rfl, by kernel_rfl, by kernel_rfl, by kernel_rfl, dbelow2s _ _ _⟩
                ·
                  go_simp
                  refine hK.out _ _ (by first | trivial | exact dkeep1 ‹_›) (fun hH1 => ?_)
                  clear hK K
                  try simp only [Act.put, List.setIfInBounds_toArray, List.set_cons_zero, List.set_cons_succ]
                  refine held_switch (S' := fun W => W.cell? ⟨wr.heap.size, j, none⟩ = some (.string (bytes Y))) (fun _ _ => trivial) (dnew _ _ _ _ _ _ rfl hy3) (fun hS1 => ?_)
                  (refine dtake_wanted 8 (v := ?_) rfl (by kernel_rfl) (by kernel_rfl) (by kernel_rfl) (fun _ _ _ h => nomatch h.1) (by rfl) (by first | trivial | assumption) ?_ ?_; rotate_left; focus (intro w hSw; (try dsimp only at hSw); go_simp; try with_reducible rfl))
                  try simp only [Act.put, List.setIfInBounds_toArray, List.set_cons_zero, List.set_cons_succ]
                  (refine dtake_wanted 9 (v := ?_) rfl (by kernel_rfl) (by kernel_rfl) (by kernel_rfl) (fun _ _ _ h => nomatch h.1) (by rfl) (by first | trivial | assumption) ?_ ?_; rotate_left; focus (intro w hSw; (try dsimp only at hSw); go_simp; try with_reducible rfl))
                  try simp only [Act.put, List.setIfInBounds_toArray, List.set_cons_zero, List.set_cons_succ]
                  refine dbranch_one 1 rfl (by kernel_rfl) (fun K hK => ?_)
                  go_simp
                  refine hK.out _ _ (by first | trivial | exact dkeep1 ‹_›) (fun hH2 => ?_)
                  clear hK K
                  try simp only [Act.put, List.setIfInBounds_toArray, List.set_cons_zero, List.set_cons_succ]
                  refine held_switch (S' := fun W => W.cell? ⟨wr.heap.size + 1, j, none⟩ = some (.string (bytes X)) ∧ W.cell? ⟨wr.heap.size, j, none⟩ = some (.string (bytes Y))) (fun _ h => h.2) (⟨dnew _ _ _ _ _ _ (dsize1 _ _) hx3, hH2⟩) (fun hS2 => ?_)
                  (refine dtake_wanted 3 (v := ?_) rfl (by kernel_rfl) (by kernel_rfl) (by kernel_rfl) (fun _ _ _ h => nomatch h.1) (by rfl) (by first | trivial | assumption) ?_ ?_; rotate_left; focus (intro w hSw; (try dsimp only at hSw); go_simp; try with_reducible rfl))
                  try simp only [Act.put, List.setIfInBounds_toArray, List.set_cons_zero, List.set_cons_succ]
                  (refine dtake_wanted 4 (v := ?_) rfl (by kernel_rfl) (by kernel_rfl) (by kernel_rfl) (fun _ _ _ h => nomatch h.1) (by rfl) (by first | trivial | assumption) ?_ ?_; rotate_left; focus (intro w hSw; (try dsimp only at hSw); go_simp; try with_reducible rfl))
                  try simp only [Act.put, List.setIfInBounds_toArray, List.set_cons_zero, List.set_cons_succ]
                  (refine dtake_wanted 10 (v := ?_) rfl (by kernel_rfl) (by kernel_rfl) (by kernel_rfl) (fun _ _ _ h => nomatch h.1) (by rfl) (by first | trivial | assumption) ?_ ?_; rotate_left; focus (intro w hSw; (try dsimp only at hSw); go_simp; try with_reducible rfl))
                  try simp only [Act.put, List.setIfInBounds_toArray, List.set_cons_zero, List.set_cons_succ]
                  (refine dtake_wanted 11 (v := ?_) rfl (by kernel_rfl) (by kernel_rfl) (by kernel_rfl) (fun _ _ _ h => nomatch h.1) (by rfl) (by first | trivial | assumption) ?_ ?_; rotate_left; focus (intro w hSw; (try dsimp only at hSw); go_simp; try with_reducible rfl))
                  try simp only [Act.put, List.setIfInBounds_toArray, List.set_cons_zero, List.set_cons_succ]
                  refine wpAnyH_done (by kernel_rfl) ?_ _
                  exact ⟨rfl, by kernel_rfl, by kernel_rfl, by kernel_rfl, dbelow2s _ _ _⟩
              · rintro a' w' ⟨ha, h8, h9, hb⟩
                rw [h8, h9] at ha
                generalize a'.tmps.getD 88 undef = t88 at ha
                generalize a'.tmps.getD 89 undef = t89 at ha
                generalize a'.tmps.getD 90 undef = t90 at ha
                generalize a'.tmps.getD 91 undef = t91 at ha
                generalize a'.tmps.getD 92 undef = t92 at ha
                generalize a'.tmps.getD 93 undef = t93 at ha
                generalize a'.tmps.getD 94 undef = t94 at ha
                generalize a'.tmps.getD 95 undef = t95 at ha
                generalize a'.tmps.getD 96 undef = t96 at ha
                generalize a'.tmps.getD 97 undef = t97 at ha
                clear h8 h9
                subst ha
                have HP2 := Lib.hid (HB.out.below R hb)
                clear hb hx3 hy3 hxl hyl k1 k2
                simp only [Act.put, List.setIfInBounds_toArray, List.set_cons_succ, List.set_cons_zero]
                simp only [Exit.then]
                go_at_K
                go_wp2_with fail
                refine (HP2.out.suri R X HXL.out).mono ?_
                rintro e w6 ⟨rfl, hp6⟩
                have HP6 := Lib.hid hp6
                clear hp6 HP2
                have CR := Lib.hid (HP6.out.ruri R X)
                generalize uriS S' X = xa at CR
                generalize isS S' X = xb at CR
                go_wp2_with fail
                refine CR.out.mono ?_
                rintro e w7 ⟨rfl, hp7⟩
                have HP7 := Lib.hid hp7
                clear hp7 HP6 CR
                go_wp2_with fail
                refine (HP7.out.spref R Y HYL.out).mono ?_
                rintro e w8 ⟨rfl, hp8⟩
                have HP8 := Lib.hid hp8
                clear hp8 HP7
                have CR := Lib.hid (HP8.out.rpref R (by omega) HQ.out.1 Y)
                generalize prefS S' Y = ya at CR
                generalize prefE S' Y = yb at CR
                go_wp2_with fail
                refine CR.out.mono ?_
                rintro e w9 ⟨rfl, hp9⟩
                have HP9 := Lib.hid hp9
                clear hp9 HP8 CR
                have ca := bytesL_eq xa
                have cb := bytesL_eq ya
                go_wp2
                go_roundw
                case rel => exact ⟨j + 1, by omega, by go_num, HP9⟩
                case measure => simp [intOf]; omega
            · obtain rfl : j = 6 := by omega
              obtain ⟨oa, cap, hcell⟩ := HB.out.cell
              have HC := Lib.hid (PlC.drew R ⟨HB.out, hcell⟩)
              have HSM := Lib.hid HQ.out.1
              have hfew := allS_few (by omega) HQ.out.1
              clear hcell HB HQ
              go_wp2_with fail
              refine wp_region_held_drew (S := PlC Is W (.pointer (some q)) rb S' (.slice oa S'.length cap)) (by kernel_rfl) HC.out (fun hHeld => ?_)
              (refine dtake_wanted 0 (v := ?_) rfl (by kernel_rfl) (by kernel_rfl) (by kernel_rfl) (fun _ _ _ h => h) (by rfl) (by first | trivial | assumption) ?_ ?_; rotate_left; focus (intro w hSw; (try dsimp only at hSw); go_simp; try with_reducible rfl))
              try simp only [Act.put, List.setIfInBounds_toArray, List.set_cons_zero, List.set_cons_succ]
              (refine dtake_wanted 2 (v := ?_) rfl (by kernel_rfl) (by kernel_rfl) (by kernel_rfl) (fun _ _ _ h => h) (by rfl) (by first | trivial | assumption) ?_ ?_; rotate_left; focus (intro w hSw; (try dsimp only at hSw); go_simp; try with_reducible rfl))
              try simp only [Act.put, List.setIfInBounds_toArray, List.set_cons_zero, List.set_cons_succ]
              (refine dtake_wanted 3 (v := ?_) rfl (by kernel_rfl) (by kernel_rfl) (by kernel_rfl) (fun _ _ _ h => h) (by rfl) (by first | trivial | assumption) ?_ ?_; rotate_left; focus (intro w hSw; (try dsimp only at hSw); go_simp; try with_reducible rfl))
              try simp only [Act.put, List.setIfInBounds_toArray, List.set_cons_zero, List.set_cons_succ]
              (refine dtake_wanted 4 (v := ?_) rfl (by kernel_rfl) (by kernel_rfl) (by kernel_rfl) (fun _ _ _ h => h) (by rfl) (by first | trivial | assumption) ?_ ?_; rotate_left; focus (intro w hSw; (try dsimp only at hSw); go_simp; try with_reducible rfl))
              try simp only [Act.put, List.setIfInBounds_toArray, List.set_cons_zero, List.set_cons_succ]
              (refine dtake_wanted 5 (v := ?_) rfl (by kernel_rfl) (by kernel_rfl) (by kernel_rfl) (fun _ _ _ h => h) (by rfl) (by first | trivial | assumption) ?_ ?_; rotate_left; focus (intro w hSw; have hcw := hSw.2; clear hSw; go_simp; try with_reducible rfl))
              try simp only [Act.put, List.setIfInBounds_toArray, List.set_cons_zero, List.set_cons_succ]
              (refine dtake_wanted 6 (v := ?_) rfl (by kernel_rfl) (by kernel_rfl) (by kernel_rfl) (fun _ _ _ h => h) (by rfl) (by first | trivial | assumption) ?_ ?_; rotate_left; focus (intro w hSw; (try dsimp only at hSw); go_simp; try with_reducible rfl))
              try simp only [Act.put, List.setIfInBounds_toArray, List.set_cons_zero, List.set_cons_succ]
              refine dbranch_one 1 rfl (by kernel_rfl) (fun K hK => ?_)
              go_simp
              (go_at_call 21; refine (PlC.depth R HC.out).mono ?_; rintro e u1 ⟨rfl, hp1⟩)
              refine hK.out _ _ hp1 (fun hHeld1 => ?_)
              clear hK K hHeld
              try simp only [Act.put, List.setIfInBounds_toArray, List.set_cons_zero, List.set_cons_succ]
              (refine dtake_wanted 7 (v := ?_) rfl (by kernel_rfl) (by kernel_rfl) (by kernel_rfl) (fun _ _ _ h => h) (by rfl) (by first | trivial | assumption) ?_ ?_; rotate_left; focus (intro w hSw; (try dsimp only at hSw); go_simp; try with_reducible rfl))
              try simp only [Act.put, List.setIfInBounds_toArray, List.set_cons_zero, List.set_cons_succ]
              (refine dtake_wanted 8 (v := ?_) rfl (by kernel_rfl) (by kernel_rfl) (by kernel_rfl) (fun _ _ _ h => h) (by rfl) (by first | trivial | assumption) ?_ ?_; rotate_left; focus (intro w hSw; (try dsimp only at hSw); go_simp; try with_reducible rfl))
              try simp only [Act.put, List.setIfInBounds_toArray, List.set_cons_zero, List.set_cons_succ]
              (refine dtake_wanted 9 (v := ?_) rfl (by kernel_rfl) (by kernel_rfl) (by kernel_rfl) (fun _ _ _ h => h) (by rfl) (by first | trivial | assumption) ?_ ?_; rotate_left; focus (intro w hSw; (try dsimp only at hSw); go_simp; try with_reducible rfl))
              try simp only [Act.put, List.setIfInBounds_toArray, List.set_cons_zero, List.set_cons_succ]
              (refine dtake_wanted 11 (v := ?_) rfl (by kernel_rfl) (by kernel_rfl) (by kernel_rfl) (fun _ _ _ h => h) (by rfl) (by first | trivial | assumption) ?_ ?_; rotate_left; focus (intro w hSw; (try dsimp only at hSw); go_simp; try with_reducible rfl))
              try simp only [Act.put, List.setIfInBounds_toArray, List.set_cons_zero, List.set_cons_succ]
              refine dbranch_one 10 rfl (by kernel_rfl) (fun K hK => ?_)
              go_simp
              (go_at_call 11; refine (PlC.all R hp1).mono ?_; rintro e u2 ⟨sl2, rfl, hp2, ha2⟩)
              refine hK.out _ _ hp2 (fun hHeld2 => ?_)
              clear hK K hHeld1
              try simp only [Act.put, List.setIfInBounds_toArray, List.set_cons_zero, List.set_cons_succ]
              refine dbranch_one 12 rfl (by kernel_rfl) (fun K hK => ?_)
              go_simp
              (go_at_call 23; refine (PlC.bound R hp2 (by omega) HSM.out ha2).mono ?_; rintro e u3 ⟨sl3, rfl, hp3, ha3, hb3⟩)
              refine hK.out _ _ hp3 (fun hHeld3 => ?_)
              clear hK K hHeld2
              try simp only [Act.put, List.setIfInBounds_toArray, List.set_cons_zero, List.set_cons_succ]
              refine dbranch_one 13 rfl (by kernel_rfl) (fun K hK => ?_)
              go_simp
              (go_at_call 22; refine (rfsame_any (by rw [List.length_map]; omega) ha3 hb3).mono ?_; rintro e u4 ⟨rfl, hb4⟩)
              refine hK.out _ _ (hp3.below R hb4) (fun hHeld4 => ?_)
              clear hK K hHeld3
              try simp only [Act.put, List.setIfInBounds_toArray, List.set_cons_zero, List.set_cons_succ]
              (refine dtake_wanted 14 (v := ?_) rfl (by kernel_rfl) (by kernel_rfl) (by kernel_rfl) (fun _ _ _ h => h) (by rfl) (by first | trivial | assumption) ?_ ?_; rotate_left; focus (intro w hSw; (try dsimp only at hSw); go_simp; try with_reducible rfl))
              try simp only [Act.put, List.setIfInBounds_toArray, List.set_cons_zero, List.set_cons_succ]
              (refine dtake_wanted 15 (v := ?_) rfl (by kernel_rfl) (by kernel_rfl) (by kernel_rfl) (fun _ _ _ h => h) (by rfl) (by first | trivial | assumption) ?_ ?_; rotate_left; focus (intro w hSw; (try dsimp only at hSw); go_simp; try with_reducible rfl))
              try simp only [Act.put, List.setIfInBounds_toArray, List.set_cons_zero, List.set_cons_succ]
              refine wpAnyH_done (by kernel_rfl) ?_ _
              have HQ4 : Hid ((∀ lv ∈ S', lv.length ≤ 8) ∧ PlAt Is W (.pointer (some q)) rb S' S' u4) := Lib.hid ⟨HSM.out, hHeld4.1⟩
              clear hHeld4 hp1 hp2 hp3 ha2 ha3 hb3 hb4 HC HSM
              go_wp2
              go_roundw
              case rel => exact ⟨i + 1, S', by omega, hq, by go_num, HQ4⟩
              case measure => simp [intOf]; omega
      · obtain rfl : i = ops.length := by omega
        have g1 : decide (ops.length < ops.length) = false := decide_eq_false (by omega)
        go_wp2_with fail
        refine (CT.out _).mono ?_
        rintro e w5 ⟨rfl, hb5⟩
        have HE := Lib.hid (HR.out.2.since.trans (hb5.mono HR.out.2.since.size))
        clear hb5
        go_wp2
        go_ret
        exact ⟨rfl, HE.out⟩
  · have hex : (25 < ops.length) ∨ (ops.length ≤ 25 ∧ 50 < (bytes p).size) ∨ (ops.length ≤ 25 ∧ (bytes p).size ≤ 50 ∧ 50 < (bytes u).size) := by omega
    clear hbig
    rcases hex with h1 | ⟨h1, h2⟩ | ⟨h1, h2, h3⟩
    · have g1 : (25 : Int) < (ops.length : Int) := by omega
      go_enter Try.func4, Try.ntmps4
      go_wp2_with fail
      refine (snewAt (w0 := W) R (Below.refl _ _)).mono ?_
      rintro e w1 ⟨q, rfl, h⟩
      have HP := Lib.hid (pl_new R h).since
      clear h
      go_wp2_with fail
      refine (CT.out _).mono ?_
      rintro e w5 ⟨rfl, hb5⟩
      have HE := Lib.hid (HP.out.trans (hb5.mono HP.out.size))
      clear hb5
      go_wp2
      go_ret
      exact ⟨rfl, HE.out⟩
    · have g1 : ¬ (25 : Int) < (ops.length : Int) := by omega
      have g2 : (50 : Int) < ((bytes p).size : Int) := by omega
      go_enter Try.func4, Try.ntmps4
      go_wp2_with fail
      refine (snewAt (w0 := W) R (Below.refl _ _)).mono ?_
      rintro e w1 ⟨q, rfl, h⟩
      have HP := Lib.hid (pl_new R h).since
      clear h
      go_wp2_with fail
      refine (CT.out _).mono ?_
      rintro e w5 ⟨rfl, hb5⟩
      have HE := Lib.hid (HP.out.trans (hb5.mono HP.out.size))
      clear hb5
      go_wp2
      go_ret
      exact ⟨rfl, HE.out⟩
    · have g1 : ¬ (25 : Int) < (ops.length : Int) := by omega
      have g2 : ¬ (50 : Int) < ((bytes p).size : Int) := by omega
      have g3 : (50 : Int) < ((bytes u).size : Int) := by omega
      go_enter Try.func4, Try.ntmps4
      go_wp2_with fail
      refine (snewAt (w0 := W) R (Below.refl _ _)).mono ?_
      rintro e w1 ⟨q, rfl, h⟩
      have HP := Lib.hid (pl_new R h).since
      clear h
      go_wp2_with fail
      refine (CT.out _).mono ?_
      rintro e w5 ⟨rfl, hb5⟩
      have HE := Lib.hid (HP.out.trans (hb5.mono HP.out.size))
      clear hb5
      go_wp2
      go_ret
      exact ⟨rfl, HE.out⟩
end Go.Proofs.Ythhnpnjnlbjdjaa
