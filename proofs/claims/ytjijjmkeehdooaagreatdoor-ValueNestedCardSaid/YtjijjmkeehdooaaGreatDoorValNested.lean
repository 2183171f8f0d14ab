/-
  LAYER 13: brackenlaw13.ValueNested, out of ValSaid and RefsSaid: true however deep, however often, with any room.
-/
import Derived.Test.YtjijjmkeehdooaaGreatDoorValTold
import Derived.Test.YtjijjmkeehdooaaGreatDoorValNest
import Derived.Test.YtjijjmkeehdooaaGreatDoorDecBox
import Derived.Test.YtjijjmkeehdooaaGreatDoorBitNum
import Derived.IntWalk
import Derived.Deep.QuietTactic
import Derived.Deep.RegionLaw
import Derived.Deep.AppendLies
namespace Go.Proofs.YtjijjmkeehdooaaGreatDoor
open Go.RowKit

def abchB : ByteArray := ⟨#[97, 98, 99, 100, 101, 102, 103, 104]⟩
theorem drewN13 (w : World) (k : Nat) : Below w.heap.size w (w.drewN k) := ⟨rfl, rfl, rfl, Nat.le_refl _, fun _ _ => rfl⟩
theorem letter13 : ∀ i, i < 8 → (⟨#[97, 98, 99, 100, 101, 102, 103, 104]⟩ : ByteArray).extract i (i + 1) = bytes (nmL i) := by
  intro i hi
  have h : ∀ j : Fin 8, (⟨#[97, 98, 99, 100, 101, 102, 103, 104]⟩ : ByteArray).extract j.val (j.val + 1) = bytes (nmL j.val) := by decide
  exact h ⟨i, hi⟩
theorem sizesN (k a : Nat) (hk : k < 4) (ha : a < 6) : lenN k a ≤ 1000 ∧ costN k a ≤ 2000 := by
  have h : ∀ (x : Fin 4) (y : Fin 6), lenN x.val y.val ≤ 1000 ∧ costN x.val y.val ≤ 2000 := by decide
  exact h ⟨k, hk⟩ ⟨a, ha⟩
/-- WHERE THE LAW STANDS while entities are made: i of them, in the variable D -/
structure NestAt (E : Nat → World → Prop) (nE : Nat) (w : World) (k i : Nat) (p : Option Addr) (c : Nat) (wr : World) : Prop where
  dec : DecAt wr w.heap.size (.slice p i c)
  own : OwnE wr (w.heap.size + 1) (.slice p i c) (nestE i k)
  at_ : VAt E nE w wr
theorem NestAt.lt {E : Nat → World → Prop} {nE : Nat} {w : World} {k i : Nat} {p : Option Addr} {c : Nat} {wr : World} (h : NestAt E nE w k i p c wr) : w.heap.size + 1 ≤ wr.heap.size := World.rowIs.lt h.dec
theorem NestAt.drewN {E : Nat → World → Prop} {Is : (Nat → Prop) → World → Value → RefD → Prop} (S : ValSaid E Is) {nE : Nat} {w : World} {k i : Nat} {p : Option Addr} {c : Nat} {wr : World} (h : NestAt E nE w k i p c wr) (q : Nat) : NestAt E nE w k i p c (wr.drewN q) := ⟨h.dec, h.own, h.at_.other S (drewN13 wr q)⟩
/-- an entity more: behind append, and behind the store -/
theorem NestAt.push {E : Nat → World → Prop} {Is : (Nat → Prop) → World → Value → RefD → Prop} (S : ValSaid E Is) {nE : Nat} {w : World} {k i : Nat} {p : Option Addr} {c : Nat} {wr : World} (h : NestAt E nE w k i p c wr) {x t : ByteArray} (hx : x = bytes (nmL i)) (ht : t = bytes (txtN k i)) {O : Obj} {g cap : Nat} {w6 : World}
    (hown : w6.ownsRow (w.heap.size + 1) 26 3 (.slice (some ⟨g, 0, none⟩) (i + 1) cap) (i + 1) (flatE (nestE i k) ++ [.string x, .string t, .bool false])) (hgr : (wr.alloc O).grownBy w6 (Value.slice p i c).ownBlock) :
    DecAt w6 w.heap.size (.slice p i c) ∧ NestAt E nE w k (i + 1) (some ⟨g, 0, none⟩) cap (w6.setCell ⟨w.heap.size, 1, none⟩ (.slice (some ⟨g, 0, none⟩) (i + 1) cap)) := by
  have hob := ownE_block h.own
  have hlt := h.lt
  have hkeep : ∀ q, q < wr.heap.size → (Value.slice p i c).ownBlock ≠ some q → w6.heap[q]? = wr.heap[q]? := fun q hq hn => (hgr.block q (by rw [Deep.nblk_alloc]; omega) (fun e => hn e.symm)).trans (Below.heap_alloc wr _ q hq)
  have hD6 : DecAt w6 w.heap.size (.slice p i c) := h.dec.block (hkeep _ hlt (fun e => by have := hob _ e; omega))
  have hon : OwnE w6 (w.heap.size + 1) (.slice (some ⟨g, 0, none⟩) (i + 1) cap) (nestE (i + 1) k) := by
    rw [nest_next]
    refine ownE_next ⟨nmL i, txtN k i, false⟩ ?_
    rw [nest_len]
    subst hx; subst ht
    exact hown
  refine ⟨hD6, hD6.set _, ownE_same hon (fun q hq => Below.heap_setCell _ _ _ _ (show q ≠ w.heap.size by have := ownE_block hon q hq; omega)), ?_⟩
  have hb1 : Below w.heap.size w w6 := (h.at_.since.alloc h.at_.since.size O).grown hgr (by rw [Deep.nblk_alloc]; have := h.at_.since.size; omega) (fun q hq => by have := hob q hq; omega)
  have hb2 := hb1.setCell (p := ⟨w.heap.size, 1, none⟩) (Nat.le_refl _) (.slice (some ⟨g, 0, none⟩) (i + 1) cap)
  have hb3 : Below w.heap.size wr (w6.setCell ⟨w.heap.size, 1, none⟩ (.slice (some ⟨g, 0, none⟩) (i + 1) cap)) :=
    (((Below.refl w.heap.size wr).alloc (by omega) O).grown hgr (by rw [Deep.nblk_alloc]; omega) (fun q hq => by have := hob q hq; omega)).setCell (p := ⟨w.heap.size, 1, none⟩) (Nat.le_refl _) _
  exact ⟨S.stay nE wr _ h.at_.e (hb3.mono h.at_.low), h.at_.low, hb2⟩
set_option maxHeartbeats 8000000 in
set_option maxRecDepth 100000 in
theorem valnested_any {E : Nat → World → Prop} {Is : (Nat → Prop) → World → Value → RefD → Prop} (R : RefsSaid Is) (S : ValSaid E Is) (nE : Nat) (a0 a1 a2 : Int) (w : World) (hE : E nE w) (hn : nE ≤ w.heap.size) :
    Calls Tryz.prog 7 #[.int .i64 a0, .int .i64 a1, .int .i64 a2] w fun e w' => e = .returned (.bool true) ∧ Below w.heap.size w w' := by
  obtain ⟨u0, x0, hu0, hv0, hx0, hy0, hz0⟩ := wrap_mod a0 6 (by decide) (by decide)
  obtain ⟨u1, x1, hu1, hv1, hx1, hy1, hz1⟩ := wrap_mod a1 3 (by decide) (by decide)
  obtain ⟨u2, m, hu2, hv2, hm, hy2, hz2⟩ := wrap_mod a2 6000 (by decide) (by decide)
  replace hv0 : Int.tmod (u0 : Int) 6 = (x0 : Int) := hv0
  replace hv1 : Int.tmod (u1 : Int) 3 = (x1 : Int) := hv1
  replace hv2 : Int.tmod (u2 : Int) 6000 = (m : Int) := hv2
  have HTOLD := Lib.hid (fun W (h : VAt E nE w W) => told13_any R S nE W h.e h.n_le)
  have H0 := Lib.hid (show ∀ q, VAt E nE w (w.drewN q) from fun q => ⟨S.stay nE w _ hE ((drewN13 w q).mono hn), hn, drewN13 w q⟩)
  clear hE
  obtain ⟨n, hn1⟩ : ∃ n, 1 + x0 = n := ⟨_, rfl⟩
  obtain ⟨k, hk1⟩ : ∃ k, 1 + x1 = k := ⟨_, rfl⟩
  have hnI : (1 : Int) + (x0 : Int) = (n : Int) := by omega
  have hkI : (1 : Int) + (x1 : Int) = (k : Int) := by omega
  have hnw : IntKind.i64.wrap (n : Int) = (n : Int) := IntWalk.i64_in _ (by omega)
  have hkw : IntKind.i64.wrap (k : Int) = (k : Int) := IntWalk.i64_in _ (by omega)
  have hn6 : n ≤ 6 := by omega
  have hn0 : 0 < n := by omega
  have hk3 : k ≤ 3 := by omega
  have hk0 : 0 < k := by omega
  clear hn1 hk1
  obtain ⟨i0, hi, hq0, hq1, hq2⟩ := info_entR
  have HST : Hid (NestAt E nE w k 0 none 0 (w.alloc (.cells #[.string ⟨#[]⟩, .slice none 0 0, .slice none 0 0] 30))) := Lib.hid ⟨decAt_new w, World.ownsRow_nil _ _ _ _, (H0.out 0).other S ((Below.refl _ w).alloc (Nat.le_refl _) _)⟩
  have HPUT : Hid (∀ g cap w3, w3.ownsRow (w.heap.size + 1) 26 3 (.slice (some ⟨g, 0, none⟩) (0 + 1) cap) (0 + 1) ([] ++ [.string ⟨#[97]⟩, .string ⟨#[120]⟩, .bool false]) → ((w.alloc (.cells #[.string ⟨#[]⟩, .slice none 0 0, .slice none 0 0] 30)).alloc (.cells #[.string ⟨#[97]⟩, .string ⟨#[120]⟩, .bool false] 26)).grownBy w3 none → DecAt w3 w.heap.size (.slice none 0 0) ∧ NestAt E nE w k 1 (some ⟨g, 0, none⟩) cap (w3.setCell ⟨w.heap.size, 1, none⟩ (.slice (some ⟨g, 0, none⟩) 1 cap))) := Lib.hid (fun g cap w3 h1 h2 => HST.out.push S rfl rfl h1 h2)
  have HNW : Hid (∀ j u, [Value.string ⟨#[97]⟩, Value.string ⟨#[120]⟩, Value.bool false][j]? = some u → ((w.alloc (.cells #[.string ⟨#[]⟩, .slice none 0 0, .slice none 0 0] 30)).alloc (.cells #[.string ⟨#[97]⟩, .string ⟨#[120]⟩, .bool false] 26)).cell? ((⟨w.heap.size + 1, 0, none⟩ : Addr).add j) = some u) := Lib.hid (World.news_of_block (ent_two _ _ _ _ _ _))
  clear HST
  go_enter Tryz.func7, Tryz.ntmps7
  go_wp2_with (at_builtin; refine wpList_append_lies _ rfl _ _ 27 rfl (w.heap.size + 1) 26 i0 (.agg #[.string ⟨#[]⟩, .string ⟨#[]⟩, .bool false]) 3 40 Tryz.underlying27 hi hq0 hq1 hq2 rfl (by decide) _ _ _ rfl (World.ownsRow_nil _ _ _ _) ⟨w.heap.size + 1, 0, none⟩ 1 1 [.string ⟨#[97]⟩, .string ⟨#[120]⟩, .bool false] rfl rfl HNW.out (by intro u hu; simp at hu; rcases hu with rfl | rfl | rfl <;> rfl) (by decide) (by unfold maxLen; omega) (by omega) (by simp) _ rfl ?_; intro g cap w3 hown hgr hat hlt; have hp := HPUT.out g cap w3 hown hgr; have d1 := hp.1.c1; have f1 := World.rowIs.frozen hp.1 1; have HP := Lib.hid hp.2; clear hp hown hgr hat hlt)
  obtain ⟨W1, hW1⟩ : ∃ W1, w3.setCell ⟨w.heap.size, 1, none⟩ (.slice (some ⟨g, 0, none⟩) 1 cap) = W1 := ⟨_, rfl⟩
  rw [hW1] at HP ⊢
  clear hW1 d1 f1 HPUT HNW hu0 hu1 hu2 hv0 hv1 hv2 hy0 hz0 hy1 hz1 hy2 hx0 hx1 hnI hkI
  go_loopw [12, 13, 14] (fun tv cv iv wr => ∃ (a i : Nat) (p : Option Addr) (c : Nat), Hid (a + 1 = i) ∧ i ≤ n ∧ 0 < i ∧ iv = .int .i64 i ∧ tv = .string (bytes (xsN (lenN k a))) ∧ cv = .int .i64 (costN k a : Nat) ∧ Hid (NestAt E nE w k i p c wr)) (fun _ _ iv _ => n - (intOf iv).toNat)
  case atStart => exact ⟨0, 1, _, _, Lib.hid rfl, by omega, by decide, rfl, rfl, rfl, HP⟩
  case round =>
    obtain ⟨a, i, p, c, HAI, hin, hi0, rfl, rfl, rfl, HN⟩ := hrel
    clear HP
    obtain ⟨hL, hC⟩ := sizesN k a (by omega) (by have := HAI.out; omega)
    obtain ⟨L, hLL⟩ : ∃ L, lenN k a = L := ⟨_, rfl⟩
    obtain ⟨C, hCC⟩ : ∃ C, costN k a = C := ⟨_, rfl⟩
    rw [hLL] at hL
    rw [hCC] at hC
    rw [hLL, hCC]
    have HLL := Lib.hid hLL
    have HCC := Lib.hid hCC
    obtain ⟨X, hX⟩ : ∃ X, bytes (xsN L) = X := ⟨_, rfl⟩
    have hXs : X.size = L := by rw [← hX, bytesL_len, xsN, List.length_replicate]
    rw [hX]
    have HX := Lib.hid hX
    clear hLL hCC hX
    by_cases hlt : i < n
    · go_wp2
      have HAX := Lib.hid (show (⟨#[97, 98, 99, 100, 101, 102, 103, 104]⟩ : ByteArray).extract a i = bytes (nmL a) by rw [← HAI.out]; exact letter13 a (by have := HAI.out; omega))
      go_loopw [15, 16, 17, 18] (fun vv t2 c2 jv wj => ∃ (j Y : Nat), j ≤ k ∧ jv = .int .i64 j ∧ vv = .string (bytes (repN j (refN a))) ∧ t2 = .string (bytes (xsN (j * L))) ∧ Hid (j * C = Y) ∧ c2 = .int .i64 (Y : Nat) ∧ Hid (NestAt E nE w k i p c wj)) (fun _ _ _ jv _ => k - (intOf jv).toNat)
      case atStart => exact ⟨0, 0, Nat.zero_le _, rfl, rfl, by rw [Nat.zero_mul]; rfl, Lib.hid (Nat.zero_mul _), rfl, HN⟩
      case round =>
        clear HN
        obtain ⟨j, Y, hjk, rfl, rfl, rfl, HY, rfl, HN⟩ := hrel
        by_cases hjlt : j < k
        · obtain ⟨V, hV⟩ : ∃ V, bytes (repN j (refN a)) = V := ⟨_, rfl⟩
          obtain ⟨T, hT⟩ : ∃ T, bytes (xsN (j * L)) = T := ⟨_, rfl⟩
          obtain ⟨N1, hN1⟩ : ∃ N1, bytes (nmL a) = N1 := ⟨_, rfl⟩
          have hVs : V.size ≤ 9 := by rw [← hV, bytesL_len, repN_len]; show j * 3 ≤ 9; omega
          have hTs : T.size ≤ 3000 := by
            rw [← hT, bytesL_len, xsN, List.length_replicate]
            exact Nat.le_trans (Nat.mul_le_mul (by omega : j ≤ 3) hL) (by decide)
          have hNs : N1.size = 1 := by rw [← hN1]; rfl
          have hYl : Y ≤ 6000 := by
            rw [← HY.out]
            exact Nat.le_trans (Nat.mul_le_mul (by omega : j ≤ 3) hC) (by decide)
          have HVN : Hid (V ++ ⟨#[38]⟩ ++ N1 ++ ⟨#[59]⟩ = bytes (repN (j + 1) (refN a))) := Lib.hid (by
            rw [← hV, ← hN1, repN_last]
            exact ByteArray.ext (Array.ext' (by simp [bytes, refN])))
          have HTN : Hid (T ++ X = bytes (xsN ((j + 1) * L))) := Lib.hid (by
            rw [← hT, ← HX.out, Nat.succ_mul, ← xsN_add]
            exact ByteArray.ext (Array.ext' (by simp [bytes])))
          have hax := HAX.out
          rw [hV, hT]
          rw [hN1] at hax
          obtain ⟨Y2, hY2⟩ : ∃ Y2, Y + C = Y2 := ⟨_, rfl⟩
          have hYI : (Y : Int) + (C : Int) = (Y2 : Int) := by omega
          have hYw : IntKind.i64.wrap (Y2 : Int) = (Y2 : Int) := IntWalk.i64_in _ (by omega)
          have HY2 : Hid ((j + 1) * C = Y2) := Lib.hid (by rw [Nat.succ_mul, HY.out]; exact hY2)
          have haI : (i : Int) - 1 = (a : Int) := by have := HAI.out; omega
          have hai : (a : Int) ≤ (i : Int) := by omega
          have hi8 : (i : Int) ≤ 8 := by omega
          have ha0 : (0 : Int) ≤ (a : Int) := by omega
          have haw : IntKind.i64.wrap (a : Int) = (a : Int) := IntWalk.i64_in _ (by omega)
          have hiw : IntKind.i64.wrap (i : Int) = (i : Int) := IntWalk.i64_in _ (by omega)
          have z1 : (9223372036854775807 < V.size + 1) = False := eq_false (by omega)
          have z2 : (9223372036854775807 < V.size + 1 + 1) = False := eq_false (by omega)
          have z3 : (9223372036854775807 < V.size + 1 + 1 + 1) = False := eq_false (by omega)
          have z4 : (9223372036854775807 < T.size + L) = False := eq_false (by omega)
          have z5 : (9223372036854775807 < V.size + 1 + N1.size) = False := eq_false (by omega)
          have z6 : (9223372036854775807 < V.size + 1 + N1.size + 1) = False := eq_false (by omega)
          have z7 : (9223372036854775807 < T.size + X.size) = False := eq_false (by omega)
          clear hV hT hN1 hY2
          go_wp2
          go_roundw
          case rel => exact ⟨j + 1, Y2, by omega, by go_num, by rw [HVN.out], by rw [HTN.out], HY2, rfl, HN⟩
          case measure => simp [intOf]; omega
        · obtain rfl : j = k := by omega
          obtain ⟨V, hV⟩ : ∃ V, bytes (repN j (refN a)) = V := ⟨_, rfl⟩
          have hVs : V.size = j * 3 := by rw [← hV, bytesL_len, repN_len]; rfl
          have HVX := Lib.hid (show V = bytes (txtN j i) by rw [← hV, ← HAI.out]; rfl)
          have hNX := letter13 i (by omega)
          obtain ⟨N2, hN2⟩ : ∃ N2, bytes (nmL i) = N2 := ⟨_, rfl⟩
          rw [hN2] at hNX
          have HNX2 := Lib.hid hN2
          rw [hV]
          obtain ⟨J, hJ⟩ : ∃ J, j * L = J := ⟨_, rfl⟩
          rw [hJ]
          have HJ := Lib.hid hJ
          have hYl : Y ≤ 6000 := by
            rw [← HY.out]
            exact Nat.le_trans (Nat.mul_le_mul hk3 hC) (by decide)
          obtain ⟨Y2, hY2⟩ : ∃ Y2, Y + j * 3 = Y2 := ⟨_, rfl⟩
          obtain ⟨j3, hj3⟩ : ∃ j3, j * 3 = j3 := ⟨_, rfl⟩
          rw [hj3] at hVs hY2
          have hYI : (Y : Int) + (j3 : Int) = (Y2 : Int) := by omega
          have hYw : IntKind.i64.wrap (Y2 : Int) = (Y2 : Int) := IntWalk.i64_in _ (by omega)
          have HCN : Hid (costN j i = Y2) := Lib.hid (by rw [← HAI.out, ← hY2, ← hj3, ← HY.out, ← HCC.out]; rfl)
          have HLN : Hid (lenN j i = J) := Lib.hid (by rw [← HAI.out, ← hJ, ← HLL.out]; rfl)
          have hw1 : IntKind.i64.wrap ((i : Int) + 1) = (i : Int) + 1 := IntWalk.i64_in _ (by omega)
          have hw2 : (0 : Int) ≤ (i : Int) + 1 := by omega
          have hw3 : (i : Int) + 1 ≤ 8 := by omega
          have hw4 : (i : Int) ≤ (i : Int) + 1 := by omega
          have hcd := HN.out.dec.c1
          have hlw := HN.out.lt
          have HPX : Hid (∀ (O : Obj) g2 cap2 w6, w6.ownsRow (w.heap.size + 1) 26 3 (.slice (some ⟨g2, 0, none⟩) (i + 1) cap2) (i + 1) (flatE (nestE i j) ++ [.string N2, .string V, .bool false]) → ((wr.drew).alloc O).grownBy w6 (Value.slice p i c).ownBlock → DecAt w6 w.heap.size (.slice p i c) ∧ NestAt E nE w j (i + 1) (some ⟨g2, 0, none⟩) cap2 (w6.setCell ⟨w.heap.size, 1, none⟩ (.slice (some ⟨g2, 0, none⟩) (i + 1) cap2))) := Lib.hid (fun O g2 cap2 w6 h1 h2 => NestAt.push S (wr := wr.drew) (show NestAt E nE w j i p c wr.drew from (HN.out.drewN S 1)) HNX2.out.symm HVX.out h1 h2)
          have HOX := Lib.hid (fun (M : Obj) => show ((wr.drew).alloc M).ownsRow (w.heap.size + 1) 26 3 (.slice p i c) i (flatE (nestE i j)) from by
            have h := World.ownsRow.alloc (show (wr.drew).ownsRow (w.heap.size + 1) 26 3 (.slice p i c) (nestE i j).length (flatE (nestE i j)) from HN.out.own) M
            rw [nest_len] at h
            exact h)
          have hcd2 : ∀ M, (wr.alloc M).cell? ⟨w.heap.size, 1, none⟩ = some (.slice p i c) := fun M => DecAt.c1 (HN.out.dec.block (Below.heap_alloc wr _ _ (by omega)))
          clear hV hN2 hJ hY2 hj3
          go_wp2
          go_region_law (refine step_append_lies _ (by rfl) _ _ 27 (by rfl) (w.heap.size + 1) 26 i0 (.agg #[.string ⟨#[]⟩, .string ⟨#[]⟩, .bool false]) 3 40 Tryz.underlying27 hi hq0 hq1 hq2 rfl (by decide) _ _ _ (by rfl) (HOX.out _) ⟨wr.heap.size, 0, none⟩ 1 1 [.string N2, .string V, .bool false] (by rfl) rfl (World.news_of_block (ent_new _ _ _ _ _)) (by intro u hu; simp at hu; rcases hu with rfl | rfl | rfl <;> rfl) (by decide) (by unfold maxLen; omega) (by omega) (by simp; omega) (wr.heap.size + 1) (by simp) ?_; intro g2 cap2 w6 hown6 hgr6 hat6 hlt6; have hp6 := HPX.out _ g2 cap2 w6 hown6 hgr6; have hc6 := hp6.1.c1; have hf6 := World.rowIs.frozen hp6.1 1)
          all_goals
            have HP6 := Lib.hid hp6.2
            obtain ⟨W9, hW9⟩ : ∃ W9, w6.setCell ⟨w.heap.size, 1, none⟩ (.slice (some ⟨g2, 0, none⟩) (i + 1) cap2) = W9 := ⟨_, rfl⟩
            rw [hW9] at HP6 ⊢
            clear hW9 hp6 hc6 hf6 hown6 hgr6 hat6 hlt6 HPX HOX hcd hcd2
            go_wp2
            go_roundw
            case rel => exact ⟨i, i + 1, _, _, Lib.hid rfl, by omega, by omega, by go_num, by rw [HLN.out], by rw [HCN.out], HP6⟩
            case measure => simp [intOf]; omega
    · obtain rfl : i = n := by omega
      have HEN := Lib.hid (owns_ents HN.out.own)
      have HFW := Lib.hid ((nest_lett i k (by omega) hk3).fewR)
      have c0 := HN.out.dec.c0
      have c1 := HN.out.dec.c1
      have c2 := HN.out.dec.c2
      have HVW := Lib.hid HN.out.at_
      have hax : (⟨#[97, 98, 99, 100, 101, 102, 103, 104]⟩ : ByteArray).extract a i = bytes (nmL a) := by rw [← HAI.out]; exact letter13 a (by have := HAI.out; omega)
      obtain ⟨N1, hN1⟩ : ∃ N1, bytes (nmL a) = N1 := ⟨_, rfl⟩
      rw [hN1] at hax
      have hNs : N1.size = 1 := by rw [← hN1]; rfl
      have HRW : Hid (bytes (refN a) = ⟨#[38]⟩ ++ N1 ++ ⟨#[59]⟩) := Lib.hid (by
        rw [← hN1]
        exact ByteArray.ext (Array.ext' (by simp [bytes, refN])))
      have haI : (i : Int) - 1 = (a : Int) := by have := HAI.out; omega
      have hai : (a : Int) ≤ (i : Int) := by omega
      have hi8 : (i : Int) ≤ 8 := by omega
      have ha0 : (0 : Int) ≤ (a : Int) := by omega
      have haw : IntKind.i64.wrap (a : Int) = (a : Int) := IntWalk.i64_in _ (by omega)
      have hiw : IntKind.i64.wrap (i : Int) = (i : Int) := IntWalk.i64_in _ (by omega)
      have z1 : (9223372036854775807 < 1 + N1.size) = False := eq_false (by omega)
      have z2 : (9223372036854775807 < 1 + N1.size + 1) = False := eq_false (by omega)
      have HRD := Lib.hid (nest_read (n := i) (k := k) (most := (m : Int)) (by omega) hi0 hk3 hk0)
      rw [show i - 1 = a by have := HAI.out; omega, HCC.out, HLL.out] at HRD
      have HSH : Hid (ShortV i (ref0 (nestE i k)) (refN a) (m : Int)) := Lib.hid (by
        have h := short_of (l := nestE i k) (o := []) (n := 0) (raw := refN a) (most := (m : Int)) (by rw [nest_len]; omega) (fun e he => by have := (HFW.out.2 e he).2; obtain ⟨x, hx, rfl⟩ := List.mem_map.1 he; exact Nat.le_trans (txt_len k x hk3) (by decide)) (by show 3 ≤ _; decide) rfl (by
          have := rawV_cap (nestE i k).length ⟨lookE (nestE i k), [], 0⟩ (refN a) (m : Int) false
          have h0 : (⟨lookE (nestE i k), [], 0⟩ : RefD).n = 0 := rfl
          rw [h0] at this
          omega)
        rw [nest_len] at h
        exact h)
      clear hN1 HN
      go_wp2_with fail
      refine (rnewAt R (nestE i k) _ _ _ HFW.out HEN.out).mono ?_
      rintro e w2 ⟨q, rfl, h⟩
      have HV2 := Lib.hid (HVW.out.other S h.since)
      have HR2 := Lib.hid h
      clear h c0 c1 c2
      go_wp2_with fail
      by_cases hcm : (C : Int) ≤ (m : Int)
      · have HC := vreadAt S i (refN a) 1 (m : Int) _ X HX.out 0 _ (HRD.out.1 hcm) HSH.out (fits13 _ (by decide) (by decide)) (fits13 _ (by omega) (by omega)) HV2.out HR2.out HVW.out.since.size
        rw [HRW.out] at HC
        have HC2 := Lib.hid HC
        have g1 : decide ((m : Int) < (C : Int)) = false := decide_eq_false (by omega)
        have g2 : decide (m < C) = false := decide_eq_false (by omega)
        clear HC
        refine HC2.out.mono ?_
        rintro e w3 ⟨rfl, hv, hr, _⟩
        have HV3 := Lib.hid hv
        have HR3 := Lib.hid hr
        clear hv hr
        go_wp2_with fail
        refine (HTOLD.out _ HV3.out).mono ?_
        rintro e w4 ⟨rfl, hb⟩
        have HR4 := Lib.hid (HR3.out.other R hb)
        have HV4 := Lib.hid (HV3.out.other S hb)
        clear hb
        go_wp2_with fail
        refine (rspentAt R HR4.out).mono ?_
        rintro e w5 ⟨rfl, h⟩
        have HR5 := Lib.hid h
        clear h
        go_wp2_with fail
        refine (rdepthAt R HR5.out).mono ?_
        rintro e w6 ⟨rfl, h⟩
        have HR6 := Lib.hid h
        clear h
        go_wp2
        go_ret
        exact ⟨rfl, HVW.out.since.trans (HR6.out.since.mono HVW.out.since.size)⟩
      · obtain ⟨r', hr'⟩ := HRD.out.2 (by omega)
        have HC := vreadAt S i (refN a) 1 (m : Int) _ ⟨#[]⟩ rfl 3 _ hr' HSH.out (fits13 _ (by decide) (by decide)) (fits13 _ (by omega) (by omega)) HV2.out HR2.out HVW.out.since.size
        rw [HRW.out] at HC
        have HC2 := Lib.hid HC
        have g1 : decide ((m : Int) < (C : Int)) = true := decide_eq_true (by omega)
        have g2 : decide (m < C) = true := decide_eq_true (by omega)
        clear HC hr'
        refine HC2.out.mono ?_
        rintro e w3 ⟨rfl, hv, _, _⟩
        have HV3 := Lib.hid hv
        clear hv
        go_wp2_with fail
        refine (HTOLD.out _ HV3.out).mono ?_
        rintro e w4 ⟨rfl, hb⟩
        go_wp2
        go_ret
        exact ⟨rfl, HV3.out.since.trans (hb.mono HV3.out.since.size)⟩
end Go.Proofs.YtjijjmkeehdooaaGreatDoor
