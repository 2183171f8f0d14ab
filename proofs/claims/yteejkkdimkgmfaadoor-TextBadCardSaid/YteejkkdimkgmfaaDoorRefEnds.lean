/-
  THE CONTRACT OF brackenref1.Ends: it returns endsT of TextLaws; of what was there before the call nothing turns.
-/
import Derived.Test.YteejkkdimkgmfaaDoorOwnBytes
import Derived.Test.YteejkkdimkgmfaaDoorTextLaws
import Derived.LoopTactic
import Derived.OwnWalk
namespace Go.Proofs.YteejkkdimkgmfaaDoor
open Go.RowKit

theorem endAt_skip (s : ByteArray) (k : Nat) (h1 : s.get! k = 13) (h2 : k + 1 < s.size) (h3 : s.get! (k + 1) = 10) : endsN s (k + 1) = endsN s k := by
  rw [endsN_succ]; unfold endAt; rw [if_pos h1, if_pos ⟨h2, h3⟩, List.append_nil]
theorem endAt_ten (s : ByteArray) (k : Nat) (h1 : s.get! k = 13) (h2 : ¬ (k + 1 < s.size ∧ s.get! (k + 1) = 10)) : endsN s (k + 1) = endsN s k ++ [UInt8.ofNat 10] := by
  rw [endsN_succ]; unfold endAt; rw [if_pos h1, if_neg h2]; rfl
theorem endAt_same (s : ByteArray) (k c : Nat) (hc : (s.get! k).toNat = c) (h1 : ¬ c = 13) : endsN s (k + 1) = endsN s k ++ [UInt8.ofNat c] := by
  rw [endsN_succ]; unfold endAt
  rw [if_neg (by intro e; rw [e] at hc; exact h1 hc.symm), ← hc, UInt8.ofNat_toNat]
theorem byte_eq {b : UInt8} {c n : Nat} (hb : b.toNat = c) (hn : n < 256) (h : c = n) : b = UInt8.ofNat n := by
  apply UInt8.toNat_inj.1
  rw [hb, h, UInt8.toNat_ofNat', Nat.mod_eq_of_lt (by omega)]

set_option maxHeartbeats 4000000 in
set_option maxRecDepth 100000 in
theorem refEnds_any (s : ByteArray) (w : World) (hs : s.size ≤ 4294967296) :
    Calls Tryd.prog 15 #[.string s] w fun e w' => e = .returned (.string (endsT s)) ∧ Below w.heap.size w w' := by
  obtain ⟨i0, hi, hz0, hz1, hz2⟩ := info_parts info_u8
  go_enter Tryd.func15, Tryd.ntmps15
  go_wp2_with (at_make; refine wpList_make_own _ rfl _ _ 22 rfl w.heap.size 5 i0 (.int .u8 0) 1 Tryd.underlying22 hi hz0 hz1 .i64 .i64 (s.size : Int) s.size rfl rfl rfl (by rw [hz2]; omega) (by unfold maxLen; omega) (Nat.le_refl _) ?_; intro w1 hown1 hgrow1)
  go_loopw [3, 4] (fun v i wr => ∃ k : Nat, k ≤ s.size ∧ i = .int .i64 k ∧ OwnB wr w.heap.size v (endsN s k) ∧ Below w.heap.size w wr) (fun _ i _ => s.size - (intOf i).toNat)
  case atStart => exact ⟨0, Nat.zero_le _, rfl, hown1, (Below.refl _ _).grown hgrow1 (Nat.le_refl _) (fun k hk => by cases hk)⟩
  case round =>
    obtain ⟨k, hk, rfl, hown, hb⟩ := hrel
    have hel := endsN_le s k
    have hown0 : wr.ownsRow w.heap.size 5 1 u3 (endsN s k).length ((endsN s k).map bval) := hown
    by_cases hlt : k < s.size
    · obtain ⟨c, hc⟩ : ∃ c, (s[k]'hlt).toNat = c := ⟨_, rfl⟩
      have hcb : c < 256 := by rw [← hc]; exact UInt8.toNat_lt _
      have HG : Hid ((s.get! k).toNat = c) := by rw [show s.get! k = _ from get_at s k hlt, hc]; exact rfl
      by_cases h13 : c = 13
      · have HK : Hid (s.get! k = 13) := byte_eq (n := 13) HG.out (by decide) h13
        subst h13
        by_cases hn : k + 1 < s.size
        · obtain ⟨d, hd⟩ : ∃ d, (s[k + 1]'hn).toNat = d := ⟨_, rfl⟩
          have HD : Hid ((s.get! (k + 1)).toNat = d) := by rw [show s.get! (k + 1) = _ from get_at s (k + 1) hn, hd]; exact rfl
          by_cases h10 : d = 10
          · have HS := Lib.hid (endAt_skip s k HK.out hn (byte_eq (n := 10) HD.out (by decide) h10))
            subst h10
            go_wp2
            go_roundw
            case rel => exact ⟨k + 1, by omega, by go_num, by rw [HS.out]; exact hown, hb⟩
            case measure => simp [intOf]; omega
          · have HS := Lib.hid (endAt_ten s k HK.out (by rintro ⟨_, e⟩; have := HD.out; rw [e] at this; exact h10 this.symm))
            have a1 : ((d : Int) == 10) = false := beq_eq_false_iff_ne.2 (by omega)
            have a2 : (d == 10) = false := beq_eq_false_iff_ne.2 h10
            clear h10
            generalize endsN s k = l at *
            go_wp2_with (at_builtin; refine wpList_append_own _ rfl _ _ 22 rfl w.heap.size 5 i0 (.int .u8 0) 1 1 Tryd.underlying22 hi hz0 hz1 hz2 rfl (by decide) _ _ _ rfl (hown0.alloc _) ⟨wr.heap.size, 0, none⟩ 1 1 [.int .u8 10] rfl rfl (cell_one_new _ _ _) (by intro u hu; simp at hu; subst hu; rfl) (by unfold maxLen; omega) (by omega) (by have := hb.size; simp; omega) ?_; intro v' w2 hown2 hgrow2 _)
            go_roundw
            case rel => exact ⟨k + 1, by omega, by go_num, by rw [HS.out]; exact ownB_next _ (by omega) hown2, (hb.alloc hb.size _).grown hgrow2 (by have := hb.size; simp; omega) (ownB_block hown)⟩
            case measure => simp [intOf]; omega

        · have HS := Lib.hid (endAt_ten s k HK.out (by rintro ⟨e, _⟩; exact hn e))
          have a1 : decide (k + 1 < s.size) = false := decide_eq_false hn
          generalize endsN s k = l at *
          go_wp2_with (at_builtin; refine wpList_append_own _ rfl _ _ 22 rfl w.heap.size 5 i0 (.int .u8 0) 1 1 Tryd.underlying22 hi hz0 hz1 hz2 rfl (by decide) _ _ _ rfl (hown0.alloc _) ⟨wr.heap.size, 0, none⟩ 1 1 [.int .u8 10] rfl rfl (cell_one_new _ _ _) (by intro u hu; simp at hu; subst hu; rfl) (by unfold maxLen; omega) (by omega) (by have := hb.size; simp; omega) ?_; intro v' w2 hown2 hgrow2 _)
          go_roundw
          case rel => exact ⟨k + 1, by omega, by go_num, by rw [HS.out]; exact ownB_next _ (by omega) hown2, (hb.alloc hb.size _).grown hgrow2 (by have := hb.size; simp; omega) (ownB_block hown)⟩
          case measure => simp [intOf]; omega

      · have HS := Lib.hid (endAt_same s k c HG.out h13)
        have a1 : ((c : Int) == 13) = false := beq_eq_false_iff_ne.2 (by omega)
        have a2 : (c == 13) = false := beq_eq_false_iff_ne.2 h13
        clear h13
        generalize endsN s k = l at *
        go_wp2_with (at_builtin; refine wpList_append_own _ rfl _ _ 22 rfl w.heap.size 5 i0 (.int .u8 0) 1 1 Tryd.underlying22 hi hz0 hz1 hz2 rfl (by decide) _ _ _ rfl (hown0.alloc _) ⟨wr.heap.size, 0, none⟩ 1 1 [.int .u8 (c : Int)] rfl rfl (cell_one_new _ _ _) (by intro u hu; simp at hu; subst hu; rfl) (by unfold maxLen; omega) (by omega) (by have := hb.size; simp; omega) ?_; intro v' w2 hown2 hgrow2 _)
        go_roundw
        case rel => exact ⟨k + 1, by omega, by go_num, by rw [HS.out]; exact ownB_next _ (by omega) hown2, (hb.alloc hb.size _).grown hgrow2 (by have := hb.size; simp; omega) (ownB_block hown)⟩
        case measure => simp [intOf]; omega

    · have hks : k = s.size := by omega
      subst hks
      have hcv := ownB_string hown
      have HE : Hid ((⟨(endsN s s.size).toArray⟩ : ByteArray) = endsT s) := rfl
      generalize endsN s s.size = l at *
      clear hown0
      go_wp2
      go_ret
      exact ⟨by rw [← HE.out]; rfl, hb⟩
end Go.Proofs.YteejkkdimkgmfaaDoor
