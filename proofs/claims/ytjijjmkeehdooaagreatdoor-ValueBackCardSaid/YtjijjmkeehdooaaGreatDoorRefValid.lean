/-
  THE CONTRACT OF THE DOCUMENT'S OWN DECODER (brackenref1.One): it finds what the model's decoder finds, and nothing where that finds a broken character.
  THE CONTRACT OF brackenref1.Valid: it returns validT of TextLaws and leaves the world alone.
-/
import Derived.Test.YtjijjmkeehdooaaGreatDoorRefIn
import Derived.LoopTactic
import Derived.Lib.Hide
import Derived.Laws.RangeAny
import Derived.Test.YtjijjmkeehdooaaGreatDoorTextLaws
namespace Go.Proofs.YtjijjmkeehdooaaGreatDoor
open Go.RowKit

theorem and192 : ∀ c : Fin 256, (bits BinOp.and IntKind.u8 ((c.val : Nat) : Int) 192 != 128) = decide (c.val / 64 ≠ 2) := by decide +kernel
theorem or64 (r c : Nat) (hr : r < 32768) : bits BinOp.or IntKind.i32 ((r : Int) * 64) ((c : Int) % 64) = ((r * 64 + c % 64 : Nat) : Int) := by
  have e : r <<< 6 ||| c % 64 = r * 64 + c % 64 := by
    rw [← Nat.shiftLeft_add_eq_or_of_lt (by omega), Nat.shiftLeft_eq]
  rw [Nat.shiftLeft_eq] at e
  obtain ⟨x, hx⟩ : ∃ x : Nat, x = r * 2 ^ 6 := ⟨_, rfl⟩
  obtain ⟨y, hy⟩ : ∃ y : Nat, y = c % 64 := ⟨_, rfl⟩
  have e1 : (r : Int) * 64 = (x : Int) := by omega
  have e2 : (c : Int) % 64 = (y : Int) := by omega
  have o : ∀ a : Nat, a < 4294967296 → (BitVec.ofInt 32 (a : Int)).toNat = a := fun a ha => by
    rw [BitVec.ofInt_natCast, BitVec.toNat_ofNat]; exact Nat.mod_eq_of_lt (by omega)
  rw [e1, e2]
  show IntKind.i32.wrap ((BitVec.ofInt 32 (x : Int) ||| BitVec.ofInt 32 (y : Int)).toNat : Int) = _
  rw [BitVec.toNat_or, o _ (by omega), o _ (by omega), hx, hy, e]
  simp [IntKind.wrap, IntKind.bits, IntKind.signed]
  omega

set_option maxHeartbeats 1000000 in
set_option maxRecDepth 100000 in
theorem one_out (s : ByteArray) (k : Nat) (w : World) (h : s.size ≤ k) :
    Calls Tryz.prog 32 #[.string s, .int .i64 k] w fun e w' => e = .returned (.tuple #[.int .i32 0, .int .i64 0]) ∧ w = w' := by
  have hz : decide ((s.size : Int) ≤ (k : Int)) = true := by simp; omega
  go_enter Tryz.func32, Tryz.ntmps32
  go_wp2
  go_ret2
  exact ⟨rfl, rfl⟩

set_option maxHeartbeats 1000000 in
set_option maxRecDepth 100000 in
theorem one_ascii (s : ByteArray) (k b : Nat) (w : World) (h : k < s.size) (hb : (s[k]'h).toNat = b) (h1 : b < 128) :
    Calls Tryz.prog 32 #[.string s, .int .i64 k] w fun e w' => e = .returned (.tuple #[.int .i32 b, .int .i64 1]) ∧ w = w' := by
  have hz : decide ((s.size : Int) ≤ (k : Int)) = false := by simp; omega
  go_enter Tryz.func32, Tryz.ntmps32
  go_wp2
  go_ret2
  exact ⟨rfl, rfl⟩

set_option maxHeartbeats 1000000 in
set_option maxRecDepth 100000 in
theorem one_stray (s : ByteArray) (k b : Nat) (w : World) (h : k < s.size) (hb : (s[k]'h).toNat = b) (h1 : (128 ≤ b ∧ b < 192) ∨ 248 ≤ b) :
    Calls Tryz.prog 32 #[.string s, .int .i64 k] w fun e w' => e = .returned (.tuple #[.int .i32 0, .int .i64 0]) ∧ w = w' := by
  have hz : decide ((s.size : Int) ≤ (k : Int)) = false := by simp; omega
  rcases h1 with ⟨h1, h2⟩ | h1
  all_goals
    go_enter Tryz.func32, Tryz.ntmps32
    go_wp2
    go_ret2
    exact ⟨rfl, rfl⟩

set_option maxHeartbeats 1000000 in
set_option maxRecDepth 100000 in
theorem one_short (s : ByteArray) (k b n q least : Nat) (w : World) (hs : s.size ≤ 4294967296) (h : k < s.size) (hn : s.size < k + n) (hb : (s[k]'h).toNat = b) (hl : Leads n q least b) :
    Calls Tryz.prog 32 #[.string s, .int .i64 k] w fun e w' => e = .returned (.tuple #[.int .i32 0, .int .i64 0]) ∧ w = w' := by
  have hz : decide ((s.size : Int) ≤ (k : Int)) = false := by simp; omega
  rcases hl with ⟨rfl, rfl, rfl, h1, h2⟩ | ⟨rfl, rfl, rfl, h1, h2⟩ | ⟨rfl, rfl, rfl, h1, h2⟩
  all_goals
    go_enter Tryz.func32, Tryz.ntmps32
    go_wp2
    go_ret2
    exact ⟨rfl, rfl⟩

set_option maxHeartbeats 4000000 in
set_option maxRecDepth 100000 in
theorem one_lead2 (s : ByteArray) (k b : Nat) (w : World) (hs : s.size ≤ 4294967296) (h : k < s.size) (hn : k + 2 ≤ s.size) (hb : (s[k]'h).toNat = b) (h1 : 192 ≤ b) (h2 : b < 224) (hl : Leads 2 32 128 b) :
    Calls Tryz.prog 32 #[.string s, .int .i64 k] w fun e w' => e = .returned (.tuple #[.int .i32 (oneV s k).1, .int .i64 (oneV s k).2]) ∧ w = w' := by
  have hz : decide (s.size ≤ k) = false := decide_eq_false (by omega)
  have hg : s.get! k = s[k]'h := get_at s k h
  have hL : Leads 2 32 128 (s.get! k).toNat := by rw [hg, hb]; exact hl
  have HL := Lib.hid hL
  have HB : Hid (b = (s.get! k).toNat) := by rw [hg, hb]; exact rfl
  clear hL hg hl
  have d0 : decide ((b : Int) < 128) = false := decide_eq_false (by omega)
  have d1 : decide ((192 : Int) ≤ (b : Int)) = true := decide_eq_true (by omega)
  have d2 : decide ((b : Int) < 224) = true := decide_eq_true (by omega)
  go_enter Tryz.func32, Tryz.ntmps32
  go_wp2
  go_loop [8, 10] (fun r i => ∃ m : Nat, m < 2 ∧ i = .int .i64 ((m + 1 : Nat) : Int) ∧ r = .int .i32 (accR s k (b % 32) m) ∧ contsB s k m = true) (fun _ i => 4 - (intOf i).toNat)
  case atStart => exact ⟨0, by omega, rfl, rfl, rfl⟩
  case round =>
    obtain ⟨m, hm, rfl, rfl, hc⟩ := hrel
    have HC := Lib.hid hc
    clear hc
    by_cases hlt : m + 1 < 2
    · have hidx : k + (m + 1) < s.size := by omega
      obtain ⟨c, hc⟩ : ∃ c, (s[k + (m + 1)]'hidx).toNat = c := ⟨_, rfl⟩
      have HG : Hid ((s.get! (k + (m + 1))).toNat = c) := by rw [show s.get! (k + (m + 1)) = _ from get_at s _ hidx, hc]; exact rfl
      have hcb : c < 256 := by rw [← hc]; exact UInt8.toNat_lt _
      have hrb : accR s k (b % 32) m < 32768 := by rw [HB.out]; exact accR_lt s k _ _ _ _ m HL.out hlt
      have HS : Hid (accR s k (b % 32) (m + 1) = accR s k (b % 32) m * 64 + c % 64) := by rw [← HG.out]; exact rfl
      have hor := or64 (accR s k (b % 32) m) c hrb
      have h192 := and192 ⟨c, hcb⟩
      by_cases hcc : c / 64 = 2
      · rw [decide_eq_false (by simpa using hcc)] at h192
        have HC' : Hid (contsB s k (m + 1) = true) := by
          show (contsB s k m && decide ((s.get! (k + (m + 1))).toNat / 64 = 2)) = true
          rw [HC.out, HG.out]; simpa using hcc
        generalize accR s k (b % 32) m = r at *
        go_wp2
        go_round
        case rel => exact ⟨m + 1, by omega, by go_num, by rw [HS.out]; go_num, HC'.out⟩
        case measure => simp [intOf]; omega
      · rw [decide_eq_true (by simpa using hcc)] at h192
        have HV : Hid (oneV s k = (0, 0)) := oneV_cont s k _ _ _ m HL.out hlt (by rw [HG.out]; exact hcc)
        generalize accR s k (b % 32) m = r at *
        go_wp2
        go_ret2
        exact ⟨by rw [HV.out]; rfl, rfl⟩
    · have HV := Lib.hid (oneV_full s k _ _ _ HL.out hn m (by omega) HC.out)
      rw [← HB.out] at HV
      generalize accR s k (b % 32) m = r at *
      go_wp2
      all_goals go_ret2
      all_goals first | exact ⟨by rw [HV.out, if_pos (by omega)]; rfl, rfl⟩ | exact ⟨by rw [HV.out, if_neg (by omega)]; rfl, rfl⟩

set_option maxHeartbeats 4000000 in
set_option maxRecDepth 100000 in
theorem one_lead3 (s : ByteArray) (k b : Nat) (w : World) (hs : s.size ≤ 4294967296) (h : k < s.size) (hn : k + 3 ≤ s.size) (hb : (s[k]'h).toNat = b) (h1 : 224 ≤ b) (h2 : b < 240) (hl : Leads 3 16 2048 b) :
    Calls Tryz.prog 32 #[.string s, .int .i64 k] w fun e w' => e = .returned (.tuple #[.int .i32 (oneV s k).1, .int .i64 (oneV s k).2]) ∧ w = w' := by
  have hz : decide (s.size ≤ k) = false := decide_eq_false (by omega)
  have hg : s.get! k = s[k]'h := get_at s k h
  have hL : Leads 3 16 2048 (s.get! k).toNat := by rw [hg, hb]; exact hl
  have HL := Lib.hid hL
  have HB : Hid (b = (s.get! k).toNat) := by rw [hg, hb]; exact rfl
  clear hL hg hl
  have d0 : decide ((b : Int) < 128) = false := decide_eq_false (by omega)
  have d1 : decide ((192 : Int) ≤ (b : Int)) = true := decide_eq_true (by omega)
  have d2 : decide ((224 : Int) ≤ (b : Int)) = true := decide_eq_true (by omega)
  have d3 : decide ((b : Int) < 224) = false := decide_eq_false (by omega)
  have d4 : decide ((b : Int) < 240) = true := decide_eq_true (by omega)
  go_enter Tryz.func32, Tryz.ntmps32
  go_wp2
  go_loop [8, 10] (fun r i => ∃ m : Nat, m < 3 ∧ i = .int .i64 ((m + 1 : Nat) : Int) ∧ r = .int .i32 (accR s k (b % 16) m) ∧ contsB s k m = true) (fun _ i => 4 - (intOf i).toNat)
  case atStart => exact ⟨0, by omega, rfl, rfl, rfl⟩
  case round =>
    obtain ⟨m, hm, rfl, rfl, hc⟩ := hrel
    have HC := Lib.hid hc
    clear hc
    by_cases hlt : m + 1 < 3
    · have hidx : k + (m + 1) < s.size := by omega
      obtain ⟨c, hc⟩ : ∃ c, (s[k + (m + 1)]'hidx).toNat = c := ⟨_, rfl⟩
      have HG : Hid ((s.get! (k + (m + 1))).toNat = c) := by rw [show s.get! (k + (m + 1)) = _ from get_at s _ hidx, hc]; exact rfl
      have hcb : c < 256 := by rw [← hc]; exact UInt8.toNat_lt _
      have hrb : accR s k (b % 16) m < 32768 := by rw [HB.out]; exact accR_lt s k _ _ _ _ m HL.out hlt
      have HS : Hid (accR s k (b % 16) (m + 1) = accR s k (b % 16) m * 64 + c % 64) := by rw [← HG.out]; exact rfl
      have hor := or64 (accR s k (b % 16) m) c hrb
      have h192 := and192 ⟨c, hcb⟩
      by_cases hcc : c / 64 = 2
      · rw [decide_eq_false (by simpa using hcc)] at h192
        have HC' : Hid (contsB s k (m + 1) = true) := by
          show (contsB s k m && decide ((s.get! (k + (m + 1))).toNat / 64 = 2)) = true
          rw [HC.out, HG.out]; simpa using hcc
        generalize accR s k (b % 16) m = r at *
        go_wp2
        go_round
        case rel => exact ⟨m + 1, by omega, by go_num, by rw [HS.out]; go_num, HC'.out⟩
        case measure => simp [intOf]; omega
      · rw [decide_eq_true (by simpa using hcc)] at h192
        have HV : Hid (oneV s k = (0, 0)) := oneV_cont s k _ _ _ m HL.out hlt (by rw [HG.out]; exact hcc)
        generalize accR s k (b % 16) m = r at *
        go_wp2
        go_ret2
        exact ⟨by rw [HV.out]; rfl, rfl⟩
    · have HV := Lib.hid (oneV_full s k _ _ _ HL.out hn m (by omega) HC.out)
      rw [← HB.out] at HV
      generalize accR s k (b % 16) m = r at *
      go_wp2
      all_goals go_ret2
      all_goals first | exact ⟨by rw [HV.out, if_pos (by omega)]; rfl, rfl⟩ | exact ⟨by rw [HV.out, if_neg (by omega)]; rfl, rfl⟩

set_option maxHeartbeats 4000000 in
set_option maxRecDepth 100000 in
theorem one_lead4 (s : ByteArray) (k b : Nat) (w : World) (hs : s.size ≤ 4294967296) (h : k < s.size) (hn : k + 4 ≤ s.size) (hb : (s[k]'h).toNat = b) (h1 : 240 ≤ b) (h2 : b < 248) (hl : Leads 4 8 65536 b) :
    Calls Tryz.prog 32 #[.string s, .int .i64 k] w fun e w' => e = .returned (.tuple #[.int .i32 (oneV s k).1, .int .i64 (oneV s k).2]) ∧ w = w' := by
  have hz : decide (s.size ≤ k) = false := decide_eq_false (by omega)
  have hg : s.get! k = s[k]'h := get_at s k h
  have hL : Leads 4 8 65536 (s.get! k).toNat := by rw [hg, hb]; exact hl
  have HL := Lib.hid hL
  have HB : Hid (b = (s.get! k).toNat) := by rw [hg, hb]; exact rfl
  clear hL hg hl
  have d0 : decide ((b : Int) < 128) = false := decide_eq_false (by omega)
  have d1 : decide ((192 : Int) ≤ (b : Int)) = true := decide_eq_true (by omega)
  have d2 : decide ((224 : Int) ≤ (b : Int)) = true := decide_eq_true (by omega)
  have d3 : decide ((240 : Int) ≤ (b : Int)) = true := decide_eq_true (by omega)
  have d4 : decide ((b : Int) < 224) = false := decide_eq_false (by omega)
  have d5 : decide ((b : Int) < 240) = false := decide_eq_false (by omega)
  have d6 : decide ((b : Int) < 248) = true := decide_eq_true (by omega)
  go_enter Tryz.func32, Tryz.ntmps32
  go_wp2
  go_loop [8, 10] (fun r i => ∃ m : Nat, m < 4 ∧ i = .int .i64 ((m + 1 : Nat) : Int) ∧ r = .int .i32 (accR s k (b % 8) m) ∧ contsB s k m = true) (fun _ i => 4 - (intOf i).toNat)
  case atStart => exact ⟨0, by omega, rfl, rfl, rfl⟩
  case round =>
    obtain ⟨m, hm, rfl, rfl, hc⟩ := hrel
    have HC := Lib.hid hc
    clear hc
    by_cases hlt : m + 1 < 4
    · have hidx : k + (m + 1) < s.size := by omega
      obtain ⟨c, hc⟩ : ∃ c, (s[k + (m + 1)]'hidx).toNat = c := ⟨_, rfl⟩
      have HG : Hid ((s.get! (k + (m + 1))).toNat = c) := by rw [show s.get! (k + (m + 1)) = _ from get_at s _ hidx, hc]; exact rfl
      have hcb : c < 256 := by rw [← hc]; exact UInt8.toNat_lt _
      have hrb : accR s k (b % 8) m < 32768 := by rw [HB.out]; exact accR_lt s k _ _ _ _ m HL.out hlt
      have HS : Hid (accR s k (b % 8) (m + 1) = accR s k (b % 8) m * 64 + c % 64) := by rw [← HG.out]; exact rfl
      have hor := or64 (accR s k (b % 8) m) c hrb
      have h192 := and192 ⟨c, hcb⟩
      by_cases hcc : c / 64 = 2
      · rw [decide_eq_false (by simpa using hcc)] at h192
        have HC' : Hid (contsB s k (m + 1) = true) := by
          show (contsB s k m && decide ((s.get! (k + (m + 1))).toNat / 64 = 2)) = true
          rw [HC.out, HG.out]; simpa using hcc
        generalize accR s k (b % 8) m = r at *
        go_wp2
        go_round
        case rel => exact ⟨m + 1, by omega, by go_num, by rw [HS.out]; go_num, HC'.out⟩
        case measure => simp [intOf]; omega
      · rw [decide_eq_true (by simpa using hcc)] at h192
        have HV : Hid (oneV s k = (0, 0)) := oneV_cont s k _ _ _ m HL.out hlt (by rw [HG.out]; exact hcc)
        generalize accR s k (b % 8) m = r at *
        go_wp2
        go_ret2
        exact ⟨by rw [HV.out]; rfl, rfl⟩
    · have HV := Lib.hid (oneV_full s k _ _ _ HL.out hn m (by omega) HC.out)
      rw [← HB.out] at HV
      generalize accR s k (b % 8) m = r at *
      go_wp2
      all_goals go_ret2
      all_goals first | exact ⟨by rw [HV.out, if_pos (by omega)]; rfl, rfl⟩ | exact ⟨by rw [HV.out, if_neg (by omega)]; rfl, rfl⟩

/-- THE CONTRACT: at any place within the text or behind it. -/
theorem one_any (s : ByteArray) (k : Nat) (w : World) (hs : s.size ≤ 4294967296) (h : k < s.size) :
    Calls Tryz.prog 32 #[.string s, .int .i64 k] w fun e w' => e = .returned (.tuple #[.int .i32 (oneV s k).1, .int .i64 (oneV s k).2]) ∧ w = w' := by
  have hg : s.get! k = s[k]'h := get_at s k h
  have hb : ((s[k]'h).toNat) = (s.get! k).toNat := by rw [hg]
  have hlt : (s.get! k).toNat < 256 := UInt8.toNat_lt _
  by_cases h1 : (s.get! k).toNat < 128
  · rw [oneV_ascii s k h1]; exact one_ascii s k _ w h hb h1
  · by_cases h2 : (128 ≤ (s.get! k).toNat ∧ (s.get! k).toNat < 192) ∨ 248 ≤ (s.get! k).toNat
    · rw [oneV_stray s k h2]; exact one_stray s k _ w h hb h2
    · by_cases h3 : (s.get! k).toNat < 224
      · have hl : Leads 2 32 128 (s.get! k).toNat := Or.inl ⟨rfl, rfl, rfl, by omega, h3⟩
        by_cases hn : k + 2 ≤ s.size
        · exact one_lead2 s k _ w hs h hn hb (by omega) h3 hl
        · rw [oneV_short s k _ _ _ hl (by omega)]; exact one_short s k _ _ _ _ w hs h (by omega) hb hl
      · by_cases h4 : (s.get! k).toNat < 240
        · have hl : Leads 3 16 2048 (s.get! k).toNat := Or.inr (Or.inl ⟨rfl, rfl, rfl, by omega, h4⟩)
          by_cases hn : k + 3 ≤ s.size
          · exact one_lead3 s k _ w hs h hn hb (by omega) h4 hl
          · rw [oneV_short s k _ _ _ hl (by omega)]; exact one_short s k _ _ _ _ w hs h (by omega) hb hl
        · have hl : Leads 4 8 65536 (s.get! k).toNat := Or.inr (Or.inr ⟨rfl, rfl, rfl, by omega, by omega⟩)
          by_cases hn : k + 4 ≤ s.size
          · exact one_lead4 s k _ w hs h hn hb (by omega) (by omega) hl
          · rw [oneV_short s k _ _ _ hl (by omega)]; exact one_short s k _ _ _ _ w hs h (by omega) hb hl
end Go.Proofs.YtjijjmkeehdooaaGreatDoor

namespace Go.Proofs.YtjijjmkeehdooaaGreatDoor
open Go.RowKit

set_option maxHeartbeats 2000000 in
set_option maxRecDepth 100000 in
theorem refValid_any (s : ByteArray) (w : World) (hs : s.size ≤ 4294967296) :
    Calls Tryz.prog 21 #[.string s] w fun e w' => e = .returned (.bool (validT s)) ∧ w = w' := by
  obtain ⟨ans, hans⟩ : ∃ ans, okCh s s.size 0 = ans := ⟨_, rfl⟩
  have HV : Hid (validT s = ans) := hans
  have HA := Lib.hid hans
  clear hans
  go_enter Tryz.func21, Tryz.ntmps21
  go_wp2
  go_loop [3] (fun k => ∃ pos f : Nat, k = .int .i64 pos ∧ okCh s f pos = ans ∧ pos ≤ s.size ∧ s.size ≤ pos + f) (fun k => s.size - (intOf k).toNat)
  case atStart => exact ⟨0, s.size, rfl, HA.out, Nat.zero_le _, by omega⟩
  case round =>
    obtain ⟨pos, f, rfl, hr, hle, hf⟩ := hrel
    have HR := Lib.hid hr
    clear hr
    by_cases hp : pos < s.size
    · obtain ⟨g, rfl⟩ : ∃ g, f = g + 1 := ⟨f - 1, by omega⟩
      have C := one_any s pos w hs hp
      have HST := Lib.hid (okCh_step s g pos hp)
      have hw := Lib.width_pos s pos
      have hwl := width_le s pos hp
      by_cases hb : badAt s pos = true
      · rw [oneV_bad s pos hb] at C
        have HF : Hid (ans = false) := by rw [← HR.out, HST.out, hb]; exact rfl
        clear hb HST
        go_wp2_with (go_at_call 32; refine C.mono ?_; rintro e w' ⟨rfl, rfl⟩)
        go_ret
        exact ⟨by rw [HV.out, HF.out]; rfl, rfl⟩
      · have hb' : badAt s pos = false := by simpa using hb
        rw [oneV_good s pos hb'] at C
        obtain ⟨r, hr⟩ : ∃ r : Nat, (Utf8.decode s pos).1 = r := ⟨_, rfl⟩
        obtain ⟨n, hn⟩ : ∃ n : Nat, (Utf8.decode s pos).2 = n := ⟨_, rfl⟩
        rw [hr, hn] at C
        rw [hn] at hw hwl
        rw [hb', hr, hn] at HST
        clear hr hn hb hb'
        have hn0 : ((n : Int) == 0) = false := beq_eq_false_iff_ne.2 (by omega)
        have hn1 : (n == 0) = false := beq_eq_false_iff_ne.2 (by omega)
        obtain ⟨c, hc⟩ : ∃ c, charB (r : Int) = c := ⟨_, rfl⟩
        have cC : ∀ w, Calls Tryz.prog 33 #[.int .i32 r] w _ := fun w => refChar_any r w
        rw [hc] at cC HST
        clear hc
        cases c
        · have HF : Hid (ans = false) := by rw [← HR.out, HST.out]; exact rfl
          clear HST
          go_wp2_with (first | (go_at_call 32; refine C.mono ?_; rintro e w' ⟨rfl, rfl⟩) | (go_at_call 33; refine (cC _).mono ?_; rintro e w' ⟨rfl, rfl⟩))
          go_ret
          exact ⟨by rw [HV.out, HF.out]; rfl, rfl⟩
        · have HS' : Hid (okCh s g (pos + n) = ans) := by rw [← HR.out, HST.out]; exact rfl
          clear HST
          go_wp2_with (first | (go_at_call 32; refine C.mono ?_; rintro e w' ⟨rfl, rfl⟩) | (go_at_call 33; refine (cC _).mono ?_; rintro e w' ⟨rfl, rfl⟩))
          go_round
          case rel => exact ⟨pos + n, g, by go_num, HS'.out, by omega, by omega⟩
          case measure => simp [intOf]; omega
    · have HF : Hid (ans = true) := by rw [← HR.out]; exact okCh_end s f pos hp
      go_wp2
      go_ret
      exact ⟨by rw [HV.out, HF.out]; rfl, rfl⟩
end Go.Proofs.YtjijjmkeehdooaaGreatDoor
