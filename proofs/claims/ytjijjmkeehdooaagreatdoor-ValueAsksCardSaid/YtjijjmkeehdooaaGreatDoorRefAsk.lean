/-
  THE CONTRACTS OF brackenref1.in, Char: what the Bool functions of RuneDefs say; the world is left alone.
  THE CONTRACT OF brackenref1.Space.
  THE CONTRACT OF THE DOCUMENT'S OWN DECODER (brackenref1.One): it finds what the model's decoder finds, and nothing where that finds a broken character.
  THE CONTRACT OF brackenref1.Valid: it returns validT of TextLaws and leaves the world alone.
  THE CONTRACTS OF brackenref1.Start, Part.
  THE CONTRACTS OF THE DOCUMENT'S OWN NAMES (brackenref1.Run, Name, NCName, Split, Blank): over the decoder's contract.
  THE CONTRACTS OF THE DOCUMENT'S OWN Name, NCName (brackenref1): they return nameB, ncB of RuneDefs; of what was there nothing turns.
  THE CONTRACTS OF brackenref10's starts, find (of ;), digit, CharRef, ref: what the document says of a reference (refL), and the world stays as it is.
  CharRef.
  THE CONTRACT OF brackenref10.ref.
  THE CONTRACTS OF brackenref10's Five and Escape: fiveL, escL; the world stays as it is.
  brackenref10.Refs IN MEMORY; THE CONTRACT OF ITS entity.
  brackenref10.Refs IN MEMORY, WHOLE; THE CONTRACTS OF ITS Open and Close.
  THE CONTRACT OF brackenref10.Refs.Open.
  THE CONTRACT OF brackenref10.Refs.value, of itself called: rawV.
-/
import Derived.Test.YtjijjmkeehdooaaGreatDoorChecked
import Derived.Test.YtjijjmkeehdooaaGreatDoorRuneDefs
import Derived.WalkKit
import Derived.WalkSpells
import Derived.WalkLawsBesides
import Derived.LoopTactic
import Derived.Lib.Hide
import Derived.Laws.RangeAny
import Derived.Test.YtjijjmkeehdooaaGreatDoorTextLaws
import Derived.Deep.QuietTactic
import Derived.BigQuiet
import Derived.Test.YtjijjmkeehdooaaGreatDoorRefNorm
import Derived.Test.YtjijjmkeehdooaaGreatDoorRunKRef
import Derived.RegionTactic
import Derived.BigRegion
import Derived.Handy
import Derived.Test.YtjijjmkeehdooaaGreatDoorRefsDefs
import Derived.Test.YtjijjmkeehdooaaGreatDoorBytesL
import Derived.IntWalk
import Derived.Test.YtjijjmkeehdooaaGreatDoorEntsAt
import Derived.Test.YtjijjmkeehdooaaGreatDoorTurns
import Derived.Test.YtjijjmkeehdooaaGreatDoorRefsSaid
import Derived.Test.YtjijjmkeehdooaaGreatDoorRunKStart
import Derived.Laws.AppendOwnNone
import Derived.Test.YtjijjmkeehdooaaGreatDoorValDefs
namespace Go.Proofs.YtjijjmkeehdooaaGreatDoor
open Go.RowKit

set_option maxHeartbeats 400000 in
theorem in_any (r a b : Int) (w : World) :
    Calls Tryz.prog 51 #[.int .i32 r, .int .i32 a, .int .i32 b] w fun e w' => e = .returned (.bool (inB r a b)) ∧ w = w' := by
  by_cases h1 : a ≤ r <;> by_cases h2 : r ≤ b
  all_goals
    go_enter Tryz.func51, Tryz.ntmps51
    go_wp2
    go_ret
    exact ⟨by simp [inB, h1, h2], rfl⟩

set_option maxHeartbeats 1000000 in
theorem refChar_any (r : Int) (w : World) :
    Calls Tryz.prog 33 #[.int .i32 r] w fun e w' => e = .returned (.bool (charB r)) ∧ w = w' := by
  go_enter Tryz.func33, Tryz.ntmps33
  go_wp2_with (go_at_call 51; refine (in_any _ _ _ _).mono ?_; rintro e w' ⟨rfl, rfl⟩)
  all_goals go_ret
  all_goals exact ⟨by simp_all [charB], rfl⟩

end Go.Proofs.YtjijjmkeehdooaaGreatDoor

namespace Go.Proofs.YtjijjmkeehdooaaGreatDoor
open Go.RowKit

set_option maxHeartbeats 1000000 in
theorem refSpace_any (r : Int) (w : World) :
    Calls Tryz.prog 37 #[.int .i32 r] w fun e w' => e = .returned (.bool (spaceB r)) ∧ w = w' := by
  go_enter Tryz.func37, Tryz.ntmps37
  go_wp2
  all_goals go_ret
  all_goals exact ⟨by simp_all [spaceB], rfl⟩

end Go.Proofs.YtjijjmkeehdooaaGreatDoor

namespace Go.Proofs.YtjijjmkeehdooaaGreatDoor
open Go.RowKit

theorem and192 : ∀ c : Fin 256, (bits BinOp.and IntKind.u8 ((c.val : Nat) : Int) 192 != 128) = decide (c.val / 64 ≠ 2) := by decide +kernel
theorem or64 (r c : Nat) (hr : r < 32768) : bits BinOp.or IntKind.i32 ((r : Int) * 64) ((c : Int) % 64) = ((r * 64 + c % 64 : Nat) : Int) := by
  have e : r <<< 6 ||| c % 64 = r * 64 + c % 64 := by
    rw [← Nat.shiftLeft_add_eq_or_of_lt (by omega), Nat.shiftLeft_eq]
  rw [Nat.shiftLeft_eq] at e
  obtain ⟨x, hx⟩ : ∃ x : Nat, x = r * 2 ^ 6 := ⟨_, rfl⟩
  obtain ⟨y, hy⟩ : ∃ y : Nat, y = c % 64 := ⟨_, rfl⟩
  have e1 : (r : Int) * 64 = (x : Int) := by omega
  have e2 : (c : Int) % 64 = (y : Int) := by omega
  have o : ∀ a : Nat, a < 4294967296 → (BitVec.ofInt 32 (a : Int)).toNat = a := fun a ha => by
    rw [BitVec.ofInt_natCast, BitVec.toNat_ofNat]; exact Nat.mod_eq_of_lt (by omega)
  rw [e1, e2]
  show IntKind.i32.wrap ((BitVec.ofInt 32 (x : Int) ||| BitVec.ofInt 32 (y : Int)).toNat : Int) = _
  rw [BitVec.toNat_or, o _ (by omega), o _ (by omega), hx, hy, e]
  simp [IntKind.wrap, IntKind.bits, IntKind.signed]
  omega

set_option maxHeartbeats 1000000 in
set_option maxRecDepth 100000 in
theorem one_out (s : ByteArray) (k : Nat) (w : World) (h : s.size ≤ k) :
    Calls Tryz.prog 32 #[.string s, .int .i64 k] w fun e w' => e = .returned (.tuple #[.int .i32 0, .int .i64 0]) ∧ w = w' := by
  have hz : decide ((s.size : Int) ≤ (k : Int)) = true := by simp; omega
  go_enter Tryz.func32, Tryz.ntmps32
  go_wp2
  go_ret2
  exact ⟨rfl, rfl⟩

set_option maxHeartbeats 1000000 in
set_option maxRecDepth 100000 in
theorem one_ascii (s : ByteArray) (k b : Nat) (w : World) (h : k < s.size) (hb : (s[k]'h).toNat = b) (h1 : b < 128) :
    Calls Tryz.prog 32 #[.string s, .int .i64 k] w fun e w' => e = .returned (.tuple #[.int .i32 b, .int .i64 1]) ∧ w = w' := by
  have hz : decide ((s.size : Int) ≤ (k : Int)) = false := by simp; omega
  go_enter Tryz.func32, Tryz.ntmps32
  go_wp2
  go_ret2
  exact ⟨rfl, rfl⟩

set_option maxHeartbeats 1000000 in
set_option maxRecDepth 100000 in
theorem one_stray (s : ByteArray) (k b : Nat) (w : World) (h : k < s.size) (hb : (s[k]'h).toNat = b) (h1 : (128 ≤ b ∧ b < 192) ∨ 248 ≤ b) :
    Calls Tryz.prog 32 #[.string s, .int .i64 k] w fun e w' => e = .returned (.tuple #[.int .i32 0, .int .i64 0]) ∧ w = w' := by
  have hz : decide ((s.size : Int) ≤ (k : Int)) = false := by simp; omega
  rcases h1 with ⟨h1, h2⟩ | h1
  all_goals
    go_enter Tryz.func32, Tryz.ntmps32
    go_wp2
    go_ret2
    exact ⟨rfl, rfl⟩

set_option maxHeartbeats 1000000 in
set_option maxRecDepth 100000 in
theorem one_short (s : ByteArray) (k b n q least : Nat) (w : World) (hs : s.size ≤ 4294967296) (h : k < s.size) (hn : s.size < k + n) (hb : (s[k]'h).toNat = b) (hl : Leads n q least b) :
    Calls Tryz.prog 32 #[.string s, .int .i64 k] w fun e w' => e = .returned (.tuple #[.int .i32 0, .int .i64 0]) ∧ w = w' := by
  have hz : decide ((s.size : Int) ≤ (k : Int)) = false := by simp; omega
  rcases hl with ⟨rfl, rfl, rfl, h1, h2⟩ | ⟨rfl, rfl, rfl, h1, h2⟩ | ⟨rfl, rfl, rfl, h1, h2⟩
  all_goals
    go_enter Tryz.func32, Tryz.ntmps32
    go_wp2
    go_ret2
    exact ⟨rfl, rfl⟩

set_option maxHeartbeats 4000000 in
set_option maxRecDepth 100000 in
theorem one_lead2 (s : ByteArray) (k b : Nat) (w : World) (hs : s.size ≤ 4294967296) (h : k < s.size) (hn : k + 2 ≤ s.size) (hb : (s[k]'h).toNat = b) (h1 : 192 ≤ b) (h2 : b < 224) (hl : Leads 2 32 128 b) :
    Calls Tryz.prog 32 #[.string s, .int .i64 k] w fun e w' => e = .returned (.tuple #[.int .i32 (oneV s k).1, .int .i64 (oneV s k).2]) ∧ w = w' := by
  have hz : decide (s.size ≤ k) = false := decide_eq_false (by omega)
  have hg : s.get! k = s[k]'h := get_at s k h
  have hL : Leads 2 32 128 (s.get! k).toNat := by rw [hg, hb]; exact hl
  have HL := Lib.hid hL
  have HB : Hid (b = (s.get! k).toNat) := by rw [hg, hb]; exact rfl
  clear hL hg hl
  have d0 : decide ((b : Int) < 128) = false := decide_eq_false (by omega)
  have d1 : decide ((192 : Int) ≤ (b : Int)) = true := decide_eq_true (by omega)
  have d2 : decide ((b : Int) < 224) = true := decide_eq_true (by omega)
  go_enter Tryz.func32, Tryz.ntmps32
  go_wp2
  go_loop [8, 10] (fun r i => ∃ m : Nat, m < 2 ∧ i = .int .i64 ((m + 1 : Nat) : Int) ∧ r = .int .i32 (accR s k (b % 32) m) ∧ contsB s k m = true) (fun _ i => 4 - (intOf i).toNat)
  case atStart => exact ⟨0, by omega, rfl, rfl, rfl⟩
  case round =>
    obtain ⟨m, hm, rfl, rfl, hc⟩ := hrel
    have HC := Lib.hid hc
    clear hc
    by_cases hlt : m + 1 < 2
    · have hidx : k + (m + 1) < s.size := by omega
      obtain ⟨c, hc⟩ : ∃ c, (s[k + (m + 1)]'hidx).toNat = c := ⟨_, rfl⟩
      have HG : Hid ((s.get! (k + (m + 1))).toNat = c) := by rw [show s.get! (k + (m + 1)) = _ from get_at s _ hidx, hc]; exact rfl
      have hcb : c < 256 := by rw [← hc]; exact UInt8.toNat_lt _
      have hrb : accR s k (b % 32) m < 32768 := by rw [HB.out]; exact accR_lt s k _ _ _ _ m HL.out hlt
      have HS : Hid (accR s k (b % 32) (m + 1) = accR s k (b % 32) m * 64 + c % 64) := by rw [← HG.out]; exact rfl
      have hor := or64 (accR s k (b % 32) m) c hrb
      have h192 := and192 ⟨c, hcb⟩
      by_cases hcc : c / 64 = 2
      · rw [decide_eq_false (by simpa using hcc)] at h192
        have HC' : Hid (contsB s k (m + 1) = true) := by
          show (contsB s k m && decide ((s.get! (k + (m + 1))).toNat / 64 = 2)) = true
          rw [HC.out, HG.out]; simpa using hcc
        generalize accR s k (b % 32) m = r at *
        go_wp2
        go_round
        case rel => exact ⟨m + 1, by omega, by go_num, by rw [HS.out]; go_num, HC'.out⟩
        case measure => simp [intOf]; omega
      · rw [decide_eq_true (by simpa using hcc)] at h192
        have HV : Hid (oneV s k = (0, 0)) := oneV_cont s k _ _ _ m HL.out hlt (by rw [HG.out]; exact hcc)
        generalize accR s k (b % 32) m = r at *
        go_wp2
        go_ret2
        exact ⟨by rw [HV.out]; rfl, rfl⟩
    · have HV := Lib.hid (oneV_full s k _ _ _ HL.out hn m (by omega) HC.out)
      rw [← HB.out] at HV
      generalize accR s k (b % 32) m = r at *
      go_wp2
      all_goals go_ret2
      all_goals first | exact ⟨by rw [HV.out, if_pos (by omega)]; rfl, rfl⟩ | exact ⟨by rw [HV.out, if_neg (by omega)]; rfl, rfl⟩

set_option maxHeartbeats 4000000 in
set_option maxRecDepth 100000 in
theorem one_lead3 (s : ByteArray) (k b : Nat) (w : World) (hs : s.size ≤ 4294967296) (h : k < s.size) (hn : k + 3 ≤ s.size) (hb : (s[k]'h).toNat = b) (h1 : 224 ≤ b) (h2 : b < 240) (hl : Leads 3 16 2048 b) :
    Calls Tryz.prog 32 #[.string s, .int .i64 k] w fun e w' => e = .returned (.tuple #[.int .i32 (oneV s k).1, .int .i64 (oneV s k).2]) ∧ w = w' := by
  have hz : decide (s.size ≤ k) = false := decide_eq_false (by omega)
  have hg : s.get! k = s[k]'h := get_at s k h
  have hL : Leads 3 16 2048 (s.get! k).toNat := by rw [hg, hb]; exact hl
  have HL := Lib.hid hL
  have HB : Hid (b = (s.get! k).toNat) := by rw [hg, hb]; exact rfl
  clear hL hg hl
  have d0 : decide ((b : Int) < 128) = false := decide_eq_false (by omega)
  have d1 : decide ((192 : Int) ≤ (b : Int)) = true := decide_eq_true (by omega)
  have d2 : decide ((224 : Int) ≤ (b : Int)) = true := decide_eq_true (by omega)
  have d3 : decide ((b : Int) < 224) = false := decide_eq_false (by omega)
  have d4 : decide ((b : Int) < 240) = true := decide_eq_true (by omega)
  go_enter Tryz.func32, Tryz.ntmps32
  go_wp2
  go_loop [8, 10] (fun r i => ∃ m : Nat, m < 3 ∧ i = .int .i64 ((m + 1 : Nat) : Int) ∧ r = .int .i32 (accR s k (b % 16) m) ∧ contsB s k m = true) (fun _ i => 4 - (intOf i).toNat)
  case atStart => exact ⟨0, by omega, rfl, rfl, rfl⟩
  case round =>
    obtain ⟨m, hm, rfl, rfl, hc⟩ := hrel
    have HC := Lib.hid hc
    clear hc
    by_cases hlt : m + 1 < 3
    · have hidx : k + (m + 1) < s.size := by omega
      obtain ⟨c, hc⟩ : ∃ c, (s[k + (m + 1)]'hidx).toNat = c := ⟨_, rfl⟩
      have HG : Hid ((s.get! (k + (m + 1))).toNat = c) := by rw [show s.get! (k + (m + 1)) = _ from get_at s _ hidx, hc]; exact rfl
      have hcb : c < 256 := by rw [← hc]; exact UInt8.toNat_lt _
      have hrb : accR s k (b % 16) m < 32768 := by rw [HB.out]; exact accR_lt s k _ _ _ _ m HL.out hlt
      have HS : Hid (accR s k (b % 16) (m + 1) = accR s k (b % 16) m * 64 + c % 64) := by rw [← HG.out]; exact rfl
      have hor := or64 (accR s k (b % 16) m) c hrb
      have h192 := and192 ⟨c, hcb⟩
      by_cases hcc : c / 64 = 2
      · rw [decide_eq_false (by simpa using hcc)] at h192
        have HC' : Hid (contsB s k (m + 1) = true) := by
          show (contsB s k m && decide ((s.get! (k + (m + 1))).toNat / 64 = 2)) = true
          rw [HC.out, HG.out]; simpa using hcc
        generalize accR s k (b % 16) m = r at *
        go_wp2
        go_round
        case rel => exact ⟨m + 1, by omega, by go_num, by rw [HS.out]; go_num, HC'.out⟩
        case measure => simp [intOf]; omega
      · rw [decide_eq_true (by simpa using hcc)] at h192
        have HV : Hid (oneV s k = (0, 0)) := oneV_cont s k _ _ _ m HL.out hlt (by rw [HG.out]; exact hcc)
        generalize accR s k (b % 16) m = r at *
        go_wp2
        go_ret2
        exact ⟨by rw [HV.out]; rfl, rfl⟩
    · have HV := Lib.hid (oneV_full s k _ _ _ HL.out hn m (by omega) HC.out)
      rw [← HB.out] at HV
      generalize accR s k (b % 16) m = r at *
      go_wp2
      all_goals go_ret2
      all_goals first | exact ⟨by rw [HV.out, if_pos (by omega)]; rfl, rfl⟩ | exact ⟨by rw [HV.out, if_neg (by omega)]; rfl, rfl⟩

set_option maxHeartbeats 4000000 in
set_option maxRecDepth 100000 in
theorem one_lead4 (s : ByteArray) (k b : Nat) (w : World) (hs : s.size ≤ 4294967296) (h : k < s.size) (hn : k + 4 ≤ s.size) (hb : (s[k]'h).toNat = b) (h1 : 240 ≤ b) (h2 : b < 248) (hl : Leads 4 8 65536 b) :
    Calls Tryz.prog 32 #[.string s, .int .i64 k] w fun e w' => e = .returned (.tuple #[.int .i32 (oneV s k).1, .int .i64 (oneV s k).2]) ∧ w = w' := by
  have hz : decide (s.size ≤ k) = false := decide_eq_false (by omega)
  have hg : s.get! k = s[k]'h := get_at s k h
  have hL : Leads 4 8 65536 (s.get! k).toNat := by rw [hg, hb]; exact hl
  have HL := Lib.hid hL
  have HB : Hid (b = (s.get! k).toNat) := by rw [hg, hb]; exact rfl
  clear hL hg hl
  have d0 : decide ((b : Int) < 128) = false := decide_eq_false (by omega)
  have d1 : decide ((192 : Int) ≤ (b : Int)) = true := decide_eq_true (by omega)
  have d2 : decide ((224 : Int) ≤ (b : Int)) = true := decide_eq_true (by omega)
  have d3 : decide ((240 : Int) ≤ (b : Int)) = true := decide_eq_true (by omega)
  have d4 : decide ((b : Int) < 224) = false := decide_eq_false (by omega)
  have d5 : decide ((b : Int) < 240) = false := decide_eq_false (by omega)
  have d6 : decide ((b : Int) < 248) = true := decide_eq_true (by omega)
  go_enter Tryz.func32, Tryz.ntmps32
  go_wp2
  go_loop [8, 10] (fun r i => ∃ m : Nat, m < 4 ∧ i = .int .i64 ((m + 1 : Nat) : Int) ∧ r = .int .i32 (accR s k (b % 8) m) ∧ contsB s k m = true) (fun _ i => 4 - (intOf i).toNat)
  case atStart => exact ⟨0, by omega, rfl, rfl, rfl⟩
  case round =>
    obtain ⟨m, hm, rfl, rfl, hc⟩ := hrel
    have HC := Lib.hid hc
    clear hc
    by_cases hlt : m + 1 < 4
    · have hidx : k + (m + 1) < s.size := by omega
      obtain ⟨c, hc⟩ : ∃ c, (s[k + (m + 1)]'hidx).toNat = c := ⟨_, rfl⟩
      have HG : Hid ((s.get! (k + (m + 1))).toNat = c) := by rw [show s.get! (k + (m + 1)) = _ from get_at s _ hidx, hc]; exact rfl
      have hcb : c < 256 := by rw [← hc]; exact UInt8.toNat_lt _
      have hrb : accR s k (b % 8) m < 32768 := by rw [HB.out]; exact accR_lt s k _ _ _ _ m HL.out hlt
      have HS : Hid (accR s k (b % 8) (m + 1) = accR s k (b % 8) m * 64 + c % 64) := by rw [← HG.out]; exact rfl
      have hor := or64 (accR s k (b % 8) m) c hrb
      have h192 := and192 ⟨c, hcb⟩
      by_cases hcc : c / 64 = 2
      · rw [decide_eq_false (by simpa using hcc)] at h192
        have HC' : Hid (contsB s k (m + 1) = true) := by
          show (contsB s k m && decide ((s.get! (k + (m + 1))).toNat / 64 = 2)) = true
          rw [HC.out, HG.out]; simpa using hcc
        generalize accR s k (b % 8) m = r at *
        go_wp2
        go_round
        case rel => exact ⟨m + 1, by omega, by go_num, by rw [HS.out]; go_num, HC'.out⟩
        case measure => simp [intOf]; omega
      · rw [decide_eq_true (by simpa using hcc)] at h192
        have HV : Hid (oneV s k = (0, 0)) := oneV_cont s k _ _ _ m HL.out hlt (by rw [HG.out]; exact hcc)
        generalize accR s k (b % 8) m = r at *
        go_wp2
        go_ret2
        exact ⟨by rw [HV.out]; rfl, rfl⟩
    · have HV := Lib.hid (oneV_full s k _ _ _ HL.out hn m (by omega) HC.out)
      rw [← HB.out] at HV
      generalize accR s k (b % 8) m = r at *
      go_wp2
      all_goals go_ret2
      all_goals first | exact ⟨by rw [HV.out, if_pos (by omega)]; rfl, rfl⟩ | exact ⟨by rw [HV.out, if_neg (by omega)]; rfl, rfl⟩

/-- THE CONTRACT: at any place within the text or behind it. -/
theorem one_any (s : ByteArray) (k : Nat) (w : World) (hs : s.size ≤ 4294967296) (h : k < s.size) :
    Calls Tryz.prog 32 #[.string s, .int .i64 k] w fun e w' => e = .returned (.tuple #[.int .i32 (oneV s k).1, .int .i64 (oneV s k).2]) ∧ w = w' := by
  have hg : s.get! k = s[k]'h := get_at s k h
  have hb : ((s[k]'h).toNat) = (s.get! k).toNat := by rw [hg]
  have hlt : (s.get! k).toNat < 256 := UInt8.toNat_lt _
  by_cases h1 : (s.get! k).toNat < 128
  · rw [oneV_ascii s k h1]; exact one_ascii s k _ w h hb h1
  · by_cases h2 : (128 ≤ (s.get! k).toNat ∧ (s.get! k).toNat < 192) ∨ 248 ≤ (s.get! k).toNat
    · rw [oneV_stray s k h2]; exact one_stray s k _ w h hb h2
    · by_cases h3 : (s.get! k).toNat < 224
      · have hl : Leads 2 32 128 (s.get! k).toNat := Or.inl ⟨rfl, rfl, rfl, by omega, h3⟩
        by_cases hn : k + 2 ≤ s.size
        · exact one_lead2 s k _ w hs h hn hb (by omega) h3 hl
        · rw [oneV_short s k _ _ _ hl (by omega)]; exact one_short s k _ _ _ _ w hs h (by omega) hb hl
      · by_cases h4 : (s.get! k).toNat < 240
        · have hl : Leads 3 16 2048 (s.get! k).toNat := Or.inr (Or.inl ⟨rfl, rfl, rfl, by omega, h4⟩)
          by_cases hn : k + 3 ≤ s.size
          · exact one_lead3 s k _ w hs h hn hb (by omega) h4 hl
          · rw [oneV_short s k _ _ _ hl (by omega)]; exact one_short s k _ _ _ _ w hs h (by omega) hb hl
        · have hl : Leads 4 8 65536 (s.get! k).toNat := Or.inr (Or.inr ⟨rfl, rfl, rfl, by omega, by omega⟩)
          by_cases hn : k + 4 ≤ s.size
          · exact one_lead4 s k _ w hs h hn hb (by omega) (by omega) hl
          · rw [oneV_short s k _ _ _ hl (by omega)]; exact one_short s k _ _ _ _ w hs h (by omega) hb hl
end Go.Proofs.YtjijjmkeehdooaaGreatDoor

namespace Go.Proofs.YtjijjmkeehdooaaGreatDoor
open Go.RowKit

set_option maxHeartbeats 2000000 in
set_option maxRecDepth 100000 in
theorem refValid_any (s : ByteArray) (w : World) (hs : s.size ≤ 4294967296) :
    Calls Tryz.prog 21 #[.string s] w fun e w' => e = .returned (.bool (validT s)) ∧ w = w' := by
  obtain ⟨ans, hans⟩ : ∃ ans, okCh s s.size 0 = ans := ⟨_, rfl⟩
  have HV : Hid (validT s = ans) := hans
  have HA := Lib.hid hans
  clear hans
  go_enter Tryz.func21, Tryz.ntmps21
  go_wp2
  go_loop [3] (fun k => ∃ pos f : Nat, k = .int .i64 pos ∧ okCh s f pos = ans ∧ pos ≤ s.size ∧ s.size ≤ pos + f) (fun k => s.size - (intOf k).toNat)
  case atStart => exact ⟨0, s.size, rfl, HA.out, Nat.zero_le _, by omega⟩
  case round =>
    obtain ⟨pos, f, rfl, hr, hle, hf⟩ := hrel
    have HR := Lib.hid hr
    clear hr
    by_cases hp : pos < s.size
    · obtain ⟨g, rfl⟩ : ∃ g, f = g + 1 := ⟨f - 1, by omega⟩
      have C := one_any s pos w hs hp
      have HST := Lib.hid (okCh_step s g pos hp)
      have hw := Lib.width_pos s pos
      have hwl := width_le s pos hp
      by_cases hb : badAt s pos = true
      · rw [oneV_bad s pos hb] at C
        have HF : Hid (ans = false) := by rw [← HR.out, HST.out, hb]; exact rfl
        clear hb HST
        go_wp2_with (go_at_call 32; refine C.mono ?_; rintro e w' ⟨rfl, rfl⟩)
        go_ret
        exact ⟨by rw [HV.out, HF.out]; rfl, rfl⟩
      · have hb' : badAt s pos = false := by simpa using hb
        rw [oneV_good s pos hb'] at C
        obtain ⟨r, hr⟩ : ∃ r : Nat, (Utf8.decode s pos).1 = r := ⟨_, rfl⟩
        obtain ⟨n, hn⟩ : ∃ n : Nat, (Utf8.decode s pos).2 = n := ⟨_, rfl⟩
        rw [hr, hn] at C
        rw [hn] at hw hwl
        rw [hb', hr, hn] at HST
        clear hr hn hb hb'
        have hn0 : ((n : Int) == 0) = false := beq_eq_false_iff_ne.2 (by omega)
        have hn1 : (n == 0) = false := beq_eq_false_iff_ne.2 (by omega)
        obtain ⟨c, hc⟩ : ∃ c, charB (r : Int) = c := ⟨_, rfl⟩
        have cC : ∀ w, Calls Tryz.prog 33 #[.int .i32 r] w _ := fun w => refChar_any r w
        rw [hc] at cC HST
        clear hc
        cases c
        · have HF : Hid (ans = false) := by rw [← HR.out, HST.out]; exact rfl
          clear HST
          go_wp2_with (first | (go_at_call 32; refine C.mono ?_; rintro e w' ⟨rfl, rfl⟩) | (go_at_call 33; refine (cC _).mono ?_; rintro e w' ⟨rfl, rfl⟩))
          go_ret
          exact ⟨by rw [HV.out, HF.out]; rfl, rfl⟩
        · have HS' : Hid (okCh s g (pos + n) = ans) := by rw [← HR.out, HST.out]; exact rfl
          clear HST
          go_wp2_with (first | (go_at_call 32; refine C.mono ?_; rintro e w' ⟨rfl, rfl⟩) | (go_at_call 33; refine (cC _).mono ?_; rintro e w' ⟨rfl, rfl⟩))
          go_round
          case rel => exact ⟨pos + n, g, by go_num, HS'.out, by omega, by omega⟩
          case measure => simp [intOf]; omega
    · have HF : Hid (ans = true) := by rw [← HR.out]; exact okCh_end s f pos hp
      go_wp2
      go_ret
      exact ⟨by rw [HV.out, HF.out]; rfl, rfl⟩
end Go.Proofs.YtjijjmkeehdooaaGreatDoor

namespace Go.Proofs.YtjijjmkeehdooaaGreatDoor
open Go.RowKit

set_option maxHeartbeats 4000000 in
theorem refStart_any (r : Int) (w : World) :
    Calls Tryz.prog 97 #[.int .i32 r] w fun e w' => e = .returned (.bool (startB r)) ∧ w = w' := by
  go_enter Tryz.func97, Tryz.ntmps97
  go_wp2_with (go_at_call 51; refine (in_any _ _ _ _).mono ?_; rintro e w' ⟨rfl, rfl⟩)
  all_goals go_ret
  all_goals exact ⟨by simp_all [startB], rfl⟩

set_option maxHeartbeats 4000000 in
theorem refPart_any (r : Int) (w : World) :
    Calls Tryz.prog 96 #[.int .i32 r] w fun e w' => e = .returned (.bool (partB r)) ∧ w = w' := by
  go_enter Tryz.func96, Tryz.ntmps96
  go_wp2_with (first | (go_at_call 51; refine (in_any _ _ _ _).mono ?_; rintro e w' ⟨rfl, rfl⟩) | (go_at_call 97; refine (refStart_any _ _).mono ?_; rintro e w' ⟨rfl, rfl⟩))
  all_goals go_ret
  all_goals exact ⟨by simp_all [partB], rfl⟩

end Go.Proofs.YtjijjmkeehdooaaGreatDoor

namespace Go.Proofs.YtjijjmkeehdooaaGreatDoor
open Go.RowKit

set_option maxHeartbeats 4000000 in
set_option maxRecDepth 100000 in
theorem run_any (s : ByteArray) (beg : Nat) (w : World) (hs : s.size ≤ 4294967296) (hbeg : beg ≤ s.size) :
    Calls Tryz.prog 79 #[.string s, .int .i64 beg] w fun e w' => e = .returned (.int .i64 (runTo s beg s.size beg)) ∧ w = w' := by
  obtain ⟨ans, hans⟩ : ∃ ans, runTo s beg s.size beg = ans := ⟨_, rfl⟩
  rw [hans]
  have HA := Lib.hid hans
  clear hans
  go_enter Tryz.func79, Tryz.ntmps79
  go_wp2
  go_loop [5] (fun k => ∃ pos f : Nat, k = .int .i64 pos ∧ runTo s beg f pos = ans ∧ pos ≤ s.size ∧ s.size ≤ pos + f) (fun k => s.size - (intOf k).toNat)
  case atStart => exact ⟨beg, s.size, rfl, HA.out, hbeg, by omega⟩
  case round =>
    obtain ⟨pos, f, rfl, hr, hle, hf⟩ := hrel
    have HR := Lib.hid hr
    clear hr
    by_cases hp : pos < s.size
    · by_cases hb : badAt s pos = true
      · have H1 := oneV_bad s pos hb
        have C := one_any s pos w hs hp
        rw [H1] at C
        have HE := Lib.hid (runTo_stop s beg f pos hp (Or.inl hb))
        clear H1 hb
        go_wp2_with (go_at_call 32; refine C.mono ?_; rintro e w' ⟨rfl, rfl⟩)
        go_ret
        exact ⟨by rw [← HR.out, HE.out]; rfl, rfl⟩
      · have hb' : badAt s pos = false := by simpa using hb
        have H1 := oneV_good s pos hb'
        have C := one_any s pos w hs hp
        rw [H1] at C
        have hw := Lib.width_pos s pos
        have hwl := width_le s pos hp
        have HST := fun g => Lib.hid (runTo_step s beg g pos hp hb')
        have HE := fun x => Lib.hid (runTo_stop s beg f pos hp (Or.inr x))
        clear H1 hb hb'
        obtain ⟨r, hr⟩ : ∃ r : Nat, (Utf8.decode s pos).1 = r := ⟨_, rfl⟩
        obtain ⟨n, hn⟩ : ∃ n : Nat, (Utf8.decode s pos).2 = n := ⟨_, rfl⟩
        rw [hr, hn] at C
        rw [hn] at hw hwl
        simp only [hr, hn] at HST HE
        clear hr hn
        have hn0 : ((n : Int) == 0) = false := beq_eq_false_iff_ne.2 (by omega)
        have hn1 : (n == 0) = false := beq_eq_false_iff_ne.2 (by omega)
        obtain ⟨p, hpb⟩ : ∃ p, partB (r : Int) = p := ⟨_, rfl⟩
        obtain ⟨st, hst⟩ : ∃ st, startB (r : Int) = st := ⟨_, rfl⟩
        have cP : ∀ w, Calls Tryz.prog 96 #[.int .i32 r] w _ := fun w => refPart_any r w
        have cS : ∀ w, Calls Tryz.prog 97 #[.int .i32 r] w _ := fun w => refStart_any r w
        rw [hpb] at cP
        rw [hst] at cS
        have ok1 : Hid (okB beg pos (r : Int) = (p && (pos != beg || st))) := by unfold okB; rw [hpb, hst]; exact rfl
        clear hpb hst
        cases p
        · have hno : okB beg pos (r : Int) = false := by rw [ok1.out]; rfl
          have HE' := HE hno
          clear HE HST ok1 hno
          go_wp2_with (first | (go_at_call 32; refine C.mono ?_; rintro e w' ⟨rfl, rfl⟩) | (go_at_call 96; refine (cP _).mono ?_; rintro e w' ⟨rfl, rfl⟩))
          go_ret
          exact ⟨by rw [← HR.out, HE'.out]; rfl, rfl⟩
        · by_cases hbp : pos = beg
          · subst hbp
            cases st
            · have hno : okB pos pos (r : Int) = false := by rw [ok1.out]; simp
              have HE' := HE hno
              clear HE HST ok1 hno
              go_wp2_with (first | (go_at_call 32; refine C.mono ?_; rintro e w' ⟨rfl, rfl⟩) | (go_at_call 96; refine (cP _).mono ?_; rintro e w' ⟨rfl, rfl⟩) | (go_at_call 97; refine (cS _).mono ?_; rintro e w' ⟨rfl, rfl⟩))
              go_ret
              exact ⟨by rw [← HR.out, HE'.out]; rfl, rfl⟩
            · have hyes : okB pos pos (r : Int) = true := by rw [ok1.out]; simp
              obtain ⟨g, rfl⟩ : ∃ g, f = g + 1 := ⟨f - 1, by omega⟩
              have HS' := Lib.hid ((HST g).out hyes)
              clear HE HST ok1 hyes
              go_wp2_with (first | (go_at_call 32; refine C.mono ?_; rintro e w' ⟨rfl, rfl⟩) | (go_at_call 96; refine (cP _).mono ?_; rintro e w' ⟨rfl, rfl⟩) | (go_at_call 97; refine (cS _).mono ?_; rintro e w' ⟨rfl, rfl⟩))
              go_round
              case rel => exact ⟨pos + n, g, by go_num, by rw [← HS'.out, HR.out], by omega, by omega⟩
              case measure => simp [intOf]; omega
          · have hyes : okB beg pos (r : Int) = true := by rw [ok1.out]; simp [hbp]
            obtain ⟨g, rfl⟩ : ∃ g, f = g + 1 := ⟨f - 1, by omega⟩
            have HS' := Lib.hid ((HST g).out hyes)
            have hb1 : ((pos : Int) == (beg : Int)) = false := beq_eq_false_iff_ne.2 (by omega)
            have hb2 : (pos == beg) = false := beq_eq_false_iff_ne.2 hbp
            clear HE HST ok1 hyes hbp
            go_wp2_with (first | (go_at_call 32; refine C.mono ?_; rintro e w' ⟨rfl, rfl⟩) | (go_at_call 96; refine (cP _).mono ?_; rintro e w' ⟨rfl, rfl⟩))
            go_round
            case rel => exact ⟨pos + n, g, by go_num, by rw [← HS'.out, HR.out], by omega, by omega⟩
            case measure => simp [intOf]; omega
    · have C := one_out s pos w (by omega)
      have HE := Lib.hid (runTo_end s beg f pos hp)
      go_wp2_with (go_at_call 32; refine C.mono ?_; rintro e w' ⟨rfl, rfl⟩)
      go_ret
      exact ⟨by rw [← HR.out, HE.out]; rfl, rfl⟩

end Go.Proofs.YtjijjmkeehdooaaGreatDoor

namespace Go.Proofs.YtjijjmkeehdooaaGreatDoor
open Go.RowKit

theorem empty_list {s : ByteArray} (h : s.size = 0) : s.toList = [] := by
  rw [Lib.toList_data]
  apply List.eq_nil_of_length_eq_zero
  rw [← Lib.size_eq]; exact h
theorem some_list {s : ByteArray} (h : ¬ s.size = 0) : s.toList ≠ [] := by
  rw [Lib.toList_data]
  intro e
  have := congrArg List.length e
  rw [← Lib.size_eq] at this
  exact h this

set_option maxHeartbeats 1000000 in
set_option maxRecDepth 100000 in
theorem refName_any (s : ByteArray) (w : World) (hs : s.size ≤ 4294967296) :
    Calls Tryz.prog 72 #[.string s] w fun e w' => e = .returned (.bool (nameB s)) ∧ w = w' := by
  by_cases h0 : s.size = 0
  · have HF : Hid (nameB s = false) := by unfold nameB; rw [decide_eq_false (by simp [h0])]; exact rfl
    have e1 := empty_list h0
    have e2 : s.toList.isEmpty = true := by rw [e1]; rfl
    clear h0
    go_enter Tryz.func72, Tryz.ntmps72
    go_wp2
    go_ret
    exact ⟨by rw [HF.out]; rfl, rfl⟩
  · have C : Calls Tryz.prog 79 #[.string s, .int .i64 0] w _ := run_any s 0 w hs (Nat.zero_le _)
    have HN : Hid (nameB s = decide (runTo s 0 s.size 0 = s.size)) := by rw [← nameRun_eq]; unfold nameRunB; rw [decide_eq_true h0, Bool.true_and]; exact rfl
    have e1 := some_list h0
    have e2 : s.toList.isEmpty = false := by simpa using e1
    clear h0
    generalize runTo s 0 s.size 0 = x at C HN
    by_cases hx : x = s.size
    · have HV : Hid (nameB s = true) := by rw [HN.out]; exact decide_eq_true hx
      subst hx
      clear HN
      go_enter Tryz.func72, Tryz.ntmps72
      go_wp2_with (go_at_call 79; refine C.mono ?_; rintro e w' ⟨rfl, rfl⟩)
      go_ret
      exact ⟨by rw [HV.out]; rfl, rfl⟩
    · have HV : Hid (nameB s = false) := by rw [HN.out]; exact decide_eq_false hx
      have hx1 : ((x : Int) == (s.size : Int)) = false := beq_eq_false_iff_ne.2 (by omega)
      have hx2 : (x == s.size) = false := beq_eq_false_iff_ne.2 hx
      clear HN hx
      go_enter Tryz.func72, Tryz.ntmps72
      go_wp2_with (go_at_call 79; refine C.mono ?_; rintro e w' ⟨rfl, rfl⟩)
      go_ret
      exact ⟨by rw [HV.out]; rfl, rfl⟩

set_option maxHeartbeats 1000000 in
set_option maxRecDepth 100000 in
theorem refNC_any (s : ByteArray) (w : World) (hs : s.size ≤ 4294967296) :
    Calls Tryz.prog 60 #[.string s] w fun e w' => e = .returned (.bool (ncB s)) ∧ w = w' := by
  go_enter Tryz.func60, Tryz.ntmps60
  go_wp2
  go_loop [3] (fun i => ∃ k : Nat, k ≤ s.size ∧ i = .int .i64 k ∧ NoColon s k) (fun i => s.size - (intOf i).toNat)
  case atStart => exact ⟨0, Nat.zero_le _, rfl, noColon_zero s⟩
  case round =>
    obtain ⟨k, hk, rfl, hn⟩ := hrel
    have HN := Lib.hid hn
    clear hn
    by_cases hlt : k < s.size
    · have HS := Lib.hid (noColon_succ s k hlt HN.out)
      have HC := Lib.hid (colon_at s k hlt HN.out)
      obtain ⟨c, hc⟩ : ∃ c, (s[k]'hlt).toNat = c := ⟨_, rfl⟩
      rw [hc] at HS HC
      by_cases hcc : c = 58
      · subst hcc
        have HV : Hid (ncB s = false) := by unfold ncB; rw [(HC.out rfl).1]; cases nameB s <;> exact rfl
        clear HS HC
        go_wp2
        go_ret
        exact ⟨by rw [HV.out]; rfl, rfl⟩
      · have HS' := Lib.hid (HS.out hcc)
        have hc1 : ((c : Int) == 58) = false := beq_eq_false_iff_ne.2 (by omega)
        have hc2 : (c == 58) = false := beq_eq_false_iff_ne.2 hcc
        clear HS HC hcc
        go_wp2
        go_round
        case rel => exact ⟨k + 1, by omega, by go_num, HS'.out⟩
        case measure => simp [intOf]; omega
    · have hks : k = s.size := by omega
      subst hks
      have HV : Hid (ncB s = nameB s) := by unfold ncB; rw [colon_none s HN.out]; cases nameB s <;> exact rfl
      go_wp2_with (go_at_call 72; refine (refName_any s _ hs).mono ?_; rintro e w' ⟨rfl, rfl⟩)
      go_ret
      exact ⟨by rw [HV.out]; rfl, rfl⟩

end Go.Proofs.YtjijjmkeehdooaaGreatDoor

namespace Go.Proofs.YtjijjmkeehdooaaGreatDoor
open Go.RowKit

set_option maxHeartbeats 2000000 in
theorem rdigit_any (b : Nat) (hb : b < 256) (base : Nat) (hbase : base = 10 ∨ base = 16) (w : World) :
    Calls Tryz.prog 71 #[.int .u8 (b : Int), .int .i64 (base : Int)] w fun e w' => e = .returned (.int .i64 (if digV (b : Int) < (base : Int) then digV (b : Int) else -1)) ∧ w = w' := by
  obtain ⟨ans, ha⟩ : ∃ ans, (if digV (b : Int) < (base : Int) then digV (b : Int) else -1) = ans := ⟨_, rfl⟩
  rw [ha]
  obtain ⟨r, hr⟩ : ∃ r : Int, (b : Int) = r := ⟨_, rfl⟩
  rw [hr] at ha ⊢
  have hr0 : 0 ≤ r := by omega
  have hr1 : r < 256 := by omega
  clear hr hb
  rcases (show (48 ≤ r ∧ r ≤ 57) ∨ (97 ≤ r ∧ r ≤ 102) ∨ (65 ≤ r ∧ r ≤ 70) ∨ ¬ ((48 ≤ r ∧ r ≤ 57) ∨ (65 ≤ r ∧ r ≤ 70) ∨ (97 ≤ r ∧ r ≤ 102)) by omega) with h | h | h | h
  · obtain ⟨h1, h2⟩ := h
    have HV : Hid (ans = r - 48) := Lib.hid (by rw [← ha, show digV r = r - 48 by unfold digV; rw [if_pos ⟨h1, h2⟩]]; exact if_pos (by omega))
    have g1 : decide (48 ≤ r) = true := decide_eq_true h1
    have g2 : decide (r ≤ 57) = true := decide_eq_true h2
    have g3 : decide (10 ≤ r - 48) = false := decide_eq_false (by omega)
    have g4 : decide (16 ≤ r - 48) = false := decide_eq_false (by omega)
    clear ha
    rcases hbase with rfl | rfl
    all_goals
      go_enter Tryz.func71, Tryz.ntmps71
      go_wp2
      go_ret
      exact ⟨by rw [HV.out]; rfl, rfl⟩
  · obtain ⟨h1, h2⟩ := h
    have hd : digV r = r - 97 + 10 := by unfold digV; rw [if_neg (by omega), if_neg (by omega), if_pos ⟨h1, h2⟩]; omega
    rw [hd] at ha
    have g1 : decide (48 ≤ r) = true := decide_eq_true (by omega)
    have g2 : decide (r ≤ 57) = false := decide_eq_false (by omega)
    have g5 : decide (97 ≤ r) = true := decide_eq_true h1
    have g6 : decide (r ≤ 102) = true := decide_eq_true h2
    have g3 : decide (10 ≤ r - 97 + 10) = true := decide_eq_true (by omega)
    have g4 : decide (16 ≤ r - 97 + 10) = false := decide_eq_false (by omega)
    rcases hbase with rfl | rfl
    · have HV : Hid (ans = -1) := Lib.hid (by rw [← ha]; exact if_neg (by omega))
      clear ha hd
      go_enter Tryz.func71, Tryz.ntmps71
      go_wp2
      go_ret
      exact ⟨by rw [HV.out]; rfl, rfl⟩
    · have HV : Hid (ans = r - 97 + 10) := Lib.hid (by rw [← ha]; exact if_pos (by omega))
      clear ha hd
      go_enter Tryz.func71, Tryz.ntmps71
      go_wp2
      go_ret
      exact ⟨by rw [HV.out]; rfl, rfl⟩
  · obtain ⟨h1, h2⟩ := h
    have hd : digV r = r - 65 + 10 := by unfold digV; rw [if_neg (by omega), if_pos ⟨h1, h2⟩]; omega
    rw [hd] at ha
    have g1 : decide (48 ≤ r) = true := decide_eq_true (by omega)
    have g2 : decide (r ≤ 57) = false := decide_eq_false (by omega)
    have g5 : decide (97 ≤ r) = false := decide_eq_false (by omega)
    have g7 : decide (65 ≤ r) = true := decide_eq_true h1
    have g8 : decide (r ≤ 70) = true := decide_eq_true h2
    have g3 : decide (10 ≤ r - 65 + 10) = true := decide_eq_true (by omega)
    have g4 : decide (16 ≤ r - 65 + 10) = false := decide_eq_false (by omega)
    rcases hbase with rfl | rfl
    · have HV : Hid (ans = -1) := Lib.hid (by rw [← ha]; exact if_neg (by omega))
      clear ha hd
      go_enter Tryz.func71, Tryz.ntmps71
      go_wp2
      go_ret
      exact ⟨by rw [HV.out]; rfl, rfl⟩
    · have HV : Hid (ans = r - 65 + 10) := Lib.hid (by rw [← ha]; exact if_pos (by omega))
      clear ha hd
      go_enter Tryz.func71, Tryz.ntmps71
      go_wp2
      go_ret
      exact ⟨by rw [HV.out]; rfl, rfl⟩
  · have hd : digV r = 16 := by unfold digV; rw [if_neg (by omega), if_neg (by omega), if_neg (by omega)]
    rw [hd] at ha
    have HV : Hid (ans = -1) := Lib.hid (by rw [← ha]; exact if_neg (by omega))
    clear ha hd
    rcases (show r < 48 ∨ (57 < r ∧ r < 65) ∨ (70 < r ∧ r < 97) ∨ 102 < r by omega) with h1 | h1 | h1 | h1
    · have g1 : decide (48 ≤ r) = false := decide_eq_false (by omega)
      have g3 : decide (65 ≤ r) = false := decide_eq_false (by omega)
      have g5 : decide (97 ≤ r) = false := decide_eq_false (by omega)
      clear h
      rcases hbase with rfl | rfl
      all_goals
        go_enter Tryz.func71, Tryz.ntmps71
        go_wp2
        go_ret
        exact ⟨by rw [HV.out]; rfl, rfl⟩
    · have g1 : decide (48 ≤ r) = true := decide_eq_true (by omega)
      have g2 : decide (r ≤ 57) = false := decide_eq_false (by omega)
      have g3 : decide (65 ≤ r) = false := decide_eq_false (by omega)
      have g5 : decide (97 ≤ r) = false := decide_eq_false (by omega)
      clear h
      rcases hbase with rfl | rfl
      all_goals
        go_enter Tryz.func71, Tryz.ntmps71
        go_wp2
        go_ret
        exact ⟨by rw [HV.out]; rfl, rfl⟩
    · have g1 : decide (48 ≤ r) = true := decide_eq_true (by omega)
      have g2 : decide (r ≤ 57) = false := decide_eq_false (by omega)
      have g3 : decide (65 ≤ r) = true := decide_eq_true (by omega)
      have g4 : decide (r ≤ 70) = false := decide_eq_false (by omega)
      have g5 : decide (97 ≤ r) = false := decide_eq_false (by omega)
      clear h
      rcases hbase with rfl | rfl
      all_goals
        go_enter Tryz.func71, Tryz.ntmps71
        go_wp2
        go_ret
        exact ⟨by rw [HV.out]; rfl, rfl⟩
    · have g1 : decide (48 ≤ r) = true := decide_eq_true (by omega)
      have g2 : decide (r ≤ 57) = false := decide_eq_false (by omega)
      have g3 : decide (65 ≤ r) = true := decide_eq_true (by omega)
      have g4 : decide (r ≤ 70) = false := decide_eq_false (by omega)
      have g5 : decide (97 ≤ r) = true := decide_eq_true (by omega)
      have g6 : decide (r ≤ 102) = false := decide_eq_false (by omega)
      clear h
      rcases hbase with rfl | rfl
      all_goals
        go_enter Tryz.func71, Tryz.ntmps71
        go_wp2
        go_ret
        exact ⟨by rw [HV.out]; rfl, rfl⟩
theorem ext_list (l : List UInt8) (a b : Nat) : ((bytes l).extract a b).toList = (l.drop a).take (b - a) := by
  rw [Lib.toList_data, ByteArray.data_extract, Array.toList_extract, List.extract_eq_take_drop]
  rfl
theorem sw_beq (w l : List UInt8) : (l.take w.length == w) = swB w l := by
  cases h : swB w l with
  | true => rw [sw_takes h]; exact beq_self_eq_true _
  | false =>
    rw [beq_eq_false_iff_ne]
    intro e
    have : swB w l = true := (sw_iff _ _).2 ⟨l.drop w.length, by rw [← e, List.length_take]; conv => lhs; rw [← List.take_append_drop w.length l]
                                                                 congr 1
                                                                 rw [show min w.length l.length = w.length by have := congrArg List.length e; rw [List.length_take] at this; omega]⟩
    rw [h] at this
    cases this
set_option maxHeartbeats 2000000 in
theorem rstarts_any (l : List UInt8) (at' : Nat) (ha : at' ≤ l.length) (hl : l.length ≤ 100000) (w : World) :
    Calls Tryz.prog 58 #[.string (bytes l), .int .i64 (at' : Int), .string ⟨#[38, 35]⟩] w fun e w' => e = .returned (.bool (swB [38, 35] (l.drop at'))) ∧ w = w' := by
  have e1 : ((bytes l).size : Int) = (l.length : Int) := by rw [bytesL_len]
  by_cases h : at' + 2 ≤ l.length
  · have g1 : decide ((at' : Int) + 2 ≤ (l.length : Int)) = true := decide_eq_true (by omega)
    have HF : Hid ((((bytes l).extract at' (at' + 2)).toList == [38, 35]) = swB [38, 35] (l.drop at')) := Lib.hid (by
      rw [ext_list, ← sw_beq, show at' + 2 - at' = 2 by omega]
      rfl)
    go_enter Tryz.func58, Tryz.ntmps58
    go_wp2
    go_ret
    exact ⟨by rw [← HF.out]; rfl, rfl⟩
  · have g1 : decide ((at' : Int) + 2 ≤ (l.length : Int)) = false := decide_eq_false (by omega)
    have HF : Hid (swB [38, 35] (l.drop at') = false) := Lib.hid (by
      cases hs : swB [38, 35] (l.drop at') with
      | false => rfl
      | true => have := sw_drop_len (by decide) hs; exact absurd this h)
    go_enter Tryz.func58, Tryz.ntmps58
    go_wp2
    go_ret
    exact ⟨by rw [HF.out]; rfl, rfl⟩
theorem semi_step {l : List UInt8} {i : Nat} (h : i < l.length) : findL [59] (l.drop i) = if swB [59] (l.drop i) = true then some 0 else (findL [59] (l.drop (i + 1))).map (· + 1) := by
  rw [List.drop_eq_getElem_cons h, findL]
/-- where the first ; stands, reckoned from the whole text's begin; -1 -/
def semiAt (l : List UInt8) (i : Nat) : Int := match findL [59] (l.drop i) with | some j => ((i + j : Nat) : Int) | none => -1
theorem semi_next {l : List UInt8} {i : Nat} (h : i < l.length) : semiAt l i = if swB [59] (l.drop i) = true then (i : Int) else semiAt l (i + 1) := by
  unfold semiAt
  rw [semi_step h]
  by_cases hs : swB [59] (l.drop i) = true
  · rw [if_pos hs, if_pos hs]; rfl
  · rw [if_neg hs, if_neg hs]
    cases findL [59] (l.drop (i + 1)) with
    | none => rfl
    | some j => show ((i + (j + 1) : Nat) : Int) = ((i + 1 + j : Nat) : Int); omega
set_option maxHeartbeats 2000000 in
theorem rfind_any (l : List UInt8) (at' : Nat) (ha : at' ≤ l.length) (hl : l.length ≤ 100000) (w : World) :
    Calls Tryz.prog 57 #[.string (bytes l), .int .i64 (at' : Int), .string ⟨#[59]⟩] w fun e w' => e = .returned (.int .i64 (semiAt l at')) ∧ w = w' := by
  have e1 : ((bytes l).size : Int) = (l.length : Int) := by rw [bytesL_len]
  obtain ⟨ans, hans⟩ : ∃ ans, semiAt l at' = ans := ⟨_, rfl⟩
  rw [hans]
  have HA := Lib.hid hans
  clear hans
  go_enter Tryz.func57, Tryz.ntmps57
  go_wp2
  go_loopw [7] (fun iv wr => wr = w ∧ ∃ i : Nat, i ≤ l.length ∧ iv = .int .i64 i ∧ Hid (semiAt l i = ans)) (fun iv _ => l.length - (intOf iv).toNat)
  case atStart => exact ⟨rfl, at', ha, rfl, HA⟩
  case round =>
    obtain ⟨rfl, i, hil, rfl, hn⟩ := hrel
    have HN := Lib.hid hn.out
    clear hn
    by_cases hlt : i < l.length
    · have g1 : decide ((i : Int) + 1 ≤ (l.length : Int)) = true := decide_eq_true (by omega)
      have HS := Lib.hid (semi_next hlt)
      have HF : (((bytes l).extract i (i + 1)).toList == [59]) = swB [59] (l.drop i) := by
        rw [ext_list, ← sw_beq, show i + 1 - i = 1 by omega]
        rfl
      by_cases hs : swB [59] (l.drop i) = true
      · rw [hs] at HF
        have HV : Hid (ans = (i : Int)) := Lib.hid (by rw [← HN.out, HS.out, if_pos hs])
        clear hs
        go_wp2
        go_ret
        exact ⟨by rw [HV.out]; rfl, rfl⟩
      · rw [show swB [59] (l.drop i) = false by simpa using hs] at HF
        have HV : Hid (semiAt l (i + 1) = ans) := Lib.hid (by rw [← HN.out, HS.out, if_neg hs])
        clear hs
        go_wp2
        go_roundw
        case rel => exact ⟨by trivial, i + 1, hlt, by go_num, HV⟩
        case measure => simp [intOf]; omega
    · have g1 : decide ((i : Int) + 1 ≤ (l.length : Int)) = false := decide_eq_false (by omega)
      have HV : Hid (ans = -1) := Lib.hid (by rw [← HN.out]; unfold semiAt; rw [List.drop_eq_nil_of_le (by omega)]; rfl)
      go_wp2
      go_ret
      exact ⟨by rw [HV.out]; rfl, rfl⟩
end Go.Proofs.YtjijjmkeehdooaaGreatDoor

namespace Go.Proofs.YtjijjmkeehdooaaGreatDoor
open Go.RowKit

def chkN (o : Option Nat) : Option Nat := o.bind fun r => if charB (r : Int) = true then some r else none
theorem num_none (base : Nat) : chkN (numL (digU base) base 0 []) = none := by
  show (some 0 : Option Nat).bind _ = none
  rw [Option.bind_some, if_neg (by rw [show ((0 : Nat) : Int) = 0 from rfl, char_zero]; decide)]
theorem num_sat {base : Nat} (y : Nat) (hb : 1 ≤ base) (q : List UInt8) : chkN (numL (digU base) base (min y 1073741824) q) = chkN (numL (digU base) base y q) := by
  by_cases h : y ≤ 1073741824
  · rw [Nat.min_eq_left h]
  · rw [Nat.min_eq_right (by omega)]
    exact (num_big base hb q 1073741824 (by decide)).trans (num_big base hb q y (by omega)).symm
set_option maxHeartbeats 8000000 in
set_option maxRecDepth 100000 in
theorem rchar_any (l : List UInt8) (hl : l.length ≤ 100000) (w : World) :
    Calls Tryz.prog 59 #[.string (bytes l)] w fun e w' => e = .returned (.tuple #[.int .i32 (((charRefL l).getD 0 : Nat) : Int), .bool (charRefL l).isSome]) ∧ ∃ q, w' = w.drewN q := by
  obtain ⟨cr, hcr⟩ : ∃ cr, charRefL l = cr := ⟨_, rfl⟩
  rw [hcr]
  by_cases h4 : l.length < 4
  · have e1 : ((bytes l).size : Int) = (l.length : Int) := by rw [bytesL_len]
    have g1 : decide ((l.length : Int) < 4) = true := decide_eq_true (by omega)
    have HV : Hid (cr = none) := Lib.hid (by rw [← hcr]; unfold charRefL; exact if_neg (fun h => by omega))
    go_enter Tryz.func59, Tryz.ntmps59
    go_wp2
    go_ret2
    exact ⟨by rw [HV.out]; rfl, 0, rfl⟩
  obtain ⟨m, hm⟩ : ∃ m, l.length = m + 4 := ⟨l.length - 4, by omega⟩
  have e1 : ((bytes l).size : Int) = (m : Int) + 4 := by rw [bytesL_len]; omega
  have e1n : (bytes l).size = m + 4 := by rw [bytesL_len]; omega
  have g1 : decide ((m : Int) + 4 < 4) = false := decide_eq_false (by omega)
  have g8 : (m : Int) + 4 - 1 = (m : Int) + 3 := by omega
  have g9 : ((m : Int) + 3).toNat = m + 3 := by omega
  have C := Lib.hid (rstarts_any l 0 (Nat.zero_le _) hl w)
  cases hsw : swB [38, 35] l with
  | false =>
    rw [List.drop_zero, hsw] at C
    have HV : Hid (cr = none) := Lib.hid (by rw [← hcr]; unfold charRefL; exact if_neg (fun h => by rw [hsw] at h; cases h.1))
    go_enter Tryz.func59, Tryz.ntmps59
    go_wp2_with fail
    refine C.out.mono ?_
    rintro e w1 ⟨rfl, rfl⟩
    go_wp2
    go_ret2
    exact ⟨by rw [HV.out]; rfl, 0, rfl⟩
  | true =>
    rw [List.drop_zero, hsw] at C
    have hi' : m + 3 < (bytes l).size := by omega
    have hi2 : m + 3 < l.length := by omega
    have hx : (bytes l)[m + 3]'hi' = l[m + 3]'hi2 := rfl
    have hla : l.getLast? = some (l[m + 3]'hi2) := by rw [List.getLast?_eq_getElem?, hm, List.getElem?_eq_getElem]; rfl
    by_cases hb : l[m + 3]'hi2 = 59
    · have g3 : ((((bytes l)[m + 3]'hi').toNat : Int) != 59) = false := by rw [hx, hb]; rfl
      go_enter Tryz.func59, Tryz.ntmps59
      go_wp2_with fail
      refine C.out.mono ?_
      rintro e w1 ⟨rfl, rfl⟩
      have HD : Hid ((bytes l).extract 2 (m + 3) = bytes ((l.drop 2).dropLast)) := Lib.hid (by
        apply ByteArray.ext
        apply Array.ext'
        rw [ByteArray.data_extract, Array.toList_extract, List.extract_eq_take_drop]
        show (l.drop 2).take (m + 3 - 2) = (l.drop 2).dropLast
        rw [List.dropLast_eq_take, List.length_drop, show l.length - 2 - 1 = m + 3 - 2 by omega])
      obtain ⟨b, t, hbt⟩ : ∃ b t, (l.drop 2).dropLast = b :: t := by
        cases hd : (l.drop 2).dropLast with
        | nil =>
          have := congrArg List.length hd
          rw [List.length_dropLast, List.length_drop, List.length_nil] at this
          omega
        | cons b t => exact ⟨b, t, rfl⟩
      have htl : (b :: t).length = m + 1 := by rw [← hbt, List.length_dropLast, List.length_drop]; omega
      have hdt : t.length = m := by rw [List.length_cons] at htl; omega
      have HCR : Hid (cr = refV (b :: t)) := Lib.hid (by rw [← hcr]; unfold charRefL; rw [if_pos ⟨hsw, by rw [hla, hb], by omega⟩, hbt])
      rw [hbt] at HD
      have h0 : 0 < (bytes (b :: t)).size := by rw [bytesL_len]; omega
      have hx0 : (bytes (b :: t))[0]'h0 = b := rfl
      clear hbt
      go_wp2
      go_region
      rw [HD.out]
      by_cases hb120 : b = 120
      · subst hb120
        have g4 : ((((bytes (120 :: t))[0]'h0).toNat : Int) == 120) = true := by rw [hx0]; rfl
        have HD3 : Hid ((bytes (120 :: t)).extract 1 (bytes (120 :: t)).size = bytes t) := Lib.hid (by
          apply ByteArray.ext
          apply Array.ext'
          rw [ByteArray.data_extract, Array.toList_extract, List.extract_eq_take_drop, bytesL_len]
          show t.take _ = t
          exact List.take_of_length_le (by rw [List.length_cons]; omega))
        have HC : Hid (cr = numV 16 t) := Lib.hid (by rw [HCR.out, refV_is, if_pos (show swB [120] (120 :: t) = true from (sw_iff _ _).2 ⟨t, rfl⟩)]; rfl)
        clear hx0
        go_wp2
        go_region
        rw [HD3.out]
        obtain ⟨L, hL⟩ : ∃ L, (t).length = L := ⟨_, rfl⟩
        have e3 : ((bytes t).size : Int) = (L : Int) := by rw [bytesL_len]; omega
        have HNV : Hid (chkN (numL (digU 16) 16 0 t) = numV 16 t) := Lib.hid rfl
        have HA : Hid (cr = numV 16 t) := HC
        obtain ⟨ans, hans⟩ : ∃ ans, numV 16 t = ans := ⟨_, rfl⟩
        rw [hans] at HNV HA
        clear hans
        have hdsl : L ≤ 100000 := by omega
        go_wp2
        go_loopw [6, 7] (fun rv iv wr => wr = w.drew.drew ∧ ∃ a i : Nat, i ≤ L ∧ iv = .int .i64 i ∧ rv = .int .i64 a ∧ a ≤ 1073741824 ∧ Hid (chkN (numL (digU 16) 16 a (t.drop i)) = ans)) (fun _ iv _ => L - (intOf iv).toNat)
        case atStart => exact ⟨rfl, 0, 0, Nat.zero_le _, rfl, rfl, Nat.zero_le _, HNV⟩
        case round =>
          obtain ⟨hwr, a, i, hil, rfl, rfl, ha, hn⟩ := hrel
          subst hwr
          have HN := Lib.hid hn.out
          clear hn
          by_cases hltL : i < L
          · have k1 : decide ((i : Int) < (L : Int)) = true := decide_eq_true (by omega)
            have hlt : i < (t).length := by omega
            have hi3 : i < (bytes t).size := by rw [bytesL_len]; exact hlt
            obtain ⟨x, hx⟩ : ∃ x : Nat, ((t)[i]'hlt).toNat = x := ⟨_, rfl⟩
            have hx2 : ((bytes t)[i]'hi3).toNat = x := hx
            have hx256 : x < 256 := by rw [← hx]; exact UInt8.toNat_lt _
            obtain ⟨dn, hdn⟩ : ∃ dn : Nat, digV (x : Int) = (dn : Int) := ⟨(digV (x : Int)).toNat, by have := (digV_bounds (x : Int)).1; omega⟩
            have HD1 := Lib.hid (num_next 16 a dn ((t)[i]'hlt) ((t).drop (i + 1)) (by rw [hx]; exact hdn))
            rw [← List.drop_eq_getElem_cons hlt] at HD1
            have C1 : Hid (∀ W, Calls Tryz.prog 71 #[.int .u8 (x : Int), .int .i64 16] W fun e w' => e = .returned (.int .i64 (if (dn : Int) < 16 then (dn : Int) else -1)) ∧ W = w') := Lib.hid (fun W => by rw [← hdn]; exact rdigit_any x hx256 16 (Or.inr rfl) W)
            clear hx hdn
            by_cases hlb : dn < 16
            · have HD2 : Hid (chkN (numL (digU 16) 16 (a * 16 + dn) (t.drop (i + 1))) = ans) := Lib.hid (by rw [← HN.out, HD1.out, if_pos hlb])
              have C2 : Hid (∀ W, Calls Tryz.prog 71 #[.int .u8 (x : Int), .int .i64 16] W fun e w' => e = .returned (.int .i64 (dn : Int)) ∧ W = w') := Lib.hid (fun W => by have := C1.out W; rw [if_pos (show (dn : Int) < 16 by omega)] at this; exact this)
              have k2 : decide ((dn : Int) < 0) = false := decide_eq_false (by omega)
              clear C1 HD1
              go_wp2_with fail
              refine (C2.out _).mono ?_
              rintro e w2 ⟨rfl, rfl⟩
              have HMN : Hid (((min (a * 16 + dn) 1073741824 : Nat) : Int) = min ((a : Int) * 16 + (dn : Int)) 1073741824) := Lib.hid (by omega)
              have HD3 : Hid (chkN (numL (digU 16) 16 (min (a * 16 + dn) 1073741824) (t.drop (i + 1))) = ans) := Lib.hid (by rw [num_sat _ (by decide)]; exact HD2.out)
              go_wp2
              go_roundw
              case rel => exact ⟨by trivial, _, i + 1, hltL, by go_num, by rw [← HMN.out], Nat.min_le_right _ _, HD3⟩
              case measure => simp [intOf]; omega
            · have HD2 : Hid (ans = none) := Lib.hid (by rw [← HN.out, HD1.out, if_neg hlb]; rfl)
              have C2 : Hid (∀ W, Calls Tryz.prog 71 #[.int .u8 (x : Int), .int .i64 16] W fun e w' => e = .returned (.int .i64 (-1)) ∧ W = w') := Lib.hid (fun W => by have := C1.out W; rw [if_neg (show ¬ (dn : Int) < 16 by omega)] at this; exact this)
              clear C1 HD1
              go_wp2_with fail
              refine (C2.out _).mono ?_
              rintro e w2 ⟨rfl, rfl⟩
              go_wp2
              go_ret2
              exact ⟨by rw [HA.out, HD2.out]; rfl, 2, rfl⟩
          · have k1 : decide ((i : Int) < (L : Int)) = false := decide_eq_false (by omega)
            have hi0 : i = (t).length := by omega
            have HF : Hid (ans = if charB (a : Int) = true then some a else none) := Lib.hid (by rw [← HN.out, hi0, List.drop_length]; rfl)
            clear hi0
            by_cases hnil : (t) = []
            · have k5 : (bytes t).toList.isEmpty = true := by rw [hnil, Lib.toList_data]; rfl
              have HN2 : Hid (ans = none) := Lib.hid (by rw [← HNV.out, hnil]; exact num_none 16)
              clear hnil
              go_wp2
              go_ret2
              exact ⟨by rw [HA.out, HN2.out]; rfl, 2, rfl⟩
            · have k5 : (bytes t).toList.isEmpty = false := by
                rw [Lib.toList_data]
                obtain ⟨c, u, hq⟩ := List.exists_cons_of_ne_nil hnil
                rw [hq]
                rfl
              clear hnil
              have hw3 := wrap_i32_k a (by omega)
              cases hch : charB (a : Int) with
              | true =>
                have CC : Hid (∀ W, Calls Tryz.prog 33 #[.int .i32 (a : Int)] W fun e w' => e = .returned (.bool true) ∧ W = w') := Lib.hid (fun W => by rw [← hch]; exact refChar_any (a : Int) W)
                have HF2 : Hid (ans = some a) := Lib.hid (by rw [HF.out, hch]; rfl)
                clear hch
                go_wp2_with fail
                refine (CC.out _).mono ?_
                rintro e w2 ⟨rfl, rfl⟩
                go_wp2
                go_ret2
                exact ⟨by rw [HA.out, HF2.out]; rfl, 2, rfl⟩
              | false =>
                have CC : Hid (∀ W, Calls Tryz.prog 33 #[.int .i32 (a : Int)] W fun e w' => e = .returned (.bool false) ∧ W = w') := Lib.hid (fun W => by rw [← hch]; exact refChar_any (a : Int) W)
                have HF2 : Hid (ans = none) := Lib.hid (by rw [HF.out, hch]; rfl)
                clear hch
                go_wp2_with fail
                refine (CC.out _).mono ?_
                rintro e w2 ⟨rfl, rfl⟩
                go_wp2
                go_ret2
                exact ⟨by rw [HA.out, HF2.out]; rfl, 2, rfl⟩
      · have g4 : ((((bytes (b :: t))[0]'h0).toNat : Int) == 120) = false := by
          rw [hx0, beq_eq_false_iff_ne]
          intro e
          exact hb120 (UInt8.toNat_inj.1 (show b.toNat = 120 by omega))
        have HC : Hid (cr = numV 10 (b :: t)) := Lib.hid (by rw [HCR.out, refV_is, if_neg (by rw [sw_head (fun e => hb120 e.symm)]; decide)])
        clear hx0
        obtain ⟨L, hL⟩ : ∃ L, ((b :: t)).length = L := ⟨_, rfl⟩
        have e3 : ((bytes (b :: t)).size : Int) = (L : Int) := by rw [bytesL_len]; omega
        have HNV : Hid (chkN (numL (digU 10) 10 0 (b :: t)) = numV 10 (b :: t)) := Lib.hid rfl
        have HA : Hid (cr = numV 10 (b :: t)) := HC
        obtain ⟨ans, hans⟩ : ∃ ans, numV 10 (b :: t) = ans := ⟨_, rfl⟩
        rw [hans] at HNV HA
        clear hans
        have hdsl : L ≤ 100000 := by omega
        go_wp2
        go_loopw [6, 7] (fun rv iv wr => wr = w.drew ∧ ∃ a i : Nat, i ≤ L ∧ iv = .int .i64 i ∧ rv = .int .i64 a ∧ a ≤ 1073741824 ∧ Hid (chkN (numL (digU 10) 10 a ((b :: t).drop i)) = ans)) (fun _ iv _ => L - (intOf iv).toNat)
        case atStart => exact ⟨rfl, 0, 0, Nat.zero_le _, rfl, rfl, Nat.zero_le _, HNV⟩
        case round =>
          obtain ⟨hwr, a, i, hil, rfl, rfl, ha, hn⟩ := hrel
          subst hwr
          have HN := Lib.hid hn.out
          clear hn
          by_cases hltL : i < L
          · have k1 : decide ((i : Int) < (L : Int)) = true := decide_eq_true (by omega)
            have hlt : i < ((b :: t)).length := by omega
            have hi3 : i < (bytes (b :: t)).size := by rw [bytesL_len]; exact hlt
            obtain ⟨x, hx⟩ : ∃ x : Nat, (((b :: t))[i]'hlt).toNat = x := ⟨_, rfl⟩
            have hx2 : ((bytes (b :: t))[i]'hi3).toNat = x := hx
            have hx256 : x < 256 := by rw [← hx]; exact UInt8.toNat_lt _
            obtain ⟨dn, hdn⟩ : ∃ dn : Nat, digV (x : Int) = (dn : Int) := ⟨(digV (x : Int)).toNat, by have := (digV_bounds (x : Int)).1; omega⟩
            have HD1 := Lib.hid (num_next 10 a dn (((b :: t))[i]'hlt) (((b :: t)).drop (i + 1)) (by rw [hx]; exact hdn))
            rw [← List.drop_eq_getElem_cons hlt] at HD1
            have C1 : Hid (∀ W, Calls Tryz.prog 71 #[.int .u8 (x : Int), .int .i64 10] W fun e w' => e = .returned (.int .i64 (if (dn : Int) < 10 then (dn : Int) else -1)) ∧ W = w') := Lib.hid (fun W => by rw [← hdn]; exact rdigit_any x hx256 10 (Or.inl rfl) W)
            clear hx hdn
            by_cases hlb : dn < 10
            · have HD2 : Hid (chkN (numL (digU 10) 10 (a * 10 + dn) ((b :: t).drop (i + 1))) = ans) := Lib.hid (by rw [← HN.out, HD1.out, if_pos hlb])
              have C2 : Hid (∀ W, Calls Tryz.prog 71 #[.int .u8 (x : Int), .int .i64 10] W fun e w' => e = .returned (.int .i64 (dn : Int)) ∧ W = w') := Lib.hid (fun W => by have := C1.out W; rw [if_pos (show (dn : Int) < 10 by omega)] at this; exact this)
              have k2 : decide ((dn : Int) < 0) = false := decide_eq_false (by omega)
              clear C1 HD1
              go_wp2_with fail
              refine (C2.out _).mono ?_
              rintro e w2 ⟨rfl, rfl⟩
              have HMN : Hid (((min (a * 10 + dn) 1073741824 : Nat) : Int) = min ((a : Int) * 10 + (dn : Int)) 1073741824) := Lib.hid (by omega)
              have HD3 : Hid (chkN (numL (digU 10) 10 (min (a * 10 + dn) 1073741824) ((b :: t).drop (i + 1))) = ans) := Lib.hid (by rw [num_sat _ (by decide)]; exact HD2.out)
              go_wp2
              go_roundw
              case rel => exact ⟨by trivial, _, i + 1, hltL, by go_num, by rw [← HMN.out], Nat.min_le_right _ _, HD3⟩
              case measure => simp [intOf]; omega
            · have HD2 : Hid (ans = none) := Lib.hid (by rw [← HN.out, HD1.out, if_neg hlb]; rfl)
              have C2 : Hid (∀ W, Calls Tryz.prog 71 #[.int .u8 (x : Int), .int .i64 10] W fun e w' => e = .returned (.int .i64 (-1)) ∧ W = w') := Lib.hid (fun W => by have := C1.out W; rw [if_neg (show ¬ (dn : Int) < 10 by omega)] at this; exact this)
              clear C1 HD1
              go_wp2_with fail
              refine (C2.out _).mono ?_
              rintro e w2 ⟨rfl, rfl⟩
              go_wp2
              go_ret2
              exact ⟨by rw [HA.out, HD2.out]; rfl, 1, rfl⟩
          · have k1 : decide ((i : Int) < (L : Int)) = false := decide_eq_false (by omega)
            have hi0 : i = ((b :: t)).length := by omega
            have HF : Hid (ans = if charB (a : Int) = true then some a else none) := Lib.hid (by rw [← HN.out, hi0, List.drop_length]; rfl)
            clear hi0
            by_cases hnil : ((b :: t)) = []
            · have k5 : (bytes (b :: t)).toList.isEmpty = true := by rw [hnil, Lib.toList_data]; rfl
              have HN2 : Hid (ans = none) := Lib.hid (by rw [← HNV.out, hnil]; exact num_none 10)
              clear hnil
              go_wp2
              go_ret2
              exact ⟨by rw [HA.out, HN2.out]; rfl, 1, rfl⟩
            · have k5 : (bytes (b :: t)).toList.isEmpty = false := by
                rw [Lib.toList_data]
                obtain ⟨c, u, hq⟩ := List.exists_cons_of_ne_nil hnil
                rw [hq]
                rfl
              clear hnil
              have hw3 := wrap_i32_k a (by omega)
              cases hch : charB (a : Int) with
              | true =>
                have CC : Hid (∀ W, Calls Tryz.prog 33 #[.int .i32 (a : Int)] W fun e w' => e = .returned (.bool true) ∧ W = w') := Lib.hid (fun W => by rw [← hch]; exact refChar_any (a : Int) W)
                have HF2 : Hid (ans = some a) := Lib.hid (by rw [HF.out, hch]; rfl)
                clear hch
                go_wp2_with fail
                refine (CC.out _).mono ?_
                rintro e w2 ⟨rfl, rfl⟩
                go_wp2
                go_ret2
                exact ⟨by rw [HA.out, HF2.out]; rfl, 1, rfl⟩
              | false =>
                have CC : Hid (∀ W, Calls Tryz.prog 33 #[.int .i32 (a : Int)] W fun e w' => e = .returned (.bool false) ∧ W = w') := Lib.hid (fun W => by rw [← hch]; exact refChar_any (a : Int) W)
                have HF2 : Hid (ans = none) := Lib.hid (by rw [HF.out, hch]; rfl)
                clear hch
                go_wp2_with fail
                refine (CC.out _).mono ?_
                rintro e w2 ⟨rfl, rfl⟩
                go_wp2
                go_ret2
                exact ⟨by rw [HA.out, HF2.out]; rfl, 1, rfl⟩
    · have g3 : ((((bytes l)[m + 3]'hi').toNat : Int) != 59) = true := by
        rw [hx, bne_iff_ne]
        intro e
        exact hb (UInt8.toNat_inj.1 (show (l[m + 3]'hi2).toNat = 59 by omega))
      have HV : Hid (cr = none) := Lib.hid (by rw [← hcr]; unfold charRefL; exact if_neg (fun h => by rw [hla] at h; injection h.2.1 with h; exact hb h))
      clear hx
      go_enter Tryz.func59, Tryz.ntmps59
      go_wp2_with fail
      refine C.out.mono ?_
      rintro e w1 ⟨rfl, rfl⟩
      go_wp2
      go_ret2
      exact ⟨by rw [HV.out]; rfl, 0, rfl⟩
end Go.Proofs.YtjijjmkeehdooaaGreatDoor

namespace Go.Proofs.YtjijjmkeehdooaaGreatDoor
open Go.RowKit

/-- a reference, as brackenref10 holds it; where it ends -/
def tokV (kd : Int) (nm tx : ByteArray) (z : Int) : Value := .agg #[.int .i64 kd, .string nm, .string tx, .slice none 0 0, .bool false, .int .i64 z]
def rtokV (l : List UInt8) (at' : Nat) : Value := match refL (l.drop at') with
  | none => tokV 0 ⟨#[]⟩ ⟨#[]⟩ 0
  | some (k, n) => tokV (k.kind : Int) k.name k.text ((at' + n : Nat) : Int)
theorem below_drewN {B : Nat} {a w : World} (h : Below B a w) (q : Nat) : Below B a (w.drewN q) := h.trans ⟨rfl, rfl, rfl, Nat.le_refl _, fun _ _ => rfl⟩
theorem ext_bytes (l : List UInt8) (a b : Nat) : (bytes l).extract a b = bytes ((l.drop a).take (b - a)) := by
  apply ByteArray.ext
  apply Array.ext'
  rw [ByteArray.data_extract, Array.toList_extract, List.extract_eq_take_drop]
  rfl
set_option maxHeartbeats 8000000 in
set_option maxRecDepth 100000 in
theorem rref_any (l : List UInt8) (at' : Nat) (ha : at' < l.length) (h38 : l[at']'ha = 38) (hl : l.length ≤ 100000) (w : World) :
    Calls Tryz.prog 38 #[.string (bytes l), .int .i64 (at' : Int)] w fun e w' => e = .returned (rtokV l at') ∧ Below w.heap.size w w' := by
  have e1 : ((bytes l).size : Int) = (l.length : Int) := by rw [bytesL_len]
  have e1n : (bytes l).size = l.length := by rw [bytesL_len]
  obtain ⟨ans, hans⟩ : ∃ ans, rtokV l at' = ans := ⟨_, rfl⟩
  rw [hans]
  have CF := Lib.hid (fun W => rfind_any l at' (by omega) hl W)
  have HB0 := Lib.hid ((Below.refl w.heap.size w).alloc (Nat.le_refl _) (.cells #[.int .i64 0, .string ⟨#[]⟩, .string ⟨#[]⟩, .slice none 0 0, .bool false, .int .i64 0] 92))
  cases hf : findL [59] (l.drop at') with
  | none =>
    have hsm : semiAt l at' = -1 := by unfold semiAt; rw [hf]
    rw [hsm] at CF
    have HV : Hid (ans = tokV 0 ⟨#[]⟩ ⟨#[]⟩ 0) := Lib.hid (by rw [← hans]; unfold rtokV refL; rw [hf]; rfl)
    clear hans hsm hf
    go_enter Tryz.func38, Tryz.ntmps38
    go_wp2_with fail
    refine (CF.out _).mono ?_
    rintro e w1 ⟨rfl, rfl⟩
    go_wp2
    go_returns
    exact ⟨by rw [HV.out]; rfl, HB0.out⟩
  | some j =>
    have hj := findL_lt (by decide) hf
    rw [List.length_drop] at hj
    have hj0 : 0 < j := by
      rcases Nat.eq_zero_or_pos j with h0 | h0
      · exfalso
        have hs := (find_some hf).2.1
        rw [h0, List.drop_zero, List.drop_eq_getElem_cons ha, h38] at hs
        exact absurd hs (by simp [swB])
      · exact h0
    have hsm : semiAt l at' = ((at' + j : Nat) : Int) := by unfold semiAt; rw [hf]
    rw [hsm] at CF
    obtain ⟨k, hk⟩ : ∃ k, at' + j = k := ⟨_, rfl⟩
    rw [hk] at CF
    have hk1 : at' < k := by omega
    have hk2 : k < l.length := by omega
    have g0 : decide ((k : Int) < 0) = false := decide_eq_false (by omega)
    have CS := Lib.hid (fun W => rstarts_any l at' (by omega) hl W)
    cases hsw : swB [38, 35] (l.drop at') with
    | true =>
      rw [hsw] at CS
      have HX : Hid ((bytes l).extract at' (k + 1) = bytes ((l.drop at').take (j + 1))) := Lib.hid (by rw [ext_bytes, show k + 1 - at' = j + 1 by omega])
      have CR := Lib.hid (fun W => rchar_any ((l.drop at').take (j + 1)) (by rw [List.length_take, List.length_drop]; omega) W)
      cases hc : charRefL ((l.drop at').take (j + 1)) with
      | none =>
        rw [hc] at CR
        have HV : Hid (ans = tokV 0 ⟨#[]⟩ ⟨#[]⟩ 0) := Lib.hid (by
          rw [← hans]; unfold rtokV refL
          rw [hf, Option.bind_some, if_pos hsw, hc]
          rfl)
        clear hans hsm hf hc hsw hj
        go_enter Tryz.func38, Tryz.ntmps38
        go_wp2_with fail
        refine (CF.out _).mono ?_
        rintro e w1 ⟨rfl, rfl⟩
        go_wp2_with fail
        refine (CS.out _).mono ?_
        rintro e w1 ⟨rfl, rfl⟩
        go_wp2_with fail
        rw [HX.out]
        refine (CR.out _).mono ?_
        rintro e w1 ⟨rfl, q, rfl⟩
        have HB1 := Lib.hid (below_drewN HB0.out q)
        go_wp2
        go_returns
        exact ⟨by rw [HV.out]; rfl, ((((((HB1.out.setCell (Nat.le_refl _) _).setCell (Nat.le_refl _) _).setCell (Nat.le_refl _) _).setCell (Nat.le_refl _) _).setCell (Nat.le_refl _) _).setCell (Nat.le_refl _) _)⟩
      | some c =>
        rw [hc] at CR
        have HV : Hid (ans = tokV 7 ⟨#[]⟩ (Utf8.encode (c : Int)) ((k : Int) + 1)) := Lib.hid (by
          show ans = tokV ((7 : Nat) : Int) ⟨#[]⟩ (Utf8.encode (c : Int)) ((k : Int) + 1)
          rw [← hans, show (k : Int) + 1 = ((at' + (j + 1) : Nat) : Int) by omega]; unfold rtokV refL
          rw [hf, Option.bind_some, if_pos hsw, hc, Option.bind_some])
        clear hans hsm hf hc hsw hj
        go_enter Tryz.func38, Tryz.ntmps38
        go_wp2_with fail
        refine (CF.out _).mono ?_
        rintro e w1 ⟨rfl, rfl⟩
        go_wp2_with fail
        refine (CS.out _).mono ?_
        rintro e w1 ⟨rfl, rfl⟩
        go_wp2_with fail
        rw [HX.out]
        refine (CR.out _).mono ?_
        rintro e w1 ⟨rfl, q, rfl⟩
        have HB1 := Lib.hid (below_drewN HB0.out q)
        go_wp2
        go_returns
        have hv := HV.out
        unfold tokV at hv
        rw [hv]
        exact ⟨Eq.refl _, ((((((HB1.out.setCell (Nat.le_refl _) _).setCell (Nat.le_refl _) _).setCell (Nat.le_refl _) _).setCell (Nat.le_refl _) _).setCell (Nat.le_refl _) _).setCell (Nat.le_refl _) _)⟩
    | false =>
      rw [hsw] at CS
      have HX : Hid ((bytes l).extract (at' + 1) k = bytes (((l.drop at').take j).drop 1)) := Lib.hid (by
        rw [ext_bytes, List.drop_take, List.drop_drop, show k - (at' + 1) = j - 1 by omega])
      have CN := Lib.hid (fun W => refNC_any (bytes (((l.drop at').take j).drop 1)) W (by rw [bytesL_len, List.length_drop, List.length_take, List.length_drop]; omega))
      rw [nc_list] at CN
      cases hc : ncL (((l.drop at').take j).drop 1) with
      | false =>
        rw [hc] at CN
        have HV : Hid (ans = tokV 0 ⟨#[]⟩ ⟨#[]⟩ 0) := Lib.hid (by
          rw [← hans]; unfold rtokV refL
          rw [hf, Option.bind_some, if_neg (by rw [hsw]; decide), if_neg (by rw [hc]; decide)])
        clear hans hsm hf hc hsw hj
        go_enter Tryz.func38, Tryz.ntmps38
        go_wp2_with fail
        refine (CF.out _).mono ?_
        rintro e w1 ⟨rfl, rfl⟩
        go_wp2_with fail
        refine (CS.out _).mono ?_
        rintro e w1 ⟨rfl, rfl⟩
        go_wp2_with fail
        rw [HX.out]
        refine (CN.out _).mono ?_
        rintro e w1 ⟨rfl, rfl⟩
        go_wp2
        go_returns
        exact ⟨by rw [HV.out]; rfl, HB0.out⟩
      | true =>
        rw [hc] at CN
        have HV : Hid (ans = tokV 8 (bytes (((l.drop at').take j).drop 1)) ⟨#[]⟩ ((k : Int) + 1)) := Lib.hid (by
          show ans = tokV ((8 : Nat) : Int) (bytes (((l.drop at').take j).drop 1)) ⟨#[]⟩ ((k : Int) + 1)
          rw [← hans, show (k : Int) + 1 = ((at' + (j + 1) : Nat) : Int) by omega]; unfold rtokV refL
          rw [hf, Option.bind_some, if_neg (by rw [hsw]; decide), if_pos hc])
        clear hans hsm hf hc hsw hj
        go_enter Tryz.func38, Tryz.ntmps38
        go_wp2_with fail
        refine (CF.out _).mono ?_
        rintro e w1 ⟨rfl, rfl⟩
        go_wp2_with fail
        refine (CS.out _).mono ?_
        rintro e w1 ⟨rfl, rfl⟩
        go_wp2_with fail
        rw [HX.out]
        refine (CN.out _).mono ?_
        rintro e w1 ⟨rfl, rfl⟩
        go_wp2
        go_returns
        have hv := HV.out
        unfold tokV at hv
        rw [hv, ← HX.out]
        exact ⟨Eq.refl _, (Below.refl w.heap.size w).alloc (Nat.le_refl _) _⟩
end Go.Proofs.YtjijjmkeehdooaaGreatDoor

namespace Go.Proofs.YtjijjmkeehdooaaGreatDoor
open Go.RowKit

def fiveS (x : List UInt8) : ByteArray := match fiveL x with | some c => bytes [c] | none => ⟨#[]⟩
theorem strEqR (x y : List UInt8) : ((bytes x).toList == y) = decide (x = y) := by
  rw [bytesL_toList]
  by_cases h : x = y
  · rw [decide_eq_true h, h]; simp
  · rw [decide_eq_false h]; exact beq_eq_false_iff_ne.2 h
set_option maxHeartbeats 2000000 in
set_option maxRecDepth 100000 in
theorem rfive_any (x : List UInt8) (w : World) : Calls Tryz.prog 39 #[.string (bytes x)] w fun e w' => e = .returned (.string (fiveS x)) ∧ w = w' := by
  have q0 := strEqR x [108, 116]
  have q1 := strEqR x [103, 116]
  have q2 := strEqR x [97, 109, 112]
  have q3 := strEqR x [97, 112, 111, 115]
  have q4 := strEqR x [113, 117, 111, 116]
  have HV : Hid (∀ c, fiveL x = c → fiveS x = match c with | some c => bytes [c] | none => ⟨#[]⟩) := Lib.hid (fun c h => by unfold fiveS; rw [h])
  generalize hB : bytes x = B at *
  clear hB
  by_cases h0 : x = [108, 116]
  · rw [decide_eq_true h0] at q0
    have HX := Lib.hid (HV.out (some 60) (by unfold fiveL; rw [if_pos h0]))
    clear HV q1 q2 q3 q4 h0
    generalize fiveS x = V at *
    go_enter Tryz.func39, Tryz.ntmps39
    go_wp2
    go_ret
    exact ⟨by rw [HX.out]; rfl, rfl⟩
  rw [decide_eq_false h0] at q0
  by_cases h1 : x = [103, 116]
  · rw [decide_eq_true h1] at q1
    have HX := Lib.hid (HV.out (some 62) (by unfold fiveL; rw [if_neg h0, if_pos h1]))
    clear HV q2 q3 q4 h0 h1
    generalize fiveS x = V at *
    go_enter Tryz.func39, Tryz.ntmps39
    go_wp2
    go_ret
    exact ⟨by rw [HX.out]; rfl, rfl⟩
  rw [decide_eq_false h1] at q1
  by_cases h2 : x = [97, 109, 112]
  · rw [decide_eq_true h2] at q2
    have HX := Lib.hid (HV.out (some 38) (by unfold fiveL; rw [if_neg h0, if_neg h1, if_pos h2]))
    clear HV q3 q4 h0 h1 h2
    generalize fiveS x = V at *
    go_enter Tryz.func39, Tryz.ntmps39
    go_wp2
    go_ret
    exact ⟨by rw [HX.out]; rfl, rfl⟩
  rw [decide_eq_false h2] at q2
  by_cases h3 : x = [97, 112, 111, 115]
  · rw [decide_eq_true h3] at q3
    have HX := Lib.hid (HV.out (some 39) (by unfold fiveL; rw [if_neg h0, if_neg h1, if_neg h2, if_pos h3]))
    clear HV q4 h0 h1 h2 h3
    generalize fiveS x = V at *
    go_enter Tryz.func39, Tryz.ntmps39
    go_wp2
    go_ret
    exact ⟨by rw [HX.out]; rfl, rfl⟩
  rw [decide_eq_false h3] at q3
  by_cases h4 : x = [113, 117, 111, 116]
  · rw [decide_eq_true h4] at q4
    have HX := Lib.hid (HV.out (some 34) (by unfold fiveL; rw [if_neg h0, if_neg h1, if_neg h2, if_neg h3, if_pos h4]))
    clear HV  h0 h1 h2 h3 h4
    generalize fiveS x = V at *
    go_enter Tryz.func39, Tryz.ntmps39
    go_wp2
    go_ret
    exact ⟨by rw [HX.out]; rfl, rfl⟩
  rw [decide_eq_false h4] at q4
  have HX := Lib.hid (HV.out (none) (by unfold fiveL; rw [if_neg h0, if_neg h1, if_neg h2, if_neg h3, if_neg h4]))
  clear HV  h0 h1 h2 h3 h4
  generalize fiveS x = V at *
  go_enter Tryz.func39, Tryz.ntmps39
  go_wp2
  go_ret
  exact ⟨by rw [HX.out]; rfl, rfl⟩
theorem esc_next (a : Bool) {l : List UInt8} {i : Nat} (h : i < l.length) : escL a (l.take (i + 1)) = escL a (l.take i) ++ escB a (l[i]'h) := by
  rw [← List.take_append_getElem h]
  unfold escL
  rw [List.flatMap_append, List.flatMap_singleton]
theorem escB_few6 (a : Bool) (b : UInt8) : (escB a b).length ≤ 6 := by
  unfold escB; repeat' split
  all_goals first | decide | (show 1 ≤ 6; decide)
theorem k_of {x : UInt8} {c : Nat} (h : x.toNat = c) (q : Nat) : ((x.toNat : Int) == (q : Int)) = decide (q = c) := by
  rw [h]
  by_cases e : q = c
  · rw [e, decide_eq_true rfl]; exact beq_self_eq_true _
  · rw [decide_eq_false e, beq_eq_false_iff_ne]; omega
theorem byte_ne {b : UInt8} {k : Nat} {c : UInt8} (hc : c.toNat = k) (h : ¬ b = c) : ((b.toNat : Int) == (k : Int)) = false := by
  rw [beq_eq_false_iff_ne]
  intro e
  exact h (UInt8.toNat_inj.1 (by omega))
set_option maxHeartbeats 8000000 in
set_option maxRecDepth 100000 in
theorem resc_true (l : List UInt8) (w : World) (hs : l.length ≤ 100000) :
    Calls Tryz.prog 19 #[.string (bytes l), .bool true] w fun e w' => e = .returned (.string (bytes (escL true l))) ∧ w = w' := by
  have e1 : ((bytes l).size : Int) = (l.length : Int) := by rw [bytesL_len]
  obtain ⟨t, ht⟩ : ∃ t, escL true l = t := ⟨_, rfl⟩
  rw [ht]
  have HT := Lib.hid ht
  clear ht
  go_enter Tryz.func19, Tryz.ntmps19
  go_wp2
  go_loopw [5, 6] (fun ov iv wr => wr = w ∧ ∃ (i : Nat) (o : List UInt8), i ≤ l.length ∧ iv = .int .i64 i ∧ ov = .string (bytes o) ∧ o.length ≤ 6 * i ∧ Hid (o = escL true (l.take i))) (fun _ iv _ => l.length - (intOf iv).toNat)
  case atStart => exact ⟨rfl, 0, [], Nat.zero_le _, rfl, rfl, Nat.le_refl _, Lib.hid rfl⟩
  case round =>
    obtain ⟨rfl, i, o, hil, rfl, rfl, ho, hno⟩ := hrel
    have HO := Lib.hid hno.out
    clear hno
    by_cases hlt : i < l.length
    · have g2 : decide ((i : Int) < (l.length : Int)) = true := decide_eq_true (by omega)
      have hi' : i < (bytes l).size := by rw [bytesL_len]; exact hlt
      have HX := Lib.hid (byte_at (bytes l) i hi')
      have HN := Lib.hid (esc_next true hlt)
      obtain ⟨x, hx⟩ : ∃ x, (bytes l)[i]'hi' = x := ⟨_, rfl⟩
      have hx2 : l[i]'hlt = x := hx
      rw [hx] at HX
      rw [hx2] at HN
      have z1 : (9223372036854775807 < (bytes o).size + (min (i + 1) (bytes l).size - i)) = False := eq_false (by rw [bytesL_len, bytesL_len]; omega)
      have z2 : (9223372036854775807 < (bytes o).size + 4) = False := eq_false (by rw [bytesL_len]; omega)
      have z3 : (9223372036854775807 < (bytes o).size + 5) = False := eq_false (by rw [bytesL_len]; omega)
      have z4 : (9223372036854775807 < (bytes o).size + 6) = False := eq_false (by rw [bytesL_len]; omega)
      have hL : (o ++ escB true x).length ≤ 6 * (i + 1) := by rw [List.length_append]; have := escB_few6 true x; omega
      have HS : Hid (o ++ escB true x = escL true (l.take (i + 1))) := Lib.hid (by rw [HN.out, HO.out])
      clear hx2 HN
      by_cases h38 : x = 38
      · have HE : Hid (escB true x = [38, 97, 109, 112, 59]) := Lib.hid (by rw [h38]; decide)
        have hxn : x.toNat = 38 := by rw [h38]; rfl
        have k38 : (((x.toNat : Int)) == 38) = true := (k_of hxn 38).trans (by decide)
        have k60 : (((x.toNat : Int)) == 60) = false := (k_of hxn 60).trans (by decide)
        have k62 : (((x.toNat : Int)) == 62) = false := (k_of hxn 62).trans (by decide)
        have k13 : (((x.toNat : Int)) == 13) = false := (k_of hxn 13).trans (by decide)
        have k34 : (((x.toNat : Int)) == 34) = false := (k_of hxn 34).trans (by decide)
        have k9 : (((x.toNat : Int)) == 9) = false := (k_of hxn 9).trans (by decide)
        have k10 : (((x.toNat : Int)) == 10) = false := (k_of hxn 10).trans (by decide)
        rw [HE.out] at HS hL
        clear hxn h38 
        subst hx
        go_wp2
        go_roundw
        case rel => exact ⟨by trivial, i + 1, _, hlt, by go_num, by rw [← bytes_app]; rfl, hL, HS⟩
        case measure => simp [intOf]; omega
      by_cases h60 : x = 60
      · have HE : Hid (escB true x = [38, 108, 116, 59]) := Lib.hid (by rw [h60]; decide)
        have hxn : x.toNat = 60 := by rw [h60]; rfl
        have k38 : (((x.toNat : Int)) == 38) = false := (k_of hxn 38).trans (by decide)
        have k60 : (((x.toNat : Int)) == 60) = true := (k_of hxn 60).trans (by decide)
        have k62 : (((x.toNat : Int)) == 62) = false := (k_of hxn 62).trans (by decide)
        have k13 : (((x.toNat : Int)) == 13) = false := (k_of hxn 13).trans (by decide)
        have k34 : (((x.toNat : Int)) == 34) = false := (k_of hxn 34).trans (by decide)
        have k9 : (((x.toNat : Int)) == 9) = false := (k_of hxn 9).trans (by decide)
        have k10 : (((x.toNat : Int)) == 10) = false := (k_of hxn 10).trans (by decide)
        rw [HE.out] at HS hL
        clear hxn h60 h38
        subst hx
        go_wp2
        go_roundw
        case rel => exact ⟨by trivial, i + 1, _, hlt, by go_num, by rw [← bytes_app]; rfl, hL, HS⟩
        case measure => simp [intOf]; omega
      by_cases h13 : x = 13
      · have HE : Hid (escB true x = [38, 35, 49, 51, 59]) := Lib.hid (by rw [h13]; decide)
        have hxn : x.toNat = 13 := by rw [h13]; rfl
        have k38 : (((x.toNat : Int)) == 38) = false := (k_of hxn 38).trans (by decide)
        have k60 : (((x.toNat : Int)) == 60) = false := (k_of hxn 60).trans (by decide)
        have k62 : (((x.toNat : Int)) == 62) = false := (k_of hxn 62).trans (by decide)
        have k13 : (((x.toNat : Int)) == 13) = true := (k_of hxn 13).trans (by decide)
        have k34 : (((x.toNat : Int)) == 34) = false := (k_of hxn 34).trans (by decide)
        have k9 : (((x.toNat : Int)) == 9) = false := (k_of hxn 9).trans (by decide)
        have k10 : (((x.toNat : Int)) == 10) = false := (k_of hxn 10).trans (by decide)
        rw [HE.out] at HS hL
        clear hxn h13 h38 h60
        subst hx
        go_wp2
        go_roundw
        case rel => exact ⟨by trivial, i + 1, _, hlt, by go_num, by rw [← bytes_app]; rfl, hL, HS⟩
        case measure => simp [intOf]; omega
      by_cases h34 : x = 34
      · have HE : Hid (escB true x = [38, 113, 117, 111, 116, 59]) := Lib.hid (by rw [h34]; decide)
        have hxn : x.toNat = 34 := by rw [h34]; rfl
        have k38 : (((x.toNat : Int)) == 38) = false := (k_of hxn 38).trans (by decide)
        have k60 : (((x.toNat : Int)) == 60) = false := (k_of hxn 60).trans (by decide)
        have k62 : (((x.toNat : Int)) == 62) = false := (k_of hxn 62).trans (by decide)
        have k13 : (((x.toNat : Int)) == 13) = false := (k_of hxn 13).trans (by decide)
        have k34 : (((x.toNat : Int)) == 34) = true := (k_of hxn 34).trans (by decide)
        have k9 : (((x.toNat : Int)) == 9) = false := (k_of hxn 9).trans (by decide)
        have k10 : (((x.toNat : Int)) == 10) = false := (k_of hxn 10).trans (by decide)
        rw [HE.out] at HS hL
        clear hxn h34 h38 h60 h13
        subst hx
        go_wp2
        go_roundw
        case rel => exact ⟨by trivial, i + 1, _, hlt, by go_num, by rw [← bytes_app]; rfl, hL, HS⟩
        case measure => simp [intOf]; omega
      by_cases h9 : x = 9
      · have HE : Hid (escB true x = [38, 35, 57, 59]) := Lib.hid (by rw [h9]; decide)
        have hxn : x.toNat = 9 := by rw [h9]; rfl
        have k38 : (((x.toNat : Int)) == 38) = false := (k_of hxn 38).trans (by decide)
        have k60 : (((x.toNat : Int)) == 60) = false := (k_of hxn 60).trans (by decide)
        have k62 : (((x.toNat : Int)) == 62) = false := (k_of hxn 62).trans (by decide)
        have k13 : (((x.toNat : Int)) == 13) = false := (k_of hxn 13).trans (by decide)
        have k34 : (((x.toNat : Int)) == 34) = false := (k_of hxn 34).trans (by decide)
        have k9 : (((x.toNat : Int)) == 9) = true := (k_of hxn 9).trans (by decide)
        have k10 : (((x.toNat : Int)) == 10) = false := (k_of hxn 10).trans (by decide)
        rw [HE.out] at HS hL
        clear hxn h9 h38 h60 h13 h34
        subst hx
        go_wp2
        go_roundw
        case rel => exact ⟨by trivial, i + 1, _, hlt, by go_num, by rw [← bytes_app]; rfl, hL, HS⟩
        case measure => simp [intOf]; omega
      by_cases h10 : x = 10
      · have HE : Hid (escB true x = [38, 35, 49, 48, 59]) := Lib.hid (by rw [h10]; decide)
        have hxn : x.toNat = 10 := by rw [h10]; rfl
        have k38 : (((x.toNat : Int)) == 38) = false := (k_of hxn 38).trans (by decide)
        have k60 : (((x.toNat : Int)) == 60) = false := (k_of hxn 60).trans (by decide)
        have k62 : (((x.toNat : Int)) == 62) = false := (k_of hxn 62).trans (by decide)
        have k13 : (((x.toNat : Int)) == 13) = false := (k_of hxn 13).trans (by decide)
        have k34 : (((x.toNat : Int)) == 34) = false := (k_of hxn 34).trans (by decide)
        have k9 : (((x.toNat : Int)) == 9) = false := (k_of hxn 9).trans (by decide)
        have k10 : (((x.toNat : Int)) == 10) = true := (k_of hxn 10).trans (by decide)
        rw [HE.out] at HS hL
        clear hxn h10 h38 h60 h13 h34 h9
        subst hx
        go_wp2
        go_roundw
        case rel => exact ⟨by trivial, i + 1, _, hlt, by go_num, by rw [← bytes_app]; rfl, hL, HS⟩
        case measure => simp [intOf]; omega
      have HE : Hid (escB true x = [x]) := Lib.hid (by unfold escB; simp [h38, h60, h13, h34, h9, h10])
      have k38 : (((x.toNat : Int)) == 38) = false := byte_ne (k := 38) (c := 38) rfl h38
      have k60 : (((x.toNat : Int)) == 60) = false := byte_ne (k := 60) (c := 60) rfl h60
      have k13 : (((x.toNat : Int)) == 13) = false := byte_ne (k := 13) (c := 13) rfl h13
      have k34 : (((x.toNat : Int)) == 34) = false := byte_ne (k := 34) (c := 34) rfl h34
      have k9 : (((x.toNat : Int)) == 9) = false := byte_ne (k := 9) (c := 9) rfl h9
      have k10 : (((x.toNat : Int)) == 10) = false := byte_ne (k := 10) (c := 10) rfl h10
      rw [HE.out] at HS hL
      clear h38 h60 h13 h34 h9 h10
      subst hx
      go_wp2
      all_goals go_roundw
      all_goals first | (exact ⟨by trivial, i + 1, _, hlt, by go_num, by rw [HX.out, bytes_app], hL, HS⟩) | (simp [intOf]; omega)
    · have g2 : decide ((i : Int) < (l.length : Int)) = false := decide_eq_false (by omega)
      have HF : Hid (o = t) := Lib.hid (by rw [HO.out, List.take_of_length_le (by omega), HT.out])
      go_wp2
      go_ret
      have hf := HF.out
      subst hf
      exact ⟨rfl, rfl⟩
set_option maxHeartbeats 8000000 in
set_option maxRecDepth 100000 in
theorem resc_false (l : List UInt8) (w : World) (hs : l.length ≤ 100000) :
    Calls Tryz.prog 19 #[.string (bytes l), .bool false] w fun e w' => e = .returned (.string (bytes (escL false l))) ∧ w = w' := by
  have e1 : ((bytes l).size : Int) = (l.length : Int) := by rw [bytesL_len]
  obtain ⟨t, ht⟩ : ∃ t, escL false l = t := ⟨_, rfl⟩
  rw [ht]
  have HT := Lib.hid ht
  clear ht
  go_enter Tryz.func19, Tryz.ntmps19
  go_wp2
  go_loopw [5, 6] (fun ov iv wr => wr = w ∧ ∃ (i : Nat) (o : List UInt8), i ≤ l.length ∧ iv = .int .i64 i ∧ ov = .string (bytes o) ∧ o.length ≤ 6 * i ∧ Hid (o = escL false (l.take i))) (fun _ iv _ => l.length - (intOf iv).toNat)
  case atStart => exact ⟨rfl, 0, [], Nat.zero_le _, rfl, rfl, Nat.le_refl _, Lib.hid rfl⟩
  case round =>
    obtain ⟨rfl, i, o, hil, rfl, rfl, ho, hno⟩ := hrel
    have HO := Lib.hid hno.out
    clear hno
    by_cases hlt : i < l.length
    · have g2 : decide ((i : Int) < (l.length : Int)) = true := decide_eq_true (by omega)
      have hi' : i < (bytes l).size := by rw [bytesL_len]; exact hlt
      have HX := Lib.hid (byte_at (bytes l) i hi')
      have HN := Lib.hid (esc_next false hlt)
      obtain ⟨x, hx⟩ : ∃ x, (bytes l)[i]'hi' = x := ⟨_, rfl⟩
      have hx2 : l[i]'hlt = x := hx
      rw [hx] at HX
      rw [hx2] at HN
      have z1 : (9223372036854775807 < (bytes o).size + (min (i + 1) (bytes l).size - i)) = False := eq_false (by rw [bytesL_len, bytesL_len]; omega)
      have z2 : (9223372036854775807 < (bytes o).size + 4) = False := eq_false (by rw [bytesL_len]; omega)
      have z3 : (9223372036854775807 < (bytes o).size + 5) = False := eq_false (by rw [bytesL_len]; omega)
      have z4 : (9223372036854775807 < (bytes o).size + 6) = False := eq_false (by rw [bytesL_len]; omega)
      have hL : (o ++ escB false x).length ≤ 6 * (i + 1) := by rw [List.length_append]; have := escB_few6 false x; omega
      have HS : Hid (o ++ escB false x = escL false (l.take (i + 1))) := Lib.hid (by rw [HN.out, HO.out])
      clear hx2 HN
      by_cases h38 : x = 38
      · have HE : Hid (escB false x = [38, 97, 109, 112, 59]) := Lib.hid (by rw [h38]; decide)
        have hxn : x.toNat = 38 := by rw [h38]; rfl
        have k38 : (((x.toNat : Int)) == 38) = true := (k_of hxn 38).trans (by decide)
        have k60 : (((x.toNat : Int)) == 60) = false := (k_of hxn 60).trans (by decide)
        have k62 : (((x.toNat : Int)) == 62) = false := (k_of hxn 62).trans (by decide)
        have k13 : (((x.toNat : Int)) == 13) = false := (k_of hxn 13).trans (by decide)
        have k34 : (((x.toNat : Int)) == 34) = false := (k_of hxn 34).trans (by decide)
        have k9 : (((x.toNat : Int)) == 9) = false := (k_of hxn 9).trans (by decide)
        have k10 : (((x.toNat : Int)) == 10) = false := (k_of hxn 10).trans (by decide)
        rw [HE.out] at HS hL
        clear hxn h38 
        subst hx
        go_wp2
        go_roundw
        case rel => exact ⟨by trivial, i + 1, _, hlt, by go_num, by rw [← bytes_app]; rfl, hL, HS⟩
        case measure => simp [intOf]; omega
      by_cases h60 : x = 60
      · have HE : Hid (escB false x = [38, 108, 116, 59]) := Lib.hid (by rw [h60]; decide)
        have hxn : x.toNat = 60 := by rw [h60]; rfl
        have k38 : (((x.toNat : Int)) == 38) = false := (k_of hxn 38).trans (by decide)
        have k60 : (((x.toNat : Int)) == 60) = true := (k_of hxn 60).trans (by decide)
        have k62 : (((x.toNat : Int)) == 62) = false := (k_of hxn 62).trans (by decide)
        have k13 : (((x.toNat : Int)) == 13) = false := (k_of hxn 13).trans (by decide)
        have k34 : (((x.toNat : Int)) == 34) = false := (k_of hxn 34).trans (by decide)
        have k9 : (((x.toNat : Int)) == 9) = false := (k_of hxn 9).trans (by decide)
        have k10 : (((x.toNat : Int)) == 10) = false := (k_of hxn 10).trans (by decide)
        rw [HE.out] at HS hL
        clear hxn h60 h38
        subst hx
        go_wp2
        go_roundw
        case rel => exact ⟨by trivial, i + 1, _, hlt, by go_num, by rw [← bytes_app]; rfl, hL, HS⟩
        case measure => simp [intOf]; omega
      by_cases h62 : x = 62
      · have HE : Hid (escB false x = [38, 103, 116, 59]) := Lib.hid (by rw [h62]; decide)
        have hxn : x.toNat = 62 := by rw [h62]; rfl
        have k38 : (((x.toNat : Int)) == 38) = false := (k_of hxn 38).trans (by decide)
        have k60 : (((x.toNat : Int)) == 60) = false := (k_of hxn 60).trans (by decide)
        have k62 : (((x.toNat : Int)) == 62) = true := (k_of hxn 62).trans (by decide)
        have k13 : (((x.toNat : Int)) == 13) = false := (k_of hxn 13).trans (by decide)
        have k34 : (((x.toNat : Int)) == 34) = false := (k_of hxn 34).trans (by decide)
        have k9 : (((x.toNat : Int)) == 9) = false := (k_of hxn 9).trans (by decide)
        have k10 : (((x.toNat : Int)) == 10) = false := (k_of hxn 10).trans (by decide)
        rw [HE.out] at HS hL
        clear hxn h62 h38 h60
        subst hx
        go_wp2
        go_roundw
        case rel => exact ⟨by trivial, i + 1, _, hlt, by go_num, by rw [← bytes_app]; rfl, hL, HS⟩
        case measure => simp [intOf]; omega
      by_cases h13 : x = 13
      · have HE : Hid (escB false x = [38, 35, 49, 51, 59]) := Lib.hid (by rw [h13]; decide)
        have hxn : x.toNat = 13 := by rw [h13]; rfl
        have k38 : (((x.toNat : Int)) == 38) = false := (k_of hxn 38).trans (by decide)
        have k60 : (((x.toNat : Int)) == 60) = false := (k_of hxn 60).trans (by decide)
        have k62 : (((x.toNat : Int)) == 62) = false := (k_of hxn 62).trans (by decide)
        have k13 : (((x.toNat : Int)) == 13) = true := (k_of hxn 13).trans (by decide)
        have k34 : (((x.toNat : Int)) == 34) = false := (k_of hxn 34).trans (by decide)
        have k9 : (((x.toNat : Int)) == 9) = false := (k_of hxn 9).trans (by decide)
        have k10 : (((x.toNat : Int)) == 10) = false := (k_of hxn 10).trans (by decide)
        rw [HE.out] at HS hL
        clear hxn h13 h38 h60 h62
        subst hx
        go_wp2
        go_roundw
        case rel => exact ⟨by trivial, i + 1, _, hlt, by go_num, by rw [← bytes_app]; rfl, hL, HS⟩
        case measure => simp [intOf]; omega
      have HE : Hid (escB false x = [x]) := Lib.hid (by unfold escB; simp [h38, h60, h62, h13])
      have k38 : (((x.toNat : Int)) == 38) = false := byte_ne (k := 38) (c := 38) rfl h38
      have k60 : (((x.toNat : Int)) == 60) = false := byte_ne (k := 60) (c := 60) rfl h60
      have k62 : (((x.toNat : Int)) == 62) = false := byte_ne (k := 62) (c := 62) rfl h62
      have k13 : (((x.toNat : Int)) == 13) = false := byte_ne (k := 13) (c := 13) rfl h13
      rw [HE.out] at HS hL
      clear h38 h60 h62 h13
      subst hx
      go_wp2
      all_goals go_roundw
      all_goals first | (exact ⟨by trivial, i + 1, _, hlt, by go_num, by rw [HX.out, bytes_app], hL, HS⟩) | (simp [intOf]; omega)
    · have g2 : decide ((i : Int) < (l.length : Int)) = false := decide_eq_false (by omega)
      have HF : Hid (o = t) := Lib.hid (by rw [HO.out, List.take_of_length_le (by omega), HT.out])
      go_wp2
      go_ret
      have hf := HF.out
      subst hf
      exact ⟨rfl, rfl⟩
end Go.Proofs.YtjijjmkeehdooaaGreatDoor

namespace Go.Proofs.YtjijjmkeehdooaaGreatDoor
open Go.RowKit

/-- what a Refs' five places hold -/
def fM (ev : Value) (n : Nat) (nv : Value) (i : Nat) : Value := if i = 0 then .string ⟨#[]⟩ else if i = 1 then ev else if i = 2 then .slice none 0 0 else if i = 3 then .int .i64 (n : Int) else nv
def NamesAt (p : Nat) (w : World) (nv : Value) (xs : List (List UInt8)) : Prop :=
  (xs = [] ∧ ∃ a c, nv = .slice a 0 c) ∨ ∃ g off c, nv = .slice (some ⟨g, off, none⟩) xs.length c ∧ p < g ∧ g < w.heap.size ∧ ∀ i (h : i < xs.length), w.cell? ⟨g, off + i, none⟩ = some (.string (bytes (xs[i]'h)))
theorem entI_name (l : List EntD) (x : List UInt8) : ∀ i, i ≤ l.length → (∀ j, j < i → (entI l j).name ≠ x) → (l.take i).find? (fun e => decide (e.name = x)) = none
  | 0, _, _ => rfl
  | i + 1, hi, h => by
    have hil : i < l.length := by omega
    rw [← List.take_append_getElem hil, List.find?_append, entI_name l x i (by omega) (fun j hj => h j (by omega))]
    have e : entI l i = l[i]'hil := by unfold entI; simp [List.getD, List.getElem?_eq_getElem hil]
    have hn := h i (by omega)
    rw [e] at hn
    simp [hn]
theorem ent_found {l : List EntD} {x : List UInt8} {i : Nat} (hi : i < l.length) (h : ∀ j, j < i → (entI l j).name ≠ x) (hx : (entI l i).name = x) : l.find? (fun e => decide (e.name = x)) = some (entI l i) := by
  have e : entI l i = l[i]'hi := by unfold entI; simp [List.getD, List.getElem?_eq_getElem hi]
  have hs : l = l.take i ++ l[i]'hi :: l.drop (i + 1) := by rw [← List.drop_eq_getElem_cons hi, List.take_append_drop]
  rw [e] at hx ⊢
  have hn := entI_name l x i (by omega) h
  generalize l[i]'hi = y at *
  rw [hs, List.find?_append, hn]
  simp [hx]
theorem ent_none {l : List EntD} {x : List UInt8} (h : ∀ j, j < l.length → (entI l j).name ≠ x) : l.find? (fun e => decide (e.name = x)) = none := by
  have := entI_name l x l.length (Nat.le_refl _) h
  rw [List.take_length] at this
  exact this
def foundV (o : Option EntD) : Value := match o with
  | none => .tuple #[.agg #[.string ⟨#[]⟩, .string ⟨#[]⟩, .bool false], .bool false]
  | some e => .tuple #[.agg #[.string (bytes e.name), .string (bytes e.value), .bool e.ext], .bool true]
theorem strEqV (x y : List UInt8) : ((bytes x).toList == (bytes y).toList) = decide (x = y) := by
  rw [bytesL_toList, bytesL_toList]
  by_cases h : x = y
  · rw [decide_eq_true h, h]; simp
  · rw [decide_eq_false h]; exact beq_eq_false_iff_ne.2 h
set_option maxHeartbeats 4000000 in
set_option maxRecDepth 100000 in
theorem rent_any (p : Nat) (ev : Value) (l : List EntD) (x : List UInt8) (w : World) (hc : w.cell? ⟨p, 1, none⟩ = some ev) (hp : p < w.heap.size) (he : EntsAt p w ev l) (hl : l.length ≤ 100000) :
    Calls Tryz.prog 61 #[.pointer (some ⟨p, 0, none⟩), .string (bytes x)] w fun e w' => e = .returned (foundV (l.find? fun e => decide (e.name = x))) ∧ Below w.heap.size w w' := by
  obtain ⟨a, cap, rfl⟩ : ∃ a cap, ev = .slice a l.length cap := by
    rcases he with ⟨a, c, h1, h2⟩ | ⟨b, off, c, h1, _⟩
    · exact ⟨a, c, by rw [h2]; exact h1⟩
    · exact ⟨_, c, h1⟩
  obtain ⟨ans, hans⟩ : ∃ ans, foundV (l.find? fun e => decide (e.name = x)) = ans := ⟨_, rfl⟩
  rw [hans]
  have HA := Lib.hid hans
  clear hans
  have HB := (Below.refl w.heap.size w).alloc (Nat.le_refl _) (.cells #[.string ⟨#[]⟩, .string ⟨#[]⟩, .bool false] 26)
  have c1 : (w.alloc (.cells #[.string ⟨#[]⟩, .string ⟨#[]⟩, .bool false] 26)).cell? ⟨p, 1, none⟩ = some (.slice a l.length cap) := by rw [HB.cell (p := ⟨p, 1, none⟩) hp]; exact hc
  have HE := Lib.hid (fun (h0 : 0 < l.length) => (he.below (HB.mono (Nat.le_of_lt hp))).cell h0)
  have HBB := Lib.hid HB
  clear HB hc he
  go_enter Tryz.func61, Tryz.ntmps61
  go_wp2
  go_loopw [6] (fun iv wr => wr = w.alloc (.cells #[.string ⟨#[]⟩, .string ⟨#[]⟩, .bool false] 26) ∧ ∃ i : Nat, i ≤ l.length ∧ iv = .int .i64 i ∧ Hid (∀ j, j < i → (entI l j).name ≠ x)) (fun iv _ => l.length - (intOf iv).toNat)
  case atStart => exact ⟨rfl, 0, Nat.zero_le _, rfl, Lib.hid (fun j hj => absurd hj (Nat.not_lt_zero _))⟩
  case round =>
    obtain ⟨rfl, i, hil, rfl, hn⟩ := hrel
    have HN := Lib.hid hn.out
    clear hn
    by_cases hlt : i < l.length
    · have g1 : decide ((i : Int) < (l.length : Int)) = true := decide_eq_true (by omega)
      obtain ⟨b, off, rfl, hbp, hcell⟩ := HE.out (by omega)
      obtain ⟨d0, d1, d2⟩ := hcell i hlt
      have HQ := strEqV (entI l i).name x
      have HFD := Lib.hid (fun h => ent_found (x := x) hlt HN.out h)
      have HNX : Hid (¬ (entI l i).name = x → ∀ j, j < i + 1 → (entI l j).name ≠ x) := Lib.hid (fun hne j hj => by
        rcases Nat.lt_or_ge j i with h | h
        · exact HN.out j h
        · rw [show j = i by omega]; exact hne)
      generalize entI l i = ei at *
      obtain ⟨nm, vl, ex⟩ := ei
      clear hcell
      by_cases hnm : nm = x
      · have HQ2 : ((bytes nm).toList == (bytes x).toList) = true := by rw [HQ]; exact decide_eq_true hnm
        have HF : Hid (ans = foundV (some ⟨nm, vl, ex⟩)) := Lib.hid (by rw [← HA.out, HFD.out hnm])
        clear HQ hnm HFD HNX
        go_wp2
        go_returns
        exact ⟨by rw [HF.out]; rfl, (Below.refl w.heap.size w).alloc (Nat.le_refl _) _⟩
      · have HQ2 : ((bytes nm).toList == (bytes x).toList) = false := by rw [HQ]; exact decide_eq_false hnm
        have HN2 := Lib.hid (HNX.out hnm)
        clear HQ hnm HFD HNX
        go_wp2
        go_roundw
        case rel => exact ⟨by trivial, i + 1, hlt, by go_num, HN2⟩
        case measure => simp [intOf]; omega
    · have g1 : decide ((i : Int) < (l.length : Int)) = false := decide_eq_false (by omega)
      have HF : Hid (ans = foundV none) := Lib.hid (by rw [← HA.out, ent_none (fun j hj => HN.out j (by omega))])
      go_wp2
      go_returns
      exact ⟨by rw [HF.out]; rfl, HBB.out⟩
end Go.Proofs.YtjijjmkeehdooaaGreatDoor

namespace Go.Proofs.YtjijjmkeehdooaaGreatDoor
open Go.RowKit

def rowS (xs : List (List UInt8)) : List Value := xs.map fun x => .string (bytes x)
/-- THE REFS AT p STANDS AS r SAYS: what is declared is l -/
structure MA (p : Nat) (ev : Value) (l : List EntD) (r : RefD) (w : World) : Prop where
  look : r.look = lookE l
  ents : EntsAt p w ev l
  row : ∃ nv, w.rowIs p 40 5 (fM ev r.n nv) ∧ w.ownsRow (p + 1) 9 1 nv r.opened.length (rowS r.opened)
section
variable {p : Nat} {ev : Value} {l : List EntD} {r : RefD} {w w' : World}
theorem MA.lt (h : MA p ev l r w) : p < w.heap.size := by
  obtain ⟨_, hr, _⟩ := h.row
  exact hr.lt
theorem MA.other (h : MA p ev l r w) (hb : Below w.heap.size w w') : MA p ev l r w' := by
  obtain ⟨nv, hr, ho⟩ := h.row
  exact ⟨h.look, h.ents.below (hb.mono (Nat.le_of_lt hr.lt)), nv, hr.of_block (hb.block p hr.lt), owns_keep ho fun g hg => hb.block g (owns_block ho g hg).2⟩
theorem MA.spend (h : MA p ev l r w) (n : Nat) : MA p ev l ⟨r.look, r.opened, n⟩ (w.setCell ⟨p, 3, none⟩ (.int .i64 (n : Int))) := by
  obtain ⟨nv, hr, ho⟩ := h.row
  refine ⟨h.look, h.ents.below ((Below.refl p w).setCell (Nat.le_refl _) _), nv, (World.rowIs.set hr 3 _).congr fun i hi => ?_, owns_keep ho fun g hg => Below.heap_setCell _ _ _ _ (by have := (owns_block ho g hg).1; show g ≠ p; omega)⟩
  rcases (show i = 0 ∨ i = 1 ∨ i = 2 ∨ i = 3 ∨ i = 4 by omega) with rfl | rfl | rfl | rfl | rfl <;> rfl
theorem MA.named (h : MA p ev l r w) (xs : List (List UInt8)) (nv : Value) (hb : Below w.heap.size w w') (ho : w'.ownsRow (p + 1) 9 1 nv xs.length (rowS xs)) : MA p ev l ⟨r.look, xs, r.n⟩ (w'.setCell ⟨p, 4, none⟩ nv) := by
  obtain ⟨nv0, hr, _⟩ := h.row
  refine ⟨h.look, (h.ents.below (hb.mono (Nat.le_of_lt hr.lt))).below ((Below.refl p w').setCell (Nat.le_refl _) _), nv, (World.rowIs.set (hr.of_block (hb.block p hr.lt)) 4 _).congr fun i hi => ?_, owns_keep ho fun g hg => Below.heap_setCell _ _ _ _ (by have := (owns_block ho g hg).1; show g ≠ p; omega)⟩
  rcases (show i = 0 ∨ i = 1 ∨ i = 2 ∨ i = 3 ∨ i = 4 by omega) with rfl | rfl | rfl | rfl | rfl <;> rfl
/-- the names, one by one -/
theorem own_names {B : Nat} {nv : Value} {xs : List (List UInt8)} (h : w.ownsRow B 9 1 nv xs.length (rowS xs)) : ∃ a cap, nv = .slice a xs.length cap ∧ ∀ i (hi : i < xs.length), ∃ g, a = some ⟨g, 0, none⟩ ∧ w.cell? ⟨g, i, none⟩ = some (.string (bytes (xs[i]'hi))) := by
  rcases h.2 with ⟨rfl, h0⟩ | ⟨g, cap, cur, rfl, hB, hg, h1, h2, h3, h4⟩
  · exact ⟨none, 0, by rw [h0], fun i hi => by omega⟩
  · refine ⟨_, cap, rfl, fun i hi => ⟨g, rfl, ?_⟩⟩
    have hc : (rowS xs)[i]? = some (.string (bytes (xs[i]'hi))) := by unfold rowS; rw [List.getElem?_map, List.getElem?_eq_getElem hi]; rfl
    rw [← h4, List.getElem?_take, if_pos (by omega), Array.getElem?_toList] at hc
    simp [World.cell?, hg, hc]
/-- the last name goes -/
theorem own_less {B : Nat} {a : Option Addr} {cap : Nat} {xs : List (List UInt8)} {x : List UInt8} (h : w.ownsRow B 9 1 (.slice a (xs ++ [x]).length cap) (xs ++ [x]).length (rowS (xs ++ [x]))) : w.ownsRow B 9 1 (.slice a xs.length cap) xs.length (rowS xs) := by
  refine ⟨by unfold rowS; rw [List.length_map, Nat.mul_one], ?_⟩
  rcases h.2 with ⟨_, h0⟩ | ⟨g, c2, cur, e, hB, hg, h1, h2, h3, h4⟩
  · rw [List.length_append] at h0; cases h0
  · injection e with e1 e2 e3
    subst e3
    rw [List.length_append] at h1
    have h1' : xs.length + 1 ≤ cap := h1
    refine Or.inr ⟨g, cap, cur, by rw [e1], hB, hg, by omega, h2, h3, ?_⟩
    have := congrArg (List.take (xs.length * 1)) h4
    rw [List.take_take, show min (xs.length * 1) ((xs ++ [x]).length * 1) = xs.length * 1 by rw [List.length_append]; show min (xs.length * 1) ((xs.length + 1) * 1) = _; omega] at this
    rw [this]
    unfold rowS
    rw [List.map_append, List.take_left' (by rw [List.length_map, Nat.mul_one])]
set_option maxHeartbeats 4000000 in
set_option maxRecDepth 100000 in
theorem rclose_any (h : MA p ev l r w) (x : List UInt8) (hsm : r.opened.length ≤ 1000) :
    Calls Tryz.prog 41 #[.pointer (some ⟨p, 0, none⟩), .string (bytes x)] w fun e w' => e = .returned (.bool (closeB r x)) ∧ MA p ev l (closeS r x) w' ∧ Turns (fun k => k = p) w w' := by
  obtain ⟨nv, hr, ho⟩ := h.row
  have H := Lib.hid h
  obtain ⟨a, cap, rfl, hcell⟩ := own_names ho
  have c4 : w.cell? ⟨p, 4, none⟩ = some (.slice a r.opened.length cap) := hr.cell (i := 4) (by decide)
  have f4 := hr.frozen 4
  rcases List.eq_nil_or_concat r.opened with h0 | ⟨o, y, ho2⟩
  · have hlen : r.opened.length = 0 := by rw [h0]; rfl
    have HB1 : Hid (closeB r x = false) := Lib.hid (by unfold closeB; rw [h0]; rfl)
    have HS1 : Hid (closeS r x = r) := Lib.hid (by unfold closeS; rw [h0]; rfl)
    rw [hlen] at c4
    clear h hr ho hcell
    go_enter Tryz.func41, Tryz.ntmps41
    go_wp2
    go_ret
    exact ⟨by rw [HB1.out]; rfl, by rw [HS1.out]; exact H.out, Turns.refl _ _⟩
  · rw [List.concat_eq_append] at ho2
    have hlen : r.opened.length = o.length + 1 := by rw [ho2, List.length_append]; rfl
    obtain ⟨g, rfl, hc⟩ := hcell o.length (by omega)
    have hy : r.opened[o.length]'(by omega) = y := by simp [ho2]
    rw [hy] at hc
    have HQ := strEqV y x
    have hla : r.opened.getLast? = some y := by rw [ho2]; exact List.getLast?_concat ..
    rw [hlen] at c4
    have HOL : Hid (w.ownsRow (p + 1) 9 1 (.slice (some ⟨g, 0, none⟩) o.length cap) o.length (rowS o)) := Lib.hid (by
      rw [ho2] at ho
      exact own_less ho)
    have hcap : o.length + 1 ≤ cap := by
      rcases ho.2 with ⟨e, _⟩ | ⟨_, _, _, e, _, _, h1, _⟩
      · cases e
      · injection e with _ _ e3; subst e3; omega
    have ho100 : o.length ≤ 1000 := by omega
    by_cases hyx : y = x
    · have HQ2 : ((bytes y).toList == (bytes x).toList) = true := by rw [HQ]; exact decide_eq_true hyx
      have HB1 : Hid (closeB r x = true) := Lib.hid (by unfold closeB; rw [hla, hyx]; exact decide_eq_true rfl)
      have HS1 : Hid (closeS r x = ⟨r.look, o, r.n⟩) := Lib.hid (by unfold closeS; rw [hla, hyx, if_pos rfl, ho2, List.dropLast_concat])
      have HM : Hid (MA p ev l ⟨r.look, o, r.n⟩ (w.setCell ⟨p, 4, none⟩ (.slice (some ⟨g, 0, none⟩) o.length cap))) := Lib.hid (H.out.named o _ (Below.refl _ _) HOL.out)
      have HT : Hid (Turns (fun k => k = p) w (w.setCell ⟨p, 4, none⟩ (.slice (some ⟨g, 0, none⟩) o.length cap))) := Lib.hid ((Turns.refl (fun k => k = p) w).setCell (p := ⟨p, 4, none⟩) (Or.inl rfl) _)
      clear h hr ho hcell hyx HQ hla hy ho2 hlen hsm HOL H
      go_enter Tryz.func41, Tryz.ntmps41
      go_wp2
      go_ret
      exact ⟨by rw [HB1.out]; rfl, by rw [HS1.out]; exact HM.out, HT.out⟩
    · have HQ2 : ((bytes y).toList == (bytes x).toList) = false := by rw [HQ]; exact decide_eq_false hyx
      have HQ3 : (!((bytes y).toList == (bytes x).toList)) = true := by rw [HQ2]; rfl
      have HB1 : Hid (closeB r x = false) := Lib.hid (by unfold closeB; rw [hla]; exact decide_eq_false (fun e => hyx (by injection e)))
      have HS1 : Hid (closeS r x = r) := Lib.hid (by unfold closeS; rw [hla, if_neg (fun e => hyx (by injection e))])
      clear h hr ho hcell hyx HQ hla hy ho2 hlen hsm HOL
      go_enter Tryz.func41, Tryz.ntmps41
      go_wp2
      go_ret
      exact ⟨by rw [HB1.out]; rfl, by rw [HS1.out]; exact H.out, Turns.refl _ _⟩
end
end Go.Proofs.YtjijjmkeehdooaaGreatDoor

namespace Go.Proofs.YtjijjmkeehdooaaGreatDoor
open Go.RowKit

theorem info_strV : ∃ i0, Tryz.prog.info? 9 = some i0 ∧ i0.zero = some (.string ⟨#[]⟩) ∧ i0.size = 1 ∧ i0.bytes = 16 := by
  have h : (Tryz.prog.info? 9).map (fun i => (i.zero, i.size, i.bytes)) = some (some (.string ⟨#[]⟩), 1, 16) := by kernel_rfl
  obtain ⟨i0, hi, hz⟩ := Option.map_eq_some_iff.1 h
  simp only [Prod.mk.injEq] at hz
  exact ⟨i0, hi, hz.1, hz.2.1, hz.2.2⟩
theorem own_base {w : World} {B B' : Nat} {e : TypeId} {z n : Nat} {v : Value} {xs : List Value} (h : w.ownsRow B e z v n xs) (hB : B' ≤ B) : w.ownsRow B' e z v n xs := by
  refine ⟨h.1, ?_⟩
  rcases h.2 with h0 | ⟨g, cap, cur, e, hg, h2⟩
  · exact Or.inl h0
  · exact Or.inr ⟨g, cap, cur, e, Nat.le_trans hB hg, h2⟩
theorem own_noname (w : World) : (w.alloc (.cells #[] 9)).ownsRow w.heap.size 9 1 (.slice (some ⟨w.heap.size, 0, none⟩) 0 0) 0 (rowS []) := by
  refine ⟨rfl, Or.inr ⟨w.heap.size, 0, #[], rfl, Nat.le_refl _, ?_, Nat.le_refl _, Nat.zero_le _, rfl, rfl⟩⟩
  show (w.heap.push (Obj.cells #[] 9 (0, 0)))[w.heap.size]? = _
  rw [Array.getElem?_push_size]
theorem rowS_one (xs : List (List UInt8)) : ∀ u ∈ rowS xs, u.oneCell' = true := by
  intro u hu
  unfold rowS at hu
  obtain ⟨e, _, rfl⟩ := List.mem_map.1 hu
  rfl
theorem rowS_len (xs : List (List UInt8)) : (rowS xs).length = xs.length * 1 := by unfold rowS; rw [List.length_map, Nat.mul_one]
theorem cell_oneV (w : World) (x : Value) (t : TypeId) : ∀ j u, [x][j]? = some u → (w.alloc (.cells #[x] t)).cell? ((⟨w.heap.size, 0, none⟩ : Addr).add j) = some u := by
  intro j u hj
  cases j with
  | succ j => simp at hj
  | zero =>
    injection hj with hj
    subst hj
    rw [Go.WideShapes.add_plain]
    exact (World.rowIs_alloc w #[x] t (fun _ => x) (by
      intro i hi
      have h1 : i < 1 := hi
      obtain rfl : i = 0 := by omega
      rfl)).cell (i := 0) (show 0 < 1 by decide)
theorem blk_leV (g n c : Nat) : ∀ q, (Value.slice (some ⟨g, 0, none⟩) n c).ownBlock = some q → g ≤ q := by
  intro q hq
  simp only [Value.ownBlock, Option.some.injEq] at hq
  omega
theorem own_ge {w : World} {B : Nat} {e : TypeId} {z n : Nat} {v : Value} {xs : List Value} (h : w.ownsRow B e z v n xs) : ∀ q, v.ownBlock = some q → B ≤ q := fun q hq => (owns_block h q hq).1
theorem rowS_more {w : World} {B : Nat} {v : Value} {xs : List (List UInt8)} {x : List UInt8} (h : w.ownsRow B 9 1 v (xs.length + 1) (rowS xs ++ [.string (bytes x)])) : w.ownsRow B 9 1 v (xs ++ [x]).length (rowS (xs ++ [x])) := by
  have e : rowS (xs ++ [x]) = rowS xs ++ [.string (bytes x)] := by unfold rowS; rw [List.map_append]; rfl
  rw [e, List.length_append]
  exact h
theorem wpList_append_names {w : World} {ops : Array Oper} {rest : List Oper} {o : Oper} {act : Act} {Q : Exit → Act → World → Prop} (hgd : o.guard = none) (s x : Operand)
    (ho : o.op = .call { callee := .builtin .append, args := #[s, x], argTypes := #[36, 36] })
    (base : Nat) (v : Value) (hs : act.eval s = v) (hown : w.ownsRow base 9 1 v 0 (rowS [])) (B : Nat) (nv : Value) (xs : List (List UInt8)) (hx : act.eval x = nv) (hN : w.ownsRow B 9 1 nv xs.length (rowS xs))
    (hl : xs.length ≤ 1000) (hbase : base ≤ w.heap.size) (hblk : ∀ q, v.ownBlock = some q → base ≤ q)
    (h : ∀ v' w', w'.ownsRow base 9 1 v' xs.length (rowS xs) → Below base w w' → wpList Tryz.prog ops Q rest (act.put o.dst v') w') : wpList Tryz.prog ops Q (o :: rest) act w := by
  obtain ⟨i0, hi, hz0, hz1, hz2⟩ := info_strV
  rcases hN.2 with ⟨rfl, h0⟩ | ⟨g, cap, cur, rfl, hB, hg, h1, h2, h3, h4⟩
  · have hxs : xs = [] := List.eq_nil_of_length_eq_zero h0
    subst hxs
    exact wpList_append_own_none hgd s x 36 ho base 9 i0 1 Tryz.underlying36 hi v _ _ hs hown hx (h v w hown (Below.refl _ _))
  · have hnews : ∀ j u, (rowS xs)[j]? = some u → w.cell? ((⟨g, 0, none⟩ : Addr).add j) = some u := by
      intro j u hj
      rw [Go.WideShapes.add_plain]
      have hj2 := hj
      rw [← h4, List.getElem?_take] at hj
      have hjl : j < xs.length * 1 := by
        have := (List.getElem?_eq_some_iff.1 hj2).1
        rw [rowS_len] at this
        exact this
      rw [if_pos hjl, Array.getElem?_toList] at hj
      simp [World.cell?, hg, hj]
    exact wpList_append_own w hgd s x 36 ho base 9 i0 (.string ⟨#[]⟩) 1 16 Tryz.underlying36 hi hz0 hz1 hz2 rfl (by decide) v _ _ hs hown ⟨g, 0, none⟩ xs.length cap (rowS xs) hx (rowS_len xs) hnews (rowS_one xs) (by unfold maxLen; omega) (by omega) hbase
      (fun v' w' h1 h2 _ => h v' w' (by rw [Nat.zero_add] at h1; exact h1) ((Below.refl base w).grown h2 hbase hblk))
section
variable {p : Nat} {ev : Value} {l : List EntD} {r : RefD} {w w' : World}
theorem fiveS_empty (x : List UInt8) : (fiveS x).toList.isEmpty = !(fiveL x).isSome := by
  unfold fiveS
  cases fiveL x with
  | none => rw [Lib.toList_data]; rfl
  | some c => rw [Lib.toList_data]; rfl
set_option maxHeartbeats 4000000 in
set_option maxRecDepth 100000 in
theorem ropen_any (h : MA p ev l r w) (x : List UInt8) (most : Int) (hsm : r.opened.length ≤ 1000) (hn : r.n ≤ 1000000) (hl : l.length ≤ 100000) (hv : ∀ e ∈ l, e.value.length ≤ 100000) (hin : ∀ y ∈ r.opened, ∃ t, r.look y = some (some t)) :
    Calls Tryz.prog 40 #[.pointer (some ⟨p, 0, none⟩), .string (bytes x), .int .i64 most] w fun e w' => e = .returned (.tuple #[.string (bytes (openT r x most).1), .int .i64 (openT r x most).2]) ∧ MA p ev l (openS r x most) w' ∧ Turns (fun k => k = p) w w' := by
  obtain ⟨nv, hr, ho⟩ := h.row
  have H := Lib.hid h
  have CE := Lib.hid (rent_any p ev l x w (hr.cell (i := 1) (by decide)) hr.lt h.ents hl)
  have CV := Lib.hid (fun W => rfive_any x W)
  have HFE := fiveS_empty x
  have HLK : Hid (∀ o, l.find? (fun e => decide (e.name = x)) = o → r.look x = if (fiveL x).isSome = true then none else o.map fun e => if e.ext = true then none else some e.value) := Lib.hid (fun o ho => by rw [h.look, ← ho]; rfl)
  clear hr ho
  cases hf : l.find? (fun e => decide (e.name = x)) with
  | none =>
    rw [hf] at CE
    simp only [foundV] at CE
    have hlk : r.look x = none := by rw [HLK.out none hf]; split <;> rfl
    have HO : Hid (openT r x most = ([], 6)) := Lib.hid (by unfold openT; rw [hlk])
    have HS : Hid (openS r x most = r) := Lib.hid (by unfold openS; rw [hlk])
    clear h hf hlk HLK HFE hin hv
    go_enter Tryz.func40, Tryz.ntmps40
    go_wp2_with fail
    refine CE.out.mono ?_
    rintro e w1 ⟨rfl, hb⟩
    have hb2 := hb.alloc hb.size (.cells #[.string ⟨#[]⟩, .string ⟨#[]⟩, .bool false] 26)
    go_wp2
    go_ret2
    exact ⟨by rw [HO.out]; rfl, by rw [HS.out]; exact H.out.other hb2, Turns.of_below hb2⟩
  | some en =>
    obtain ⟨nm, vl, ex⟩ := en
    rw [hf] at CE
    simp only [foundV] at CE
    have hvl : vl.length ≤ 100000 := hv _ (List.mem_of_find?_eq_some hf)
    cases h5 : (fiveL x).isSome with
    | true =>
      have hlk : r.look x = none := by rw [HLK.out _ hf, if_pos h5]
      have HO : Hid (openT r x most = ([], 6)) := Lib.hid (by unfold openT; rw [hlk])
      have HS : Hid (openS r x most = r) := Lib.hid (by unfold openS; rw [hlk])
      have q1 : (!(fiveS x).toList.isEmpty) = true := by rw [HFE, h5]; rfl
      clear h hf hlk HLK HFE hin hv h5
      go_enter Tryz.func40, Tryz.ntmps40
      go_wp2_with fail
      refine CE.out.mono ?_
      rintro e w1 ⟨rfl, hb⟩
      go_wp2_with fail
      refine (CV.out _).mono ?_
      rintro e w2 ⟨rfl, rfl⟩
      have hb2 := hb.alloc hb.size (.cells #[.string (bytes nm), .string (bytes vl), .bool ex] 26)
      go_wp2
      go_ret2
      exact ⟨by rw [HO.out]; rfl, by rw [HS.out]; exact H.out.other hb2, Turns.of_below hb2⟩
    | false =>
      have q1 : (!(fiveS x).toList.isEmpty) = false := by rw [HFE, h5]; rfl
      have hlk : r.look x = some (if ex = true then none else some vl) := by rw [HLK.out _ hf, if_neg (by rw [h5]; decide)]; rfl
      have HL2 := Lib.hid hlk
      have HIN := Lib.hid hin
      clear h hf hlk HLK HFE hin hv h5
      go_enter Tryz.func40, Tryz.ntmps40
      go_wp2_with fail
      refine CE.out.mono ?_
      rintro e w1 ⟨rfl, hb⟩
      go_wp2_with fail
      refine (CV.out _).mono ?_
      rintro e w2 ⟨rfl, rfl⟩
      have hb2 := hb.alloc hb.size (.cells #[.string (bytes nm), .string (bytes vl), .bool ex] 26)
      have hE := World.rowIs_alloc w1 #[.string (bytes nm), .string (bytes vl), .bool ex] 26 (fun i => if i = 0 then .string (bytes nm) else if i = 1 then .string (bytes vl) else .bool ex) (by
        intro i hi
        rcases (show i = 0 ∨ i = 1 ∨ i = 2 by have : i < 3 := hi; omega) with rfl | rfl | rfl <;> rfl)
      obtain ⟨W2, hW2⟩ : ∃ W2, w1.alloc (.cells #[.string (bytes nm), .string (bytes vl), .bool ex] 26) = W2 := ⟨_, rfl⟩
      rw [hW2] at hb2 hE ⊢
      clear hW2
      obtain ⟨z, hz⟩ : ∃ z, w1.heap.size = z := ⟨_, rfl⟩
      have hzw : w.heap.size ≤ z := by rw [← hz]; exact hb.size
      rw [hz] at hE ⊢
      have x0 : W2.cell? ⟨z, 0, none⟩ = some (.string (bytes nm)) := hE.cell (i := 0) (show 0 < 3 by decide)
      have x1 : W2.cell? ⟨z, 1, none⟩ = some (.string (bytes vl)) := hE.cell (i := 1) (show 1 < 3 by decide)
      have x2 : W2.cell? ⟨z, 2, none⟩ = some (.bool ex) := hE.cell (i := 2) (show 2 < 3 by decide)
      have HE2 := Lib.hid hE
      have H1 := Lib.hid (H.out.other hb2)
      have HBB := Lib.hid hb2
      clear hb hb2 hE hz CE CV
      obtain ⟨nv, hr, ho⟩ := H1.out.row
      obtain ⟨a, cap, rfl, hcell⟩ := own_names ho
      have c4 : W2.cell? ⟨p, 4, none⟩ = some (.slice a r.opened.length cap) := hr.cell (i := 4) (by decide)
      have c3 : W2.cell? ⟨p, 3, none⟩ = some (.int .i64 (r.n : Int)) := hr.cell (i := 3) (by decide)
      have f3 := hr.frozen 3
      have f4 := hr.frozen 4
      have HOW := Lib.hid ho
      have HCL := Lib.hid hcell
      have HROW := Lib.hid hr
      clear hr ho hcell
      go_wp2
      go_loopw [10] (fun iv wr => wr = W2 ∧ ∃ i : Nat, i ≤ r.opened.length ∧ iv = .int .i64 i ∧ Hid (∀ j (hj : j < r.opened.length), j < i → r.opened[j]'hj ≠ x)) (fun iv _ => r.opened.length - (intOf iv).toNat)
      case atStart => exact ⟨rfl, 0, Nat.zero_le _, rfl, Lib.hid (fun j _ hj => absurd hj (Nat.not_lt_zero _))⟩
      case round =>
        obtain ⟨rfl, i, hil, rfl, hno⟩ := hrel
        have HNO := Lib.hid hno.out
        clear hno
        by_cases hlt : i < r.opened.length
        · have g1 : decide ((i : Int) < (r.opened.length : Int)) = true := decide_eq_true (by omega)
          obtain ⟨g, rfl, hci⟩ := HCL.out i hlt
          have hil2 : i < 1000 := by omega
          have hcapi : r.opened.length ≤ cap := by
            rcases HOW.out.2 with ⟨e, _⟩ | ⟨_, _, _, e, _, _, h1, _⟩
            · cases e
            · injection e with _ _ e3; subst e3; exact h1
          obtain ⟨y, hy⟩ : ∃ y, r.opened[i]'hlt = y := ⟨_, rfl⟩
          have HY := Lib.hid hy
          rw [hy] at hci
          have HQ := strEqV y x
          clear hy
          by_cases hyx : y = x
          · have HQ2 : ((bytes y).toList == (bytes x).toList) = true := by rw [HQ]; exact decide_eq_true hyx
            have hmem : x ∈ r.opened := by rw [← hyx, ← HY.out]; exact List.getElem_mem hlt
            have HXF : Hid (openT r x most = ([], 1) ∧ openS r x most = r) := Lib.hid (by
              obtain ⟨t, ht⟩ := HIN.out x hmem
              unfold openT openS
              rw [ht]
              simp only
              rw [if_pos hmem, if_pos hmem]
              exact ⟨rfl, rfl⟩)
            clear HQ hyx hmem HY
            go_wp2
            go_ret2
            exact ⟨by rw [HXF.out.1]; rfl, by rw [HXF.out.2]; exact H1.out, Turns.of_below HBB.out⟩
          · have HQ2 : ((bytes y).toList == (bytes x).toList) = false := by rw [HQ]; exact decide_eq_false hyx
            have HN2 : Hid (∀ j (hj : j < r.opened.length), j < i + 1 → r.opened[j]'hj ≠ x) := Lib.hid (fun j hj hji => by
              rcases Nat.lt_or_ge j i with h | h
              · exact HNO.out j hj h
              · have : j = i := by omega
                subst this
                rw [HY.out]
                exact hyx)
            clear HQ hyx HY
            go_wp2
            go_roundw
            case rel => exact ⟨by trivial, i + 1, hlt, by go_num, HN2⟩
            case measure => simp [intOf]; omega
        · have g1 : decide ((i : Int) < (r.opened.length : Int)) = false := decide_eq_false (by omega)
          have hnm : x ∉ r.opened := by
            intro hx
            obtain ⟨j, hj, e⟩ := List.mem_iff_getElem.1 hx
            exact HNO.out j hj (by omega) e
          clear hil
          cases ex with
          | true =>
            have HXF : Hid (openT r x most = ([], 5) ∧ openS r x most = r) := Lib.hid (by
              have hl3 : r.look x = some none := HL2.out
              unfold openT openS
              rw [hl3]
              exact ⟨rfl, rfl⟩)
            clear hnm
            go_wp2
            go_ret2
            exact ⟨by rw [HXF.out.1]; rfl, by rw [HXF.out.2]; exact H1.out, Turns.of_below HBB.out⟩
          | false =>
            have hl3 : r.look x = some (some vl) := HL2.out
            have e5 : ((bytes vl).size : Int) = (vl.length : Int) := by rw [bytesL_len]
            by_cases hmo : most < (r.n : Int) + vl.length
            · have g2 : decide (most < (r.n : Int) + (vl.length : Int)) = true := decide_eq_true hmo
              have HXF : Hid (openT r x most = ([], 3) ∧ openS r x most = r) := Lib.hid (by
                unfold openT openS
                rw [hl3]
                simp only
                rw [if_neg hnm, if_neg hnm, if_pos hmo, if_pos hmo]
                exact ⟨rfl, rfl⟩)
              have HD : Hid (Below wr.heap.size wr wr.drew) := Lib.hid (Below.refl _ _).drew
              clear hnm hl3 hmo
              go_wp2
              go_region
              go_wp2
              go_ret2
              exact ⟨by rw [HXF.out.1]; rfl, by rw [HXF.out.2]; exact H1.out.other HD.out, (Turns.of_below HBB.out).other HD.out⟩
            · have g2 : decide (most < (r.n : Int) + (vl.length : Int)) = false := decide_eq_false hmo
              have HXF : Hid (openT r x most = (vl, 0) ∧ openS r x most = ⟨r.look, r.opened ++ [x], r.n + vl.length⟩) := Lib.hid (by
                unfold openT openS
                rw [hl3]
                simp only
                rw [if_neg hnm, if_neg hnm, if_neg hmo, if_neg hmo]
                exact ⟨rfl, rfl⟩)
              clear hnm hl3 hmo
              go_wp2
              go_region
              obtain ⟨y, hy⟩ : ∃ y, r.n + vl.length = y := ⟨_, rfl⟩
              have hyI : (r.n : Int) + (vl.length : Int) = (y : Int) := by omega
              have hy2 : y ≤ 1100000 := by omega
              rw [hy] at HXF
              clear hy
              go_wp2
              go_region
              rw [hyI]
              have HM3 : Hid (MA p ev l ⟨r.look, r.opened, y⟩ (wr.setCell ⟨p, 3, none⟩ (.int .i64 (y : Int))).drew.drew) := Lib.hid ((H1.out.spend y).other (Below.refl _ _).drew.drew)
              have HT3 : Hid (Turns (fun k => k = p) w (wr.setCell ⟨p, 3, none⟩ (.int .i64 (y : Int))).drew.drew) := Lib.hid ((Turns.setCell (F := fun k => k = p) (Turns.of_below HBB.out) (p := ⟨p, 3, none⟩) (Or.inl rfl) _).drew.drew)
              have hpz : z ≠ p := by have := H.out.lt; omega
              have hz3 : (wr.setCell ⟨p, 3, none⟩ (.int .i64 (y : Int))).drew.drew.rowIs z 26 3 (fun i => if i = 0 then .string (bytes nm) else if i = 1 then .string (bytes vl) else .bool false) := (HE2.out.setOther (a := ⟨p, 3, none⟩) hpz _)
              obtain ⟨W3, hW3⟩ : ∃ W3, (wr.setCell ⟨p, 3, none⟩ (.int .i64 (y : Int))).drew.drew = W3 := ⟨_, rfl⟩
              rw [hW3] at HM3 HT3 hz3 ⊢
              have HZ3 := Lib.hid hz3
              clear hz3 hW3 c4 c3 f3 f4 x0 x1 x2 HOW HCL HROW HE2 H1 HBB HNO hyI
              obtain ⟨nv3, hr3, ho3⟩ := HM3.out.row
              have hc4 : W3.cell? ⟨p, 4, none⟩ = some nv3 := hr3.cell (i := 4) (by decide)
              obtain ⟨a3, cap3, rfl, _⟩ := own_names ho3
              have hb3 := (Below.refl W3.heap.size W3).alloc (Nat.le_refl _) (.cells #[] 9)
              have hp3 := HM3.out.lt
              have c4a : (W3.alloc (.cells #[] 9)).cell? ⟨p, 4, none⟩ = some (.slice a3 r.opened.length cap3) := by rw [hb3.cell (p := ⟨p, 4, none⟩) hp3]; exact hc4
              have hN3 : (W3.alloc (.cells #[] 9)).ownsRow (p + 1) 9 1 (.slice a3 r.opened.length cap3) r.opened.length (rowS r.opened) := owns_keep ho3 fun g hg => hb3.block g (owns_block ho3 g hg).2
              have hO3 := own_noname W3
              have HR3 := Lib.hid hr3
              have HB3 := Lib.hid hb3
              have HN3 := Lib.hid hN3
              have HO3 := Lib.hid hO3
              clear hr3 ho3 hc4 hb3 hN3 hO3
              obtain ⟨i0, hi, hz0, hz1, hz2⟩ := info_strV
              go_wp2_with (first
                | (at_builtin; refine wpList_append_names rfl _ _ rfl W3.heap.size _ rfl HO3.out (p + 1) _ r.opened rfl HN3.out hsm HB3.out.size (blk_leV _ _ _) ?_; intro v4 W4 hown4 hgr4; have HB4 := Lib.hid (HB3.out.trans hgr4); have HO4 := Lib.hid hown4; obtain ⟨a4, k4, rfl, _⟩ := own_names hown4; clear hgr4 hown4)
                | (at_builtin; refine wpList_append_own _ rfl _ _ 36 rfl W3.heap.size 9 i0 (.string ⟨#[]⟩) 1 16 Tryz.underlying36 hi hz0 hz1 hz2 rfl (by decide) _ _ _ rfl (World.ownsRow.alloc HO4.out _) ⟨W4.heap.size, 0, none⟩ 1 1 [.string (bytes x)] rfl rfl (cell_oneV _ _ _) (by intro u hu; simp at hu; subst hu; rfl) (by unfold maxLen; omega) (by omega) (by have := HB4.out.size; simp; omega) ?_; intro v5 W5 hown5 hgr5 _; have HB5 := Lib.hid ((HB4.out.alloc HB4.out.size _).grown hgr5 (by have := HB4.out.size; simp; omega) (own_ge HO4.out)); have HO5 := Lib.hid (rowS_more hown5); obtain ⟨a5, k5, rfl⟩ : ∃ a k, v5 = .slice a (r.opened.length + 1) k := (by obtain ⟨a, k, e, _⟩ := own_names HO5.out; exact ⟨a, k, by rw [List.length_append] at e; exact e⟩); have hr5 := HR3.out.of_block (HB5.out.block p hp3); have c5 := hr5.cell (i := 4) (by decide); have f5 := hr5.frozen 4; have x5 := ((HZ3.out.of_block (HB5.out.block z HZ3.out.lt)).setOther (a := ⟨p, 4, none⟩) hpz (.slice a5 (r.opened.length + 1) k5)).cell (i := 1) (show 1 < 3 by decide); have c5' : W5.cell? ⟨p, 4, none⟩ = some (.slice a3 r.opened.length cap3) := c5; have x5' : (W5.setCell ⟨p, 4, none⟩ (.slice a5 (r.opened.length + 1) k5)).cell? ⟨z, 1, none⟩ = some (.string (bytes vl)) := x5; clear c5 x5 hr5 hgr5 hown5))
              go_ret2
              refine ⟨by rw [HXF.out.1]; rfl, ?_, Turns.setCell (F := fun k => k = p) (HT3.out.trans (Turns.of_below HB5.out)) (p := ⟨p, 4, none⟩) (Or.inl rfl) _⟩
              rw [HXF.out.2]
              exact HM3.out.named (r.opened ++ [x]) (.slice a5 (r.opened.length + 1) k5) HB5.out (own_base HO5.out hp3)
end
end Go.Proofs.YtjijjmkeehdooaaGreatDoor

namespace Go.Proofs.YtjijjmkeehdooaaGreatDoor
open Go.RowKit

theorem pre_state (a : List UInt8) (v : VRes) : (preV a v).2.2 = v.2.2 := by
  unfold preV; split <;> rfl
theorem LV_more (D : Nat) (most : Int) (ins : Bool) (r : RefD) (q : List UInt8) : r.n ≤ (LV (valD most D) most ins r q).2.2.n := (loop_kept (valD_kept most D) most ins q.length [] r q).more
/-- what must hold where value is called -/
structure Fine (D : Nat) (most : Int) (l : List EntD) (s : List UInt8) (r : RefD) (ins : Bool) : Prop where
  room : RoomD r D
  short : s.length ≤ 100000
  few : l.length ≤ 100000
  small : ∀ e ∈ l, e.value.length ≤ 100000
  cap : (rawV D r s most ins).2.2.n ≤ 1000000
  inn : ∀ y ∈ r.opened, ∃ t, r.look y = some (some t)
  deep : r.opened.length + D ≤ 1000
/-- where its loop stands -/
structure LoopV (D : Nat) (most : Int) (ins : Bool) (R : VRes) (s : List UInt8) (r0 : RefD) (i : Nat) (o : List UInt8) (r : RefD) : Prop where
  res : preV o (LV (valD most D) most ins r (s.drop i)) = R
  look : r.look = r0.look
  opened : r.opened = r0.opened
  sum : o.length + (s.length - i) ≤ 100000 + r.n
theorem LoopV.n_le {D : Nat} {most : Int} {ins : Bool} {R : VRes} {s : List UInt8} {r0 r : RefD} {i : Nat} {o : List UInt8} (h : LoopV D most ins R s r0 i o r) : r.n ≤ R.2.2.n := by
  rw [← h.res, pre_state]
  exact LV_more ..
def GivesV (p : Nat) (ev : Value) (l : List EntD) (v : VRes) (w : World) (e : Ending) (w' : World) : Prop :=
  e = .returned (.tuple #[.string (bytes v.1), .int .i64 v.2.1]) ∧ MA p ev l v.2.2 w' ∧ Turns (fun k => k = p) w w'
def CtrV (p : Nat) (ev : Value) (l : List EntD) (most : Int) (D : Nat) : Prop := ∀ (s : List UInt8) (r : RefD) (ins : Bool) (w : World), MA p ev l r w → Fine D most l s r ins →
    Calls Tryz.prog 25 #[.pointer (some ⟨p, 0, none⟩), .string (bytes s), .int .i64 most, .bool ins] w (GivesV p ev l (rawV D r s most ins) w)
set_option maxHeartbeats 4000000 in
set_option maxRecDepth 100000 in
theorem rvalue_step (p : Nat) (ev : Value) (l : List EntD) (most : Int) (D : Nat) (ih : ∀ d, D = d + 1 → CtrV p ev l most d) : CtrV p ev l most D := by
  intro s r ins w hM hF
  obtain ⟨R, hR⟩ : ∃ R, rawV D r s most ins = R := ⟨_, rfl⟩
  have HRn : Hid (R.2.2.n ≤ 1000000) := Lib.hid (by rw [← hR]; exact hF.cap)
  have HL0 : Hid (LoopV D most ins R s r 0 [] r) := Lib.hid ⟨by
    rw [List.drop_zero, ← hR]
    exact (LV_self s).symm, rfl, rfl, by have := hF.short; show 0 + (s.length - 0) ≤ _; omega⟩
  rw [hR]
  have HF := Lib.hid hF
  have HM := Lib.hid hM
  have IH := Lib.hid ih
  have hsl := hF.short
  have e1 : ((bytes s).size : Int) = (s.length : Int) := by rw [bytesL_len]
  clear hR hF hM ih
  go_enter Tryz.func25, Tryz.ntmps25
  go_wp2
  go_loopw [10, 11] (fun ov iv wr => ∃ (i : Nat) (o : List UInt8) (r' : RefD), i ≤ s.length ∧ iv = .int .i64 i ∧ ov = .string (bytes o) ∧ Hid (LoopV D most ins R s r i o r') ∧ Hid (MA p ev l r' wr) ∧ Hid (Turns (fun k => k = p) w wr)) (fun _ iv _ => s.length - (intOf iv).toNat)
  case atStart => exact ⟨0, [], r, Nat.zero_le _, rfl, rfl, HL0, HM, Lib.hid (Turns.refl _ _)⟩
  case round =>
    obtain ⟨i, o, r', hil, rfl, rfl, hL, hM', hT⟩ := hrel
    have HL := Lib.hid hL.out
    have HM' := Lib.hid hM'.out
    have HT := Lib.hid hT.out
    have hol := hL.out.sum
    have hrn := hL.out.n_le
    have hRn := HRn.out
    have hosm : o.length ≤ 1100000 := by omega
    clear hL hM' hT HL0 hol hrn hRn
    by_cases hlt : i < s.length
    · have g1 : decide ((i : Int) < (s.length : Int)) = true := decide_eq_true (by omega)
      have hi' : i < (bytes s).size := by rw [bytesL_len]; exact hlt
      obtain ⟨b, hb⟩ : ∃ b, s[i]'hlt = b := ⟨_, rfl⟩
      obtain ⟨x, hx⟩ : ∃ x, ((bytes s)[i]'hi').toNat = x := ⟨_, rfl⟩
      have hxb : b.toNat = x := by rw [← hb]; exact hx
      have hdr : s.drop i = b :: s.drop (i + 1) := by rw [← hb]; exact List.drop_eq_getElem_cons hlt
      have HRES := Lib.hid HL.out.res
      rw [hdr] at HRES
      by_cases hb38 : b = 38
      · subst hb38
        obtain rfl : x = 38 := by rw [← hxb]; rfl
        have k60 : (((38 : Nat) : Int) == 60) = false := by decide
        have k38 : (((38 : Nat) : Int) != 38) = false := by decide
        have CR := Lib.hid (fun W => rref_any s i hlt hb hsl W)
        cases hr : refL (38 :: s.drop (i + 1)) with
        | none =>
          have hrt : rtokV s i = .agg #[.int .i64 0, .string ⟨#[]⟩, .string ⟨#[]⟩, .slice none 0 0, .bool false, .int .i64 0] := by unfold rtokV; rw [hdr, hr]; rfl
          rw [hrt] at CR
          have HV : Hid (R = ([], 2, r')) := Lib.hid (by
            rw [← HRES.out, LV_amp, hr]
            exact preV_bad (by decide) _ _ _)
          clear hrt hr HRES hdr hxb hb HL
          go_wp2_with fail
          refine (CR.out _).mono ?_
          rintro e w2 ⟨rfl, hb2⟩
          have HM2 := Lib.hid (HM'.out.other hb2)
          have HT2 := Lib.hid (HT.out.other hb2)
          clear hb2
          have hbx := (Below.refl w2.heap.size w2).alloc (Nat.le_refl _) (.cells #[.int .i64 0, .string ⟨#[]⟩, .string ⟨#[]⟩, .slice none 0 0, .bool false, .int .i64 0] 92)
          have HM3 := Lib.hid (HM2.out.other hbx)
          have HT3 := Lib.hid (HT2.out.other hbx)
          clear hbx HM2 HT2
          go_wp2
          go_ret2
          exact ⟨by rw [HV.out]; rfl, by rw [HV.out]; exact HM3.out, HT3.out⟩
        | some kn =>
          obtain ⟨⟨kd, nm, tx, at2, em⟩, n⟩ := kn
          obtain ⟨hn0, hn1, hn2⟩ := refL_len hr
          obtain ⟨j, hj⟩ : ∃ j, i + n = j := ⟨_, rfl⟩
          have hij : i < j := by omega
          have hjl : j ≤ s.length := by rw [← hdr, List.length_drop] at hn1; omega
          have hdj : (38 :: s.drop (i + 1)).drop n = s.drop j := by rw [← hdr, List.drop_drop, ← hj]
          have hrt : rtokV s i = .agg #[.int .i64 (kd : Int), .string nm, .string tx, .slice none 0 0, .bool false, .int .i64 (j : Int)] := by unfold rtokV; rw [hdr, hr]; show tokV _ _ _ ((i + n : Nat) : Int) = _; rw [hj]; rfl
          rw [hrt] at CR
          have j0 : ((j : Int) == 0) = false := by rw [beq_eq_false_iff_ne]; omega
          obtain ⟨y, hy⟩ : ∃ y, nm.data.toList = y := ⟨_, rfl⟩
          have hnm : nm = bytes y := by rw [← hy]; rfl
          subst hnm
          clear hy
          by_cases h7 : kd = 7
          · subst h7
            obtain ⟨q, hq⟩ : ∃ q, tx.data.toList = q := ⟨_, rfl⟩
            have htx : tx = bytes q := by rw [← hq]; rfl
            subst htx
            clear hq
            have hqn : q.length ≤ n := hn2 rfl
            have k7 : (((7 : Nat) : Int) == 7) = true := by decide
            have HN : Hid (LoopV D most ins R s r j (o ++ q) r') := Lib.hid ⟨by
              rw [← HRES.out, LV_amp, hr]
              simp only
              rw [if_pos trivial, hdj, preV_pre]
              rfl, HL.out.look, HL.out.opened, by
              have := HL.out.sum
              rw [List.length_append]
              omega⟩
            have z1 : (9223372036854775807 < (bytes o).size + (bytes q).size) = False := eq_false (by rw [bytesL_len, bytesL_len]; omega)
            clear hrt hr HRES hdr hxb hb HL hn2 hdj hqn
            go_wp2_with fail
            refine (CR.out _).mono ?_
            rintro e w2 ⟨rfl, hb2⟩
            have hbx := hb2.alloc hb2.size (.cells #[.int .i64 7, .string (bytes y), .string (bytes q), .slice none 0 0, .bool false, .int .i64 (j : Int)] 92)
            have HM3 := Lib.hid (HM'.out.other hbx)
            have HT3 := Lib.hid (HT.out.other hbx)
            clear hbx hb2
            go_wp2
            go_roundw
            case rel => exact ⟨j, _, r', hjl, rfl, by rw [bytes_app], HN, HM3, HT3⟩
            case measure => simp [intOf]; omega
          · have k7 : ((kd : Int) == 7) = false := by rw [beq_eq_false_iff_ne]; omega
            obtain ⟨S, hS⟩ : ∃ S, stepV (valD most D) most r' y = S := ⟨_, rfl⟩
            have hq : preV o (if S.2.1 ≠ 0 then ([], S.2.1, S.2.2) else preV S.1 (LV (valD most D) most ins S.2.2 (s.drop j))) = R := by
              rw [← HRES.out, LV_amp, hr]
              simp only
              have hS' : stepV (valD most D) most r' (bytes y).data.toList = S := hS
              rw [if_neg h7, hdj, hS']
            have HQ := Lib.hid hq
            have HSK : Hid (S.2.2.look = r'.look ∧ r'.n ≤ S.2.2.n ∧ (S.2.1 = 0 → S.2.2.opened = r'.opened) ∧ S.1.length + r'.n ≤ 1 + S.2.2.n ∧ (S.2.1 ≠ 0 → S.1 = [])) := Lib.hid (by rw [← hS]; exact step_kept (valD_kept most D) most r' y)
            have HSN : Hid (S.2.2.n ≤ 1000000) := Lib.hid (by
              refine Nat.le_trans ?_ HRn.out
              rw [← hq, pre_state]
              by_cases h0 : S.2.1 = 0
              · rw [if_neg (fun h => h h0), pre_state]; exact LV_more ..
              · rw [if_pos h0]; exact Nat.le_refl _)
            have HBAD : Hid (S.2.1 ≠ 0 → R = ([], S.2.1, S.2.2)) := Lib.hid (fun h0 => by
              rw [← hq, if_pos h0]
              exact preV_bad h0 _ _ _)
            have HGO : Hid (S.2.1 = 0 → LoopV D most ins R s r j (o ++ S.1) S.2.2) := Lib.hid (fun h0 => ⟨by
              rw [← hq, if_neg (fun h => h h0), preV_pre], HSK.out.1.trans HL.out.look, (HSK.out.2.2.1 h0).trans HL.out.opened, by
              have := HL.out.sum
              have := HSK.out.2.2.2.1
              rw [List.length_append]
              omega⟩)
            have HST := Lib.hid hS
            have hr'n : r'.n ≤ 1000000 := Nat.le_trans HSK.out.2.1 HSN.out
            have hr'o : r'.opened.length + D ≤ 1000 := by rw [HL.out.opened]; exact HF.out.deep
            clear hrt hr HRES hdr hxb hb hn2 hdj hq hS h7
            go_wp2_with fail
            refine (CR.out _).mono ?_
            rintro e w2 ⟨rfl, hb2⟩
            go_wp2_with fail
            refine (rfive_any y _).mono ?_
            rintro e w3 ⟨rfl, rfl⟩
            have hbx := hb2.alloc hb2.size (.cells #[.int .i64 (kd : Int), .string (bytes y), .string tx, .slice none 0 0, .bool false, .int .i64 (j : Int)] 92)
            have hzr := World.rowIs_alloc w2 #[.int .i64 (kd : Int), .string (bytes y), .string tx, .slice none 0 0, .bool false, .int .i64 (j : Int)] 92 (fun i => if i = 0 then .int .i64 (kd : Int) else if i = 1 then .string (bytes y) else if i = 2 then .string tx else if i = 3 then .slice none 0 0 else if i = 4 then .bool false else .int .i64 (j : Int)) (by
              intro i hi
              rcases (show i = 0 ∨ i = 1 ∨ i = 2 ∨ i = 3 ∨ i = 4 ∨ i = 5 by have : i < 6 := hi; omega) with rfl | rfl | rfl | rfl | rfl | rfl <;> rfl)
            have hzs : wr.heap.size ≤ w2.heap.size := hb2.size
            obtain ⟨W, hW⟩ : ∃ W, w2.alloc (.cells #[.int .i64 (kd : Int), .string (bytes y), .string tx, .slice none 0 0, .bool false, .int .i64 (j : Int)] 92) = W := ⟨_, rfl⟩
            rw [hW] at hbx hzr ⊢
            clear hW
            obtain ⟨z, hz⟩ : ∃ z, w2.heap.size = z := ⟨_, rfl⟩
            rw [hz] at hzr hzs ⊢
            have hzp : z ≠ p := by have := HM'.out.lt; omega
            have x1 : W.cell? ⟨z, 1, none⟩ = some (.string (bytes y)) := hzr.cell (i := 1) (show 1 < 6 by decide)
            have HZ := Lib.hid hzr
            have HM3 := Lib.hid (HM'.out.other hbx)
            have HT3 := Lib.hid (HT.out.other hbx)
            clear hbx hb2 hz hzr hzs CR
            cases h5 : fiveL y with
            | some c =>
              have q1 : (!(fiveS y).toList.isEmpty) = true := by rw [fiveS_empty, h5]; rfl
              have q2 : fiveS y = bytes [c] := by unfold fiveS; rw [h5]
              have hS1 : S = ([c], 0, r') := by rw [← HST.out]; unfold stepV; rw [h5]
              have HN : Hid (LoopV D most ins R s r j (o ++ [c]) r') := Lib.hid (by have := HGO.out (by rw [hS1]); rw [hS1] at this; exact this)
              rw [q2] at q1 ⊢
              have z1 : (9223372036854775807 < (bytes o).size + (bytes [c]).size) = False := eq_false (by rw [bytesL_len, bytesL_len]; show ¬ 9223372036854775807 < o.length + 1; omega)
              have z2 : (9223372036854775807 < (bytes o).size + 1) = False := eq_false (by rw [bytesL_len]; omega)
              clear h5 q2 hS1 HBAD HGO HST HSK HSN HQ
              go_wp2
              go_roundw
              case rel => exact ⟨j, _, r', hjl, rfl, by rw [bytes_app], HN, HM3, HT3⟩
              case measure => simp [intOf]; omega
            | none =>
              have q1 : (!(fiveS y).toList.isEmpty) = false := by rw [fiveS_empty, h5]; rfl
              have hinn : ∀ y ∈ r'.opened, ∃ t, r'.look y = some (some t) := by rw [HL.out.opened, HL.out.look]; exact HF.out.inn
              have CO := Lib.hid (ropen_any HM3.out y most (by omega) hr'n HF.out.few HF.out.small hinn)
              have HINN := Lib.hid hinn
              clear hinn
              go_wp2_with fail
              refine CO.out.mono ?_
              rintro e w4 ⟨rfl, hm4, ht4⟩
              have x2 : w4.cell? ⟨z, 1, none⟩ = some (.string (bytes y)) := (HZ.out.of_block (ht4.block z HZ.out.lt hzp)).cell (i := 1) (show 1 < 6 by decide)
              have HZ4 := Lib.hid (HZ.out.of_block (ht4.block z HZ.out.lt hzp))
              have HM4 := Lib.hid hm4
              have HT4 := Lib.hid (HT3.out.trans ht4)
              obtain ⟨t, ht⟩ : ∃ t, (openT r' y most).1 = t := ⟨_, rfl⟩
              obtain ⟨c, hc⟩ : ∃ c, (openT r' y most).2 = c := ⟨_, rfl⟩
              rw [ht, hc]
              clear hm4 ht4 CO x1 HZ HM3 HT3
              by_cases c3 : c = 3
              · subst c3
                have hS1 : S = ([], 3, openS r' y most) := by rw [← HST.out]; unfold stepV; rw [h5]; simp only; rw [if_pos hc]
                have HB := Lib.hid (HBAD.out (by rw [hS1]; show (3 : Int) ≠ 0; decide))
                rw [hS1] at HB
                clear h5 hS1 HBAD HGO HST HSK HSN HQ ht hc
                go_wp2
                go_ret2
                exact ⟨by rw [HB.out]; rfl, by rw [HB.out]; exact HM4.out, HT4.out⟩
              · have k3 : (c == 3) = false := by rw [beq_eq_false_iff_ne]; exact c3
                by_cases c0 : c = 0
                · subst c0
                  obtain ⟨hx, _, _, hSo⟩ := open_ok hc
                  have hroom : RoomD r' D := by
                    obtain ⟨m, h1, h2⟩ := HF.out.room
                    exact ⟨m, h1, by rw [HL.out.look, HL.out.opened]; exact h2⟩
                  obtain ⟨hD, hroom2⟩ := hroom.opens hc
                  obtain ⟨d, rfl⟩ : ∃ d, D = d + 1 := ⟨D - 1, by omega⟩
                  rw [show d + 1 - 1 = d from rfl] at hroom2
                  rw [ht] at hx hSo
                  have htl : t.length ≤ 100000 := by
                    obtain ⟨_, e, he, _, ho⟩ := lookE_mem (l := l) (x := y) (o := some t) (by rw [← HM'.out.look]; exact hx)
                    by_cases hext : e.ext = true
                    · rw [if_pos hext] at ho; cases ho
                    · rw [if_neg hext] at ho
                      injection ho with ho
                      rw [ho]
                      exact HF.out.small e he
                  obtain ⟨⟨v1, v2, v3⟩, hv⟩ : ∃ v, rawV d (openS r' y most) t most true = v := ⟨_, rfl⟩
                  have hSv : S = if v2 ≠ 0 then ([], v2, v3) else (v1, 0, closeS v3 y) := by
                    rw [← HST.out]
                    unfold stepV
                    rw [h5]
                    simp only
                    rw [if_neg (by rw [hc]; decide), if_neg (by rw [hc]; decide), ht]
                    have hv' : valD most (d + 1) (openS r' y most) t = (v1, v2, v3) := hv
                    rw [hv']
                  have hcn : (closeS v3 y).n = v3.n := by unfold closeS; split <;> rfl
                  have hvn : v3.n ≤ 1000000 := by
                    have := HSN.out
                    rw [hSv] at this
                    by_cases h0 : v2 = 0
                    · rw [if_neg (fun h => h h0)] at this
                      have h2 : (closeS v3 y).n ≤ 1000000 := this
                      rw [hcn] at h2
                      exact h2
                    · rw [if_pos h0] at this; exact this
                  have hvk : v2 = 0 → v3.opened = (openS r' y most).opened := by
                    have := (loop_kept (valD_kept most d) most true t.length [] (openS r' y most) t).opened
                    have e : loopV (valD most d) most true t.length [] (openS r' y most) t = (v1, v2, v3) := hv
                    rw [e] at this
                    exact this
                  have hfine : Fine d most l t (openS r' y most) true := ⟨hroom2, htl, HF.out.few, HF.out.small, by rw [hv]; exact hvn, by
                    rw [hSo]
                    intro q hq
                    rcases List.mem_append.1 hq with hq | hq
                    · exact HINN.out q hq
                    · rw [List.mem_singleton.1 hq]; exact ⟨t, hx⟩, by
                    rw [hSo]
                    show (r'.opened ++ [y]).length + d ≤ 1000
                    rw [List.length_append]
                    show r'.opened.length + 1 + d ≤ 1000
                    omega⟩
                  have hol : v2 = 0 → v3.opened.length ≤ 1000 := fun h0 => by
                    rw [hvk h0, hSo]
                    show (r'.opened ++ [y]).length ≤ 1000
                    rw [List.length_append]
                    show r'.opened.length + 1 ≤ 1000
                    omega
                  have CI := Lib.hid (IH.out d rfl t (openS r' y most) true w4 HM4.out hfine)
                  rw [hv] at CI
                  have HOL := Lib.hid hol
                  have HSV := Lib.hid hSv
                  clear hol hfine hvk hvn hcn hSv hv htl hroom hroom2 hx hSo hD h5 ht hc c3 HQ HF HINN
                  go_wp2_with fail
                  refine CI.out.mono ?_
                  intro e w5 hg
                  obtain ⟨rfl, hm5, ht5⟩ := hg
                  have hm5' : MA p ev l v3 w5 := hm5
                  have x3 : w5.cell? ⟨z, 1, none⟩ = some (.string (bytes y)) := (HZ4.out.of_block (ht5.block z HZ4.out.lt hzp)).cell (i := 1) (show 1 < 6 by decide)
                  have HM5 := Lib.hid hm5'
                  have HT5 := Lib.hid (HT4.out.trans ht5)
                  clear hm5 ht5 hm5' CI x2
                  by_cases v0 : v2 = 0
                  · subst v0
                    have hS2 : S = (v1, 0, closeS v3 y) := HSV.out.trans (if_neg (fun h => h rfl))
                    have HN : Hid (LoopV (d + 1) most ins R s r j (o ++ v1) (closeS v3 y)) := Lib.hid (by have := HGO.out (by rw [hS2]); rw [hS2] at this; exact this)
                    have hvl : v1.length ≤ 1000001 := by
                      have h1 := HSK.out.2.2.2.1
                      have h2 := HSN.out
                      rw [hS2] at h1 h2
                      have h1' : v1.length + r'.n ≤ 1 + (closeS v3 y).n := h1
                      have h2' : (closeS v3 y).n ≤ 1000000 := h2
                      omega
                    have z1 : (9223372036854775807 < (bytes o).size + (bytes v1).size) = False := eq_false (by rw [bytesL_len, bytesL_len]; omega)
                    have CC := Lib.hid (rclose_any HM5.out y (HOL.out rfl))
                    clear hS2 HBAD HGO HST HSK HSN HOL HSV
                    go_wp2_with fail
                    refine CC.out.mono ?_
                    rintro e w6 ⟨rfl, hm6, ht6⟩
                    have HM6 := Lib.hid hm6
                    have HT6 := Lib.hid (HT5.out.trans ht6)
                    clear hm6 ht6 CC
                    go_wp2
                    go_roundw
                    case rel => exact ⟨j, _, closeS v3 y, hjl, rfl, by rw [bytes_app], HN, HM6, HT6⟩
                    case measure => simp [intOf]; omega
                  · have k0 : (v2 != 0) = true := by rw [bne_iff_ne]; exact v0
                    have hS2 : S = ([], v2, v3) := HSV.out.trans (if_pos v0)
                    have HB := Lib.hid (HBAD.out (by rw [hS2]; exact v0))
                    rw [hS2] at HB
                    clear hS2 HBAD HGO HST HSK HSN HOL HSV v0
                    go_wp2
                    go_ret2
                    exact ⟨by rw [HB.out]; rfl, by rw [HB.out]; exact HM5.out, HT5.out⟩
                · have k0 : (c != 0) = true := by rw [bne_iff_ne]; exact c0
                  have hS1 : S = ([], 2, openS r' y most) := by rw [← HST.out]; unfold stepV; rw [h5]; simp only; rw [if_neg (by rw [hc]; exact c3), if_pos (by rw [hc]; exact c0)]
                  have HB := Lib.hid (HBAD.out (by rw [hS1]; show (2 : Int) ≠ 0; decide))
                  rw [hS1] at HB
                  clear h5 hS1 HBAD HGO HST HSK HSN HQ ht hc c3 c0
                  go_wp2
                  go_ret2
                  exact ⟨by rw [HB.out]; rfl, by rw [HB.out]; exact HM4.out, HT4.out⟩
      · by_cases htag : b = 60 ∧ ins = true
        · obtain ⟨rfl, rfl⟩ := htag
          obtain rfl : x = 60 := by rw [← hxb]; rfl
          have HV : Hid (R = ([], 2, r')) := Lib.hid (by
            rw [← HRES.out, LV_tag rfl]
            exact preV_bad (by decide) _ _ _)
          clear HRES hdr hxb
          go_wp2
          go_ret2
          exact ⟨by rw [HV.out]; rfl, by rw [HV.out]; exact HM'.out, HT.out⟩
        · have k38 : ((x : Int) != 38) = true := by
            rw [bne_iff_ne]; intro e
            exact hb38 (UInt8.toNat_inj.1 (show b.toNat = 38 by omega))
          have hpl : plainV ins b = true := by
            unfold plainV
            rw [decide_eq_true hb38]
            cases ins
            · simp
            · have : ¬ b = 60 := fun e => htag ⟨e, rfl⟩
              simp [this]
          have HN : Hid (LoopV D most ins R s r (i + 1) (o ++ [spB b]) r') := Lib.hid ⟨by
            rw [← HRES.out, LV_plain hpl, preV_pre], HL.out.look, HL.out.opened, by
            have := HL.out.sum
            rw [List.length_append]
            show o.length + 1 + _ ≤ _
            omega⟩
          obtain ⟨tg, htg⟩ : ∃ tg : Bool, ((x : Int) == 60) = tg := ⟨_, rfl⟩
          have htg2 : tg = true → ins = false := fun h => by
            cases ins
            · rfl
            · exact absurd ⟨UInt8.toNat_inj.1 (show b.toNat = 60 by rw [h, beq_iff_eq] at htg; omega), rfl⟩ htag
          obtain ⟨sp, hsp⟩ : ∃ sp : Bool, spaceB (x : Int) = sp := ⟨_, rfl⟩
          have CS := Lib.hid (fun W => refSpace_any (x : Int) W)
          rw [hsp] at CS
          have HSB : Hid (spB b = if sp = true then 32 else b) := Lib.hid (by
            unfold spB spaceU
            rw [hxb, hsp])
          have HX := Lib.hid (byte_at (bytes s) i hi')
          rw [show (bytes s)[i]'hi' = b from hb] at HX
          have z1 : (9223372036854775807 < (bytes o).size + 1) = False := eq_false (by rw [bytesL_len]; omega)
          have z2 : (9223372036854775807 < (bytes o).size + (min (i + 1) (bytes s).size - i)) = False := eq_false (by rw [bytesL_len, bytesL_len]; omega)
          clear HRES hdr hxb hpl htag hb38 hb HL
          cases tg with
          | true =>
            obtain rfl := htg2 rfl
            clear htg2
            obtain rfl : x = 60 := by rw [beq_iff_eq] at htg; omega
            have hspf : sp = false := by rw [← hsp]; decide
            subst hspf
            clear hsp htg
            rw [if_neg (by decide)] at HSB
            rw [HSB.out] at HN
            have CS6 : Hid (∀ W, Calls Tryz.prog 37 #[.int .i32 60] W fun e w' => e = .returned (.bool false) ∧ W = w') := CS
            clear CS
            go_wp2_with fail
            refine (CS6.out _).mono ?_
            rintro e w2 ⟨rfl, rfl⟩
            go_wp2
            go_roundw
            case rel => exact ⟨i + 1, _, r', hlt, by go_num, by rw [HX.out, bytes_app], HN, HM', HT⟩
            case measure => simp [intOf]; omega
          | false =>
            have hx256 : x < 256 := by rw [← hx]; exact UInt8.toNat_lt _
            have hw32 : wrap32 (x : Int) = (x : Int) := by simp (disch := omega) only [IntWalk.wrap32_in]
            clear htg2 hsp
            cases sp with
            | true =>
              rw [if_pos rfl] at HSB
              rw [HSB.out] at HN
              go_wp2_with fail
              refine (CS.out _).mono ?_
              rintro e w2 ⟨rfl, rfl⟩
              go_wp2
              go_roundw
              case rel => exact ⟨i + 1, _, r', hlt, by go_num, by rw [← bytes_app]; rfl, HN, HM', HT⟩
              case measure => simp [intOf]; omega
            | false =>
              rw [if_neg (by decide)] at HSB
              rw [HSB.out] at HN
              go_wp2_with fail
              refine (CS.out _).mono ?_
              rintro e w2 ⟨rfl, rfl⟩
              go_wp2
              go_roundw
              case rel => exact ⟨i + 1, _, r', hlt, by go_num, by rw [HX.out, bytes_app], HN, HM', HT⟩
              case measure => simp [intOf]; omega
    · have g1 : decide ((i : Int) < (s.length : Int)) = false := decide_eq_false (by omega)
      have HV : Hid (R = (o, 0, r')) := Lib.hid (by
        rw [← HL.out.res, List.drop_eq_nil_of_le (by omega), LV_nil, preV_ok, List.append_nil])
      go_wp2
      go_ret2
      exact ⟨by rw [HV.out]; rfl, by rw [HV.out]; exact HM'.out, HT.out⟩
theorem rvalue_any (p : Nat) (ev : Value) (l : List EntD) (most : Int) : ∀ D, CtrV p ev l most D
  | 0 => rvalue_step p ev l most 0 (fun d h => by omega)
  | D + 1 => rvalue_step p ev l most (D + 1) (fun d h => by
    obtain rfl : D = d := by omega
    exact rvalue_any p ev l most D)
set_option maxHeartbeats 4000000 in
set_option maxRecDepth 100000 in
theorem rval_any (p : Nat) (ev : Value) (l : List EntD) (kind most : Int) (D : Nat) (s : List UInt8) (r : RefD) (w : World) (hM : MA p ev l r w) (hF : Fine D most l s r false) :
    Calls Tryz.prog 13 #[.pointer (some ⟨p, 0, none⟩), .string (bytes s), .int .i64 kind, .int .i64 most] w (GivesV p ev l (readV D r s kind most) w) := by
  have C := Lib.hid (rvalue_any p ev l most D s r false w hM hF)
  have hk := (loop_kept (valD_kept most D) most false s.length [] r s)
  obtain ⟨⟨v1, v2, v3⟩, hv⟩ : ∃ v, rawV D r s most false = v := ⟨_, rfl⟩
  have hl1 : v1.length ≤ 1100000 := by
    have h1 := hk.short
    have e : loopV (valD most D) most false s.length [] r s = (v1, v2, v3) := hv
    rw [e] at h1
    have h1' : v1.length + r.n ≤ 0 + s.length + v3.n := h1
    have h2 := hF.cap
    rw [hv] at h2
    have h2' : v3.n ≤ 1000000 := h2
    have h3 := hF.short
    omega
  rw [hv] at C
  have HV : Hid (readV D r s kind most = if v2 ≠ 0 then ([], v2, v3) else (if kind = 2 then normL v1 else v1, 0, v3)) := Lib.hid (by unfold readV; rw [hv])
  have CN := Lib.hid (fun W => rnorm_any v1 W (by omega))
  clear hk hv hF hM
  by_cases v0 : v2 = 0
  · subst v0
    rw [if_neg (fun h => h rfl)] at HV
    by_cases hk2 : kind = 2
    · have k1 : (kind == 2) = true := by rw [beq_iff_eq]; exact hk2
      rw [if_pos hk2] at HV
      clear hk2
      go_enter Tryz.func13, Tryz.ntmps13
      go_wp2_with fail
      refine C.out.mono ?_
      intro e w5 hg
      obtain ⟨rfl, hm5, ht5⟩ := hg
      have HM5 : Hid (MA p ev l v3 w5) := Lib.hid hm5
      go_wp2_with fail
      refine (CN.out _).mono ?_
      rintro e w6 ⟨rfl, rfl⟩
      go_wp2
      go_ret2
      exact ⟨by rw [HV.out]; rfl, by rw [HV.out]; exact HM5.out, ht5⟩
    · have k1 : (kind == 2) = false := by rw [beq_eq_false_iff_ne]; exact hk2
      rw [if_neg hk2] at HV
      clear hk2
      go_enter Tryz.func13, Tryz.ntmps13
      go_wp2_with fail
      refine C.out.mono ?_
      intro e w5 hg
      obtain ⟨rfl, hm5, ht5⟩ := hg
      have HM5 : Hid (MA p ev l v3 w5) := Lib.hid hm5
      go_wp2
      go_ret2
      exact ⟨by rw [HV.out]; rfl, by rw [HV.out]; exact HM5.out, ht5⟩
  · have k0 : (v2 != 0) = true := by rw [bne_iff_ne]; exact v0
    rw [if_pos v0] at HV
    clear v0
    go_enter Tryz.func13, Tryz.ntmps13
    go_wp2_with fail
    refine C.out.mono ?_
    intro e w5 hg
    obtain ⟨rfl, hm5, ht5⟩ := hg
    have HM5 : Hid (MA p ev l v3 w5) := Lib.hid hm5
    go_wp2
    go_ret2
    exact ⟨by rw [HV.out]; rfl, by rw [HV.out]; exact HM5.out, ht5⟩
end Go.Proofs.YtjijjmkeehdooaaGreatDoor
