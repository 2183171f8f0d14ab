/-
  THE CONTRACT OF brackenref1.Hash.
-/
import Derived.Test.YtkleaedfpgaohaaChecked
import Derived.Test.YtkleaedfpgaohaaTabLaws
import Derived.WalkKit
import Derived.WalkSpells
import Derived.WalkLawsBesides
import Derived.LoopTactic
import Derived.Laws.Bits64
import Derived.Lib.Hide
namespace Go.Proofs.Ytkleaedfpgaohaa
open Go.RowKit

def hashTo (s : ByteArray) (i : Nat) : Nat := hashL 14695981039346656037 (s.data.toList.take i)
theorem hashL_append (h : Nat) (a b : List UInt8) : hashL h (a ++ b) = hashL (hashL h a) b := by
  induction a generalizing h with
  | nil => rfl
  | cons x t ih => exact ih _
theorem hashL_lt : ∀ (l : List UInt8) (h : Nat), h < 18446744073709551616 → hashL h l < 18446744073709551616
  | [], _, h => h
  | b :: t, h, _ => hashL_lt t _ (Nat.mod_lt _ (by decide))
theorem hashTo_lt (s : ByteArray) (i : Nat) : hashTo s i < 18446744073709551616 := hashL_lt _ _ (by decide)
theorem hashTo_next (s : ByteArray) (i : Nat) (h : i < s.size) : hashTo s (i + 1) = (hashTo s i ^^^ (s[i]'h).toNat) * 1099511628211 % 18446744073709551616 := by
  have hl : i < s.data.toList.length := by rw [Array.length_toList]; exact h
  unfold hashTo
  rw [List.take_succ_eq_append_getElem hl, hashL_append]
  rfl
theorem hashTo_all (s : ByteArray) : hashTo s s.size = hashN s := by
  unfold hashTo hashN
  rw [List.take_of_length_le (by rw [Array.length_toList]; exact Nat.le_refl _)]
theorem hash_step (h : Nat) (b : UInt8) (hh : h < 18446744073709551616) : IntKind.u64.wrap (bits .xor .u64 (h : Int) (IntKind.u64.wrap (b.toNat : Int)) * 1099511628211) = (((h ^^^ b.toNat) * 1099511628211 % 18446744073709551616 : Nat) : Int) := by
  have hb : b.toNat < 256 := b.toNat_lt
  have e : IntKind.u64.wrap (b.toNat : Int) = (b.toNat : Int) := by rw [IntKind.wrap_u64]; omega
  rw [e, bits_xor_u64_nat h b.toNat hh (by omega), IntKind.wrap_u64]
  omega
set_option maxHeartbeats 1000000 in
set_option maxRecDepth 100000 in
theorem refHash_any (s : ByteArray) (w : World) (hs : s.size ≤ 9223372036854775807) :
    Calls Try.prog 17 #[.string s] w fun e w' => e = .returned (.int .u64 (hashN s)) ∧ w = w' := by
  go_enter Try.func17, Try.ntmps17
  go_wp2
  go_loop [3, 4] (fun hv iv => ∃ i h : Nat, i ≤ s.size ∧ iv = .int .i64 i ∧ hv = .int .u64 h ∧ h < 18446744073709551616 ∧ Hid (h = hashTo s i)) (fun _ iv => s.size - (intOf iv).toNat)
  case atStart => exact ⟨0, 14695981039346656037, Nat.zero_le _, rfl, rfl, by decide, Lib.hid rfl⟩
  case round =>
    obtain ⟨i, h, hi, rfl, rfl, h64, HH⟩ := hrel
    by_cases hlt : i < s.size
    · have HN := Lib.hid (hashTo_next s i hlt)
      have HV := Lib.hid (hash_step h (s[i]'hlt) h64)
      go_wp2
      go_round
      case rel => exact ⟨i + 1, (h ^^^ (s[i]'hlt).toNat) * 1099511628211 % 18446744073709551616, by omega, by go_num, by rw [HV.out], Nat.mod_lt _ (by decide), Lib.hid (by rw [HN.out, HH.out])⟩
      case measure => simp [intOf]; omega
    · have g1 : decide (i < s.size) = false := decide_eq_false hlt
      have HE : Hid (h = hashN s) := Lib.hid (by rw [HH.out, show i = s.size by omega, hashTo_all])
      go_wp2
      go_ret
      exact ⟨by rw [← HE.out]; rfl, rfl⟩
end Go.Proofs.Ytkleaedfpgaohaa
