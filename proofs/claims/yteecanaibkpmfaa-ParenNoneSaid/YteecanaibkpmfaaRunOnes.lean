/-
  THE CONTRACT OF math/bits.OnesCount64 of the landed code's program.
-/
import Derived.Test.YteecanaibkpmfaaBitPar
import Derived.Test.YteecanaibkpmfaaChecked
import Derived.Laws.Bits64b
import Derived.WalkKit
import Derived.WalkSpells
import Derived.WalkLawsBesides
import Derived.LoopTactic
import Derived.Lib.Hide
namespace Go.Proofs.Yteecanaibkpmfaa
open Go.RowKit

theorem and_u64 (a b c : Nat) (ha : a < 18446744073709551616) (hb : b < 18446744073709551616) (h : a &&& b = c) : bits .and .u64 (a : Int) (b : Int) = (c : Int) := by
  rw [← h]; exact bits_and_u64_nat a b ha hb
theorem wrap_u64_nat (n : Nat) (h : n < 18446744073709551616) : IntKind.u64.wrap (n : Int) = (n : Int) := by rw [IntKind.wrap_u64]; omega
theorem ones_e1 (x : Nat) (h : x < 18446744073709551616) (hs : par1 x < 18446744073709551616) : IntKind.u64.wrap (bits .and .u64 ((x : Int) / 2) 6148914691236517205 + bits .and .u64 (x : Int) 6148914691236517205) = (par1 x : Int) := by
  have a := and_u64 (x / 2) 6148914691236517205 _ (by omega) (by omega) rfl
  have b := and_u64 x 6148914691236517205 _ h (by omega) rfl
  rw [show (x : Int) / 2 = ((x / 2 : Nat) : Int) by omega]
  erw [a, b]
  rw [← Int.natCast_add]
  exact wrap_u64_nat _ hs
theorem ones_e2 (x : Nat) (h : x < 18446744073709551616) (hs : par2 x ≤ 4919131752989213764) : IntKind.u64.wrap (bits .and .u64 ((x : Int) / 4) 3689348814741910323 + bits .and .u64 (x : Int) 3689348814741910323) = (par2 x : Int) := by
  have a := and_u64 (x / 4) 3689348814741910323 _ (by omega) (by omega) rfl
  have b := and_u64 x 3689348814741910323 _ h (by omega) rfl
  rw [show (x : Int) / 4 = ((x / 4 : Nat) : Int) by omega]
  erw [a, b]
  rw [← Int.natCast_add]
  exact wrap_u64_nat _ (by unfold par2 at hs; omega)
theorem ones_e3 (x : Nat) (h : x ≤ 4919131752989213764) : bits .and .u64 (IntKind.u64.wrap ((x : Int) / 16 + (x : Int))) 1085102592571150095 = (par3 x : Int) := by
  have a := and_u64 (x / 16 + x) 1085102592571150095 _ (by omega) (by omega) rfl
  rw [show (x : Int) / 16 + (x : Int) = ((x / 16 + x : Nat) : Int) by omega, wrap_u64_nat _ (by omega)]
  exact a
theorem ones_e4 (x : Nat) (h : x < 1000000000000000000) : IntKind.u64.wrap ((x : Int) + (x : Int) / 256) = (par4 x : Int) := by
  rw [show (x : Int) + (x : Int) / 256 = ((par4 x : Nat) : Int) by unfold par4; omega]
  exact wrap_u64_nat _ (by unfold par4; omega)
theorem ones_e5 (x : Nat) (h : x < 1000000000000000000) : IntKind.u64.wrap ((x : Int) + (x : Int) / 65536) = (par5 x : Int) := by
  rw [show (x : Int) + (x : Int) / 65536 = ((par5 x : Nat) : Int) by unfold par5; omega]
  exact wrap_u64_nat _ (by unfold par5; omega)
theorem ones_e6 (x : Nat) (h : x < 1000000000000000000) : IntKind.u64.wrap ((x : Int) + (x : Int) / 4294967296) = (par6 x : Int) := by
  rw [show (x : Int) + (x : Int) / 4294967296 = ((par6 x : Nat) : Int) by unfold par6; omega]
  exact wrap_u64_nat _ (by unfold par6; omega)
theorem ones_e7 (x : Nat) (h : x < 9000000000000000000) : bits .and .i64 (wrap64 (x : Int)) 127 = ((x % 128 : Nat) : Int) := by
  have e : wrap64 (x : Int) = (x : Int) := by unfold wrap64; omega
  rw [e]
  have := bits_mask .i64 63 (by decide) (fun n h0 h1 => by rw [IntKind.wrap_i64]; omega) 7 (by decide) (x : Int) (by omega) (by omega)
  rw [Int.natCast_emod]
  exact this
theorem ret_i64 {a b : Int} (h : a = b) : Ending.returned (.int .i64 a) = .returned (.int .i64 b) := by rw [h]
set_option maxHeartbeats 1000000 in
set_option maxRecDepth 100000 in
theorem ones_any (u : Nat) (hu : u < 18446744073709551616) (w : World) :
    Calls Try.prog 67 #[.int .u64 u] w fun e w' => e = .returned (.int .i64 (cnt u 64)) ∧ w = w' := by
  obtain ⟨k1, k2, k3, k4, k5⟩ := par_small u hu
  have hall := Lib.hid (par_all u hu)
  obtain ⟨ans, hans⟩ : ∃ a, cnt u 64 = a := ⟨_, rfl⟩
  have HA := Lib.hid hans
  rw [hans]
  clear hans
  go_enter Try.func67, Try.ntmps67
  go_wp2
  go_ret
  refine ⟨ret_i64 ?_, rfl⟩
  rw [ones_e1 u hu k1, ones_e2 _ k1 k2, ones_e3 _ k2, ones_e4 _ k3, ones_e5 _ k4, ones_e6 _ k5, ones_e7 _ (by unfold par6; omega), hall.out, HA.out]
end Go.Proofs.Yteecanaibkpmfaa
