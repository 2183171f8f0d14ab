/-
  THE CONTRACT OF brackenref10.Norm: it returns normL and leaves the world alone.
-/
import Derived.Test.YtjijjmkeehdooaaGreatDoorValDefs
import Derived.Test.YtjijjmkeehdooaaGreatDoorBytesL
import Derived.Test.YtjijjmkeehdooaaGreatDoorChecked
import Derived.WalkKit
import Derived.WalkSpells
import Derived.WalkLawsBesides
import Derived.LoopTactic
import Derived.IntWalk
import Derived.Lib.Hide
namespace Go.Proofs.YtjijjmkeehdooaaGreatDoor
open Go.RowKit

theorem byte_at (s : ByteArray) (i : Nat) (h : i < s.size) : s.extract i (i + 1) = bytes [s[i]'h] := by
  apply ByteArray.ext
  apply Array.ext'
  rw [ByteArray.data_extract, Array.toList_extract, List.extract_eq_take_drop, show i + 1 - i = 1 by omega]
  have hl : i < s.data.toList.length := by rw [Array.length_toList]; exact h
  rw [List.drop_eq_getElem_cons hl]
  rfl
theorem bytes_app (a b : List UInt8) : bytes a ++ bytes b = bytes (a ++ b) := ByteArray.ext (Array.ext' (by simp [bytes]))
/-- was the last one a blank? -/
def wasB (l : List UInt8) : Nat → Bool
  | 0 => false
  | i + 1 => decide (l[i]? = some 32)
theorem norm_blank {l o : List UInt8} {i : Nat} (h : i < l.length) (hb : l[i]'h = 32) (p : Bool) : normF o p (l.drop i) = normF o true (l.drop (i + 1)) := by
  rw [List.drop_eq_getElem_cons h, normF, if_pos hb]
theorem norm_other {l o : List UInt8} {i : Nat} (h : i < l.length) (hb : l[i]'h ≠ 32) (p : Bool) : normF o p (l.drop i) = normF (o ++ (if p = true ∧ o ≠ [] then [32] else []) ++ [l[i]'h]) false (l.drop (i + 1)) := by
  rw [List.drop_eq_getElem_cons h, normF, if_neg hb]
theorem wasB_next {l : List UInt8} {i : Nat} (h : i < l.length) : wasB l (i + 1) = decide (l[i]'h = 32) := by
  show decide (l[i]? = some 32) = _
  rw [List.getElem?_eq_getElem h]
  simp
set_option maxHeartbeats 8000000 in
set_option maxRecDepth 100000 in
theorem rnorm_any (l : List UInt8) (w : World) (hs : l.length ≤ 4294967296) :
    Calls Tryz.prog 17 #[.string (bytes l)] w fun e w' => e = .returned (.string (bytes (normL l))) ∧ w = w' := by
  have e1 : ((bytes l).size : Int) = (l.length : Int) := by rw [bytesL_len]
  obtain ⟨t, ht⟩ : ∃ t, normL l = t := ⟨_, rfl⟩
  rw [ht]
  have HT := Lib.hid ht
  clear ht
  go_enter Tryz.func17, Tryz.ntmps17
  go_wp2
  go_loopw [3, 4] (fun ov iv wr => wr = w ∧ ∃ (i : Nat) (o : List UInt8), i ≤ l.length ∧ iv = .int .i64 i ∧ ov = .string (bytes o) ∧ o.length ≤ 2 * i ∧ Hid (normF o (wasB l i) (l.drop i) = t)) (fun _ iv _ => l.length - (intOf iv).toNat)
  case atStart => exact ⟨rfl, 0, [], Nat.zero_le _, rfl, rfl, Nat.le_refl _, HT⟩
  case round =>
    obtain ⟨rfl, i, o, hil, rfl, rfl, ho, hno⟩ := hrel
    have HO := Lib.hid hno.out
    clear hno
    by_cases hlt : i < l.length
    · have g2 : decide ((i : Int) < (l.length : Int)) = true := decide_eq_true (by omega)
      have hi' : i < (bytes l).size := by rw [bytesL_len]; exact hlt
      have hx : (bytes l)[i]'hi' = l[i]'hlt := rfl
      have HX := Lib.hid (byte_at (bytes l) i hi')
      rw [hx] at HX
      have HN := Lib.hid (wasB_next hlt)
      by_cases hb : l[i]'hlt = 32
      · have g3 : ((((bytes l)[i]'hi').toNat : Int) != 32) = false := by rw [hx, hb]; rfl
        have HO2 : Hid (normF o (wasB l (i + 1)) (l.drop (i + 1)) = t) := Lib.hid (by rw [HN.out, decide_eq_true hb, ← norm_blank hlt hb (wasB l i)]; exact HO.out)
        clear hx
        go_wp2
        go_roundw
        case rel => exact ⟨by trivial, i + 1, o, hlt, by go_num, rfl, by omega, HO2⟩
        case measure => simp [intOf]; omega
      · have g3 : ((((bytes l)[i]'hi').toNat : Int) != 32) = true := by
          rw [hx, bne_iff_ne]
          intro e
          exact hb (UInt8.toNat_inj.1 (show (l[i]'hlt).toNat = 32 by omega))
        have z1 : (9223372036854775807 < (bytes o).size + (min (i + 1) (bytes l).size - i)) = False := eq_false (by rw [bytesL_len, bytesL_len]; omega)
        have z2 : (9223372036854775807 < (bytes o).size + 1) = False := eq_false (by rw [bytesL_len]; omega)
        have z3 : (9223372036854775807 < (bytes o).size + 1 + (min (i + 1) (bytes l).size - i)) = False := eq_false (by rw [bytesL_len, bytesL_len]; omega)
        have HO2 : Hid (normF (o ++ (if wasB l i = true ∧ o ≠ [] then [32] else []) ++ [l[i]'hlt]) (wasB l (i + 1)) (l.drop (i + 1)) = t) := Lib.hid (by rw [HN.out, decide_eq_false hb, ← norm_other hlt hb (wasB l i)]; exact HO.out)
        clear hx
        cases i with
        | zero =>
          have z4 : (9223372036854775807 < (bytes o).size + min 1 (bytes l).size) = False := eq_false (by rw [bytesL_len, bytesL_len]; omega)
          have HX2 : Hid ((bytes l).extract 0 1 = bytes [l[0]'hlt]) := HX
          clear HX z1 z2 z3
          go_wp2
          go_roundw
          case rel => exact ⟨by trivial, 1, _, hlt, rfl, by rw [HX2.out, bytes_app], by simp; omega, by simpa [wasB] using HO2⟩
          case measure => simp [intOf]; omega
        | succ j =>
          have hj : j < (bytes l).size := by omega
          have hj2 : j < l.length := by omega
          have hxj : (bytes l)[j]'hj = l[j]'hj2 := rfl
          have g8 : (j : Int) + 1 - 1 = (j : Int) := by omega
          have HW : Hid (wasB l (j + 1) = decide (l[j]'hj2 = 32)) := Lib.hid (wasB_next hj2)
          by_cases hbj : l[j]'hj2 = 32
          · have g5 : ((((bytes l)[j]'hj).toNat : Int) == 32) = true := by rw [hxj, hbj]; rfl
            clear hxj
            cases o with
            | nil =>
              have g9 : (!(bytes []).toList.isEmpty) = false := by rw [Lib.toList_data]; rfl
              rw [if_neg (fun h => h.2 rfl)] at HO2
              go_wp2
              go_roundw
              case rel => exact ⟨by trivial, j + 1 + 1, _, hlt, by go_num, by rw [HX.out, bytes_app]; rfl, by show 1 ≤ 2 * (j + 1 + 1); omega, HO2⟩
              case measure => simp [intOf]; omega
            | cons c o =>
              have g9 : (!(bytes (c :: o)).toList.isEmpty) = true := by rw [Lib.toList_data]; rfl
              rw [HW.out, decide_eq_true hbj, if_pos ⟨rfl, by simp⟩] at HO2
              have HL : Hid (((c :: o) ++ [32] ++ [l[j + 1]'hlt]).length ≤ 2 * (j + 1 + 1)) := Lib.hid (by simp only [List.length_append, List.length_cons, List.length_nil] at ho ⊢; omega)
              go_wp2
              go_roundw
              case rel => exact ⟨by trivial, j + 1 + 1, _, hlt, by go_num, by rw [HX.out, show (⟨#[32]⟩ : ByteArray) = bytes [32] from rfl, bytes_app, bytes_app], HL.out, HO2⟩
              case measure => simp [intOf]; omega
          · have g5 : ((((bytes l)[j]'hj).toNat : Int) == 32) = false := by
              rw [beq_eq_false_iff_ne]
              intro e
              exact hbj (UInt8.toNat_inj.1 (show (l[j]'hj2).toNat = 32 by rw [← hxj]; omega))
            clear hxj
            rw [HW.out, decide_eq_false hbj, if_neg (fun h => by cases h.1), List.append_nil] at HO2
            go_wp2
            go_roundw
            case rel => exact ⟨by trivial, j + 1 + 1, _, hlt, by go_num, by rw [HX.out, bytes_app], by simp; omega, HO2⟩
            case measure => simp [intOf]; omega
    · have g2 : decide ((i : Int) < (l.length : Int)) = false := decide_eq_false (by omega)
      have HF : Hid (o = t) := Lib.hid (by rw [← HO.out, List.drop_eq_nil_of_le (by omega)]; rfl)
      go_wp2
      go_ret
      have hf := HF.out
      subst hf
      exact ⟨rfl, rfl⟩
end Go.Proofs.YtjijjmkeehdooaaGreatDoor
