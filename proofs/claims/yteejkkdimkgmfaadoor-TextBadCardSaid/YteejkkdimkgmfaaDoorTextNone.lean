/-
  LAYER 2: THE CONTRACTS OF brackenlaw2.TextAsks, TextEnds, TextMark AT A SLICE OF NO BYTE, whatever its address; and each law whole, at whatever bytes.
-/
import Derived.Test.YteejkkdimkgmfaaDoorTextMark
import Derived.Laws.AppendOwnNone
namespace Go.Proofs.YteejkkdimkgmfaaDoor
open Go.RowKit

theorem none_at (w : World) (a : Option Addr) (cap : Nat) : BytesAt w.heap.size w (.slice a 0 cap) [] := ⟨a, cap, rfl, Nat.zero_le _, Or.inl rfl⟩
theorem read_none : readT ⟨([] : List UInt8).toArray⟩ = (⟨#[]⟩, true) := by kernel_rfl
theorem read_mark : readT ⟨[239, 187, 191].toArray⟩ = (⟨#[]⟩, true) := by kernel_rfl
theorem valid_none : validT ⟨([] : List UInt8).toArray⟩ = true := by kernel_rfl
theorem ends_none : endsT ⟨#[]⟩ = ⟨#[]⟩ := by kernel_rfl
theorem lines_none : linesT ⟨#[]⟩ = 0 := by kernel_rfl

set_option maxHeartbeats 4000000 in
set_option maxRecDepth 100000 in
theorem ends2_none {E : World → Prop} (T : TextSaid E) (a : Option Addr) (cap : Nat) (w : World) (hE : E w) :
    Calls Tryd.prog 6 #[.slice a 0 cap] w fun e w' => e = .returned (.bool true) ∧ Below w.heap.size w w' := by
  have HE := Lib.hid hE
  have hcv : (convert 22 9 (.slice a 0 cap)).run Tryd.prog w = .ok (.string ⟨#[]⟩) w := bytes_string (none_at w a cap)
  have HEN := Lib.hid (T.endsIs ⟨#[]⟩ ⟨#[]⟩ ends_none w hE (by decide))
  clear hE
  go_enter Tryd.func6, Tryd.ntmps6
  go_wp2_with fail
  refine (HEN.out).mono ?_
  rintro e v2 ⟨rfl, hb⟩
  clear hcv
  go_wp2_with fail
  go_loop [4, 5] (fun n i => i = .int .i64 0 ∧ n = .int .i64 0) (fun _ _ => 0)
  case atStart => exact ⟨rfl, rfl⟩
  case round =>
    obtain ⟨rfl, rfl⟩ := hrel
    go_wp2_with fail
    go_loop [6] (fun i => i = .int .i64 0) (fun _ => 0)
    case atStart => exact rfl
    case round =>
      obtain rfl := hrel
      go_wp2_with fail
      refine (told2_any T _ (T.below _ _ HE.out hb)).mono ?_
      rintro e v3 ⟨rfl, hb'⟩
      replace hb := step_below2 hb hb'
      clear hb'
      go_wp2_with fail
      refine (T.linesIs ⟨#[]⟩ 0 lines_none _ (T.below _ _ HE.out hb) (by decide)).mono ?_
      rintro e v4 ⟨rfl, hb'⟩
      replace hb := step_below2 hb hb'
      clear hb'
      go_wp2_with fail
      refine (T.endsIs ⟨#[]⟩ ⟨#[]⟩ ends_none _ (T.below _ _ HE.out hb) (by decide)).mono ?_
      rintro e v5 ⟨rfl, hb'⟩
      replace hb := step_below2 hb hb'
      clear hb'
      go_wp2
      go_ret
      exact ⟨rfl, hb⟩

set_option maxHeartbeats 4000000 in
set_option maxRecDepth 100000 in
theorem mark2_none {E : World → Prop} (T : TextSaid E) (a : Option Addr) (cap : Nat) (hnil : a = none → cap = 0) (w : World) (hE : E w) :
    Calls Tryd.prog 7 #[.slice a 0 cap] w fun e w' => e = .returned (.bool true) ∧ Below w.heap.size w w' := by
  obtain ⟨i0, hi, hz0, hz1, hz2⟩ := info_parts info_u8
  have HE := Lib.hid hE
  have HBY := Lib.hid (none_at w a cap)
  have HB1 := Lib.hid ((Below.refl w.heap.size w).alloc (Nat.le_refl _) (.cells #[.int .u8 239, .int .u8 187, .int .u8 191] 5 (0, 0)))
  have hO := World.ownsRow_lit (base := w.heap.size) (e := 5) (size := 1) w #[.int .u8 239, .int .u8 187, .int .u8 191] 3 (Nat.le_refl _) (by unfold maxLen; omega) rfl
  clear hE
  cases a with
  | none =>
    obtain rfl : cap = 0 := hnil rfl
    have HM := Lib.hid (bytesAt_alloc w #[.int .u8 239, .int .u8 187, .int .u8 191] (0, 0) [239, 187, 191] 3 3 rfl rfl (Nat.le_refl _))
    clear hnil
    go_enter Tryd.func7, Tryd.ntmps7
    go_wp2_with (at_builtin; refine wpList_append_own_none rfl _ _ 22 rfl w.heap.size 5 i0 1 Tryd.underlying22 hi _ _ _ rfl hO rfl ?_)
    refine (T.readIs _ _ [239, 187, 191] _ 0 true read_mark rfl _ (T.below _ _ HE.out HB1.out) (by decide) HM.out).mono ?_
    rintro e u1 ⟨rfl, hb'⟩
    have hb := step_below2 HB1.out hb'
    clear hb' HM
    go_wp2_with fail
    refine (T.readIs _ _ [] _ 0 true read_none rfl _ (T.below _ _ HE.out hb) (by decide) (HBY.out.below hb)).mono ?_
    rintro e u3 ⟨rfl, hb'⟩
    replace hb := step_below2 hb hb'
    clear hb'
    go_wp2_with fail
    refine (told2_any T _ (T.below _ _ HE.out hb)).mono ?_
    rintro e u ⟨rfl, hb'⟩
    replace hb := step_below2 hb hb'
    clear hb'
    go_wp2
    go_ret
    exact ⟨rfl, hb⟩
  | some ad =>
    clear hnil
    go_enter Tryd.func7, Tryd.ntmps7
    go_wp2_with (at_builtin; refine wpList_append_own _ rfl _ _ 22 rfl w.heap.size 5 i0 (.int .u8 0) 1 1 Tryd.underlying22 hi hz0 hz1 hz2 rfl (by decide) _ _ _ rfl hO ad 0 cap [] rfl rfl (fun j u hu => by simp at hu) (fun u hu => by cases hu) (by unfold maxLen; omega) (by omega) (by simp) ?_; intro v1 w2 hown2 hgrow2 _)
    have hb : Below w.heap.size w w2 := HB1.out.grown hgrow2 (by simp) (fun k hk => by cases hk; exact Nat.le_refl _)
    have hown : OwnB w2 w.heap.size v1 [239, 187, 191] := hown2
    have HM := Lib.hid (ownB_at hown)
    clear hO hown2 hown hgrow2
    go_wp2_with fail
    refine (T.readIs _ _ [239, 187, 191] _ 0 true read_mark rfl _ (T.below _ _ HE.out hb) (by decide) HM.out).mono ?_
    rintro e u1 ⟨rfl, hb'⟩
    replace hb := step_below2 hb hb'
    clear hb' HM
    go_wp2_with fail
    refine (T.readIs _ _ [] _ 0 true read_none rfl _ (T.below _ _ HE.out hb) (by decide) (HBY.out.below hb)).mono ?_
    rintro e u3 ⟨rfl, hb'⟩
    replace hb := step_below2 hb hb'
    clear hb'
    go_wp2_with fail
    refine (told2_any T _ (T.below _ _ HE.out hb)).mono ?_
    rintro e u ⟨rfl, hb'⟩
    replace hb := step_below2 hb hb'
    clear hb'
    go_wp2
    go_ret
    exact ⟨rfl, hb⟩
end Go.Proofs.YteejkkdimkgmfaaDoor
