/-
  LAYER 2: THE CONTRACT OF brackenlaw2.TextRunes out of what is asked of package text.
-/
import Derived.Test.YteejkkdimkgmfaaDoorTextNone
import Derived.Test.YteejkkdimkgmfaaDoorRefOne
import Derived.Laws.Cover4
import Derived.Lib.ConvBytes
namespace Go.Proofs.YteejkkdimkgmfaaDoor
open Go.RowKit

/-- the text of the first k characters -/
def EncR (zs : List Int) (k : Nat) (S : ByteArray) : Prop := S.data.toList = encs (zs.take k)
def okRs (zs : List Int) (k : Nat) : Bool := chL (encs (zs.take k))
theorem take_nextR (zs : List Int) (k : Nat) (h : k < zs.length) : zs.take (k + 1) = zs.take k ++ [zs.getD k 0] := by
  rw [List.take_succ_eq_append_getElem h]
  simp [List.getD, List.getElem?_eq_getElem h]
theorem encR_succ (zs : List Int) (k : Nat) (S : ByteArray) (z : Int) (h : k < zs.length) (hz : zs.getD k 0 = z) (hE : EncR zs k S) : EncR zs (k + 1) (S ++ Utf8.encode z) := by
  unfold EncR at hE ⊢
  rw [take_nextR zs k h, hz, encs_append, ByteArray.data_append, Array.toList_append, hE]
  show _ = _ ++ ((Utf8.encode z).data.toList ++ [])
  rw [List.append_nil]
theorem okRs_succ (zs : List Int) (k : Nat) (z : Int) (h : k < zs.length) (hz : zs.getD k 0 = z) : okRs zs (k + 1) = (okRs zs k && okRaw z) := by
  unfold okRs
  rw [take_nextR zs k h, hz, chL_snoc]
theorem encode_le (z : Int) : (Utf8.encode z).size ≤ 4 := by
  unfold Utf8.encode
  simp only
  repeat' split
  all_goals (show Array.size _ ≤ 4; simp)
theorem validT_enc (zs : List Int) (k : Nat) (S : ByteArray) (h : EncR zs k S) : validT S = okRs zs k := by
  rw [validT_list]; unfold okRs; rw [← h]

set_option maxHeartbeats 1000000 in
set_option maxRecDepth 100000 in
theorem runes2_long {E : World → Prop} (T : TextSaid E) (a : Option Addr) (n cap : Nat) (w : World) (h : 40 < n) (hE : E w) :
    Calls Tryd.prog 5 #[.slice a n cap] w fun e w' => e = .returned (.bool true) ∧ Below w.heap.size w w' := by
  have cT := told2_any T w hE
  have g1 : decide ((40 : Int) < (n : Int)) = true := decide_eq_true (by omega)
  have g2 : decide (40 < n) = true := decide_eq_true h
  go_enter Tryd.func5, Tryd.ntmps5
  go_wp2_with (go_at_call 9; refine cT.mono ?_; rintro e w1 ⟨rfl, hb⟩)
  go_ret
  exact ⟨rfl, hb⟩

/-- the bytes that a string turns into, in a new block, are those of the string -/
theorem string_bytes (w : World) (S : ByteArray) : ∃ v w1, (convert 9 22 (.string S)).run Tryd.prog w = .ok v w1 ∧ Below w.heap.size w w1 ∧ BytesAt w1.heap.size w1 v S.data.toList := by
  have hb : Below w.heap.size w (Lib.bytesWorld w 5 S) := ⟨rfl, rfl, rfl, by rw [Lib.bytesWorld_size]; omega, fun k hk => Lib.bytesWorld_at_old w _ S k (by omega)⟩
  refine ⟨_, _, Lib.run_convert_string_bytes w 9 22 5 S Tryd.underlying9 Tryd.underlying22 Tryd.underlying5, hb, ?_⟩
  refine ⟨_, _, by rw [← Lib.size_eq], by rw [← Lib.size_eq]; exact grownCap_ge w _ _ _, Or.inr ⟨w.heap.size, 0, rfl, by rw [Lib.bytesWorld_size]; omega, fun i hi => ?_⟩⟩
  rw [Nat.zero_add]
  exact Lib.bytesWorld_cell w _ S i (by rw [Lib.size_eq]; exact hi)

set_option maxHeartbeats 4000000 in
set_option maxRecDepth 100000 in
theorem runes2_some {E : World → Prop} (T : TextSaid E) (b off len cap : Nat) (zs : List Int) (w : World) (h1 : ¬ 40 < len) (hz : len ≤ zs.length) (hE : E w) (hc : ∀ j, j < zs.length → w.cell? ⟨b, off + j, none⟩ = some (.int .i32 (zs.getD j 0))) :
    Calls Tryd.prog 5 #[.slice (some ⟨b, off, none⟩) len cap] w fun e w' => e = .returned (.bool true) ∧ Below w.heap.size w w' := by
  have HE := Lib.hid hE
  have HC := Lib.hid hc
  have hlen : len ≤ 40 := by omega
  have g1 : decide ((40 : Int) < (len : Int)) = false := decide_eq_false (by omega)
  have g2 : decide (40 < len) = false := decide_eq_false h1
  clear hE hc h1
  go_enter Tryd.func5, Tryd.ntmps5
  go_wp2
  go_loop [3, 4, 5] (fun s o i => ∃ (k : Nat) (S : ByteArray), k ≤ len ∧ i = .int .i64 k ∧ s = .string S ∧ o = .bool (okRs zs k) ∧ EncR zs k S ∧ S.size ≤ 4 * k) (fun _ _ i => len - (intOf i).toNat)
  case atStart => exact ⟨0, ⟨#[]⟩, Nat.zero_le _, rfl, rfl, rfl, rfl, Nat.le_refl _⟩
  case round =>
    obtain ⟨k, S, hk, rfl, rfl, rfl, hE, hsz⟩ := hrel
    have HN0 := Lib.hid hE
    clear hE
    by_cases hlt : k < len
    · obtain ⟨z, hzz⟩ : ∃ z, zs.getD k 0 = z := ⟨_, rfl⟩
      have hcell : w.cell? ⟨b, off + k, none⟩ = some (.int .i32 z) := by rw [← hzz]; exact HC.out k (by omega)
      obtain ⟨c, hcz⟩ : ∃ c, charB z = c := ⟨_, rfl⟩
      have cC : ∀ w, Calls Tryd.prog 17 #[.int .i32 z] w fun e w' => e = .returned (.bool c) ∧ w = w' := fun w => by rw [← hcz]; exact refChar_any z w
      have HO := Lib.hid (okRs_succ zs k z (by omega) hzz)
      have HW : Hid (okRaw z = (c || decide (z < 0) || decide (1114111 < z) || (decide (55296 ≤ z) && decide (z ≤ 57343)))) := by rw [← hcz]; exact rfl
      have HEN := Lib.hid (encR_succ zs k S z (by omega) hzz HN0.out)
      have hes := encode_le z
      have HZ : Hid ((S ++ Utf8.encode z).size ≤ 4 * (k + 1)) := show _ ≤ _ by rw [ByteArray.size_append]; omega
      clear hzz hcz HN0
      generalize okRs zs k = o at *
      have fin : ∀ (v : Bool), okRaw z = v → okRs zs (k + 1) = (o && v) := fun v hv => by rw [HO.out, hv]
      have FIN := Lib.hid fin
      clear fin HO
      cases o
      · have HR : Hid (okRs zs (k + 1) = false) := by rw [FIN.out _ rfl]; exact rfl
        clear FIN HW
        go_wp2
        go_round
        case rel => exact ⟨k + 1, S ++ Utf8.encode z, by omega, by go_num, rfl, by rw [HR.out], HEN.out, HZ.out⟩
        case measure => simp [intOf]; omega
      · cases c
        · have HW' : Hid (okRaw z = (decide (z < 0) || decide (1114111 < z) || (decide (55296 ≤ z) && decide (z ≤ 57343)))) := by rw [HW.out]; exact rfl
          clear HW
          by_cases q1 : z < 0
          · have HR : Hid (okRs zs (k + 1) = true) := by rw [FIN.out true (by rw [HW'.out, decide_eq_true q1]; rfl)]; exact rfl
            clear FIN HW'
            go_wp2_with fail
            refine (cC _).mono ?_
            rintro e w' ⟨rfl, rfl⟩
            go_wp2
            go_round
            case rel => exact ⟨k + 1, S ++ Utf8.encode z, by omega, by go_num, rfl, by rw [HR.out], HEN.out, HZ.out⟩
            case measure => simp [intOf]; omega
          · by_cases q2 : 1114111 < z
            · have HR : Hid (okRs zs (k + 1) = true) := by rw [FIN.out true (by rw [HW'.out, decide_eq_true q2, Bool.or_true]; rfl)]; exact rfl
              clear FIN HW'
              go_wp2_with fail
              refine (cC _).mono ?_
              rintro e w' ⟨rfl, rfl⟩
              go_wp2
              go_round
              case rel => exact ⟨k + 1, S ++ Utf8.encode z, by omega, by go_num, rfl, by rw [HR.out], HEN.out, HZ.out⟩
              case measure => simp [intOf]; omega
            · by_cases q3 : 55296 ≤ z
              · by_cases q4 : z ≤ 57343
                · have HR : Hid (okRs zs (k + 1) = true) := by rw [FIN.out true (by rw [HW'.out, decide_eq_true q3, decide_eq_true q4]; simp)]; exact rfl
                  clear FIN HW'
                  go_wp2_with fail
                  refine (cC _).mono ?_
                  rintro e w' ⟨rfl, rfl⟩
                  go_wp2
                  go_round
                  case rel => exact ⟨k + 1, S ++ Utf8.encode z, by omega, by go_num, rfl, by rw [HR.out], HEN.out, HZ.out⟩
                  case measure => simp [intOf]; omega
                · have HR : Hid (okRs zs (k + 1) = false) := by rw [FIN.out false (by rw [HW'.out, decide_eq_false q1, decide_eq_false q2, decide_eq_false q4]; simp)]; exact rfl
                  clear FIN HW'
                  go_wp2_with fail
                  refine (cC _).mono ?_
                  rintro e w' ⟨rfl, rfl⟩
                  go_wp2
                  go_round
                  case rel => exact ⟨k + 1, S ++ Utf8.encode z, by omega, by go_num, rfl, by rw [HR.out]; simp [q1, q2, q4], HEN.out, HZ.out⟩
                  case measure => simp [intOf]; omega
              · have HR : Hid (okRs zs (k + 1) = false) := by rw [FIN.out false (by rw [HW'.out, decide_eq_false q1, decide_eq_false q2, decide_eq_false q3]; simp)]; exact rfl
                clear FIN HW'
                go_wp2_with fail
                refine (cC _).mono ?_
                rintro e w' ⟨rfl, rfl⟩
                go_wp2
                go_round
                case rel => exact ⟨k + 1, S ++ Utf8.encode z, by omega, by go_num, rfl, by rw [HR.out]; simp [q1, q2], HEN.out, HZ.out⟩
                case measure => simp [intOf]; omega
        · have HR : Hid (okRs zs (k + 1) = true) := by rw [FIN.out true (by rw [HW.out]; simp)]; exact rfl
          clear FIN HW
          go_wp2_with fail
          refine (cC _).mono ?_
          rintro e w' ⟨rfl, rfl⟩
          go_wp2
          go_round
          case rel => exact ⟨k + 1, S ++ Utf8.encode z, by omega, by go_num, rfl, by rw [HR.out], HEN.out, HZ.out⟩
          case measure => simp [intOf]; omega
    · have hks : k = len := by omega
      subst hks
      have hv := validT_enc zs k S HN0.out
      generalize okRs zs k = o at *
      have HV := Lib.hid hv
      have HS : Hid (S.size ≤ 100000) := show _ ≤ _ by omega
      clear hv
      go_wp2_with fail
      refine (told2_any T _ HE.out).mono ?_
      rintro e w1 ⟨rfl, hb⟩
      obtain ⟨v, w2, hcv, hb2, hby⟩ := string_bytes w1 S
      have hb3 := step_below2 hb hb2
      have HBY := Lib.hid hby
      have hlS : S.data.toList.length ≤ 100000 := by rw [← Lib.size_eq]; exact HS.out
      have hSS : (⟨S.data.toList.toArray⟩ : ByteArray) = S := by cases S; rfl
      have cV := T.validIs _ v S.data.toList o (by rw [hSS]; exact HV.out) w2 (T.below _ _ HE.out hb3) hlS HBY.out
      clear hby hSS hlS
      go_wp2_with fail
      refine cV.mono ?_
      rintro e w3 ⟨rfl, hb'⟩
      have hb4 := step_below2 hb3 hb'
      clear cV hcv
      cases o
      all_goals
        go_wp2
        go_ret
        exact ⟨rfl, hb4⟩

set_option maxHeartbeats 1000000 in
set_option maxRecDepth 100000 in
theorem runes2_none {E : World → Prop} (T : TextSaid E) (a : Option Addr) (cap : Nat) (w : World) (hE : E w) :
    Calls Tryd.prog 5 #[.slice a 0 cap] w fun e w' => e = .returned (.bool true) ∧ Below w.heap.size w w' := by
  have HE := Lib.hid hE
  clear hE
  go_enter Tryd.func5, Tryd.ntmps5
  go_wp2
  go_loop [3, 4, 5] (fun s o i => s = .string ⟨#[]⟩ ∧ o = .bool true ∧ i = .int .i64 0) (fun _ _ _ => 0)
  case atStart => exact ⟨rfl, rfl, rfl⟩
  case round =>
    obtain ⟨rfl, rfl, rfl⟩ := hrel
    go_wp2_with fail
    refine (told2_any T _ HE.out).mono ?_
    rintro e w1 ⟨rfl, hb⟩
    obtain ⟨v, w2, hcv, hb2, hby⟩ := string_bytes w1 ⟨#[]⟩
    have hb3 := step_below2 hb hb2
    have cV := T.validIs _ v [] true valid_none w2 (T.below _ _ HE.out hb3) (by decide) hby
    clear hby
    go_wp2_with fail
    refine cV.mono ?_
    rintro e w3 ⟨rfl, hb'⟩
    have hb4 := step_below2 hb3 hb'
    clear cV hcv
    go_wp2
    go_ret
    exact ⟨rfl, hb4⟩
end Go.Proofs.YteejkkdimkgmfaaDoor
