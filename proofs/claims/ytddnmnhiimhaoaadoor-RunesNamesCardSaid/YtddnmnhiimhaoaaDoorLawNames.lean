/-
  THE CONTRACT OF brackenlaw1.RunesNames: it returns true for every list of characters.
-/
import Derived.Test.YtddnmnhiimhaoaaDoorToldOne
import Derived.Test.YtddnmnhiimhaoaaDoorEncLaws
import Derived.Laws.Cover4
namespace Go.Proofs.YtddnmnhiimhaoaaDoor
open Go.RowKit

/-- the text of the first k characters, all of which may be -/
def Enc (zs : List Int) (k : Nat) (S : ByteArray) : Prop := S.data.toList = encs (zs.take k) ∧ ∀ r ∈ zs.take k, charB r = true
def okN (zs : List Int) (k : Nat) : Bool := okR true (zs.take k)
theorem enc_zero (zs : List Int) : Enc zs 0 ⟨#[]⟩ := ⟨rfl, by simp⟩
theorem take_next (zs : List Int) (k : Nat) (h : k < zs.length) : zs.take (k + 1) = zs.take k ++ [zs.getD k 0] := by
  rw [List.take_succ_eq_append_getElem h]
  simp [List.getD, List.getElem?_eq_getElem h]
theorem enc_succ (zs : List Int) (k : Nat) (S : ByteArray) (z : Int) (h : k < zs.length) (hz : zs.getD k 0 = z) (hE : Enc zs k S) (hc : charB z = true) : Enc zs (k + 1) (S ++ Utf8.encode z) := by
  obtain ⟨h1, h2⟩ := hE
  constructor
  · rw [take_next zs k h, hz, encs_append, ByteArray.data_append, Array.toList_append, h1]
    show _ = _ ++ ((Utf8.encode z).data.toList ++ [])
    rw [List.append_nil]
  · intro r hr
    rw [take_next zs k h, hz] at hr
    rcases List.mem_append.1 hr with hr | hr
    · exact h2 r hr
    · simp at hr; subst hr; exact hc
theorem okN_succ (zs : List Int) (k : Nat) (z : Int) (h : k < zs.length) (hz : zs.getD k 0 = z) (p st : Bool) (hp : partB z = p) (hst : startB z = st) : okN zs (k + 1) = (okN zs k && (p && (decide (0 < k) || st))) := by
  unfold okN
  rw [take_next zs k h, hz, okR_append]
  congr 1
  have e : (List.take k zs).isEmpty = !decide (0 < k) := by
    by_cases hk : 0 < k
    · rw [decide_eq_true hk]
      cases ht : List.take k zs with
      | nil =>
        have := congrArg List.length ht
        rw [List.length_take, List.length_nil] at this
        omega
      | cons _ _ => rfl
    · obtain rfl : k = 0 := by omega
      rfl
  rw [e]
  simp only [okR, hp, hst, Bool.true_and, Bool.not_not, Bool.and_true]
theorem okN_name (zs : List Int) (len : Nat) (S : ByteArray) (h0 : 0 < len) (hl : len ≤ zs.length) (hE : Enc zs len S) : nameB S = okN zs len := by
  rw [nameB_encs S _ hE.1 hE.2, decide_eq_true (by rw [List.length_take]; omega), Bool.true_and]
  rfl
theorem okN_ahead (zs : List Int) (len : Nat) (S : ByteArray) (hE : Enc zs len S) (ho : okN zs len = true) : nameB (⟨#[97]⟩ ++ S) = true := name_ahead S _ hE.1 hE.2 ho
theorem okN_around (zs : List Int) (len : Nat) (S : ByteArray) (hE : Enc zs len S) (ho : okN zs len = true) : nameB (⟨#[95]⟩ ++ S ++ ⟨#[45]⟩) = true := name_around S _ hE.1 hE.2 ho

set_option maxHeartbeats 1000000 in
set_option maxRecDepth 100000 in
theorem names_long (a : Option Addr) (len cap : Nat) (w : World) (h : 20 < len) (hT : Tabs w) :
    Calls Tryd.prog 7 #[.slice a len cap] w fun e w' => e = .returned (.bool true) ∧ Below w.heap.size w w' := by
  have cT := told_any w hT
  have g1 : decide ((20 : Int) < (len : Int)) = true := decide_eq_true (by omega)
  go_enter Tryd.func7, Tryd.ntmps7
  go_wp2_with (go_at_call 9; refine cT.mono ?_; rintro e w1 ⟨rfl, hb⟩)
  go_ret
  exact ⟨rfl, hb⟩

set_option maxHeartbeats 1000000 in
set_option maxRecDepth 100000 in
theorem names_empty (a : Option Addr) (cap : Nat) (w : World) (hT : Tabs w) :
    Calls Tryd.prog 7 #[.slice a 0 cap] w fun e w' => e = .returned (.bool true) ∧ Below w.heap.size w w' := by
  have HT := Lib.hid hT
  clear hT
  go_enter Tryd.func7, Tryd.ntmps7
  go_wp2
  go_loop [3, 4, 5] (fun s o i => s = .string ⟨#[]⟩ ∧ o = .bool false ∧ i = .int .i64 0) (fun _ _ _ => 0)
  case atStart => exact ⟨rfl, rfl, rfl⟩
  case round =>
    obtain ⟨rfl, rfl, rfl⟩ := hrel
    go_wp2_with fail
    refine (told_any _ HT.out).mono ?_
    rintro e w1 ⟨rfl, hb⟩
    go_wp2_with fail
    refine (name_is _ _ name3 (by decide) _ (HT.out.below hb)).mono ?_
    rintro e w2 ⟨rfl, hb'⟩
    replace hb := step_below hb hb'
    clear hb'
    go_wp2
    go_ret
    exact ⟨rfl, hb⟩

set_option maxHeartbeats 4000000 in
set_option maxRecDepth 100000 in
theorem names_some (b off len cap : Nat) (zs : List Int) (w : World) (h0 : 0 < len) (h1 : ¬ 20 < len) (hz : len ≤ zs.length) (hc : ∀ j, j < zs.length → w.cell? ⟨b, off + j, none⟩ = some (.int .i32 (zs.getD j 0))) (hT : Tabs w) :
    Calls Tryd.prog 7 #[.slice (some ⟨b, off, none⟩) len cap] w fun e w' => e = .returned (.bool true) ∧ Below w.heap.size w w' := by
  have HT := Lib.hid hT
  have HC := Lib.hid hc
  have hlen : len ≤ 20 := by omega
  have g1 : decide ((20 : Int) < (len : Int)) = false := decide_eq_false (by omega)
  have g2 : decide ((0 : Int) < (len : Int)) = true := decide_eq_true (by omega)
  have g3 : decide (0 < len) = true := decide_eq_true h0
  clear hT hc h1
  go_enter Tryd.func7, Tryd.ntmps7
  go_wp2
  go_loop [3, 4, 5] (fun s o i => ∃ (k : Nat) (S : ByteArray), k ≤ len ∧ i = .int .i64 k ∧ s = .string S ∧ o = .bool (okN zs k) ∧ Enc zs k S ∧ S.size ≤ 4 * k) (fun _ _ i => len - (intOf i).toNat)
  case atStart => exact ⟨0, ⟨#[]⟩, Nat.zero_le _, rfl, rfl, rfl, enc_zero zs, Nat.le_refl _⟩
  case round =>
    obtain ⟨k, S, hk, rfl, rfl, rfl, hE, hsz⟩ := hrel
    have HE := Lib.hid hE
    clear hE
    by_cases hlt : k < len
    · obtain ⟨z, hzz⟩ : ∃ z, zs.getD k 0 = z := ⟨_, rfl⟩
      have hcell : w.cell? ⟨b, off + k, none⟩ = some (.int .i32 z) := by rw [← hzz]; exact HC.out k (by omega)
      obtain ⟨c, hcz⟩ : ∃ c, charB z = c := ⟨_, rfl⟩
      obtain ⟨p, hp⟩ : ∃ p, partB z = p := ⟨_, rfl⟩
      obtain ⟨st, hst⟩ : ∃ st, startB z = st := ⟨_, rfl⟩
      have cC : ∀ w, Calls Tryd.prog 15 #[.int .i32 z] w fun e w' => e = .returned (.bool c) ∧ w = w' := fun w => by rw [← hcz]; exact refChar_any z w
      have cP := fun w => part_is z p hp w
      have cS := fun w => start_is z st hst w
      have HN := Lib.hid (okN_succ zs k z (by omega) hzz p st hp hst)
      have hes := encode_size_le z
      cases c
      · clear HN hp hst hzz hcz HE
        go_wp2_with fail
        refine (cC _).mono ?_
        rintro e w' ⟨rfl, rfl⟩
        go_wp2_with fail
        refine (told_any _ HT.out).mono ?_
        rintro e w1 ⟨rfl, hb⟩
        go_wp2
        go_ret
        exact ⟨rfl, hb⟩
      · have HE' := Lib.hid (enc_succ zs k S z (by omega) hzz HE.out hcz)
        have hsz' : (S ++ Utf8.encode z).size ≤ 4 * (k + 1) := by rw [ByteArray.size_append]; omega
        have HZ := Lib.hid hsz'
        clear hp hst hzz hcz HE hsz'
        generalize okN zs k = o at *
        cases o
        · have HN' : Hid (okN zs (k + 1) = false) := by rw [HN.out]; exact rfl
          clear HN cP cS
          go_wp2_with fail
          refine (cC _).mono ?_
          rintro e w' ⟨rfl, rfl⟩
          go_wp2
          go_round
          case rel => exact ⟨k + 1, S ++ Utf8.encode z, by omega, by go_num, rfl, by rw [HN'.out], HE'.out, HZ.out⟩
          case measure => simp [intOf]; omega
        · cases p
          · have HN' : Hid (okN zs (k + 1) = false) := by rw [HN.out]; exact rfl
            clear HN cS
            go_wp2_with fail
            refine (cC _).mono ?_
            rintro e w' ⟨rfl, rfl⟩
            go_wp2_with fail
            refine (cP _).mono ?_
            rintro e w' ⟨rfl, rfl⟩
            go_wp2
            go_round
            case rel => exact ⟨k + 1, S ++ Utf8.encode z, by omega, by go_num, rfl, by rw [HN'.out], HE'.out, HZ.out⟩
            case measure => simp [intOf]; omega
          · by_cases hk0 : 0 < k
            · have HN' : Hid (okN zs (k + 1) = true) := by rw [HN.out, decide_eq_true hk0]; exact rfl
              have k1 : decide ((0 : Int) < (k : Int)) = true := decide_eq_true (by omega)
              have k2 : decide (0 < k) = true := decide_eq_true hk0
              clear HN cS
              go_wp2_with fail
              refine (cC _).mono ?_
              rintro e w' ⟨rfl, rfl⟩
              go_wp2_with fail
              refine (cP _).mono ?_
              rintro e w' ⟨rfl, rfl⟩
              go_wp2
              go_round
              case rel => exact ⟨k + 1, S ++ Utf8.encode z, by omega, by go_num, rfl, by rw [HN'.out], HE'.out, HZ.out⟩
              case measure => simp [intOf]; omega
            · obtain rfl : k = 0 := by omega
              rw [Nat.add_zero] at hcell
              have HN' : Hid (okN zs (0 + 1) = st) := by rw [HN.out]; cases st <;> exact rfl
              clear HN
              go_wp2_with fail
              refine (cC _).mono ?_
              rintro e w' ⟨rfl, rfl⟩
              go_wp2_with fail
              refine (cP _).mono ?_
              rintro e w' ⟨rfl, rfl⟩
              go_wp2_with fail
              refine (cS _).mono ?_
              rintro e w' ⟨rfl, rfl⟩
              cases st
              all_goals
                go_wp2
                go_round
                case rel => exact ⟨0 + 1, S ++ Utf8.encode z, by omega, by go_num, rfl, by rw [HN'.out], HE'.out, HZ.out⟩
                case measure => simp [intOf]; omega
    · have hks : k = len := by omega
      subst hks
      have hn1 := okN_name zs k S h0 hz HE.out
      have ha := okN_ahead zs k S HE.out
      have hr := okN_around zs k S HE.out
      generalize okN zs k = o at *
      have HS := Lib.hid (name_is S o hn1 (by omega))
      cases o
      · clear ha hr hn1
        go_wp2_with fail
        refine (told_any _ HT.out).mono ?_
        rintro e w1 ⟨rfl, hb⟩
        go_wp2_with fail
        refine (HS.out _ (HT.out.below hb)).mono ?_
        rintro e w2 ⟨rfl, hb'⟩
        replace hb := step_below hb hb'
        clear hb'
        go_wp2
        go_ret
        exact ⟨rfl, hb⟩
      · have HA := Lib.hid (name_is _ _ (ha rfl) (by rw [ByteArray.size_append]; show 1 + S.size ≤ _; omega))
        have HR := Lib.hid (name_is _ _ (hr rfl) (by rw [ByteArray.size_append, ByteArray.size_append]; show 1 + S.size + 1 ≤ _; omega))
        clear ha hr hn1
        go_wp2_with fail
        refine (told_any _ HT.out).mono ?_
        rintro e w1 ⟨rfl, hb⟩
        go_wp2_with fail
        refine (HS.out _ (HT.out.below hb)).mono ?_
        rintro e w2 ⟨rfl, hb'⟩
        replace hb := step_below hb hb'
        clear hb'
        go_wp2_with fail
        refine (HA.out _ (HT.out.below hb)).mono ?_
        rintro e w3 ⟨rfl, hb'⟩
        replace hb := step_below hb hb'
        clear hb'
        go_wp2_with fail
        refine (HR.out _ (HT.out.below hb)).mono ?_
        rintro e w4 ⟨rfl, hb'⟩
        replace hb := step_below hb hb'
        clear hb'
        go_wp2
        go_ret
        exact ⟨rfl, hb⟩
end Go.Proofs.YtddnmnhiimhaoaaDoor
