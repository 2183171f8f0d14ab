/-
  LAYER 10: brackenlaw10.TokenRefs, out of TokSaid.
-/
import Derived.Test.YtcnomlhlellmiaaDoorTokNums
import Derived.Test.YtcnomlhlellmiaaDoorTokAside
import Derived.Test.YtcnomlhlellmiaaDoorRefIn
import Derived.Deep.RegionHeld3
namespace Go.Proofs.YtcnomlhlellmiaaDoor
open Go.RowKit

def strV : Value → ByteArray | .string s => s | _ => ⟨#[]⟩
theorem in32_wf {k : Int} (h : (Lit.int .i32 k).wf = true) : -2147483648 ≤ k ∧ k ≤ 2147483647 := by
  have h1 : IntKind.i32.min = -2147483648 := rfl
  have h2 : IntKind.i32.max = 2147483647 := rfl
  simp only [Lit.wf, Bool.and_eq_true, decide_eq_true_eq] at h
  omega
theorem bytes_one (c : UInt8) (l : List UInt8) : bytes [c] ++ bytes l = bytes (c :: l) := by
  apply ByteArray.ext
  rw [ByteArray.data_append]
  show #[c] ++ l.toArray = (c :: l).toArray
  simp
theorem bytes_size0 (x : List UInt8) : (bytes x).size = x.length := by show x.toArray.size = _; rw [List.size_toArray]
theorem bytes_ref (d : List UInt8) : (⟨#[38, 35]⟩ : ByteArray) ++ bytes d ++ ⟨#[59]⟩ = bytes (38 :: 35 :: (d ++ [59])) := by
  apply ByteArray.ext
  rw [ByteArray.data_append, ByteArray.data_append]
  show #[38, 35] ++ d.toArray ++ #[59] = (38 :: 35 :: (d ++ [59])).toArray
  simp
theorem bytes_hex (d : List UInt8) : (⟨#[38, 35, 120, 48, 48]⟩ : ByteArray) ++ bytes d ++ ⟨#[59]⟩ = bytes (38 :: 35 :: ((120 :: 48 :: 48 :: d) ++ [59])) := by
  apply ByteArray.ext
  rw [ByteArray.data_append, ByteArray.data_append]
  show #[38, 35, 120, 48, 48] ++ d.toArray ++ #[59] = (38 :: 35 :: ((120 :: 48 :: 48 :: d) ++ [59])).toArray
  simp

set_option maxHeartbeats 20000000 in
set_option maxRecDepth 100000 in
theorem tokrefs_any {E : Nat → World → Prop} (S : TokSaid E) (n : Nat) (r : Int) (hr : -2147483648 ≤ r ∧ r ≤ 2147483647) (w : World) (hE : E n w) (hn : n ≤ w.heap.size) :
    Calls Tryd.prog 4 #[.int .i32 r] w fun e w' => e = .returned (.bool true) ∧ Below w.heap.size w w' := by
  have HE := Lib.hid hE
  clear hE
  obtain ⟨k, hk, hkr⟩ : ∃ k : Nat, k < 2147483648 ∧ ((0 ≤ r ∧ r = (k : Int)) ∨ (r < 0 ∧ -(r + 1) = (k : Int))) := by
    by_cases h0 : 0 ≤ r
    · exact ⟨r.toNat, by omega, Or.inl ⟨h0, by omega⟩⟩
    · exact ⟨(-(r + 1)).toNat, by omega, Or.inr ⟨by omega, by omega⟩⟩
  obtain ⟨may, hmay⟩ : ∃ b, charB (k : Int) = b := ⟨_, rfl⟩
  have HMAY := Lib.hid hmay
  have cC : Hid (∀ w, Calls Tryd.prog 10 #[.int .i32 (k : Int)] w fun e w' => e = .returned (.bool may) ∧ w = w') := Lib.hid fun w => by rw [← hmay]; exact refChar_any (k : Int) w
  clear hmay
  have HK31 := Lib.hid (show k < 2 ^ 31 from hk)
  rcases hkr with ⟨h0, rfl⟩ | ⟨h0, hkr⟩
  · have g1 : decide ((k : Int) < 0) = false := decide_eq_false (by omega)
    go_enter Tryd.func4, Tryd.ntmps4
    go_wp2_with fail
    refine (cC.out w).mono ?_
    rintro e w1 ⟨rfl, rfl⟩
    go_wp2
    go_loop [3, 7] (fun dv kv => ∃ (dl : List UInt8) (kk : Nat), dv = .string (bytes dl) ∧ kv = .int .i32 (kk : Int) ∧ Hid (Behind decV 10 k kk dl)) (fun dv _ => 33 - (strV dv).size)
    case atStart => exact ⟨[], k, rfl, rfl, Lib.hid (behind_nil decV 10 k HK31.out)⟩
    case round =>
      obtain ⟨dl, kk, rfl, rfl, HB⟩ := hrel
      have hkk := behind_le (by decide) HB.out
      have hdl := behind_len HB.out
      have hsz : (bytes dl).size ≤ 32 := by rw [bytes_size0]; exact hdl
      have hm : kk % 10 < 10 := Nat.mod_lt _ (by decide)
      by_cases h1 : 0 < kk
      · have g2 : decide (0 < kk) = true := decide_eq_true h1
        have HN := Lib.hid (behind_next (by decide) HB.out (decB_val _ hm) (decB_dig _ hm) (Or.inl h1))
        go_wp2
        go_round
        case rel => exact ⟨decB (kk % 10) :: dl, kk / 10, by rw [decB_at _ hm, bytes_one], rfl, Lib.hid HN.out.1⟩
        case measure =>
          show 33 - (_ ++ _ : ByteArray).size < 33 - (bytes dl).size
          rw [decB_at _ hm, bytes_one, bytes_size0, bytes_size0, List.length_cons]
          have := HN.out.2
          omega
      · have g2 : decide (0 < kk) = false := decide_eq_false h1
        by_cases h2 : dl = []
        · have HN := Lib.hid (behind_next (by decide) HB.out (decB_val _ hm) (decB_dig _ hm) (Or.inr h2))
          have hx : (bytes dl).toList = [] := by rw [ByteArray.toList_eq, h2]; rfl
          have H2 := Lib.hid h2
          clear h2
          go_wp2
          go_round
          case rel => exact ⟨decB (kk % 10) :: dl, kk / 10, by rw [decB_at _ hm, bytes_one], rfl, Lib.hid HN.out.1⟩
          case measure =>
            show 33 - (_ ++ _ : ByteArray).size < 33 - (bytes dl).size
            rw [decB_at _ hm, bytes_one, bytes_size0, bytes_size0, List.length_cons]
            have := HN.out.2
            omega
        · obtain rfl : kk = 0 := by omega
          have hx : ((bytes dl).toList == []) = false := by rw [ByteArray.toList_eq]; cases dl with | nil => exact absurd rfl h2 | cons _ _ => rfl
          have HD := Lib.hid HB.out
          have HDN := Lib.hid h2
          clear h2 hm hkk g2 h1 HB
          go_wp2
          clear hx
          go_loop [4, 8] (fun dv kv => ∃ (xl : List UInt8) (kk : Nat), dv = .string (bytes xl) ∧ kv = .int .i32 (kk : Int) ∧ Hid (Behind hexV 16 k kk xl)) (fun dv _ => 33 - (strV dv).size)
          case atStart => exact ⟨[], k, rfl, rfl, Lib.hid (behind_nil hexV 16 k HK31.out)⟩
          case round =>
            obtain ⟨xl, kk, rfl, rfl, HB⟩ := hrel
            have hkk := behind_le (by decide) HB.out
            have hxl := behind_len HB.out
            have hsz : (bytes xl).size ≤ 32 := by rw [bytes_size0]; exact hxl
            have hm : kk % 16 < 16 := Nat.mod_lt _ (by decide)
            by_cases h1 : 0 < kk
            · have g2 : decide (0 < kk) = true := decide_eq_true h1
              have HN := Lib.hid (behind_next (by decide) HB.out (hexB_val _ hm) (hexB_dig _ hm) (Or.inl h1))
              go_wp2
              go_round
              case rel => exact ⟨hexB (kk % 16) :: xl, kk / 16, by rw [hexB_at _ hm, bytes_one], rfl, Lib.hid HN.out.1⟩
              case measure =>
                show 33 - (_ ++ _ : ByteArray).size < 33 - (bytes xl).size
                rw [hexB_at _ hm, bytes_one, bytes_size0, bytes_size0, List.length_cons]
                have := HN.out.2
                omega
            · have g2 : decide (0 < kk) = false := decide_eq_false h1
              by_cases h2 : xl = []
              · have HN := Lib.hid (behind_next (by decide) HB.out (hexB_val _ hm) (hexB_dig _ hm) (Or.inr h2))
                have hx : (bytes xl).toList = [] := by rw [ByteArray.toList_eq, h2]; rfl
                have H2 := Lib.hid h2
                clear h2
                go_wp2
                go_round
                case rel => exact ⟨hexB (kk % 16) :: xl, kk / 16, by rw [hexB_at _ hm, bytes_one], rfl, Lib.hid HN.out.1⟩
                case measure =>
                  show 33 - (_ ++ _ : ByteArray).size < 33 - (bytes xl).size
                  rw [hexB_at _ hm, bytes_one, bytes_size0, bytes_size0, List.length_cons]
                  have := HN.out.2
                  omega
              · obtain rfl : kk = 0 := by omega
                have hx : ((bytes xl).toList == []) = false := by rw [ByteArray.toList_eq]; cases xl with | nil => exact absurd rfl h2 | cons _ _ => rfl
                have HX := Lib.hid HB.out
                have HXN := Lib.hid h2
                clear h2 hm hkk g2 h1 HB
                have hq1 := bytes_ref dl
                have hq2 := bytes_hex xl
                have hz1 : (bytes dl).size = dl.length := bytes_size0 dl
                have hs1 : ((⟨#[38, 35]⟩ : ByteArray) ++ bytes dl ++ ⟨#[59]⟩).size ≤ 100000 := by rw [hq1, bytes_size0]; simp; omega
                have hs2 : ((⟨#[38, 35, 120, 48, 48]⟩ : ByteArray) ++ bytes xl ++ ⟨#[59]⟩).size ≤ 100000 := by rw [hq2, bytes_size0]; simp; omega
                have hV1 : charRefL ((⟨#[38, 35]⟩ : ByteArray) ++ bytes dl ++ ⟨#[59]⟩).data.toList = if charB (k : Int) = true then some k else none := by rw [hq1]; exact (charRefL_of dl HDN.out).trans (refV_dec HDN.out HD.out)
                have hV2 : charRefL ((⟨#[38, 35, 120, 48, 48]⟩ : ByteArray) ++ bytes xl ++ ⟨#[59]⟩).data.toList = if charB (k : Int) = true then some k else none := by rw [hq2]; exact (charRefL_of (120 :: 48 :: 48 :: xl) (by simp)).trans (refV_hex HX.out)
                have hV3 : nextT ((⟨#[38, 35]⟩ : ByteArray) ++ bytes dl ++ ⟨#[59]⟩) 0 = if charB (k : Int) = true then (⟨7, ⟨#[]⟩, Utf8.encode (k : Int), [], false⟩, ((bytes dl).size : Int) + 3, 0) else (tok0, 0, 2) := by rw [hq1, hz1]; exact next_ref HDN.out HD.out
                rw [HMAY.out] at hV1 hV2 hV3
                clear hq1 hq2 hz1
                have H := Lib.hid (show KAt E n w w from ⟨HE.out, hn, Below.refl _ _⟩)
                cases may with
                | true =>
                  have C1 := Lib.hid (fun W (h : KAt E n w W) => kcharAt S _ (k : Int) true (by unfold charV; rw [hV1]; rfl) (by unfold charIs; rw [hV1]; rfl) hs1 h)
                  have C2 := Lib.hid (fun W (h : KAt E n w W) => kcharAt S _ (k : Int) true (by unfold charV; rw [hV2]; rfl) (by unfold charIs; rw [hV2]; rfl) hs2 h)
                  have C3 := Lib.hid (fun W (h : KAt E n w W) => knextAt S _ 0 _ _ 7 ⟨#[]⟩ (Utf8.encode (k : Int)) [] false (hV3.trans (if_pos rfl)) 7 rfl 0 rfl hs1 ⟨by decide, by decide⟩ h)
                  clear hV1 hV2 hV3 hs1 hs2 cC
                  go_wp2_with fail
                  refine (C1.out _ H.out).mono ?_
                  rintro e w1 ⟨rfl, h⟩
                  have Ha := Lib.hid h
                  clear h H
                  go_wp2_with fail
                  refine (C2.out _ Ha.out).mono ?_
                  rintro e w2 ⟨rfl, h⟩
                  have Hb := Lib.hid h
                  clear h Ha
                  go_wp2_with fail
                  refine (C3.out _ Hb.out).mono ?_
                  rintro e w3 ⟨a, capt, rfl, _, h, _⟩
                  have HXB := Lib.hid (box_tok w3 (.int .i64 7) (.string ⟨#[]⟩) (.string (Utf8.encode (k : Int))) (.slice a 0 capt) (.bool false) 27)
                  have H3 := Lib.hid (h.other S ((Below.refl _ _).alloc (Nat.le_refl _) (.cells #[.int .i64 7, .string ⟨#[]⟩, .string (Utf8.encode (k : Int)), .slice a 0 capt, .bool false] 27)))
                  clear h Hb C1 C2 C3
                  have jx := str_eq (t := Utf8.encode (k : Int)) rfl
                  go_wp2_with fail
                  refine (told10_any S n _ H3.out.e H3.out.n_le).mono ?_
                  rintro e4 w4 ⟨rfl, hb4⟩
                  obtain ⟨k0, _, k2, _⟩ := HXB.out w4 hb4
                  have HF := Lib.hid (H3.out.since.trans (hb4.mono H3.out.since.size))
                  clear hb4
                  go_wp2
                  go_ret
                  exact ⟨rfl, HF.out⟩
                | false =>
                  have C1 := Lib.hid (fun W (h : KAt E n w W) => kcharAt S _ 0 false (by unfold charV; rw [hV1]; rfl) (by unfold charIs; rw [hV1]; rfl) hs1 h)
                  have C2 := Lib.hid (fun W (h : KAt E n w W) => kcharAt S _ 0 false (by unfold charV; rw [hV2]; rfl) (by unfold charIs; rw [hV2]; rfl) hs2 h)
                  have C3 := Lib.hid (fun W (h : KAt E n w W) => knextAt S _ 0 _ _ 0 ⟨#[]⟩ ⟨#[]⟩ [] false (hV3.trans (if_neg (by simp))) 0 rfl 0 rfl hs1 ⟨by decide, by decide⟩ h)
                  clear hV1 hV2 hV3 hs1 hs2 cC
                  go_wp2_with fail
                  refine (C1.out _ H.out).mono ?_
                  rintro e w1 ⟨rfl, h⟩
                  have Ha := Lib.hid h
                  clear h H
                  go_wp2_with fail
                  refine (C2.out _ Ha.out).mono ?_
                  rintro e w2 ⟨rfl, h⟩
                  have Hb := Lib.hid h
                  clear h Ha
                  go_wp2_with fail
                  refine (C3.out _ Hb.out).mono ?_
                  rintro e w3 ⟨a, capt, rfl, _, h, _⟩
                  have H3 := Lib.hid (h.other S ((Below.refl _ _).alloc (Nat.le_refl _) (.cells #[.int .i64 0, .string ⟨#[]⟩, .string ⟨#[]⟩, .slice a 0 capt, .bool false] 27)))
                  clear h Hb C1 C2 C3
                  go_wp2_with fail
                  refine (told10_any S n _ H3.out.e H3.out.n_le).mono ?_
                  rintro e4 w4 ⟨rfl, hb4⟩
                  have HF := Lib.hid (H3.out.since.trans (hb4.mono H3.out.since.size))
                  clear hb4
                  go_wp2
                  go_ret
                  exact ⟨rfl, HF.out⟩
  · have g1 : decide (r < 0) = true := decide_eq_true h0
    go_enter Tryd.func4, Tryd.ntmps4
    go_wp2_with fail
    refine (cC.out w).mono ?_
    rintro e w1 ⟨rfl, rfl⟩
    clear hkr
    go_wp2
    go_loop [3, 7] (fun dv kv => ∃ (dl : List UInt8) (kk : Nat), dv = .string (bytes dl) ∧ kv = .int .i32 (kk : Int) ∧ Hid (Behind decV 10 k kk dl)) (fun dv _ => 33 - (strV dv).size)
    case atStart => exact ⟨[], k, rfl, rfl, Lib.hid (behind_nil decV 10 k HK31.out)⟩
    case round =>
      obtain ⟨dl, kk, rfl, rfl, HB⟩ := hrel
      have hkk := behind_le (by decide) HB.out
      have hdl := behind_len HB.out
      have hsz : (bytes dl).size ≤ 32 := by rw [bytes_size0]; exact hdl
      have hm : kk % 10 < 10 := Nat.mod_lt _ (by decide)
      by_cases h1 : 0 < kk
      · have g2 : decide (0 < kk) = true := decide_eq_true h1
        have HN := Lib.hid (behind_next (by decide) HB.out (decB_val _ hm) (decB_dig _ hm) (Or.inl h1))
        go_wp2
        go_round
        case rel => exact ⟨decB (kk % 10) :: dl, kk / 10, by rw [decB_at _ hm, bytes_one], rfl, Lib.hid HN.out.1⟩
        case measure =>
          show 33 - (_ ++ _ : ByteArray).size < 33 - (bytes dl).size
          rw [decB_at _ hm, bytes_one, bytes_size0, bytes_size0, List.length_cons]
          have := HN.out.2
          omega
      · have g2 : decide (0 < kk) = false := decide_eq_false h1
        by_cases h2 : dl = []
        · have HN := Lib.hid (behind_next (by decide) HB.out (decB_val _ hm) (decB_dig _ hm) (Or.inr h2))
          have hx : (bytes dl).toList = [] := by rw [ByteArray.toList_eq, h2]; rfl
          have H2 := Lib.hid h2
          clear h2
          go_wp2
          go_round
          case rel => exact ⟨decB (kk % 10) :: dl, kk / 10, by rw [decB_at _ hm, bytes_one], rfl, Lib.hid HN.out.1⟩
          case measure =>
            show 33 - (_ ++ _ : ByteArray).size < 33 - (bytes dl).size
            rw [decB_at _ hm, bytes_one, bytes_size0, bytes_size0, List.length_cons]
            have := HN.out.2
            omega
        · obtain rfl : kk = 0 := by omega
          have hx : ((bytes dl).toList == []) = false := by rw [ByteArray.toList_eq]; cases dl with | nil => exact absurd rfl h2 | cons _ _ => rfl
          have HD := Lib.hid HB.out
          have HDN := Lib.hid h2
          clear h2 hm hkk g2 h1 HB
          go_wp2
          clear hx
          go_loop [4, 8] (fun dv kv => ∃ (xl : List UInt8) (kk : Nat), dv = .string (bytes xl) ∧ kv = .int .i32 (kk : Int) ∧ Hid (Behind hexV 16 k kk xl)) (fun dv _ => 33 - (strV dv).size)
          case atStart => exact ⟨[], k, rfl, rfl, Lib.hid (behind_nil hexV 16 k HK31.out)⟩
          case round =>
            obtain ⟨xl, kk, rfl, rfl, HB⟩ := hrel
            have hkk := behind_le (by decide) HB.out
            have hxl := behind_len HB.out
            have hsz : (bytes xl).size ≤ 32 := by rw [bytes_size0]; exact hxl
            have hm : kk % 16 < 16 := Nat.mod_lt _ (by decide)
            by_cases h1 : 0 < kk
            · have g2 : decide (0 < kk) = true := decide_eq_true h1
              have HN := Lib.hid (behind_next (by decide) HB.out (hexB_val _ hm) (hexB_dig _ hm) (Or.inl h1))
              go_wp2
              go_round
              case rel => exact ⟨hexB (kk % 16) :: xl, kk / 16, by rw [hexB_at _ hm, bytes_one], rfl, Lib.hid HN.out.1⟩
              case measure =>
                show 33 - (_ ++ _ : ByteArray).size < 33 - (bytes xl).size
                rw [hexB_at _ hm, bytes_one, bytes_size0, bytes_size0, List.length_cons]
                have := HN.out.2
                omega
            · have g2 : decide (0 < kk) = false := decide_eq_false h1
              by_cases h2 : xl = []
              · have HN := Lib.hid (behind_next (by decide) HB.out (hexB_val _ hm) (hexB_dig _ hm) (Or.inr h2))
                have hx : (bytes xl).toList = [] := by rw [ByteArray.toList_eq, h2]; rfl
                have H2 := Lib.hid h2
                clear h2
                go_wp2
                go_round
                case rel => exact ⟨hexB (kk % 16) :: xl, kk / 16, by rw [hexB_at _ hm, bytes_one], rfl, Lib.hid HN.out.1⟩
                case measure =>
                  show 33 - (_ ++ _ : ByteArray).size < 33 - (bytes xl).size
                  rw [hexB_at _ hm, bytes_one, bytes_size0, bytes_size0, List.length_cons]
                  have := HN.out.2
                  omega
              · obtain rfl : kk = 0 := by omega
                have hx : ((bytes xl).toList == []) = false := by rw [ByteArray.toList_eq]; cases xl with | nil => exact absurd rfl h2 | cons _ _ => rfl
                have HX := Lib.hid HB.out
                have HXN := Lib.hid h2
                clear h2 hm hkk g2 h1 HB
                have hq1 := bytes_ref dl
                have hq2 := bytes_hex xl
                have hz1 : (bytes dl).size = dl.length := bytes_size0 dl
                have hs1 : ((⟨#[38, 35]⟩ : ByteArray) ++ bytes dl ++ ⟨#[59]⟩).size ≤ 100000 := by rw [hq1, bytes_size0]; simp; omega
                have hs2 : ((⟨#[38, 35, 120, 48, 48]⟩ : ByteArray) ++ bytes xl ++ ⟨#[59]⟩).size ≤ 100000 := by rw [hq2, bytes_size0]; simp; omega
                have hV1 : charRefL ((⟨#[38, 35]⟩ : ByteArray) ++ bytes dl ++ ⟨#[59]⟩).data.toList = if charB (k : Int) = true then some k else none := by rw [hq1]; exact (charRefL_of dl HDN.out).trans (refV_dec HDN.out HD.out)
                have hV2 : charRefL ((⟨#[38, 35, 120, 48, 48]⟩ : ByteArray) ++ bytes xl ++ ⟨#[59]⟩).data.toList = if charB (k : Int) = true then some k else none := by rw [hq2]; exact (charRefL_of (120 :: 48 :: 48 :: xl) (by simp)).trans (refV_hex HX.out)
                have hV3 : nextT ((⟨#[38, 35]⟩ : ByteArray) ++ bytes dl ++ ⟨#[59]⟩) 0 = if charB (k : Int) = true then (⟨7, ⟨#[]⟩, Utf8.encode (k : Int), [], false⟩, ((bytes dl).size : Int) + 3, 0) else (tok0, 0, 2) := by rw [hq1, hz1]; exact next_ref HDN.out HD.out
                rw [HMAY.out] at hV1 hV2 hV3
                clear hq1 hq2 hz1
                have H := Lib.hid (show KAt E n w w from ⟨HE.out, hn, Below.refl _ _⟩)
                cases may with
                | true =>
                  have C1 := Lib.hid (fun W (h : KAt E n w W) => kcharAt S _ (k : Int) true (by unfold charV; rw [hV1]; rfl) (by unfold charIs; rw [hV1]; rfl) hs1 h)
                  have C2 := Lib.hid (fun W (h : KAt E n w W) => kcharAt S _ (k : Int) true (by unfold charV; rw [hV2]; rfl) (by unfold charIs; rw [hV2]; rfl) hs2 h)
                  have C3 := Lib.hid (fun W (h : KAt E n w W) => knextAt S _ 0 _ _ 7 ⟨#[]⟩ (Utf8.encode (k : Int)) [] false (hV3.trans (if_pos rfl)) 7 rfl 0 rfl hs1 ⟨by decide, by decide⟩ h)
                  clear hV1 hV2 hV3 hs1 hs2 cC
                  go_wp2_with fail
                  refine (C1.out _ H.out).mono ?_
                  rintro e w1 ⟨rfl, h⟩
                  have Ha := Lib.hid h
                  clear h H
                  go_wp2_with fail
                  refine (C2.out _ Ha.out).mono ?_
                  rintro e w2 ⟨rfl, h⟩
                  have Hb := Lib.hid h
                  clear h Ha
                  go_wp2_with fail
                  refine (C3.out _ Hb.out).mono ?_
                  rintro e w3 ⟨a, capt, rfl, _, h, _⟩
                  have HXB := Lib.hid (box_tok w3 (.int .i64 7) (.string ⟨#[]⟩) (.string (Utf8.encode (k : Int))) (.slice a 0 capt) (.bool false) 27)
                  have H3 := Lib.hid (h.other S ((Below.refl _ _).alloc (Nat.le_refl _) (.cells #[.int .i64 7, .string ⟨#[]⟩, .string (Utf8.encode (k : Int)), .slice a 0 capt, .bool false] 27)))
                  clear h Hb C1 C2 C3
                  have jx := str_eq (t := Utf8.encode (k : Int)) rfl
                  go_wp2_with fail
                  refine (told10_any S n _ H3.out.e H3.out.n_le).mono ?_
                  rintro e4 w4 ⟨rfl, hb4⟩
                  obtain ⟨k0, _, k2, _⟩ := HXB.out w4 hb4
                  have HF := Lib.hid (H3.out.since.trans (hb4.mono H3.out.since.size))
                  clear hb4
                  go_wp2
                  go_ret
                  exact ⟨rfl, HF.out⟩
                | false =>
                  have C1 := Lib.hid (fun W (h : KAt E n w W) => kcharAt S _ 0 false (by unfold charV; rw [hV1]; rfl) (by unfold charIs; rw [hV1]; rfl) hs1 h)
                  have C2 := Lib.hid (fun W (h : KAt E n w W) => kcharAt S _ 0 false (by unfold charV; rw [hV2]; rfl) (by unfold charIs; rw [hV2]; rfl) hs2 h)
                  have C3 := Lib.hid (fun W (h : KAt E n w W) => knextAt S _ 0 _ _ 0 ⟨#[]⟩ ⟨#[]⟩ [] false (hV3.trans (if_neg (by simp))) 0 rfl 0 rfl hs1 ⟨by decide, by decide⟩ h)
                  clear hV1 hV2 hV3 hs1 hs2 cC
                  go_wp2_with fail
                  refine (C1.out _ H.out).mono ?_
                  rintro e w1 ⟨rfl, h⟩
                  have Ha := Lib.hid h
                  clear h H
                  go_wp2_with fail
                  refine (C2.out _ Ha.out).mono ?_
                  rintro e w2 ⟨rfl, h⟩
                  have Hb := Lib.hid h
                  clear h Ha
                  go_wp2_with fail
                  refine (C3.out _ Hb.out).mono ?_
                  rintro e w3 ⟨a, capt, rfl, _, h, _⟩
                  have H3 := Lib.hid (h.other S ((Below.refl _ _).alloc (Nat.le_refl _) (.cells #[.int .i64 0, .string ⟨#[]⟩, .string ⟨#[]⟩, .slice a 0 capt, .bool false] 27)))
                  clear h Hb C1 C2 C3
                  go_wp2_with fail
                  refine (told10_any S n _ H3.out.e H3.out.n_le).mono ?_
                  rintro e4 w4 ⟨rfl, hb4⟩
                  have HF := Lib.hid (H3.out.since.trans (hb4.mono H3.out.since.size))
                  clear hb4
                  go_wp2
                  go_ret
                  exact ⟨rfl, HF.out⟩
end Go.Proofs.YtcnomlhlellmiaaDoor
