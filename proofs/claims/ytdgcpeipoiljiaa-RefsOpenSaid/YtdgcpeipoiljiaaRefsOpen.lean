/-
  LAYER 12: brackenlaw12.RefsOpen, out of RefsSaid: true for any number.
-/
import Derived.Test.YtdgcpeipoiljiaaRefsNm
import Derived.Deep.AppendLies
namespace Go.Proofs.Ytdgcpeipoiljiaa
open Go.RowKit

/-- the first i entities of one letter each, all of one text -/
def ones (i : Nat) : List EntD := (List.range i).map fun j => ⟨nmL j, [118], false⟩
theorem ones_next (i : Nat) : ones (i + 1) = ones i ++ [⟨nmL i, [118], false⟩] := by simp [ones, List.range_succ]
theorem ones_len (i : Nat) : (ones i).length = i := by simp [ones]
theorem ones_at (i j : Nat) (h : j < i) : entI (ones i) j = ⟨nmL j, [118], false⟩ := by simp [ones, entI, List.getD, h]
theorem ones_lett (i : Nat) (h : i ≤ 20) : Lett (ones i) := by
  refine ⟨by rw [ones_len]; exact h, fun j hj => ?_, fun j hj => ?_, fun j hj => ?_⟩ <;> rw [ones_len] at hj <;> rw [ones_at i j hj]
  show 1 ≤ 30
  decide
theorem ones_own {w : World} {base i : Nat} {v : Value} {x : ByteArray} (h : w.ownsRow base 25 3 v (i + 1) (flatE (ones i) ++ [.string x, .string ⟨#[118]⟩, .bool false])) (hx : x = bytes (nmL i)) : OwnE w base v (ones (i + 1)) := by
  subst hx
  rw [ones_next]
  refine ownE_next ⟨nmL i, [118], false⟩ ?_
  rw [ones_len]
  exact h
def stO (k i n : Nat) : RefD := ⟨lookE (ones k), nms i, n⟩
theorem stO_new (k i : Nat) (hi : i < k) (hk : k ≤ 20) : openT (stO k i i) (nmL i) 100 = ([118], 0) ∧ openS (stO k i i) (nmL i) 100 = stO k (i + 1) (i + 1) := by
  have h := open_new (ones_lett k hk) (n := i) (most := 100) (by rw [ones_len]; exact hi) (nms_new i (by omega)) (by rw [ones_at k i hi]; show ((i + 1 : Nat) : Int) ≤ 100; omega)
  rw [ones_at k i hi, ← nms_next] at h
  exact h
theorem stO_old (k i j n : Nat) (hj : j < i) (hi : i ≤ k) (hk : k ≤ 20) : openT (stO k i n) (nmL j) 100 = ([], 1) ∧ openS (stO k i n) (nmL j) 100 = stO k i n :=
  open_old (ones_lett k hk) (by rw [ones_len]; omega) (nms_old i j hj)
theorem stO_close (k i n : Nat) : closeB (stO k (i + 1) n) (nmL i) = true ∧ closeS (stO k (i + 1) n) (nmL i) = stO k i n := by
  unfold stO
  rw [nms_next]
  exact close_last _ _
theorem stO_first (k n : Nat) (h1 : 1 < k) (hk : k ≤ 20) : closeB (stO k k n) (nmL 0) = false ∧ closeS (stO k k n) (nmL 0) = stO k k n := by
  obtain ⟨i, rfl⟩ : ∃ i, k = i + 1 := ⟨k - 1, by omega⟩
  exact close_not _ _ (nms_last i 0 (by omega) (by omega))
theorem stO_none (k n : Nat) : closeB (stO k 0 n) (nmL 0) = false ∧ closeS (stO k 0 n) (nmL 0) = stO k 0 n := close_not _ _ (by decide)
theorem info_entL : ∃ i0, Try.prog.info? 25 = some i0 ∧ i0.zero = some (.agg #[.string ⟨#[]⟩, .string ⟨#[]⟩, .bool false]) ∧ i0.size = 3 ∧ i0.bytes = 40 := by
  obtain ⟨i0, hi, hz⟩ := Option.map_eq_some_iff.1 info_ent
  simp only [Prod.mk.injEq] at hz
  exact ⟨i0, hi, hz.1, hz.2.1, hz.2.2⟩
set_option maxHeartbeats 4000000 in
set_option maxRecDepth 100000 in
theorem refsopen_any {Is : (Nat → Prop) → World → Value → RefD → Prop} (S : RefsSaid Is) (n0 : Int) (w : World) :
    Calls Try.prog 3 #[.int .i64 n0] w fun e w' => e = .returned (.bool true) ∧ Below w.heap.size w w' := by
  obtain ⟨i0, hi, hz0, hz1, hz2⟩ := info_entL
  obtain ⟨u1, k0, hk1, hk2, hk3, hk4, hk5⟩ := wrap_mod n0 20 (by decide) (by decide)
  replace hk2 : Int.tmod (u1 : Int) 20 = (k0 : Int) := hk2
  obtain ⟨k, hk⟩ : ∃ k, 1 + k0 = k := ⟨_, rfl⟩
  have hkI : (1 : Int) + (k0 : Int) = (k : Int) := by omega
  have hk20 : k ≤ 20 := by omega
  have hkp : 1 ≤ k := by omega
  go_enter Try.func3, Try.ntmps3
  go_wp2
  clear hk1 hk2 hk3 hk4 hk5 hk hkI
  go_loopw [4, 5] (fun lv iv wr => ∃ (i : Nat) (p : Option Addr) (c : Nat), i ≤ k ∧ iv = .int .i64 i ∧ lv = .slice p i c ∧ Hid (OwnE wr w.heap.size lv (ones i)) ∧ Hid (Below w.heap.size w wr)) (fun _ iv _ => k - (intOf iv).toNat)
  case atStart => exact ⟨0, none, 0, Nat.zero_le _, rfl, rfl, Lib.hid (World.ownsRow_nil _ _ _ _), Lib.hid (Below.refl _ _)⟩
  case round =>
    obtain ⟨i, p, c, hik, rfl, rfl, HO, HB⟩ := hrel
    by_cases hlt : i < k
    · have HL := Lib.hid (letter_at i (by omega))
      have HS := Lib.hid HB.out.size
      have hown0 := HO.out
      unfold OwnE at hown0
      rw [ones_len] at hown0
      go_wp2_with (at_builtin; refine wpList_append_own _ rfl _ _ 23 rfl w.heap.size 25 i0 (.agg #[.string ⟨#[]⟩, .string ⟨#[]⟩, .bool false]) 3 40 Try.underlying23 hi hz0 hz1 hz2 rfl (by decide) _ _ _ rfl (hown0.alloc _) ⟨wr.heap.size, 0, none⟩ 1 1 [.string (lettersB.extract i (i + 1)), .string ⟨#[118]⟩, .bool false] rfl rfl (World.news_of_block (ent_new _ _ _ _ _)) (by intro u hu; simp at hu; rcases hu with rfl | rfl | rfl <;> rfl) (by unfold maxLen; omega) (by omega) (by have := HS.out; simp; omega) ?_; intro v' w2 hown3 hgrow3 _; have hown4 : OwnE w2 w.heap.size v' (ones (i + 1)) := ones_own hown3 HL.out; have hsl := ownE_slice hown4; rw [ones_len] at hsl; obtain ⟨a4, c4, rfl⟩ := hsl)
      have HB3 : Hid (Below w.heap.size w w2) := Lib.hid ((HB.out.alloc HB.out.size _).grown hgrow3 (by rw [Deep.nblk_alloc]; have := HS.out; omega) (fun q hq => ownE_block (HO.out : OwnE wr w.heap.size _ _) q hq))
      have HO4 := Lib.hid hown4
      clear hown0 hown3 hgrow3 hown4
      go_roundw
      case rel => exact ⟨i + 1, a4, c4, by omega, by go_num, rfl, HO4, HB3⟩
      case measure => simp [intOf]; omega
    · obtain rfl : i = k := by omega
      have hen := owns_ents (by have := HO.out; unfold OwnE at this; exact this)
      obtain ⟨b, off, rfl, hbl, hc0⟩ := (show EntsAt wr.heap.size wr (.slice p i c) (ones i) from hen).cell (by rw [ones_len]; omega)
      have HEN := Lib.hid hen
      clear hen
      have HLE := Lib.hid (ones_lett i hk20)
      go_wp2_with fail
      refine (rnewAt S (ones i) _ _ _ HLE.out.fewR HEN.out).mono ?_
      rintro e w1 ⟨q, rfl, h⟩
      obtain ⟨wl, rfl⟩ : ∃ wl, wl = wr := ⟨_, rfl⟩
      have HC := Lib.hid (fun j (hj : j < i) W (hW : Below wl.heap.size wl W) => show W.cell? ⟨b, off + j * 3, none⟩ = some (.string (bytes (nmL j))) from (hW.cell (p := ⟨b, off + j * 3, none⟩) hbl).trans (by have := (hc0 j (by rw [ones_len]; exact hj)).1; rw [ones_at i j hj] at this; exact this))
      have H := Lib.hid (show RAt Is wl (.pointer (some q)) (stO i 0 0) w1 from h)
      have F100 := Lib.hid (fits_small 100 (by decide) (by decide))
      clear h hc0 HEN HLE HO
      go_wp2
      go_loopw [7] (fun jv wj => ∃ j, j ≤ i ∧ jv = .int .i64 j ∧ Hid (RAt Is wl (.pointer (some q)) (stO i j j) wj)) (fun jv _ => i - (intOf jv).toNat)
      case atStart => exact ⟨0, Nat.zero_le _, rfl, H⟩
      case round =>
        clear H
        obtain ⟨j, hji, rfl, H⟩ := hrel
        by_cases hlj : j < i
        · have hcj := HC.out j hlj _ H.out.since
          have HN := Lib.hid (stO_new i j hlj hk20)
          have hjI : (j : Int) < (i : Int) := by omega
          go_wp2_with fail
          refine (ropenAt S (nmL j) 100 _ ⟨#[118]⟩ rfl _ _ HN.out.1 HN.out.2 (by rw [nmL_len]; decide) F100.out H.out).mono ?_
          rintro e w2 ⟨rfl, h⟩
          replace H := Lib.hid h
          clear h hcj
          go_wp2
          go_loopw [10] (fun mv wm => ∃ m, m ≤ j + 1 ∧ mv = .int .i64 m ∧ Hid (RAt Is wl (.pointer (some q)) (stO i (j + 1) (j + 1)) wm)) (fun mv _ => j + 1 - (intOf mv).toNat)
          case atStart => exact ⟨0, Nat.zero_le _, rfl, H⟩
          case round =>
            clear H
            obtain ⟨m, hmj, rfl, H⟩ := hrel
            by_cases hlm : m ≤ j
            · have hcm := HC.out m (by omega) _ H.out.since
              have HN := Lib.hid (stO_old i (j + 1) m (j + 1) (by omega) (by omega) hk20)
              have hmI : (m : Int) < (i : Int) := by omega
              go_wp2_with fail
              refine (ropenAt S (nmL m) 100 _ ⟨#[]⟩ rfl _ _ HN.out.1 HN.out.2 (by rw [nmL_len]; decide) F100.out H.out).mono ?_
              rintro e w3 ⟨rfl, h⟩
              replace H := Lib.hid h
              clear h hcm
              go_wp2
              go_roundw
              case rel => exact ⟨m + 1, by omega, by go_num, H⟩
              case measure => simp [intOf]; omega
            · obtain rfl : m = j + 1 := by omega
              go_wp2
              go_roundw
              case rel => exact ⟨j + 1, hlj, by go_num, H⟩
              case measure => simp [intOf]; omega
        · obtain rfl : j = i := by omega
          have HSI := Lib.hid (show (stO j j j).n = j from rfl)
          have HSD := Lib.hid (show (stO j j j).opened.length = j from nms_len j)
          have hc0 := HC.out 0 (by omega)
          have HC0 := Lib.hid (fun W hW => show World.cell? W ⟨b, off, none⟩ = some (.string (bytes (nmL 0))) from hc0 W hW)
          clear hc0
          go_wp2_with fail
          refine (rspentAt S H.out).mono ?_
          rw [HSI.out]
          rintro e w2 ⟨rfl, h⟩
          replace H := Lib.hid h
          clear h
          go_wp2_with fail
          try simp only [List.append_eq, List.cons_append, List.nil_append] at *
          refine (rdepthAt S H.out).mono ?_
          rw [HSD.out]
          rintro e w3 ⟨rfl, h⟩
          replace H := Lib.hid h
          clear h
          by_cases h1j : 1 < j
          · have g1 : decide (1 < j) = true := decide_eq_true h1j
            have g2 : decide ((1 : Int) < (j : Int)) = true := decide_eq_true (by omega)
            have hcz := HC0.out _ H.out.since
            have HNF := Lib.hid (stO_first j j h1j hk20)
            go_wp2_with fail
            try simp only [List.append_eq, List.cons_append, List.nil_append] at *
            refine (rcloseAt S (nmL 0) _ _ HNF.out.1 HNF.out.2 (by decide) H.out).mono ?_
            rintro e w3 ⟨rfl, h⟩
            replace H := Lib.hid h
            clear h hcz g1 g2
            go_wp2
            go_loopw [13] (fun mv wm => ∃ m : Nat, m ≤ j ∧ mv = .int .i64 ((m : Int) - 1) ∧ Hid (RAt Is wl (.pointer (some q)) (stO j m j) wm)) (fun mv _ => (intOf mv + 1).toNat)
            case atStart => exact ⟨j, Nat.le_refl _, rfl, H⟩
            case round =>
              clear H
              obtain ⟨m, hmj, rfl, H⟩ := hrel
              by_cases hm0 : m = 0
              · subst hm0
                have HNZ := Lib.hid (stO_none j j)
                have HSZ := Lib.hid (show (stO j 0 j).opened.length = 0 from rfl)
                go_wp2_with fail
                refine (told12_any S _).mono ?_
                rintro e w4 ⟨rfl, h⟩
                replace H := Lib.hid (H.out.other S h)
                clear h
                go_wp2_with fail
                try simp only [List.append_eq, List.cons_append, List.nil_append] at *
                refine (rdepthAt S H.out).mono ?_
                rw [HSZ.out]
                rintro e w5 ⟨rfl, h⟩
                replace H := Lib.hid h
                clear h
                go_wp2_with fail
                try simp only [List.append_eq, List.cons_append, List.nil_append] at *
                refine (rcloseAt S (nmL 0) _ _ HNZ.out.1 HNZ.out.2 (by decide) H.out).mono ?_
                rintro e w6 ⟨rfl, h⟩
                replace H := Lib.hid h
                clear h
                go_wp2
                go_ret
                exact ⟨rfl, HB.out.trans (H.out.since.mono HB.out.size)⟩
              · obtain ⟨x, rfl⟩ : ∃ x, m = x + 1 := ⟨m - 1, by omega⟩
                have hcx := HC.out x (by omega) _ H.out.since
                have hx1 : ((x + 1 : Nat) : Int) - 1 = (x : Int) := by omega
                rw [hx1]
                have hxI : (x : Int) < (j : Int) := by omega
                have HNX := Lib.hid (stO_close j x j)
                go_wp2_with fail
                refine (rcloseAt S (nmL x) _ _ HNX.out.1 HNX.out.2 (by rw [nmL_len]; decide) H.out).mono ?_
                rintro e w4 ⟨rfl, h⟩
                replace H := Lib.hid h
                clear h hcx
                go_wp2
                go_roundw
                case rel => exact ⟨x, by omega, by go_num, H⟩
                case measure => simp [intOf]

          · have g1 : decide (1 < j) = false := decide_eq_false h1j
            have g2 : decide ((1 : Int) < (j : Int)) = false := decide_eq_false (by omega)
            go_wp2
            go_loopw [13] (fun mv wm => ∃ m : Nat, m ≤ j ∧ mv = .int .i64 ((m : Int) - 1) ∧ Hid (RAt Is wl (.pointer (some q)) (stO j m j) wm)) (fun mv _ => (intOf mv + 1).toNat)
            case atStart => exact ⟨j, Nat.le_refl _, rfl, H⟩
            case round =>
              clear H
              obtain ⟨m, hmj, rfl, H⟩ := hrel
              by_cases hm0 : m = 0
              · subst hm0
                have HNZ := Lib.hid (stO_none j j)
                have HSZ := Lib.hid (show (stO j 0 j).opened.length = 0 from rfl)
                go_wp2_with fail
                refine (told12_any S _).mono ?_
                rintro e w4 ⟨rfl, h⟩
                replace H := Lib.hid (H.out.other S h)
                clear h
                go_wp2_with fail
                try simp only [List.append_eq, List.cons_append, List.nil_append] at *
                refine (rdepthAt S H.out).mono ?_
                rw [HSZ.out]
                rintro e w5 ⟨rfl, h⟩
                replace H := Lib.hid h
                clear h
                go_wp2_with fail
                try simp only [List.append_eq, List.cons_append, List.nil_append] at *
                refine (rcloseAt S (nmL 0) _ _ HNZ.out.1 HNZ.out.2 (by decide) H.out).mono ?_
                rintro e w6 ⟨rfl, h⟩
                replace H := Lib.hid h
                clear h
                go_wp2
                go_ret
                exact ⟨rfl, HB.out.trans (H.out.since.mono HB.out.size)⟩
              · obtain ⟨x, rfl⟩ : ∃ x, m = x + 1 := ⟨m - 1, by omega⟩
                have hcx := HC.out x (by omega) _ H.out.since
                have hx1 : ((x + 1 : Nat) : Int) - 1 = (x : Int) := by omega
                rw [hx1]
                have hxI : (x : Int) < (j : Int) := by omega
                have HNX := Lib.hid (stO_close j x j)
                go_wp2_with fail
                refine (rcloseAt S (nmL x) _ _ HNX.out.1 HNX.out.2 (by rw [nmL_len]; decide) H.out).mono ?_
                rintro e w4 ⟨rfl, h⟩
                replace H := Lib.hid h
                clear h hcx
                go_wp2
                go_roundw
                case rel => exact ⟨x, by omega, by go_num, H⟩
                case measure => simp [intOf]
end Go.Proofs.Ytdgcpeipoiljiaa
