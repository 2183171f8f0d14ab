/-
  LAYER 2: THE CONTRACT OF brackenlaw2.TextAsks out of what is asked of package text.
-/
import Derived.Test.YteejkkdimkgmfaaDoorTextSaid
import Derived.Test.YteejkkdimkgmfaaDoorRefText
import Derived.Deep.RegionHeld3
namespace Go.Proofs.YteejkkdimkgmfaaDoor
open Go.RowKit

/-- 'string(b)' of a slice that holds bytes. -/
theorem bytes_string {B : Nat} {w : World} {a : Option Addr} {n cap : Nat} {bs : List UInt8} (h : BytesAt B w (.slice a n cap) bs) :
    (convert 22 9 (.slice a n cap)).run Tryd.prog w = .ok (.string ⟨bs.toArray⟩) w := by
  obtain ⟨a', cap', h1, _, h2⟩ := h
  simp only [Value.slice.injEq] at h1
  obtain ⟨rfl, rfl, rfl⟩ := h1
  have key : ∀ b off, (∀ i, i < bs.length → w.cell? ⟨b, off + i, none⟩ = some (bval (bs.getD i 0))) → (convert 22 9 (.slice (some ⟨b, off, none⟩) bs.length cap)).run Tryd.prog w = .ok (.string ⟨bs.toArray⟩) w := by
    intro b off hc
    have hc' : ∀ i, i < bs.length → w.cell? ⟨b, off + i, none⟩ = some (.int .u8 ((bs.map fun b => (b.toNat : Int)).getD i 0)) := by
      intro i hi
      rw [hc i hi]
      simp [bval, List.getD, List.getElem?_eq_getElem hi]
    have := run_convert_bytes_arg (P := Tryd.prog) w 22 5 Tryd.underlying22 Tryd.underlying5 b off bs.length cap (bs.map fun b => (b.toNat : Int)) (by simp) hc' 9 Tryd.underlying9
    rw [this]
    congr 2
    unfold strOfNums
    congr 2
    rw [List.map_map]
    conv => rhs; rw [← List.map_id bs]
    apply List.map_congr_left
    intro b _
    simp
  rcases h2 with rfl | ⟨b, off, rfl, _, hc⟩
  · cases a with
    | none => exact run_convert_bytes_nil w 22 5 Tryd.underlying22 Tryd.underlying5 _ _ 9 Tryd.underlying9
    | some ad => exact run_convert_bytes_back w 22 9 5 ad cap [] Tryd.underlying22 Tryd.underlying5 Tryd.underlying9 (fun j hj => absurd hj (Nat.not_lt_zero _))
  · exact key b off hc
theorem count_step (bs : List UInt8) (k c : Nat) (h : k < bs.length) (hc : (bs.getD k 0).toNat = c) : (bs.take (k + 1)).countP (· == 10) = (bs.take k).countP (· == 10) + if c = 10 then 1 else 0 := by
  have e : bs.getD k 0 = bs[k]'h := by simp [List.getD, List.getElem?_eq_getElem h]
  rw [List.take_succ_eq_append_getElem h, List.countP_append]
  congr 1
  rw [e] at hc
  by_cases h10 : c = 10
  · have : bs[k]'h = 10 := UInt8.toNat_inj.1 (by rw [hc, h10]; rfl)
    rw [if_pos h10, this]; rfl
  · have : ¬ bs[k]'h = 10 := fun e => h10 (by rw [← hc, e]; rfl)
    rw [if_neg h10]
    simp [this]
theorem count_le (bs : List UInt8) (k : Nat) : (bs.take k).countP (· == 10) ≤ k := by
  have h1 := List.countP_le_length (p := (· == (10 : UInt8))) (l := bs.take k)
  have h2 : (bs.take k).length ≤ k := List.length_take_le _ _
  omega

set_option maxHeartbeats 1000000 in
set_option maxRecDepth 100000 in
theorem asks2_long {E : World → Prop} (T : TextSaid E) (a : Option Addr) (n cap : Nat) (w : World) (h : 200 < n) (hE : E w) :
    Calls Tryd.prog 4 #[.slice a n cap] w fun e w' => e = .returned (.bool true) ∧ Below w.heap.size w w' := by
  have cT := told2_any T w hE
  have g1 : decide ((200 : Int) < (n : Int)) = true := decide_eq_true (by omega)
  have g2 : decide (200 < n) = true := decide_eq_true h
  go_enter Tryd.func4, Tryd.ntmps4
  go_wp2_with (go_at_call 9; refine cT.mono ?_; rintro e w1 ⟨rfl, hb⟩)
  go_ret
  exact ⟨rfl, hb⟩
set_option maxHeartbeats 4000000 in
set_option maxRecDepth 100000 in
theorem asks2_some {E : World → Prop} (T : TextSaid E) (b off cap : Nat) (bs : List UInt8) (w : World) (h : ¬ 200 < bs.length) (hcap : bs.length ≤ cap) (hE : E w) (hbB : b < w.heap.size) (hc : ∀ i, i < bs.length → w.cell? ⟨b, off + i, none⟩ = some (bval (bs.getD i 0))) :
    Calls Tryd.prog 4 #[.slice (some ⟨b, off, none⟩) bs.length cap] w fun e w' => e = .returned (.bool true) ∧ Below w.heap.size w w' := by
  have HE := Lib.hid hE
  have hby : BytesAt w.heap.size w (.slice (some ⟨b, off, none⟩) bs.length cap) bs := ⟨_, cap, rfl, hcap, Or.inr ⟨b, off, rfl, hbB, hc⟩⟩
  have HC := Lib.hid hc
  clear hc
  have HBY := Lib.hid hby
  have HL : Hid (bs.length ≤ 100000) := show _ ≤ _ by omega
  obtain ⟨S, hS⟩ : ∃ S : ByteArray, S = ⟨bs.toArray⟩ := ⟨_, rfl⟩
  have hSz : S.size = bs.length := by rw [hS]; simp [ByteArray.size]
  have HS : Hid (S.size ≤ 4294967296) := show _ ≤ _ by omega
  have HS2 : Hid (S.size ≤ 100000) := show _ ≤ _ by omega
  have HCV : Hid (∀ W, Below w.heap.size w W → (convert 22 9 (.slice (some ⟨b, off, none⟩) bs.length cap)).run Tryd.prog W = .ok (.string S) W) := fun W hW => by rw [hS]; exact bytes_string (hby.below hW)
  obtain ⟨rs, rx, hr⟩ : ∃ rs rx, readT S = (rs, rx) := ⟨_, _, rfl⟩
  have HR : Hid (readT ⟨bs.toArray⟩ = (rs, rx)) := by rw [← hS]; exact hr
  obtain ⟨p, hp⟩ : ∃ p, validT S = p := ⟨_, rfl⟩
  have HP : Hid (validT ⟨bs.toArray⟩ = p) := by rw [← hS]; exact hp
  have HP2 := Lib.hid (fun w => refValid_any S w HS.out)
  rw [hp] at HP2
  have cRT := fun w => refText_any S w HS.out
  rw [hr] at cRT
  have HRT := Lib.hid cRT
  have HLI : Hid (linesT S = (bs.take bs.length).countP (· == 10)) := by rw [hS, List.take_of_length_le (Nat.le_refl _)]; exact rfl
  have hlen : bs.length ≤ 200 := by omega
  have g1 : decide (200 < bs.length) = false := decide_eq_false h
  clear hE hby hSz cRT hr h hS hp
  go_enter Tryd.func4, Tryd.ntmps4
  go_wp2_with fail
  refine (T.readIs _ _ bs rs (codeOf rx) rx HR.out rfl _ HE.out HL.out HBY.out).mono ?_
  rintro e v1 ⟨rfl, hb⟩
  have hcv := HCV.out _ hb
  go_wp2_with fail
  refine (HRT.out _).mono ?_
  rintro e v2 ⟨rfl, hb'⟩
  replace hb := step_below2 hb hb'
  clear hb' hcv
  go_wp2_with fail
  go_loop [7, 8] (fun n i => ∃ k : Nat, k ≤ bs.length ∧ i = .int .i64 k ∧ n = .int .i64 ((bs.take k).countP (· == 10) : Nat)) (fun _ i => bs.length - (intOf i).toNat)
  case atStart => exact ⟨0, Nat.zero_le _, rfl, rfl⟩
  case round =>
    obtain ⟨k, hk, rfl, rfl⟩ := hrel
    have hcl := count_le bs k
    by_cases hlt : k < bs.length
    · obtain ⟨c, hc⟩ : ∃ c, (bs.getD k 0).toNat = c := ⟨_, rfl⟩
      have hcb : c < 256 := by rw [← hc]; exact UInt8.toNat_lt _
      have hcell : v2.cell? ⟨b, off + k, none⟩ = some (.int .u8 (c : Int)) := by
        rw [hb.cell (p := ⟨b, off + k, none⟩) hbB, HC.out k hlt, ← hc]; rfl
      have HST := Lib.hid (count_step bs k c hlt hc)
      generalize (bs.take k).countP (· == 10) = n at *
      clear hc
      have hz : k = 0 → v2.cell? ⟨b, off, none⟩ = some (.int .u8 (c : Int)) := fun e => by rw [e] at hcell; exact hcell
      by_cases h10 : c = 10
      · have HS' : Hid ((bs.take (k + 1)).countP (· == 10) = n + 1) := by rw [HST.out, if_pos h10]; exact rfl
        subst h10
        clear HST hz
        go_wp2
        go_round
        case rel => exact ⟨k + 1, by omega, by go_num, by rw [HS'.out]; go_num⟩
        case measure => simp [intOf]; omega
      · have HS' : Hid ((bs.take (k + 1)).countP (· == 10) = n) := by rw [HST.out, if_neg h10]; exact rfl
        have a1 : ((c : Int) == 10) = false := beq_eq_false_iff_ne.2 (by omega)
        have a2 : (c == 10) = false := beq_eq_false_iff_ne.2 h10
        clear HST hz h10
        go_wp2
        go_round
        case rel => exact ⟨k + 1, by omega, by go_num, by rw [HS'.out]⟩
        case measure => simp [intOf]; omega
    · have hks : k = bs.length := by omega
      subst hks
      generalize (bs.take bs.length).countP (· == 10) = n at *
      go_wp2_with fail
      go_region_held3 (fun W => Below w.heap.size w W ∧ (convert 22 9 (.slice (some ⟨b, off, none⟩) bs.length cap)).run Tryd.prog W = .ok (.string S) W) (first | exact ⟨hb.drew, HCV.out _ hb.drew⟩ | exact ⟨hb, HCV.out _ hb⟩ | exact ⟨step_below2 (And.left ‹_ ∧ (convert _ _ _).run _ _ = _›) ‹_›, HCV.out _ (step_below2 (And.left ‹_ ∧ (convert _ _ _).run _ _ = _›) ‹_›)⟩ | assumption)
        (first | ((go_at_call 9; refine (told2_any T _ (T.below _ _ HE.out (And.left ‹_ ∧ (convert _ _ _).run _ _ = _›))).mono ?_; rintro e u ⟨rfl, hb'⟩)) | ((go_at_call 10; refine (T.validIs _ _ bs p HP.out _ (T.below _ _ HE.out (And.left ‹_ ∧ (convert _ _ _).run _ _ = _›)) HL.out (HBY.out.below (And.left ‹_ ∧ (convert _ _ _).run _ _ = _›))).mono ?_; rintro e u ⟨rfl, hb'⟩)) | ((go_at_call 13; refine (HP2.out _).mono ?_; rintro e u ⟨rfl, rfl⟩)) | ((go_at_call 14; refine (T.ends _ _ (T.below _ _ HE.out (And.left ‹_ ∧ (convert _ _ _).run _ _ = _›)) HS2.out).mono ?_; rintro e u ⟨rfl, hb'⟩)) | ((go_at_call 15; refine (refEnds_any _ _ HS.out).mono ?_; rintro e u ⟨rfl, hb'⟩)) | ((go_at_call 16; refine (T.linesIs _ _ HLI.out _ (T.below _ _ HE.out (And.left ‹_ ∧ (convert _ _ _).run _ _ = _›)) HS2.out).mono ?_; rintro e u ⟨rfl, hb'⟩)))
      all_goals (go_wp2; go_ret)
      all_goals (refine ⟨rfl, ?_⟩; rename_i hh; exact hh.1)
end Go.Proofs.YteejkkdimkgmfaaDoor
