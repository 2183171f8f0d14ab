/-
  LAYER 2: THE CONTRACTS OF brackenlaw2.TextAsks, TextEnds, TextMark, WHOLE: at whatever bytes, nil too.
-/
import Derived.Test.YteejkkdimkgmfaaDoorTextNone
namespace Go.Proofs.YteejkkdimkgmfaaDoor
open Go.RowKit

theorem valid_empty : validT ⟨#[]⟩ = true := by kernel_rfl
theorem read_empty : readT ⟨#[]⟩ = (⟨#[]⟩, true) := by kernel_rfl

set_option maxHeartbeats 4000000 in
set_option maxRecDepth 100000 in
theorem asks2_none {E : World → Prop} (T : TextSaid E) (a : Option Addr) (cap : Nat) (w : World) (hE : E w) :
    Calls Tryd.prog 4 #[.slice a 0 cap] w fun e w' => e = .returned (.bool true) ∧ Below w.heap.size w w' := by
  have HE := Lib.hid hE
  have hby := none_at w a cap
  have HBY := Lib.hid hby
  have HL : Hid (([] : List UInt8).length ≤ 100000) := show _ ≤ _ by decide
  obtain ⟨S, hS⟩ : ∃ S : ByteArray, S = ⟨#[]⟩ := ⟨_, rfl⟩
  have HS : Hid (S.size ≤ 4294967296) := show _ ≤ _ by rw [hS]; decide
  have HS2 : Hid (S.size ≤ 100000) := show _ ≤ _ by rw [hS]; decide
  have HCV : Hid (∀ W, Below w.heap.size w W → (convert 22 9 (.slice a 0 cap)).run Tryd.prog W = .ok (.string S) W) := fun W hW => by rw [hS]; exact bytes_string (hby.below hW)
  obtain ⟨rs, rx, hr⟩ : ∃ rs rx, readT S = (rs, rx) := ⟨_, _, rfl⟩
  have HR : Hid (readT ⟨([] : List UInt8).toArray⟩ = (rs, rx)) := by rw [hS] at hr; exact hr
  obtain ⟨p, hp⟩ : ∃ p, validT S = p := ⟨_, rfl⟩
  have HP : Hid (validT ⟨([] : List UInt8).toArray⟩ = p) := by rw [hS] at hp; exact hp
  have HP2 := Lib.hid (fun w => refValid_any S w HS.out)
  rw [hp] at HP2
  have cRT := fun w => refText_any S w HS.out
  rw [hr] at cRT
  have HRT := Lib.hid cRT
  obtain ⟨m, hm⟩ : ∃ m, linesT S = m := ⟨_, rfl⟩
  have HM : Hid (m = 0) := by rw [hS] at hm; exact hm.symm.trans lines_none
  have HLI := Lib.hid hm
  clear hE hby cRT hS hr hp hm
  go_enter Tryd.func4, Tryd.ntmps4
  go_wp2_with fail
  refine (T.readIs _ _ [] rs (codeOf rx) rx HR.out rfl _ HE.out HL.out HBY.out).mono ?_
  rintro e v1 ⟨rfl, hb⟩
  have hcv := HCV.out _ hb
  go_wp2_with fail
  refine (HRT.out _).mono ?_
  rintro e v2 ⟨rfl, hb'⟩
  replace hb := step_below2 hb hb'
  clear hb' hcv
  go_wp2_with fail
  go_loop [7, 8] (fun n i => i = .int .i64 0 ∧ n = .int .i64 (m : Nat)) (fun _ _ => 0)
  case atStart => exact ⟨rfl, by rw [HM.out]; rfl⟩
  case round =>
    obtain ⟨rfl, rfl⟩ := hrel
    go_wp2_with fail
    go_region_held3 (fun W => Below w.heap.size w W ∧ (convert 22 9 (.slice a 0 cap)).run Tryd.prog W = .ok (.string S) W) (first | exact ⟨hb.drew, HCV.out _ hb.drew⟩ | exact ⟨hb, HCV.out _ hb⟩ | exact ⟨step_below2 (And.left ‹_ ∧ (convert _ _ _).run _ _ = _›) ‹_›, HCV.out _ (step_below2 (And.left ‹_ ∧ (convert _ _ _).run _ _ = _›) ‹_›)⟩ | assumption)
        (first | ((go_at_call 9; refine (told2_any T _ (T.below _ _ HE.out (And.left ‹_ ∧ (convert _ _ _).run _ _ = _›))).mono ?_; rintro e u ⟨rfl, hb'⟩)) | ((go_at_call 10; refine (T.validIs _ _ [] p HP.out _ (T.below _ _ HE.out (And.left ‹_ ∧ (convert _ _ _).run _ _ = _›)) HL.out (HBY.out.below (And.left ‹_ ∧ (convert _ _ _).run _ _ = _›))).mono ?_; rintro e u ⟨rfl, hb'⟩)) | ((go_at_call 13; refine (HP2.out _).mono ?_; rintro e u ⟨rfl, rfl⟩)) | ((go_at_call 14; refine (T.ends _ _ (T.below _ _ HE.out (And.left ‹_ ∧ (convert _ _ _).run _ _ = _›)) HS2.out).mono ?_; rintro e u ⟨rfl, hb'⟩)) | ((go_at_call 15; refine (refEnds_any _ _ HS.out).mono ?_; rintro e u ⟨rfl, hb'⟩)) | ((go_at_call 16; refine (T.linesIs _ _ HLI.out _ (T.below _ _ HE.out (And.left ‹_ ∧ (convert _ _ _).run _ _ = _›)) HS2.out).mono ?_; rintro e u ⟨rfl, hb'⟩)))
    all_goals (go_wp2; go_ret)
    all_goals (refine ⟨rfl, ?_⟩; rename_i hh; exact hh.1)

theorem asks2_any {E : World → Prop} (T : TextSaid E) (a : Option Addr) (n cap : Nat) (bs : List UInt8) (w : World) (hE : E w) (hn : bs.length = n) (h : BytesAt w.heap.size w (.slice a n cap) bs) :
    Calls Tryd.prog 4 #[.slice a n cap] w fun e w' => e = .returned (.bool true) ∧ Below w.heap.size w w' := by
  subst hn
  by_cases h1 : 200 < bs.length
  · exact asks2_long T a _ cap w h1 hE
  · obtain ⟨a', cap', e, hcap, h2⟩ := h
    injection e with e1 e2 e3
    subst e1
    subst e3
    rcases h2 with rfl | ⟨b, off, rfl, hb, hc⟩
    · exact asks2_none T a cap w hE
    · exact asks2_some T b off cap bs w h1 hcap hE hb hc
theorem ends2_any {E : World → Prop} (T : TextSaid E) (a : Option Addr) (n cap : Nat) (bs : List UInt8) (w : World) (hE : E w) (hn : bs.length = n) (h : BytesAt w.heap.size w (.slice a n cap) bs) :
    Calls Tryd.prog 6 #[.slice a n cap] w fun e w' => e = .returned (.bool true) ∧ Below w.heap.size w w' := by
  subst hn
  by_cases h1 : 200 < bs.length
  · exact ends2_long T a _ cap w h1 hE
  · obtain ⟨a', cap', e, hcap, h2⟩ := h
    injection e with e1 e2 e3
    subst e1
    subst e3
    rcases h2 with rfl | ⟨b, off, rfl, hb, hc⟩
    · exact ends2_none T a cap w hE
    · exact ends2_some T b off cap bs w h1 hcap hE hb hc
theorem mark2_any {E : World → Prop} (T : TextSaid E) (a : Option Addr) (n cap : Nat) (hnil : a = none → cap = 0) (bs : List UInt8) (w : World) (hE : E w) (hn : bs.length = n) (h : BytesAt w.heap.size w (.slice a n cap) bs) :
    Calls Tryd.prog 7 #[.slice a n cap] w fun e w' => e = .returned (.bool true) ∧ Below w.heap.size w w' := by
  subst hn
  by_cases h1 : 100 < bs.length
  · exact mark2_long T a _ cap w h1 hE
  · obtain ⟨a', cap', e, hcap, h2⟩ := h
    injection e with e1 e2 e3
    subst e1
    subst e3
    rcases h2 with rfl | ⟨b, off, rfl, hb, hc⟩
    · exact mark2_none T a cap hnil w hE
    · exact mark2_some T b off cap bs w h1 hcap hE hb hc
end Go.Proofs.YteejkkdimkgmfaaDoor
