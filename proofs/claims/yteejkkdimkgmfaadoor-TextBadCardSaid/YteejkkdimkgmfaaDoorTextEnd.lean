/-
  LAYER 2: THE CONTRACT OF brackenlaw2.TextEnds out of what is asked of package text.
-/
import Derived.Test.YteejkkdimkgmfaaDoorTextAsk
namespace Go.Proofs.YteejkkdimkgmfaaDoor
open Go.RowKit

theorem get_bytes (bs : List UInt8) (k : Nat) (h : k < bs.length) : (⟨bs.toArray⟩ : ByteArray).get! k = bs.getD k 0 := by
  show bs.toArray[k]! = _
  simp [List.getD, h]
theorem byte_nat (b : UInt8) (n : Nat) (hn : n < 256) : b = UInt8.ofNat n ↔ b.toNat = n := by
  constructor
  · intro h; rw [h, UInt8.toNat_ofNat', Nat.mod_eq_of_lt (by omega)]
  · intro h; apply UInt8.toNat_inj.1; rw [h, UInt8.toNat_ofNat', Nat.mod_eq_of_lt (by omega)]
theorem cntE_bytes (bs : List UInt8) (k c : Nat) (h : k < bs.length) (hc : (bs.getD k 0).toNat = c) :
    cntE ⟨bs.toArray⟩ (k + 1) = cntE ⟨bs.toArray⟩ k + if c = 13 ∨ (c = 10 ∧ (k = 0 ∨ (bs.getD (k - 1) 0).toNat ≠ 13)) then 1 else 0 := by
  have e1 := byte_nat (bs.getD k 0) 13 (by decide)
  have e2 := byte_nat (bs.getD k 0) 10 (by decide)
  have e3 := byte_nat (bs.getD (k - 1) 0) 13 (by decide)
  show cntE ⟨bs.toArray⟩ k + (if (⟨bs.toArray⟩ : ByteArray).get! k = UInt8.ofNat 13 ∨ ((⟨bs.toArray⟩ : ByteArray).get! k = UInt8.ofNat 10 ∧ (k = 0 ∨ (⟨bs.toArray⟩ : ByteArray).get! (k - 1) ≠ UInt8.ofNat 13)) then 1 else 0) = _
  refine congrArg (cntE ⟨bs.toArray⟩ k + ·) (ite_congr (propext ?_) (fun _ => rfl) (fun _ => rfl))
  rw [get_bytes bs k h, get_bytes bs (k - 1) (by omega), e1, e2, Ne, e3, hc]
theorem cntE_le (s : ByteArray) : ∀ k, cntE s k ≤ k
  | 0 => Nat.le_refl _
  | k + 1 => by
      have := cntE_le s k
      show cntE s k + _ ≤ _
      split <;> omega

set_option maxHeartbeats 1000000 in
set_option maxRecDepth 100000 in
theorem ends2_long {E : World → Prop} (T : TextSaid E) (a : Option Addr) (n cap : Nat) (w : World) (h : 200 < n) (hE : E w) :
    Calls Tryd.prog 6 #[.slice a n cap] w fun e w' => e = .returned (.bool true) ∧ Below w.heap.size w w' := by
  have cT := told2_any T w hE
  have g1 : decide ((200 : Int) < (n : Int)) = true := decide_eq_true (by omega)
  have g2 : decide (200 < n) = true := decide_eq_true h
  go_enter Tryd.func6, Tryd.ntmps6
  go_wp2_with (go_at_call 9; refine cT.mono ?_; rintro e w1 ⟨rfl, hb⟩)
  go_ret
  exact ⟨rfl, hb⟩

set_option maxHeartbeats 4000000 in
set_option maxRecDepth 100000 in
theorem ends2_some {E : World → Prop} (T : TextSaid E) (b off cap : Nat) (bs : List UInt8) (w : World) (h : ¬ 200 < bs.length) (hcap : bs.length ≤ cap) (hE : E w) (hbB : b < w.heap.size) (hc : ∀ i, i < bs.length → w.cell? ⟨b, off + i, none⟩ = some (bval (bs.getD i 0))) :
    Calls Tryd.prog 6 #[.slice (some ⟨b, off, none⟩) bs.length cap] w fun e w' => e = .returned (.bool true) ∧ Below w.heap.size w w' := by
  have HE := Lib.hid hE
  have hby : BytesAt w.heap.size w (.slice (some ⟨b, off, none⟩) bs.length cap) bs := ⟨_, cap, rfl, hcap, Or.inr ⟨b, off, rfl, hbB, hc⟩⟩
  have HC := Lib.hid hc
  clear hc
  obtain ⟨S, hS⟩ : ∃ S : ByteArray, S = ⟨bs.toArray⟩ := ⟨_, rfl⟩
  have hSz : S.size = bs.length := by rw [hS]; simp [ByteArray.size]
  have HS2 : Hid (S.size ≤ 100000) := show _ ≤ _ by omega
  have hcv : (convert 22 9 (.slice (some ⟨b, off, none⟩) bs.length cap)).run Tryd.prog w = .ok (.string S) w := by rw [hS]; exact bytes_string hby
  obtain ⟨s, hs⟩ : ∃ s, endsT S = s := ⟨_, rfl⟩
  have hle : s.size ≤ bs.length := by rw [← hs, ← hSz]; exact endsT_le S
  have HS3 : Hid (s.size ≤ 100000) := show _ ≤ _ by omega
  have HN : Hid (∀ k (hk : k < s.size), ¬ (s[k]'hk).toNat = 13) := by
    intro k hk e
    have h1 : s.data.toList[k]? = some (s.get! k) := get_list s k hk
    have h2 : s.get! k ∈ s.data.toList := List.mem_of_getElem? h1
    rw [← hs, endsT_list] at h2
    have h3 := endsN_no13 S S.size _ h2
    rw [hs, show s.get! k = _ from get_at s k hk] at h3
    exact h3 (UInt8.toNat_inj.1 e)
  have HTW : Hid (endsT s = s) := by rw [← hs]; exact endsT_twice S
  have HEN := Lib.hid (T.endsIs S s hs w hE HS2.out)
  have hLN : linesT s = cntE ⟨bs.toArray⟩ bs.length := by rw [← hs, lines_ends, hSz, hS]
  have HLN := Lib.hid hLN
  have hlen : bs.length ≤ 200 := by omega
  have g1 : decide (200 < bs.length) = false := decide_eq_false h
  clear hE hby hSz h hS hs hLN
  go_enter Tryd.func6, Tryd.ntmps6
  go_wp2_with fail
  refine (HEN.out).mono ?_
  rintro e v2 ⟨rfl, hb⟩
  clear hcv
  go_wp2_with fail
  go_loop [4, 5] (fun n i => ∃ k : Nat, k ≤ bs.length ∧ i = .int .i64 k ∧ n = .int .i64 (cntE ⟨bs.toArray⟩ k : Nat)) (fun _ i => bs.length - (intOf i).toNat)
  case atStart => exact ⟨0, Nat.zero_le _, rfl, rfl⟩
  case round =>
    obtain ⟨k, hk, rfl, rfl⟩ := hrel
    have hcl := cntE_le ⟨bs.toArray⟩ k
    by_cases hlt : k < bs.length
    · obtain ⟨c, hc⟩ : ∃ c, (bs.getD k 0).toNat = c := ⟨_, rfl⟩
      have hcb : c < 256 := by rw [← hc]; exact UInt8.toNat_lt _
      have hcell : v2.cell? ⟨b, off + k, none⟩ = some (.int .u8 (c : Int)) := by
        rw [hb.cell (p := ⟨b, off + k, none⟩) hbB, HC.out k hlt, ← hc]; rfl
      have HST := Lib.hid (cntE_bytes bs k c hlt hc)
      by_cases h13 : c = 13
      · have HS' : Hid (cntE ⟨bs.toArray⟩ (k + 1) = cntE ⟨bs.toArray⟩ k + 1) := by rw [HST.out, if_pos (Or.inl h13)]; exact rfl
        generalize cntE ⟨bs.toArray⟩ k = n at *
        subst h13
        clear HST hc
        go_wp2
        go_round
        case rel => exact ⟨k + 1, by omega, by go_num, by rw [HS'.out]; go_num⟩
        case measure => simp [intOf]; omega
      · by_cases h10 : c = 10
        · by_cases h0 : k = 0
          · have HS' : Hid (cntE ⟨bs.toArray⟩ (k + 1) = cntE ⟨bs.toArray⟩ k + 1) := by rw [HST.out, if_pos (Or.inr ⟨h10, Or.inl h0⟩)]; exact rfl
            generalize cntE ⟨bs.toArray⟩ k = n at *
            subst h10
            subst h0
            have hcell0 : v2.cell? ⟨b, off, none⟩ = some (.int .u8 ((10 : Nat) : Int)) := hcell
            clear HST h13 hc hcell
            go_wp2
            go_round
            case rel => exact ⟨0 + 1, by omega, by go_num, by rw [HS'.out]; go_num⟩
            case measure => simp [intOf]; omega
          · obtain ⟨j, rfl⟩ : ∃ j, k = j + 1 := ⟨k - 1, by omega⟩
            obtain ⟨d, hd⟩ : ∃ d, (bs.getD j 0).toNat = d := ⟨_, rfl⟩
            have hdb : d < 256 := by rw [← hd]; exact UInt8.toNat_lt _
            have hcell2 : v2.cell? ⟨b, off + j, none⟩ = some (.int .u8 (d : Int)) := by
              rw [hb.cell (p := ⟨b, off + j, none⟩) hbB, HC.out j (by omega), ← hd]; rfl
            have HD : Hid ((bs.getD (j + 1 - 1) 0).toNat = d) := hd
            by_cases hd13 : d = 13
            · have HS' : Hid (cntE ⟨bs.toArray⟩ (j + 1 + 1) = cntE ⟨bs.toArray⟩ (j + 1)) := by rw [HST.out, if_neg (by rw [HD.out]; omega)]; exact rfl
              generalize cntE ⟨bs.toArray⟩ (j + 1) = n at *
              subst h10
              subst hd13
              clear HST h13 hc hd h0
              go_wp2
              go_round
              case rel => exact ⟨j + 1 + 1, by omega, by go_num, by rw [HS'.out]⟩
              case measure => simp [intOf]; omega
            · have HS' : Hid (cntE ⟨bs.toArray⟩ (j + 1 + 1) = cntE ⟨bs.toArray⟩ (j + 1) + 1) := by rw [HST.out, if_pos (by rw [HD.out]; omega)]; exact rfl
              generalize cntE ⟨bs.toArray⟩ (j + 1) = n at *
              have a1 : ((d : Int) == 13) = false := beq_eq_false_iff_ne.2 (by omega)
              have a2 : (d == 13) = false := beq_eq_false_iff_ne.2 hd13
              have a3 : ((d : Int) != 13) = true := by rw [bne, a1]; rfl
              have a4 : (d != 13) = true := by rw [bne, a2]; rfl
              subst h10
              clear HST h13 hc hd h0 hd13
              go_wp2
              go_round
              case rel => exact ⟨j + 1 + 1, by omega, by go_num, by rw [HS'.out]; go_num⟩
              case measure => simp [intOf]; omega
        · have HS' : Hid (cntE ⟨bs.toArray⟩ (k + 1) = cntE ⟨bs.toArray⟩ k) := by rw [HST.out, if_neg (by omega)]; exact rfl
          generalize cntE ⟨bs.toArray⟩ k = n at *
          have a1 : ((c : Int) == 13) = false := beq_eq_false_iff_ne.2 (by omega)
          have a2 : (c == 13) = false := beq_eq_false_iff_ne.2 h13
          have a3 : ((c : Int) == 10) = false := beq_eq_false_iff_ne.2 (by omega)
          have a4 : (c == 10) = false := beq_eq_false_iff_ne.2 h10
          clear HST h13 h10 hc
          go_wp2
          go_round
          case rel => exact ⟨k + 1, by omega, by go_num, by rw [HS'.out]⟩
          case measure => simp [intOf]; omega
    · have hks : k = bs.length := by omega
      subst hks
      have HLN' := HLN
      generalize cntE ⟨bs.toArray⟩ bs.length = n at *
      go_wp2_with fail
      go_loop [6] (fun i => ∃ k : Nat, k ≤ s.size ∧ i = .int .i64 k) (fun i => s.size - (intOf i).toNat)
      case atStart => exact ⟨0, Nat.zero_le _, rfl⟩
      case round =>
        obtain ⟨k, hk, rfl⟩ := hrel
        by_cases hlt2 : k < s.size
        · obtain ⟨c, hc⟩ : ∃ c, (s[k]'hlt2).toNat = c := ⟨_, rfl⟩
          have hcb : c < 256 := by rw [← hc]; exact UInt8.toNat_lt _
          have h13 : ¬ c = 13 := by rw [← hc]; exact HN.out k hlt2
          have a1 : ((c : Int) == 13) = false := beq_eq_false_iff_ne.2 (by omega)
          have a2 : (c == 13) = false := beq_eq_false_iff_ne.2 h13
          clear h13
          go_wp2
          go_round
          case rel => exact ⟨k + 1, by omega, by go_num⟩
          case measure => simp [intOf]; omega
        · have hks : k = s.size := by omega
          subst hks
          have a5 : decide (s.size ≤ bs.length) = true := decide_eq_true hle
          go_wp2_with fail
          refine (told2_any T _ (T.below _ _ HE.out hb)).mono ?_
          rintro e v3 ⟨rfl, hb'⟩
          replace hb := step_below2 hb hb'
          clear hb'
          go_wp2_with fail
          refine (T.linesIs _ _ HLN.out _ (T.below _ _ HE.out hb) HS3.out).mono ?_
          rintro e v4 ⟨rfl, hb'⟩
          replace hb := step_below2 hb hb'
          clear hb'
          go_wp2_with fail
          refine (T.endsIs _ _ HTW.out _ (T.below _ _ HE.out hb) HS3.out).mono ?_
          rintro e v5 ⟨rfl, hb'⟩
          replace hb := step_below2 hb hb'
          clear hb'
          go_wp2
          go_ret
          exact ⟨rfl, hb⟩
end Go.Proofs.YteejkkdimkgmfaaDoor
