/-
  THE CONTRACT OF text.Valid (as landed): it returns validT of TextLaws; of what was there before the call nothing turns.
-/
import Derived.Test.YteejkkdimkgmfaaDoorUtfValid
import Derived.Test.YteejkkdimkgmfaaDoorTextAsk
import Derived.Test.YteejkkdimkgmfaaDoorRunTextLaws
import Derived.Test.YteejkkdimkgmfaaDoorRunChar
import Derived.Laws.RangeAny
namespace Go.Proofs.YteejkkdimkgmfaaDoor
open Go.RowKit

def Tabs (w : World) : Prop := Lib.Utf8Tabs 0 1 w
theorem Tabs.below {w w' : World} (h : Tabs w) (hb : Below w.heap.size w w') : Tabs w' := Utf8Tabs_below h hb

theorem cell_lt {w : World} {a : Addr} {v : Value} (h : w.cell? a = some v) : a.block < w.heap.size := by
  rcases Nat.lt_or_ge a.block w.heap.size with h1 | h1
  · exact h1
  · unfold World.cell? at h
    rw [Array.getElem?_eq_none h1] at h
    cases h
theorem BytesAt.norm {B : Nat} {w : World} {v : Value} {bs : List UInt8} (h : BytesAt B w v bs) : BytesAt w.heap.size w v bs := by
  obtain ⟨a, cap, h1, h2, h3⟩ := h
  refine ⟨a, cap, h1, h2, ?_⟩
  rcases h3 with h3 | ⟨b, off, h4, h5, h6⟩
  · exact Or.inl h3
  · by_cases h0 : bs = []
    · exact Or.inl h0
    · have := cell_lt (h6 0 (List.length_pos_iff.2 h0))
      exact Or.inr ⟨b, off, h4, this, h6⟩
theorem cells_at {w : World} {b off : Nat} {bs : List UInt8} (h : ∀ i, i < bs.length → w.cell? ⟨b, off + i, none⟩ = some (bval (bs.getD i 0))) : CellsAt w b off ⟨bs.toArray⟩ := by
  intro i hi
  rw [h i (by simpa [ByteArray.size] using hi), ← Lib.getD_get!']
  rfl

set_option maxHeartbeats 1000000 in
set_option maxRecDepth 100000 in
theorem utf8_valid_none (a : Option Addr) (cap : Nat) (w : World) :
    Calls Tryd.prog 18 #[.slice a 0 cap] w fun e w' => e = .returned (.bool true) ∧ Below w.heap.size w w' := by
  go_enter Tryd.func18, Tryd.ntmps18
  go_wp2
  go_loopg [0] 1 (fun gk s0 wx => w = wx ∧ ∃ (A : Option Addr) (c : Nat), s0 = .slice A 0 c)
  case atStart => exact ⟨rfl, _, _, rfl⟩
  case round =>
    obtain ⟨rfl, A, c, rfl⟩ := hrel
    go_wp2
    go_ret
    exact ⟨rfl, Below.refl _ _⟩

theorem utf8_valid_at {B : Nat} {v : Value} {bs : List UInt8} {w : World} (h : BytesAt B w v bs) (hl : bs.length ≤ 100000) (hT : Tabs w) :
    Calls Tryd.prog 18 #[v] w fun e w' => e = .returned (.bool (Lib.validD bs)) ∧ Below w.heap.size w w' := by
  obtain ⟨a, cap, rfl, hcap, h3⟩ := h.norm
  rcases h3 with rfl | ⟨b, off, rfl, hb, hc⟩
  · exact utf8_valid_none a cap w
  · have e : (⟨bs.toArray⟩ : ByteArray).size = bs.length := by simp [ByteArray.size]
    have := utf8_valid ⟨bs.toArray⟩ b off cap w (by omega) (by omega) hb (cells_at hc) hT
    rw [e] at this
    exact this

set_option maxHeartbeats 2000000 in
set_option maxRecDepth 100000 in
theorem valid_any (B : Nat) (v : Value) (bs : List UInt8) (w : World) (hT : Tabs w) (hl : bs.length ≤ 100000) (h : BytesAt B w v bs) :
    Calls Tryd.prog 10 #[v] w fun e w' => e = .returned (.bool (validT ⟨bs.toArray⟩)) ∧ Below w.heap.size w w' := by
  have cV := utf8_valid_at h hl hT
  have hn := h.norm
  obtain ⟨a, cap, rfl, hcap, _⟩ := hn
  have hn := h.norm
  clear h
  obtain ⟨S, hS⟩ : ∃ S : ByteArray, S = ⟨bs.toArray⟩ := ⟨_, rfl⟩
  have hSz : S.size = bs.length := by rw [hS]; simp [ByteArray.size]
  have HV0 := Lib.hid (validT_two S)
  have hSl : S.data.toList = bs := by rw [hS]
  rw [hSl] at HV0
  rw [← hS]
  obtain ⟨V, hV⟩ : ∃ V, Lib.validD bs = V := ⟨_, rfl⟩
  rw [hV] at cV HV0
  have HCV : Hid (∀ W, Below w.heap.size w W → (convert 22 9 (.slice a bs.length cap)).run Tryd.prog W = .ok (.string S) W) := fun W hW => by rw [hS]; exact bytes_string (hn.below hW)
  clear hV hSl hS hn
  have hsz : S.size ≤ 100000 := by omega
  obtain ⟨n, hn⟩ : ∃ n, bs.length = n := ⟨_, rfl⟩
  rw [hn] at HCV cV hcap ⊢
  clear hn hSz hl
  cases V
  · go_enter Tryd.func10, Tryd.ntmps10
    go_wp2_with (go_at_call 18; refine cV.mono ?_; rintro e w1 ⟨rfl, hb1⟩)
    go_ret
    exact ⟨by rw [HV0.out]; rfl, hb1⟩
  · go_enter Tryd.func10, Tryd.ntmps10
    go_wp2_with fail
    refine cV.mono ?_
    rintro e w1 ⟨rfl, hb1⟩
    have hcv := HCV.out w1 hb1
    clear cV
    go_wp2_with fail
    clear hcv
    go_loopw [] (fun wr => ∃ pos f : Nat, wr = w1.iter S pos ∧ allCh S f pos = validT S ∧ S.size ≤ pos + f) (fun wr => S.size - wr.iterPos w1.heap.size)
    case atStart => exact ⟨0, S.size, rfl, by rw [HV0.out]; rfl, by omega⟩
    case round =>
      obtain ⟨pos, f, rfl, ha, hf⟩ := hrel
      have HA := Lib.hid ha
      clear ha
      by_cases hp : pos < S.size
      · have hnx : ∀ ty, (Instr.next (.pointer (some ⟨w1.heap.size, 0, none⟩)) true ty).run Tryd.prog (w1.iter S pos) = _ := fun ty => run_next_any w1 S pos ty hp
        have hw := Lib.width_pos S pos
        have hwl := width_le S pos hp
        obtain ⟨g, rfl⟩ : ∃ g, f = g + 1 := ⟨f - 1, by omega⟩
        have HST := Lib.hid (allCh_step S g pos hp)
        obtain ⟨r, hr⟩ : ∃ r : Nat, (Utf8.decode S pos).1 = r := ⟨_, rfl⟩
        obtain ⟨n, hn⟩ : ∃ n : Nat, (Utf8.decode S pos).2 = n := ⟨_, rfl⟩
        simp only [hr, hn] at HST hnx hw hwl
        clear hr hn
        obtain ⟨c, hc⟩ : ∃ c, charB (r : Int) = c := ⟨_, rfl⟩
        have cC : ∀ w, Calls Tryd.prog 19 #[.int .i32 r] w _ := fun w => char_any r w
        rw [hc] at cC HST
        clear hc
        cases c
        · have HF : Hid (validT S = false) := by rw [← HA.out, HST.out]; exact rfl
          clear HST HA HV0
          go_wp2_with (go_at_call 19; refine (cC _).mono ?_; rintro e w' ⟨rfl, rfl⟩)
          go_ret
          exact ⟨by rw [HF.out]; rfl, hb1.alloc hb1.size _⟩
        · have HA' : Hid (allCh S g (pos + n) = validT S) := by rw [← HA.out, HST.out]; exact rfl
          clear HST HA
          go_wp2_with (go_at_call 19; refine (cC _).mono ?_; rintro e w' ⟨rfl, rfl⟩)
          go_roundw
          case rel => exact ⟨pos + n, g, rfl, HA'.out, by omega⟩
          case measure => simp; omega
      · have hnx : ∀ ty, (Instr.next (.pointer (some ⟨w1.heap.size, 0, none⟩)) true ty).run Tryd.prog (w1.iter S pos) = _ := fun ty => run_next_end w1 S pos ty hp
        have HV : Hid (validT S = true) := by rw [← HA.out]; exact allCh_end S f pos hp
        clear HA HV0
        go_wp2
        go_ret
        exact ⟨by rw [HV.out]; rfl, hb1.alloc hb1.size _⟩
end Go.Proofs.YteejkkdimkgmfaaDoor
