/-
  THE CONTRACT OF text.Read (as landed): it returns readT of TextLaws; of what was there before the call nothing turns. AND: WHAT IS ASKED OF PACKAGE text (TextSaid) HOLDS OF THE LANDED ONE.
-/
import Derived.Test.YteejkkdimkgmfaaDoorRunValid
import Derived.Test.YteejkkdimkgmfaaDoorRunEnds
import Derived.Test.YteejkkdimkgmfaaDoorRunLines
namespace Go.Proofs.YteejkkdimkgmfaaDoor
open Go.RowKit

def nums (bs : List UInt8) : List Int := bs.map fun b => (b.toNat : Int)
theorem bytesOf_nums (bs : List UInt8) : Lib.bytesOf (nums bs) = bs := by
  unfold Lib.bytesOf nums
  rw [List.map_map]
  conv => rhs; rw [← List.map_id bs]
  apply List.map_congr_left
  intro b _
  simp
theorem mark_prefix (bs : List UInt8) : Lib.hasPrefix bs [239, 187, 191] = markB ⟨bs.toArray⟩ := by
  rw [Bool.eq_iff_iff, markB_iff]
  simp only [← Lib.getD_get!']
  match bs with
  | [] => simp [Lib.hasPrefix, ByteArray.size]
  | [a] => simp [Lib.hasPrefix, ByteArray.size]
  | [a, b] => simp [Lib.hasPrefix, ByteArray.size]
  | a :: b :: c :: r =>
    simp [Lib.hasPrefix, ByteArray.size]
    constructor
    · rintro ⟨h1, h2, h3⟩; exact ⟨h1.symm, h2.symm, h3.symm⟩
    · rintro ⟨h1, h2, h3⟩; exact ⟨h1.symm, h2.symm, h3.symm⟩
theorem restT_list (bs : List UInt8) : (restT ⟨bs.toArray⟩).data.toList = if Lib.hasPrefix bs [239, 187, 191] = true then bs.drop 3 else bs := by
  rw [mark_prefix]
  unfold restT
  split
  · rw [extract_rest]
  · rfl

theorem trim_at {w : World} {B : Nat} {a : Option Addr} {cap : Nat} {bs : List UInt8} (h : BytesAt B w (.slice a bs.length cap) bs) :
    BytesAt B w (Lib.trimPrefixV a bs.length cap (nums bs) [239, 187, 191]) (restT ⟨bs.toArray⟩).data.toList := by
  have h0 := h
  obtain ⟨a', cap', h1, h2, h3⟩ := h
  injection h1 with e1 e2 e3
  subst e1
  subst e3
  rw [restT_list]
  have e4 : Lib.bytesOf [239, 187, 191] = [239, 187, 191] := rfl
  rcases h3 with rfl | ⟨b, off, rfl, hb, hc⟩
  · rw [if_neg (by decide)]
    have : Lib.trimPrefixV a ([] : List UInt8).length cap (nums []) [239, 187, 191] = .slice a ([] : List UInt8).length cap := by
      unfold Lib.trimPrefixV
      split
      · unfold Lib.bytesTrimPrefix
        rw [if_neg (by decide)]
      · rfl
    rw [this]
    exact h0
  · show BytesAt B w (Lib.bytesTrimPrefix b off bs.length cap (nums bs) [239, 187, 191]) _
    unfold Lib.bytesTrimPrefix
    rw [bytesOf_nums, e4]
    by_cases hp : Lib.hasPrefix bs [239, 187, 191] = true
    · rw [if_pos hp, if_pos hp]
      have hle := Lib.hasPrefix_le hp
      have hl3 : 3 ≤ bs.length := hle
      unfold Lib.sliceFrom
      refine ⟨_, cap - 3, by rw [List.length_drop]; rfl, by rw [List.length_drop]; omega, ?_⟩
      by_cases h3 : cap = 3
      · exact Or.inl (List.drop_of_length_le (by omega))
      · right
        rw [if_neg (show ¬ cap = ([239, 187, 191] : List Int).length from h3)]
        refine ⟨b, off + 3, rfl, hb, fun i hi => ?_⟩
        rw [List.length_drop] at hi
        have := hc (3 + i) (by omega)
        rw [Nat.add_assoc, this]
        simp [List.getD]
    · rw [if_neg hp, if_neg hp]
      exact h0

set_option maxHeartbeats 2000000 in
set_option maxRecDepth 100000 in
theorem read_any (B : Nat) (v : Value) (bs : List UInt8) (w : World) (hT : Tabs w) (hl : bs.length ≤ 100000) (h : BytesAt B w v bs) :
    Calls Tryd.prog 11 #[v] w fun e w' => e = .returned (.tuple #[.string (readT ⟨bs.toArray⟩).1, .int .i64 (if (readT ⟨bs.toArray⟩).2 = true then 0 else 2)]) ∧ Below w.heap.size w w' := by
  have hn := h.norm
  clear h
  obtain ⟨a, cap, rfl, hcap, hcells⟩ := hn
  have hn : BytesAt w.heap.size w (.slice a bs.length cap) bs := ⟨a, cap, rfl, hcap, hcells⟩
  have hb0 : Below w.heap.size w (w.alloc (.cells #[.int .u8 239, .int .u8 187, .int .u8 191] 5 (3, 4))) := (Below.refl _ w).alloc (Nat.le_refl _) _
  have hn1 := hn.below hb0
  have hr1 := trim_at hn1
  have cT := Tryd.bytes_TrimPrefix_all a (some ⟨w.heap.size, 0, none⟩) bs.length cap 3 3 (nums bs) [239, 187, 191] (w.alloc (.cells #[.int .u8 239, .int .u8 187, .int .u8 191] 5 (3, 4))) (by simp [nums]) rfl hcap
    (by
      intro h0
      rcases hcells with rfl | ⟨b, off, rfl, hb, hc⟩
      · simp at h0
      · refine ⟨b, off, rfl, fun i hi => ?_⟩
        rw [hb0.cell (p := ⟨b, off + i, none⟩) hb, hc i hi]
        unfold bval nums
        simp [List.getD, List.getElem?_map, List.getElem?_eq_getElem hi])
    (by
      intro _
      refine ⟨w.heap.size, 0, rfl, fun i hi => ?_⟩
      obtain ⟨_, _, e, _, hcc⟩ := bytesAt_alloc w #[.int .u8 239, .int .u8 187, .int .u8 191] (3, 4) [239, 187, 191] 3 3 rfl rfl (Nat.le_refl _)
      rcases hcc with hcc | ⟨b, off, e2, _, hc⟩
      · cases hcc
      · injection e with e3 _ _
        rw [← e3] at e2
        injection e2 with e4
        injection e4 with e5 e6 _
        subst e5
        subst e6
        have := hc i hi
        rw [this]
        have : i = 0 ∨ i = 1 ∨ i = 2 := by omega
        rcases this with rfl | rfl | rfl <;> rfl)
  obtain ⟨R, hR⟩ : ∃ R, Lib.trimPrefixV a bs.length cap (nums bs) [239, 187, 191] = R := ⟨_, rfl⟩
  rw [hR] at cT hr1
  have hRL : (restT ⟨bs.toArray⟩).size ≤ 100000 := by
    rw [Lib.size_eq, restT_list]
    split
    · rw [List.length_drop]; omega
    · exact hl
  have HR := Lib.hid (show readT ⟨bs.toArray⟩ = if validT (restT ⟨bs.toArray⟩) = true then (endsT (restT ⟨bs.toArray⟩), true) else (⟨#[]⟩, false) from rfl)
  obtain ⟨S, hS⟩ : ∃ S, restT ⟨bs.toArray⟩ = S := ⟨_, rfl⟩
  obtain ⟨t, ht⟩ : ∃ t, (readT ⟨bs.toArray⟩).1 = t := ⟨_, rfl⟩
  obtain ⟨c, hc⟩ : ∃ c : Int, (if (readT ⟨bs.toArray⟩).2 = true then (0 : Int) else 2) = c := ⟨_, rfl⟩
  rw [ht, hc]
  rw [HR.out, hS] at ht hc
  rw [hS] at hr1 hRL
  clear HR
  obtain ⟨n, hn'⟩ : ∃ n, bs.length = n := ⟨_, rfl⟩
  rw [hn'] at cT hcap ⊢
  clear hS hR hn hn1 hn' hcells hl
  have hrs : (⟨S.data.toList.toArray⟩ : ByteArray) = S := by cases S; rfl
  obtain ⟨ra, rcap, rfl, hrcap, _⟩ := id hr1
  have HT1 := Lib.hid (hT.below hb0)
  have HR1 := Lib.hid hr1
  have cV := fun (W : World) (hW : Below (w.heap.size + 1) (w.alloc (.cells #[.int .u8 239, .int .u8 187, .int .u8 191] 5 (3, 4))) W) (hTW : Tabs W) => valid_any w.heap.size _ S.data.toList W hTW (by rw [← Lib.size_eq]; exact hRL) (hr1.below (hW.mono (by omega)))
  rw [hrs] at cV
  have HCV : Hid (∀ W, Below (w.heap.size + 1) (w.alloc (.cells #[.int .u8 239, .int .u8 187, .int .u8 191] 5 (3, 4))) W → (convert 22 9 (.slice ra S.data.toList.length rcap)).run Tryd.prog W = .ok (.string S) W) := fun W hW => by
    have := bytes_string (hr1.below (hW.mono (by omega)))
    rw [hrs] at this
    exact this
  have HCC := Lib.hid cV
  have hz : (w.alloc (.cells #[.int .u8 239, .int .u8 187, .int .u8 191] 5 (3, 4))).heap.size = w.heap.size + 1 := by
    show (w.heap.push _).size = _
    rw [Array.size_push]
  have HZ := Lib.hid hz
  clear cV hr1 hrs hT hz
  generalize S.data.toList.length = m at *
  obtain ⟨V, hV⟩ : ∃ V, validT S = V := ⟨_, rfl⟩
  rw [hV] at HCC ht hc
  have HT0 := Lib.hid ht
  have HC0 := Lib.hid hc
  clear hV ht hc
  have kc := fun (w : World) (C : Array Value) (n c : Nat) => Lib.run_convert_bytes_const (P := Tryd.prog) w 22 5 C n c Tryd.underlying22 Tryd.underlying5
  go_enter Tryd.func11, Tryd.ntmps11
  go_wp2_with fail
  refine cT.mono ?_
  rintro e w1 ⟨rfl, rfl⟩
  clear cT
  go_wp2_with fail
  refine (HCC.out _ (Below.refl _ _) HT1.out).mono ?_
  rintro e w2 ⟨rfl, hb2⟩
  rw [HZ.out] at hb2
  have hw2 : Below w.heap.size w w2 := hb0.trans (hb2.mono (by omega))
  cases V
  · obtain rfl : c = 2 := HC0.out.symm
    obtain rfl : t = ⟨#[]⟩ := HT0.out.symm
    clear HT0 HC0
    go_wp2
    go_ret2
    exact ⟨rfl, hw2⟩
  · obtain rfl : c = 0 := HC0.out.symm
    obtain rfl : t = endsT S := HT0.out.symm
    clear HT0 HC0
    have hcv := HCV.out w2 hb2
    have cE := ends_any S w2 (by omega)
    go_wp2_with fail
    refine cE.mono ?_
    rintro e w3 ⟨rfl, hb3⟩
    clear hcv cE
    go_wp2
    go_ret2
    exact ⟨rfl, step_below2 hw2 hb3⟩

/-- WHAT IS ASKED OF PACKAGE text HOLDS. -/
theorem text_said : TextSaid Tabs where
  below := fun _ _ h hb => h.below hb
  valid := fun B v bs w hT hl hb => valid_any B v bs w hT hl hb
  read := fun B v bs w hT hl hb => read_any B v bs w hT hl hb
  ends := fun s w _ hs => ends_any s w (by omega)
  lines := fun s w _ hs => lines_any s w (by omega)
end Go.Proofs.YteejkkdimkgmfaaDoor
