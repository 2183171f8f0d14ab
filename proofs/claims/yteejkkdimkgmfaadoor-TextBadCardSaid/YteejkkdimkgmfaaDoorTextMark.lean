/-
  LAYER 2: THE CONTRACT OF brackenlaw2.TextMark out of what is asked of package text.
-/
import Derived.Test.YteejkkdimkgmfaaDoorTextEnd
import Derived.Laws.OwnMore
import Derived.OwnWalk
namespace Go.Proofs.YteejkkdimkgmfaaDoor
open Go.RowKit

theorem ownB_at {w : World} {base : Nat} {v : Value} {l : List UInt8} (h : OwnB w base v l) : BytesAt w.heap.size w v l := by
  have h0 := h
  rcases h.2 with ⟨rfl, hl⟩ | ⟨g, cap, cur, rfl, hg, hrest⟩
  · obtain rfl : l = [] := List.eq_nil_of_length_eq_zero hl
    exact ⟨none, 0, rfl, Nat.le_refl _, Or.inl rfl⟩
  · refine ⟨_, cap, rfl, hrest.2.1, Or.inr ⟨g, 0, rfl, (World.ownsRow.lt h0 g rfl).2, fun i hi => ?_⟩⟩
    rw [Nat.zero_add, World.ownsRow.cellAt h0 i (by omega), List.getElem?_map, List.getElem?_eq_getElem hi]
    simp [List.getD, List.getElem?_eq_getElem hi]
theorem bytes_cell {w : World} {b off : Nat} {bs : List UInt8} (hc : ∀ i, i < bs.length → w.cell? ⟨b, off + i, none⟩ = some (bval (bs.getD i 0))) :
    ∀ j u, (bs.map bval)[j]? = some u → w.cell? ((⟨b, off, none⟩ : Addr).add j) = some u := by
  intro j u hu
  rw [List.getElem?_map] at hu
  obtain ⟨x, hx, rfl⟩ := Option.map_eq_some_iff.1 hu
  have hj : j < bs.length := (List.getElem?_eq_some_iff.1 hx).1
  have := hc j hj
  simp only [List.getD, hx, Option.getD_some] at this
  unfold Addr.add
  by_cases h0 : j = 0
  · rw [if_pos h0]; subst h0; exact this
  · rw [if_neg h0]; exact this
theorem bytes_one (bs : List UInt8) : ∀ u ∈ bs.map bval, u.oneCell' = true := by
  intro u hu
  obtain ⟨x, _, rfl⟩ := List.mem_map.1 hu
  rfl
theorem cell_new1 (w : World) (x : Value) (fr : Nat × Nat) : (w.alloc (.cells #[x] 5 fr)).cell? ⟨w.heap.size, 0, none⟩ = some x := by
  have e : (w.alloc (.cells #[x] 5 fr)).heap[w.heap.size]? = some (.cells #[x] 5 fr) := by
    show (w.heap.push (Obj.cells #[x] 5 fr))[w.heap.size]? = _
    simp
  unfold World.cell?
  simp only [e]
  rfl
theorem bytes_append (x y : List UInt8) : (⟨(x ++ y).toArray⟩ : ByteArray) = ⟨x.toArray⟩ ++ ⟨y.toArray⟩ := by
  apply bytes_eq
  rw [append_list]
theorem size_bytes (bs : List UInt8) : (⟨bs.toArray⟩ : ByteArray).size = bs.length := by simp [ByteArray.size]
theorem readT_markA (bs : List UInt8) : readT ⟨([239, 187, 191] ++ bs).toArray⟩ = if validT ⟨bs.toArray⟩ = true then (endsT ⟨bs.toArray⟩, true) else (⟨#[]⟩, false) := by
  rw [bytes_append]; exact readT_ahead _
theorem readT_markB (bs : List UInt8) (h : ¬ (3 ≤ bs.length ∧ (bs.getD 0 0).toNat = 239 ∧ (bs.getD 1 0).toNat = 187 ∧ (bs.getD 2 0).toNat = 191)) :
    readT ⟨bs.toArray⟩ = if validT ⟨bs.toArray⟩ = true then (endsT ⟨bs.toArray⟩, true) else (⟨#[]⟩, false) := by
  unfold readT
  rw [restT_plain _ ?_]
  rintro ⟨h3, h0, h1, h2⟩
  rw [size_bytes] at h3
  rw [get_bytes _ _ (by omega)] at h0 h1 h2
  exact h ⟨h3, by rw [h0]; rfl, by rw [h1]; rfl, by rw [h2]; rfl⟩
theorem readT_x (bs : List UInt8) : readT ⟨([120] ++ bs).toArray⟩ = if validT ⟨bs.toArray⟩ = true then (⟨#[120]⟩ ++ endsT ⟨bs.toArray⟩, true) else (⟨#[]⟩, false) := by
  rw [bytes_append]; exact readT_letter 120 _ (by decide) (by decide) (by decide)

set_option maxHeartbeats 1000000 in
set_option maxRecDepth 100000 in
theorem mark2_long {E : World → Prop} (T : TextSaid E) (a : Option Addr) (n cap : Nat) (w : World) (h : 100 < n) (hE : E w) :
    Calls Tryd.prog 7 #[.slice a n cap] w fun e w' => e = .returned (.bool true) ∧ Below w.heap.size w w' := by
  have cT := told2_any T w hE
  have g1 : decide ((100 : Int) < (n : Int)) = true := decide_eq_true (by omega)
  have g2 : decide (100 < n) = true := decide_eq_true h
  go_enter Tryd.func7, Tryd.ntmps7
  go_wp2_with (go_at_call 9; refine cT.mono ?_; rintro e w1 ⟨rfl, hb⟩)
  go_ret
  exact ⟨rfl, hb⟩

set_option maxHeartbeats 4000000 in
set_option maxRecDepth 100000 in
theorem mark2_some {E : World → Prop} (T : TextSaid E) (b off cap : Nat) (bs : List UInt8) (w : World) (h : ¬ 100 < bs.length) (hcap : bs.length ≤ cap) (hE : E w) (hbB : b < w.heap.size) (hc : ∀ i, i < bs.length → w.cell? ⟨b, off + i, none⟩ = some (bval (bs.getD i 0))) :
    Calls Tryd.prog 7 #[.slice (some ⟨b, off, none⟩) bs.length cap] w fun e w' => e = .returned (.bool true) ∧ Below w.heap.size w w' := by
  obtain ⟨i0, hi, hz0, hz1, hz2⟩ := info_parts info_u8
  have HE := Lib.hid hE
  have hby : BytesAt w.heap.size w (.slice (some ⟨b, off, none⟩) bs.length cap) bs := ⟨_, cap, rfl, hcap, Or.inr ⟨b, off, rfl, hbB, hc⟩⟩
  have HBY := Lib.hid hby
  have HC := Lib.hid hc
  have hlen : bs.length ≤ 100 := by omega
  have HL : Hid (bs.length ≤ 100000) := show _ ≤ _ by omega
  have HL2 : Hid (([239, 187, 191] ++ bs).length ≤ 100000) := show _ ≤ _ by rw [List.length_append]; simp; omega
  have HL3 : Hid (([120] ++ bs).length ≤ 100000) := show _ ≤ _ by rw [List.length_append]; simp; omega
  obtain ⟨rs, rx, hr⟩ : ∃ rs rx, (if validT ⟨bs.toArray⟩ = true then (endsT ⟨bs.toArray⟩, true) else (⟨#[]⟩, false)) = (rs, rx) := ⟨_, _, rfl⟩
  have HA : Hid (readT ⟨([239, 187, 191] ++ bs).toArray⟩ = (rs, rx)) := by rw [readT_markA]; exact hr
  have HP : Hid (¬ (3 ≤ bs.length ∧ (bs.getD 0 0).toNat = 239 ∧ (bs.getD 1 0).toNat = 187 ∧ (bs.getD 2 0).toNat = 191) → readT ⟨bs.toArray⟩ = (rs, rx)) := fun hn => by rw [readT_markB bs hn]; exact hr
  have HX : Hid (readT ⟨([120] ++ bs).toArray⟩ = (if rx = true then ⟨#[120]⟩ ++ rs else ⟨#[]⟩, rx)) := by
    show _ = _
    rw [readT_x]
    by_cases hv : validT ⟨bs.toArray⟩ = true
    · rw [if_pos hv] at hr ⊢; cases hr; rfl
    · rw [if_neg hv] at hr ⊢; cases hr; rfl
  have hrl : rs.size ≤ bs.length := by
    by_cases hv : validT ⟨bs.toArray⟩ = true
    · rw [if_pos hv] at hr
      cases hr
      have := endsT_le ⟨bs.toArray⟩
      rw [size_bytes] at this
      exact this
    · rw [if_neg hv] at hr
      cases hr
      exact Nat.zero_le _
  have hrl2 : ¬ 9223372036854775807 < 1 + rs.size := by omega
  have g1 : decide (100 < bs.length) = false := decide_eq_false h
  have HB1 := Lib.hid ((Below.refl w.heap.size w).alloc (Nat.le_refl _) (.cells #[.int .u8 239, .int .u8 187, .int .u8 191] 5 (0, 0)))
  have hO := World.ownsRow_lit (base := w.heap.size) (e := 5) (size := 1) w #[.int .u8 239, .int .u8 187, .int .u8 191] 3 (Nat.le_refl _) (by unfold maxLen; omega) rfl
  have hcell : ∀ i, i < bs.length → (w.alloc (.cells #[.int .u8 239, .int .u8 187, .int .u8 191] 5 (0, 0))).cell? ⟨b, off + i, none⟩ = some (bval (bs.getD i 0)) := fun i hi => by
    rw [HB1.out.cell (p := ⟨b, off + i, none⟩) hbB]; exact hc i hi
  clear hE hby h hr hc
  have kc := fun (w : World) (C : Array Value) (n c : Nat) => Lib.run_convert_bytes_const (P := Tryd.prog) w 22 5 C n c Tryd.underlying22 Tryd.underlying5
  go_enter Tryd.func7, Tryd.ntmps7
  go_wp2_with (at_builtin; refine wpList_append_own _ rfl _ _ 22 rfl w.heap.size 5 i0 (.int .u8 0) 1 1 Tryd.underlying22 hi hz0 hz1 hz2 rfl (by decide) _ _ _ rfl hO ⟨b, off, none⟩ bs.length cap (bs.map bval) rfl (by simp) (bytes_cell hcell) (bytes_one bs) (by unfold maxLen; omega) (by omega) (by simp) ?_; intro v1 w2 hown2 hgrow2 _)
  have hb : Below w.heap.size w w2 := HB1.out.grown hgrow2 (by simp) (fun k hk => by cases hk; exact Nat.le_refl _)
  have hown : OwnB w2 w.heap.size v1 ([239, 187, 191] ++ bs) := by
    unfold OwnB
    rw [List.length_append, List.map_append, Nat.add_comm]
    rw [Nat.add_comm] at hown2
    exact hown2
  have HM := Lib.hid (ownB_at hown)
  clear hO hown2 hown hgrow2 hcell
  go_wp2_with fail
  refine (T.readIs _ _ ([239, 187, 191] ++ bs) rs (codeOf rx) rx HA.out rfl _ (T.below _ _ HE.out hb) HL2.out HM.out).mono ?_
  rintro e u1 ⟨rfl, hb'⟩
  replace hb := step_below2 hb hb'
  clear hb' HM
  by_cases h3 : 3 ≤ bs.length
  · obtain ⟨x, hx⟩ : ∃ x, (bs.getD 0 0).toNat = x := ⟨_, rfl⟩
    obtain ⟨y, hy⟩ : ∃ y, (bs.getD 1 0).toNat = y := ⟨_, rfl⟩
    obtain ⟨z, hz⟩ : ∃ z, (bs.getD 2 0).toNat = z := ⟨_, rfl⟩
    have hxb : x < 256 := by rw [← hx]; exact UInt8.toNat_lt _
    have hyb : y < 256 := by rw [← hy]; exact UInt8.toNat_lt _
    have hzb : z < 256 := by rw [← hz]; exact UInt8.toNat_lt _
    have c0 : u1.cell? ⟨b, off, none⟩ = some (.int .u8 (x : Int)) := by
      rw [hb.cell (p := ⟨b, off, none⟩) hbB, ← hx]; exact HC.out 0 (by omega)
    have c1 : u1.cell? ⟨b, off + 1, none⟩ = some (.int .u8 (y : Int)) := by
      rw [hb.cell (p := ⟨b, off + 1, none⟩) hbB, ← hy]; exact HC.out 1 (by omega)
    have c2 : u1.cell? ⟨b, off + 2, none⟩ = some (.int .u8 (z : Int)) := by
      rw [hb.cell (p := ⟨b, off + 2, none⟩) hbB, ← hz]; exact HC.out 2 (by omega)
    have g3 : decide (3 ≤ bs.length) = true := decide_eq_true h3
    rw [hx, hy, hz] at HP
    clear hx hy hz
    by_cases hx : x = 239
    · by_cases hy : y = 187
      · by_cases hz : z = 191
        · subst hx
          subst hy
          subst hz
          have HB2 := Lib.hid (hb.alloc hb.size (.cells #[.int .u8 120] 5 (1, 2)))
          have hcell : ∀ i, i < bs.length → (u1.alloc (.cells #[.int .u8 120] 5 (1, 2))).cell? ⟨b, off + i, none⟩ = some (bval (bs.getD i 0)) := fun i hi => by
            rw [HB2.out.cell (p := ⟨b, off + i, none⟩) hbB]; exact HC.out i hi
          have hnew : ∀ p, (some ⟨u1.heap.size, 0, none⟩ : Option Addr) = some p → ∀ j u, ([.int .u8 120] : List Value)[j]? = some u → (u1.alloc (.cells #[.int .u8 120] 5 (1, 2))).cell? (p.add j) = some u := by
            intro p hp j u hu
            cases hp
            rcases j with _ | j
            · simp at hu; subst hu; exact cell_new1 _ _ _
            · simp at hu
          go_wp2_with (at_builtin; refine wpList_append_grows _ rfl _ _ 22 rfl 5 i0 (.int .u8 0) 1 1 Tryd.underlying22 hi hz0 hz1 hz2 rfl (by decide) (some ⟨u1.heap.size, 0, none⟩) 1 1 [.int .u8 120] rfl (by intro hh; cases hh) rfl hnew ⟨b, off, none⟩ bs.length cap (bs.map bval) rfl (by simp) (bytes_cell hcell) (bytes_one bs) (by omega) (by unfold maxLen; omega) (by omega) ?_; intro v2 w3 hown2 hgrow2)
          have hb2 : Below w.heap.size w w3 := HB2.out.grown hgrow2 (by have := hb.size; simp; omega) (fun k hk => by cases hk)
          have hown : OwnB w3 (u1.alloc (.cells #[.int .u8 120] 5 (1, 2))).heap.size v2 ([120] ++ bs) := by
            unfold OwnB
            rw [List.length_append, List.map_append, Nat.add_comm]
            rw [Nat.add_comm] at hown2
            exact hown2
          have HM := Lib.hid (ownB_at hown)
          clear hnew hown2 hown hgrow2 hcell hb HB2
          have hb := hb2
          clear hb2
          cases rx
          · have HX' : Hid (readT ⟨([120] ++ bs).toArray⟩ = (⟨#[]⟩, false)) := HX.out
            clear HX
            go_wp2_with fail
            refine (T.readIs _ _ ([120] ++ bs) _ 2 false HX'.out rfl _ (T.below _ _ HE.out hb) HL3.out HM.out).mono ?_
            rintro e u3 ⟨rfl, hb'⟩
            replace hb := step_below2 hb hb'
            clear hb'
            go_wp2_with fail
            refine (told2_any T _ (T.below _ _ HE.out hb)).mono ?_
            rintro e u ⟨rfl, hb'⟩
            replace hb := step_below2 hb hb'
            clear hb'
            go_wp2
            go_ret
            exact ⟨rfl, hb⟩
          · have HX' : Hid (readT ⟨([120] ++ bs).toArray⟩ = (⟨#[120]⟩ ++ rs, true)) := HX.out
            clear HX
            go_wp2_with fail
            refine (T.readIs _ _ ([120] ++ bs) _ 0 true HX'.out rfl _ (T.below _ _ HE.out hb) HL3.out HM.out).mono ?_
            rintro e u3 ⟨rfl, hb'⟩
            replace hb := step_below2 hb hb'
            clear hb'
            go_wp2_with fail
            refine (told2_any T _ (T.below _ _ HE.out hb)).mono ?_
            rintro e u ⟨rfl, hb'⟩
            replace hb := step_below2 hb hb'
            clear hb'
            go_wp2
            go_ret
            exact ⟨rfl, hb⟩
        · have HNO : ¬ (3 ≤ bs.length ∧ x = 239 ∧ y = 187 ∧ z = 191) := by omega
          have HNO := Lib.hid HNO
          subst hx
          subst hy
          have a1 : ((z : Int) == 191) = false := beq_eq_false_iff_ne.2 (by omega)
          have a2 : (z == 191) = false := beq_eq_false_iff_ne.2 hz
          go_wp2_with fail
          refine (T.readIs _ _ bs rs (codeOf rx) rx (HP.out HNO.out) rfl _ (T.below _ _ HE.out hb) HL.out (HBY.out.below hb)).mono ?_
          rintro e u3 ⟨rfl, hb'⟩
          replace hb := step_below2 hb hb'
          clear hb'
          go_wp2_with fail
          refine (told2_any T _ (T.below _ _ HE.out hb)).mono ?_
          rintro e u ⟨rfl, hb'⟩
          replace hb := step_below2 hb hb'
          clear hb'
          go_wp2
          go_ret
          exact ⟨rfl, hb⟩
      · have HNO : ¬ (3 ≤ bs.length ∧ x = 239 ∧ y = 187 ∧ z = 191) := by omega
        have HNO := Lib.hid HNO
        subst hx
        have a1 : ((y : Int) == 187) = false := beq_eq_false_iff_ne.2 (by omega)
        have a2 : (y == 187) = false := beq_eq_false_iff_ne.2 hy
        go_wp2_with fail
        refine (T.readIs _ _ bs rs (codeOf rx) rx (HP.out HNO.out) rfl _ (T.below _ _ HE.out hb) HL.out (HBY.out.below hb)).mono ?_
        rintro e u3 ⟨rfl, hb'⟩
        replace hb := step_below2 hb hb'
        clear hb'
        go_wp2_with fail
        refine (told2_any T _ (T.below _ _ HE.out hb)).mono ?_
        rintro e u ⟨rfl, hb'⟩
        replace hb := step_below2 hb hb'
        clear hb'
        go_wp2
        go_ret
        exact ⟨rfl, hb⟩
    · have HNO : ¬ (3 ≤ bs.length ∧ x = 239 ∧ y = 187 ∧ z = 191) := by omega
      have HNO := Lib.hid HNO
      have a1 : ((x : Int) == 239) = false := beq_eq_false_iff_ne.2 (by omega)
      have a2 : (x == 239) = false := beq_eq_false_iff_ne.2 hx
      go_wp2_with fail
      refine (T.readIs _ _ bs rs (codeOf rx) rx (HP.out HNO.out) rfl _ (T.below _ _ HE.out hb) HL.out (HBY.out.below hb)).mono ?_
      rintro e u3 ⟨rfl, hb'⟩
      replace hb := step_below2 hb hb'
      clear hb'
      go_wp2_with fail
      refine (told2_any T _ (T.below _ _ HE.out hb)).mono ?_
      rintro e u ⟨rfl, hb'⟩
      replace hb := step_below2 hb hb'
      clear hb'
      go_wp2
      go_ret
      exact ⟨rfl, hb⟩
  · have HNO : ¬ (3 ≤ bs.length ∧ (bs.getD 0 0).toNat = 239 ∧ (bs.getD 1 0).toNat = 187 ∧ (bs.getD 2 0).toNat = 191) := fun hh => h3 hh.1
    have HNO := Lib.hid HNO
    have g3 : decide (3 ≤ bs.length) = false := decide_eq_false h3
    go_wp2_with fail
    refine (T.readIs _ _ bs rs (codeOf rx) rx (HP.out HNO.out) rfl _ (T.below _ _ HE.out hb) HL.out (HBY.out.below hb)).mono ?_
    rintro e u3 ⟨rfl, hb'⟩
    replace hb := step_below2 hb hb'
    clear hb'
    go_wp2_with fail
    refine (told2_any T _ (T.below _ _ HE.out hb)).mono ?_
    rintro e u ⟨rfl, hb'⟩
    replace hb := step_below2 hb hb'
    clear hb'
    go_wp2
    go_ret
    exact ⟨rfl, hb⟩
end Go.Proofs.YteejkkdimkgmfaaDoor
