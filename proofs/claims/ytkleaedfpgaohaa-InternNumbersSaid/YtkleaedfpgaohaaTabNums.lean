/-
  LAYER 9: brackenlaw9.InternNumbers, out of TabSaid: true for any texts.
-/
import Derived.Test.YtkleaedfpgaohaaTabRow
import Derived.Test.YtkleaedfpgaohaaRefTab
import Derived.Test.YtkleaedfpgaohaaStrArg
namespace Go.Proofs.Ytkleaedfpgaohaa
open Go.RowKit

/-- zs are the numbers of the first texts of ss -/
def Nums (L ss : List ByteArray) (zs : List Nat) : Prop := ∀ k, k < zs.length → zs.getD k 0 < L.length ∧ textAt L (zs.getD k 0) = strAt ss k
theorem Nums.next {L ss : List ByteArray} {P : List Nat} {zs : List Nat} {s : ByteArray} (h : Nums L ss zs) (hG : Good L P) (hs : strAt ss zs.length = s) : Nums (putL L P s) ss (zs ++ [putN L P s]) := by
  intro k hk
  rw [List.length_append, List.length_singleton] at hk
  by_cases e : k < zs.length
  · obtain ⟨h1, h2⟩ := h k e
    have : (zs ++ [putN L P s]).getD k 0 = zs.getD k 0 := by simp [List.getD, List.getElem?_append_left e]
    rw [this]
    obtain ⟨h3, h4⟩ := put_keep L P s _ h1
    exact ⟨h3, h4.trans h2⟩
  · obtain rfl : k = zs.length := by omega
    have : (zs ++ [putN L P s]).getD zs.length 0 = putN L P s := by simp [List.getD]
    rw [this, hs]
    obtain ⟨h1, h2, _⟩ := put_at (s := s) hG
    exact ⟨h1, h2⟩
/-- of two texts the numbers are alike just if the texts are -/
theorem Nums.same {L ss : List ByteArray} {zs : List Nat} {k m : Nat} {s : ByteArray} (h : Nums L ss zs) (hA : Apart9 L) (hk : k < zs.length) (hm : m < L.length) (hs : textAt L m = s) : zs.getD k 0 = m ↔ strAt ss k = s := by
  obtain ⟨h1, h2⟩ := h k hk
  constructor
  · intro e
    rw [← h2, e, hs]
  · intro e
    exact hA _ _ h1 hm (by rw [h2, e, hs])
theorem ownI_nums {w : World} {B i : Nat} {r : Value} {zs : List Nat} (h : OwnI w B r (intsOf zs)) (hz : zs.length = i) : w.ownsRow B 3 1 r i ((intsOf zs).map ival) := by
  have h2 := h
  unfold OwnI at h2
  rw [intsOf_length, hz] at h2
  exact h2
theorem ownI_more {w : World} {B i m : Nat} {r : Value} {zs : List Nat} (hz : zs.length = i) (h : w.ownsRow B 3 1 r (i + 1) ((intsOf zs).map ival ++ [.int .i64 (m : Int)])) : OwnI w B r (intsOf (zs ++ [m])) := by
  rw [intsOf_next]
  exact ownI_next _ (by rw [intsOf_length, hz]; exact h)
/-- where the numbers lie -/
theorem ownI_cell {w : World} {B i c k : Nat} {a : Option Addr} {zs : List Nat} (h : OwnI w B (.slice a i c) (intsOf zs)) (hz : zs.length = i) (hk : k < i) : ∃ g, a = some ⟨g, 0, none⟩ ∧ ∀ k, k < i → w.cell? ⟨g, k, none⟩ = some (.int .i64 (zs.getD k 0 : Nat)) := by
  rcases ownI_shape h with ⟨_, e⟩ | ⟨g, cap, e, _, _, _, hc⟩
  · have h0 : zs.length = 0 := by rw [← intsOf_length, e]; rfl
    omega
  · injection e with e1 e2 e3
    exact ⟨g, e1, fun k hk => by rw [hc k (by rw [intsOf_length]; omega), intsOf_at]⟩
theorem HN2k {L ss : List ByteArray} {zs : List Nat} {m i : Nat} (h : Nums L ss (zs ++ [m])) (_hz : zs.length = i) : Nums L ss zs := fun k hk => by
  have := h k (by rw [List.length_append]; omega)
  rw [show (zs ++ [m]).getD k 0 = zs.getD k 0 by simp [List.getD, List.getElem?_append_left hk]] at this
  exact this
theorem drewN_belowT {w : World} (n : Nat) : Below w.heap.size w (w.drewN n) := ⟨rfl, rfl, rfl, Nat.le_refl _, fun _ _ => rfl⟩
theorem list_same {t s : ByteArray} (h : t = s) : (t.toList == s.toList) = true := by rw [h]; exact beq_self_eq_true _
set_option maxHeartbeats 20000000 in
set_option maxRecDepth 100000 in
theorem internnums_any {E : Nat → World → Prop} {Is : (Nat → Prop) → World → Value → List ByteArray → List Nat → Int → Prop} (S : TabSaid E Is) (n : Nat) (v : Value) (w : World) (hE : E n w) (hn : n ≤ w.heap.size) (hv : StrArg w v) :
    Calls Try.prog 5 #[v] w fun e w' => e = .returned (.bool true) ∧ Below w.heap.size w w' := by
  obtain ⟨a, cap, ss, rfl, hr, hl63, hz63⟩ := hv
  have HE := Lib.hid hE
  have HR := Lib.hid hr
  have HZ := Lib.hid hz63
  obtain ⟨i0, hi, hz0, hz1, hz2⟩ := info_parts info_int
  clear hE hr hz63
  by_cases h60 : 60 < ss.length
  · have g1 : decide (60 < ss.length) = true := decide_eq_true h60
    have g2 : decide ((60 : Int) < (ss.length : Int)) = true := decide_eq_true (by omega)
    go_enter Try.func5, Try.ntmps5
    go_wp2_with fail
    refine (told9_any S n w HE.out hn).mono ?_
    rintro e wz ⟨rfl, hb'⟩
    go_wp2
    go_ret
    exact ⟨rfl, hb'⟩
  have g1 : decide (60 < ss.length) = false := decide_eq_false h60
  have g2 : decide ((60 : Int) < (ss.length : Int)) = false := decide_eq_false (by omega)
  go_enter Try.func5, Try.ntmps5
  go_wp2_with fail
  refine (tnewAt S HE.out hn (Below.refl _ _)).mono ?_
  rintro e w1 ⟨p, x, rfl, h⟩
  have H := Lib.hid (trow_start h)
  clear h g1 g2
  go_wp2
  go_loopw [4, 5, 6] (fun av tv iv wr => ∃ (i : Nat) (t : Int) (zs : List Nat) (L : List ByteArray) (P : List Nat) (x : Int) (a2 : Option Addr) (c2 : Nat), i ≤ ss.length ∧ iv = .int .i64 i ∧ tv = .int .i64 t ∧ t + 1 = (L.length : Int) ∧ av = .slice a2 i c2 ∧ zs.length = i ∧ L.length ≤ i ∧ Hid (Nums L ss zs) ∧ Hid (∀ j, j < i → (strAt ss j).size ≤ 50) ∧ Hid (TRow E Is n w (.pointer (some p)) L P x (.slice a2 i c2) zs wr)) (fun _ _ iv _ => ss.length - (intOf iv).toNat)
  case atStart => exact ⟨0, -1, [], [], _, _, none, 0, Nat.zero_le _, rfl, rfl, rfl, rfl, rfl, Nat.le_refl _, Lib.hid (fun k hk => absurd hk (by simp)), Lib.hid (fun j hj => absurd hj (by omega)), H⟩
  case round =>
    clear H
    obtain ⟨i, t, zs, L, P, x, a2, c2, hil, rfl, rfl, htl, rfl, hzl, hLi, HN, HS, H⟩ := hrel
    by_cases hlt : i < ss.length
    · obtain ⟨g, off, rfl, hg, hcell0⟩ := HR.out.cell i hlt
      obtain ⟨s, hss⟩ : ∃ s, strAt ss i = s := ⟨_, rfl⟩
      have hcw : w.cell? ⟨g, off + i, none⟩ = some (.string s) := by rw [← hss]; exact hcell0 i hlt
      have HCW := Lib.hid hcw
      have hcell : wr.cell? ⟨g, off + i, none⟩ = some (.string s) := by rw [H.out.since.cell (p := ⟨g, off + i, none⟩) hg]; exact hcw
      have hsz63 : s.size ≤ 9223372036854775807 := by rw [← hss]; exact HZ.out i hlt
      have HSS := Lib.hid hss
      clear hss hcw
      by_cases h50 : 50 < s.size
      · have g1 : decide (50 < s.size) = true := decide_eq_true h50
        have g2 : decide ((50 : Int) < (s.size : Int)) = true := decide_eq_true (by omega)
        go_wp2_with fail
        refine (told9_any S n wr H.out.e H.out.n_le).mono ?_
        rintro e wz ⟨rfl, hb'⟩
        go_wp2
        go_ret
        exact ⟨rfl, H.out.since.trans (hb'.mono H.out.since.size)⟩
      · have g1 : decide (50 < s.size) = false := decide_eq_false h50
        have g2 : decide ((50 : Int) < (s.size : Int)) = false := decide_eq_false (by omega)
        have HS2 : Hid (∀ j, j < i + 1 → (strAt ss j).size ≤ 50) := Lib.hid (fun j hj => by
          by_cases e : j = i
          · rw [e, HSS.out]; omega
          · exact HS.out j (by omega))
        have HG := Lib.hid H.out.nice.good
        have HN2 := Lib.hid (HN.out.next HG.out (show strAt ss zs.length = s by rw [hzl]; exact HSS.out))
        have hpl := put_len (s := s) HG.out
        have hpa := put_at (s := s) HG.out
        have CP := Lib.hid (rputAt S s (by omega) (by omega) H.out)
        generalize putN L P s = m at *
        generalize putL L P s = L2 at *
        generalize putP L P s = P2 at *
        obtain ⟨hm1, hm2, hm3⟩ := hpa
        have HM2 := Lib.hid hm2
        clear hm2
        go_wp2_with fail
        refine CP.out.mono ?_
        rintro e w2 ⟨rfl, h⟩
        replace H := Lib.hid h
        clear h CP HG
        have g3 : decide ((m : Int) < 0) = false := decide_eq_false (by omega)
        have g4 : decide (t + 1 < (m : Int)) = false := decide_eq_false (by omega)
        have hb1 : (0 : Int) ≤ t + 1 := by omega
        have hb2 : t + 1 ≤ 60 := by omega
        go_wp2
        all_goals
          (go_loopw [8] (fun kv wq => ∃ (k : Nat) (y : Int), k ≤ i ∧ kv = .int .i64 k ∧ Hid (TRow E Is n w (.pointer (some p)) L2 P2 y (.slice a2 i c2) zs wq)) (fun kv _ => i - (intOf kv).toNat)
           case atStart => exact ⟨0, _, Nat.zero_le _, rfl, H⟩
           case round =>
             clear H hcell
             obtain ⟨k, y, hki, rfl, H⟩ := hrel
             by_cases hlk : k < i
             · have hci : wr.cell? ⟨g, off + i, none⟩ = some (.string s) := by rw [H.out.since.cell (p := ⟨g, off + i, none⟩) hg]; exact HCW.out
               obtain ⟨tk, htk⟩ : ∃ tk, strAt ss k = tk := ⟨_, rfl⟩
               have hck : wr.cell? ⟨g, off + k, none⟩ = some (.string tk) := by rw [H.out.since.cell (p := ⟨g, off + k, none⟩) hg, ← htk]; exact hcell0 k (by omega)
               obtain ⟨ga, rfl, hca⟩ := ownI_cell H.out.own hzl hlk
               have hca2 := hca k hlk
               have hsame := (HN2k HN2.out hzl).same H.out.nice.good.apart (by omega) hm1 HM2.out (k := k)
               rw [htk] at hsame
               generalize zs.getD k 0 = z at *
               clear hca
               have i1 : (k : Int) < (i : Int) := by omega
               have i2 : (k : Int) < (ss.length : Int) := by omega
               by_cases hts : tk = s
               · obtain rfl : z = m := hsame.2 hts
                 have j1 := list_same hts
                 have j2 : ((z : Int) == (z : Int)) = true := beq_self_eq_true _
                 clear hsame hts htk
                 go_wp2
                 go_quiet (fail)
                 go_wp2
                 go_roundw
                 case rel => exact ⟨k + 1, y, hlk, by go_num, Lib.hid (H.out.other S (drewN_belowT _))⟩
                 case measure => simp [intOf]; omega
               · have j1 := list_ne hts
                 have hzm : ¬ z = m := fun e => hts (hsame.1 e)
                 have j2 : ((z : Int) == (m : Int)) = false := beq_eq_false_iff_ne.2 (by omega)
                 have j3 : (z == m) = false := beq_eq_false_iff_ne.2 hzm
                 clear hsame hts htk
                 go_wp2
                 go_quiet (fail)
                 go_wp2
                 go_roundw
                 case rel => exact ⟨k + 1, y, hlk, by go_num, Lib.hid (H.out.other S (drewN_belowT _))⟩
                 case measure => simp [intOf]; omega
             · obtain rfl : k = i := by omega
               have hown0 := ownI_nums H.out.own hzl
               have hsw := H.out.since.size
               go_wp2_with (at_builtin; refine wpList_append_own_at _ rfl _ _ 37 rfl w.heap.size 3 i0 (.int .i64 0) 1 8 Try.underlying37 hi hz0 hz1 hz2 rfl (by decide) _ _ _ rfl (hown0.alloc _) ⟨wr.heap.size, 0, none⟩ 1 1 [.int .i64 (m : Int)] rfl rfl (cell_one_new _ _ _) (by intro u hu; simp at hu; subst hu; rfl) (by unfold maxLen; omega) (by omega) (by simp; omega) ?_; intro v' w3 hown3 hgrow3 _ hat3; have hown4 := ownI_more hzl hown3; replace H := Lib.hid (H.out.more S m _ v' w3 hown4 hgrow3 hat3); obtain ⟨a4, c4, rfl⟩ := ownI_slice hown4; clear hown0 hown3 hgrow3 hat3 hown4)
               rw [intsOf_length, List.length_append, hzl] at H ⊢
               go_roundw
               case rel => first
                 | exact ⟨k + 1, t, zs ++ [m], L2, P2, y, a4, c4, by omega, by go_num, rfl, by omega, rfl, by rw [List.length_append, hzl]; simp, by omega, HN2, HS2, H⟩
                 | exact ⟨k + 1, (m : Int), zs ++ [m], L2, P2, y, a4, c4, by omega, by go_num, rfl, by omega, rfl, by rw [List.length_append, hzl]; simp, by omega, HN2, HS2, H⟩
               case measure => simp [intOf]; omega)
    · have g0 : decide (i < ss.length) = false := decide_eq_false hlt
      have hl2 : L.length ≤ 60 := by omega
      go_wp2
      go_loopw [9] (fun kv wq => ∃ (k : Nat) (y : Int), k ≤ ss.length ∧ kv = .int .i64 k ∧ Hid (TRow E Is n w (.pointer (some p)) L P y (.slice a2 i c2) zs wq)) (fun kv _ => ss.length - (intOf kv).toNat)
      case atStart => exact ⟨0, _, Nat.zero_le _, rfl, H⟩
      case round =>
        clear H g0
        obtain ⟨k, y, hkl, rfl, H⟩ := hrel
        by_cases hlk : k < ss.length
        · obtain ⟨g, off, rfl, hg, hcell0⟩ := HR.out.cell k hlk
          obtain ⟨s, hss⟩ : ∃ s, strAt ss k = s := ⟨_, rfl⟩
          have hcell : wr.cell? ⟨g, off + k, none⟩ = some (.string s) := by rw [H.out.since.cell (p := ⟨g, off + k, none⟩) hg, ← hss]; exact hcell0 k hlk
          have hs50 : s.size ≤ 50 := by rw [← hss]; exact HS.out k (by omega)
          obtain ⟨hz1', hz2'⟩ := HN.out k (by omega)
          rw [hss] at hz2'
          have CF := Lib.hid (rfindAt S s _ (by omega) (by omega) hz1' hz2' H.out)
          have HCA := Lib.hid (fun (wq : World) (y : Int) (h : TRow E Is n w (.pointer (some p)) L P y (.slice a2 i c2) zs wq) => ownI_cell h.own hzl (show k < i by omega))
          have hki : k < i := by omega
          obtain ⟨z, hz⟩ : ∃ z, zs.getD k 0 = z := ⟨_, rfl⟩
          rw [hz] at CF
          have HZZ := Lib.hid hz
          clear hcell0 hss hz1' hz2' hz
          go_wp2_with fail
          refine CF.out.mono ?_
          rintro e w2 ⟨rfl, y2, h⟩
          replace H := Lib.hid h
          obtain ⟨ga, rfl, hca⟩ := HCA.out w2 y2 h
          have hca2 := hca k hki
          rw [HZZ.out] at hca2
          clear hca h CF hcell HCA
          have i1 : (k : Int) < (i : Int) := by omega
          go_wp2
          go_roundw
          case rel => exact ⟨k + 1, y2, hlk, by go_num, H⟩
          case measure => simp [intOf]; omega
        · have g0 : decide (k < ss.length) = false := decide_eq_false hlk
          have e1 : t + 1 = (L.length : Int) := htl
          go_wp2_with fail
          refine (told9_any S n wr H.out.e H.out.n_le).mono ?_
          rintro e wz ⟨rfl, hb'⟩
          replace H := Lib.hid ((H.out.at').other S hb')
          clear hb'
          go_wp2_with fail
          try simp only [List.append_eq, List.cons_append, List.nil_append] at *
          refine (tlenAt S (by omega) H.out).mono ?_
          rintro e wz2 ⟨rfl, h⟩
          replace H := Lib.hid h
          clear h
          go_wp2
          go_ret
          exact ⟨rfl, H.out.since⟩
end Go.Proofs.Ytkleaedfpgaohaa
