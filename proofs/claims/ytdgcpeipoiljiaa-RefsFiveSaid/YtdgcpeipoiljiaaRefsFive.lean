/-
  LAYER 12: brackenlaw12.RefsFive, out of RefsSaid: true for any entities, any room.
-/
import Derived.Test.YtdgcpeipoiljiaaRefsHeld
import Derived.Test.YtdgcpeipoiljiaaRefsFew
import Derived.Test.YtdgcpeipoiljiaaRefsNm
import Derived.Deep.AppendLies
import Derived.Laws.AppendOwnNone
namespace Go.Proofs.Ytdgcpeipoiljiaa
open Go.RowKit

def nameF (i : Nat) : List UInt8 := [[108, 116], [103, 116], [97, 109, 112], [97, 112, 111, 115], [113, 117, 111, 116]].getD i []
def charF (i : Nat) : List UInt8 := [[60], [62], [38], [39], [34]].getD i []
theorem five_is (i : Nat) (h : i < 5) : ∃ c, fiveL (nameF i) = some c ∧ charF i = [c] ∧ (nameF i).length ≤ 1000000 := by
  rcases (show i = 0 ∨ i = 1 ∨ i = 2 ∨ i = 3 ∨ i = 4 by omega) with rfl | rfl | rfl | rfl | rfl <;> exact ⟨_, rfl, rfl, by decide⟩
theorem five_get (r : RefD) (i : Nat) (h : i < 5) : getR r (nameF i) = (charF i, true, 0) := by
  obtain ⟨c, h1, h2, _⟩ := five_is i h
  unfold getR
  rw [h1, h2]
theorem five_open {r : RefD} (hr : OkR r) (i : Nat) (h : i < 5) (most : Int) : openT r (nameF i) most = ([], 6) ∧ openS r (nameF i) most = r := by
  obtain ⟨c, h1, _, _⟩ := five_is i h
  have := hr.five (nameF i) (by rw [h1]; exact fun e => by cases e)
  unfold openT openS
  rw [this]
  exact ⟨rfl, rfl⟩
theorem row_names (w : World) : (w.alloc (.cells #[.string ⟨#[108, 116]⟩, .string ⟨#[103, 116]⟩, .string ⟨#[97, 109, 112]⟩, .string ⟨#[97, 112, 111, 115]⟩, .string ⟨#[113, 117, 111, 116]⟩] 9)).rowIs w.heap.size 9 5 (fun i => .string (bytes (nameF i))) :=
  World.rowIs_alloc w #[.string ⟨#[108, 116]⟩, .string ⟨#[103, 116]⟩, .string ⟨#[97, 109, 112]⟩, .string ⟨#[97, 112, 111, 115]⟩, .string ⟨#[113, 117, 111, 116]⟩] 9 _ (by
    intro i hi
    rcases (show i = 0 ∨ i = 1 ∨ i = 2 ∨ i = 3 ∨ i = 4 by have : i < 5 := hi; omega) with rfl | rfl | rfl | rfl | rfl <;> rfl)
theorem row_chars (w : World) : (w.alloc (.cells #[.string ⟨#[60]⟩, .string ⟨#[62]⟩, .string ⟨#[38]⟩, .string ⟨#[39]⟩, .string ⟨#[34]⟩] 9)).rowIs w.heap.size 9 5 (fun i => .string (bytes (charF i))) :=
  World.rowIs_alloc w #[.string ⟨#[60]⟩, .string ⟨#[62]⟩, .string ⟨#[38]⟩, .string ⟨#[39]⟩, .string ⟨#[34]⟩] 9 _ (by
    intro i hi
    rcases (show i = 0 ∨ i = 1 ∨ i = 2 ∨ i = 3 ∨ i = 4 by have : i < 5 := hi; omega) with rfl | rfl | rfl | rfl | rfl <;> rfl)
theorem info_entF : ∃ i0, Try.prog.info? 25 = some i0 ∧ i0.zero = some (.agg #[.string ⟨#[]⟩, .string ⟨#[]⟩, .bool false]) ∧ i0.size = 3 ∧ i0.bytes = 40 := by
  obtain ⟨i0, hi, hz⟩ := Option.map_eq_some_iff.1 info_ent
  simp only [Prod.mk.injEq] at hz
  exact ⟨i0, hi, hz.1, hz.2.1, hz.2.2⟩
/-- a literal of no entities -/
theorem own_nothing (w : World) : (w.alloc (.cells #[] 25)).ownsRow w.heap.size 25 3 (.slice (some ⟨w.heap.size, 0, none⟩) 0 0) 0 (flatE []) := by
  refine ⟨rfl, Or.inr ⟨w.heap.size, 0, #[], rfl, Nat.le_refl _, ?_, Nat.le_refl _, Nat.zero_le _, rfl, rfl⟩⟩
  show (w.heap.push (Obj.cells #[] 25 (0, 0)))[w.heap.size]? = _
  rw [Array.getElem?_push_size]
theorem blk_le (g n c : Nat) : ∀ q, (Value.slice (some ⟨g, 0, none⟩) n c).ownBlock = some q → g ≤ q := by
  intro q hq
  simp only [Value.ownBlock, Option.some.injEq] at hq
  omega
theorem own_zero {w : World} {base : Nat} {v : Value} {l : List EntD} (h : w.ownsRow base 25 3 v (0 + l.length) (flatE [] ++ flatE l)) : OwnE w base v l := by
  rw [Nat.zero_add] at h
  exact h
theorem flatE_one : ∀ (l : List EntD), ∀ u ∈ flatE l, u.oneCell' = true := by
  intro l u hu
  unfold flatE at hu
  obtain ⟨e, _, hu⟩ := List.mem_flatMap.1 hu
  simp at hu
  rcases hu with rfl | rfl | rfl <;> rfl
/-- what lies there, cell by cell -/
theorem ents_flat {w : World} {B b off n cap : Nat} {l : List EntD} (h : EntsAt B w (.slice (some ⟨b, off, none⟩) n cap) l) (hl : 0 < l.length) : ∀ j u, (flatE l)[j]? = some u → w.cell? ((⟨b, off, none⟩ : Addr).add j) = some u := by
  intro j u hj
  obtain ⟨b', off', e, _, hc⟩ := h.cell hl
  injection e with e
  injection e with e1 e2 _
  subst e1; subst e2
  have hjl : j < l.length * 3 := by
    have := (List.getElem?_eq_some_iff.1 hj).1
    rw [flatE_len] at this
    exact this
  have h3 := flatE_get l (j / 3) (by omega)
  have hc3 := hc (j / 3) (by omega)
  rw [Go.WideShapes.add_plain]
  rcases (show j = j / 3 * 3 ∨ j = j / 3 * 3 + 1 ∨ j = j / 3 * 3 + 2 by omega) with e | e | e <;> generalize j / 3 = i at * <;> subst e
  · rw [h3.1] at hj; injection hj with hj; subst hj; exact hc3.1
  · rw [h3.2.1] at hj; injection hj with hj; subst hj; exact hc3.2.1
  · rw [h3.2.2] at hj; injection hj with hj; subst hj; exact hc3.2.2
def ltE : EntD := ⟨[108, 116], [120], false⟩
theorem few_more {l : List EntD} (h : FewE l) : FewR (l ++ [ltE]) := by
  refine ⟨by rw [List.length_append]; have := h.1; show l.length + 1 ≤ _; omega, fun e he => ?_⟩
  rcases List.mem_append.1 he with he | he
  · obtain ⟨j, hj, rfl⟩ := List.mem_iff_getElem.1 he
    have := h.2 j hj
    rw [entI_get hj]
    omega
  · rw [List.mem_singleton.1 he]
    exact ⟨by decide, by decide⟩
theorem own_lt {w : World} {base : Nat} {v : Value} {l : List EntD} (h : w.ownsRow base 25 3 v (l.length + 1) (flatE l ++ [.string ⟨#[108, 116]⟩, .string ⟨#[120]⟩, .bool false])) : OwnE w base v (l ++ [ltE]) := ownE_next ltE h
theorem ownE_slice1 {w : World} {base : Nat} {v : Value} {l : List EntD} {e : EntD} (h : OwnE w base v (l ++ [e])) : ∃ a cap, v = .slice a (l.length + 1) cap := by
  obtain ⟨a, cap, rfl⟩ := ownE_slice h
  exact ⟨a, cap, by rw [List.length_append]; rfl⟩
theorem fits_wf {k : Int} (h : (Lit.int .i64 k).wf = true) : FitsR k := by
  have h1 : IntKind.i64.min = -9223372036854775808 := rfl
  have h2 : IntKind.i64.max = 9223372036854775807 := rfl
  simp only [Lit.wf, Bool.and_eq_true, decide_eq_true_eq] at h
  exact ⟨by omega, by omega⟩
/-- any entities behind none: with an address or not -/
theorem wpList_append_ents {w : World} {ops : Array Oper} {rest : List Oper} {o : Oper} {act : Act} {Q : Exit → Act → World → Prop} (hgd : o.guard = none) (s x : Operand)
    (ho : o.op = .call { callee := .builtin .append, args := #[s, x], argTypes := #[23, 23] })
    (base : Nat) (v : Value) (l : List EntD) (a : Option Addr) (n cap : Nat) (hs : act.eval s = v) (hown : w.ownsRow base 25 3 v 0 (flatE [])) (B : Nat) (hE : EntsAt B w (.slice a n cap) l) (hn : l.length = n) (hnone : a = none → cap = 0) (hx : act.eval x = .slice a n cap)
    (hl : n ≤ 20) (hbase : base ≤ w.heap.size) (hblk : ∀ q, v.ownBlock = some q → base ≤ q)
    (h : ∀ v' w', OwnE w' base v' l → Below base w w' → wpList Try.prog ops Q rest (act.put o.dst v') w') : wpList Try.prog ops Q (o :: rest) act w := by
  obtain ⟨i0, hi, hz0, hz1, hz2⟩ := info_entF
  subst hn
  cases a with
  | none =>
    obtain rfl := hnone rfl
    have h0 : l = [] := by
      rcases hE with ⟨_, _, _, h0⟩ | ⟨b, off, c, e, _⟩
      · exact h0
      · cases e
    subst h0
    exact wpList_append_own_none hgd s x 23 ho base 25 i0 3 Try.underlying23 hi v _ _ hs hown hx (h v w hown (Below.refl _ _))
  | some ad =>
    have hnews : ∀ j u, (flatE l)[j]? = some u → w.cell? (ad.add j) = some u := by
      by_cases h0 : 0 < l.length
      · obtain ⟨b, off, e, _, _⟩ := hE.cell h0
        injection e with e
        subst e
        exact ents_flat hE h0
      · obtain rfl : l = [] := List.eq_nil_of_length_eq_zero (by omega)
        intro j u hj
        cases hj
    exact wpList_append_own w hgd s x 23 ho base 25 i0 (.agg #[.string ⟨#[]⟩, .string ⟨#[]⟩, .bool false]) 3 40 Try.underlying23 hi hz0 hz1 hz2 rfl (by decide) v _ _ hs hown ad l.length cap (flatE l) hx (flatE_len l) hnews (flatE_one l) (by unfold maxLen; omega) (by omega) hbase
      (fun v' w' h1 h2 _ => h v' w' (own_zero h1) ((Below.refl base w).grown h2 hbase hblk))
set_option maxHeartbeats 4000000 in
set_option maxRecDepth 100000 in
theorem refsfive_any {Is : (Nat → Prop) → World → Value → RefD → Prop} (S : RefsSaid Is) (v : Value) (most : Int) (w : World) (hv : EntArg w v) (hm : FitsR most) :
    Calls Try.prog 4 #[v, .int .i64 most] w fun e w' => e = .returned (.bool true) ∧ Below w.heap.size w w' := by
  obtain ⟨a, cap, l, rfl, hE, hlc, hl63, hz, hnone⟩ := hv
  obtain ⟨i0, hi, hz0, hz1, hz2⟩ := info_entF
  have HE := Lib.hid hE
  have HM := Lib.hid hm
  have CF := Lib.hid (few12_any a cap l w hE hl63 hz)
  clear hE hz hm
  go_enter Try.func4, Try.ntmps4
  go_wp2_with fail
  refine CF.out.mono ?_
  rintro e w1 ⟨bo, rfl, hF, hb⟩
  have HB := Lib.hid hb
  clear CF hb
  cases bo with
  | false =>
    clear hF
    go_wp2_with fail
    refine (told12_any S _).mono ?_
    rintro e w2 ⟨rfl, hb2⟩
    go_wp2
    go_ret
    exact ⟨rfl, HB.out.trans (hb2.mono HB.out.size)⟩
  | true =>
    have HF := Lib.hid (hF rfl)
    have hl20 : l.length ≤ 20 := HF.out.1
    have HE1 := Lib.hid (HE.out.below HB.out)
    clear hF
    have hown0 := own_nothing w1
    have hba := (Below.refl w1.heap.size w1).alloc (Nat.le_refl _) (.cells #[] 25)
    have HEA := Lib.hid ((HE1.out.mono HB.out.size).below hba)
    have HBA := Lib.hid hba
    clear hba
    go_wp2_with (first
      | (at_builtin; refine wpList_append_ents rfl _ _ rfl w1.heap.size _ l a l.length cap rfl hown0 w1.heap.size HEA.out rfl hnone rfl hl20 (by simp) (blk_le _ _ _) ?_; intro v' w2 hown3 hgr3; have HB2 := Lib.hid (HBA.out.trans hgr3); have hsl := ownE_slice hown3; obtain ⟨a4, c4, rfl⟩ := hsl; have HOB := Lib.hid (ownE_block hown3); clear hgr3 hown0)
      | (at_builtin; refine wpList_append_own _ rfl _ _ 23 rfl w1.heap.size 25 i0 (.agg #[.string ⟨#[]⟩, .string ⟨#[]⟩, .bool false]) 3 40 Try.underlying23 hi hz0 hz1 hz2 rfl (by decide) _ _ _ rfl (World.ownsRow.alloc hown3 _) ⟨w2.heap.size, 0, none⟩ 1 1 [.string ⟨#[108, 116]⟩, .string ⟨#[120]⟩, .bool false] rfl rfl (World.news_of_block (ent_new _ _ _ _ _)) (by intro u hu; simp at hu; rcases hu with rfl | rfl | rfl <;> rfl) (by unfold maxLen; omega) (by omega) (by have := HB2.out.size; simp; omega) ?_; intro v' w4 hown4 hgrow4 _; have HB4 := Lib.hid ((HB2.out.alloc HB2.out.size _).grown hgrow4 (by have := HB2.out.size; simp; omega) HOB.out); have hown5 := own_lt hown4; obtain ⟨a5, c5, rfl⟩ := ownE_slice1 hown5; clear hgrow4 hown3 hown4))
    have HFR := Lib.hid (few_more HF.out)
    have HEN := Lib.hid (owns_ents hown5)
    clear hown5
    go_wp2_with fail
    refine (rnewAt S (l ++ [ltE]) _ _ _ HFR.out HEN.out).mono ?_
    rintro e w5 ⟨q, rfl, h⟩
    have HR := Lib.hid h
    have hN := row_names w5
    have hC := row_chars (w5.alloc (.cells #[.string ⟨#[108, 116]⟩, .string ⟨#[103, 116]⟩, .string ⟨#[97, 109, 112]⟩, .string ⟨#[97, 112, 111, 115]⟩, .string ⟨#[113, 117, 111, 116]⟩] 9))
    have hz5 : (w5.alloc (.cells #[.string ⟨#[108, 116]⟩, .string ⟨#[103, 116]⟩, .string ⟨#[97, 109, 112]⟩, .string ⟨#[97, 112, 111, 115]⟩, .string ⟨#[113, 117, 111, 116]⟩] 9)).heap.size = w5.heap.size + 1 := by show (w5.heap.push _).size = _; rw [Array.size_push]
    rw [hz5] at hC
    have hN2 := hN.alloc (.cells #[.string ⟨#[60]⟩, .string ⟨#[62]⟩, .string ⟨#[38]⟩, .string ⟨#[39]⟩, .string ⟨#[34]⟩] 9)
    have hB2 : Below w5.heap.size w5 ((w5.alloc (.cells #[.string ⟨#[108, 116]⟩, .string ⟨#[103, 116]⟩, .string ⟨#[97, 109, 112]⟩, .string ⟨#[97, 112, 111, 115]⟩, .string ⟨#[113, 117, 111, 116]⟩] 9)).alloc (.cells #[.string ⟨#[60]⟩, .string ⟨#[62]⟩, .string ⟨#[38]⟩, .string ⟨#[39]⟩, .string ⟨#[34]⟩] 9)) := ((Below.refl _ _).alloc (Nat.le_refl _) _).alloc (by rw [hz5]; omega) _
    have HW5 : Hid (w5.heap.size = w5.heap.size) := Lib.hid rfl
    have HN2 := Lib.hid hN2
    have HC2 := Lib.hid hC
    have HB2 := Lib.hid hB2
    clear h hN hC hN2 hB2 hz5
    go_wp2
    obtain ⟨g, hg⟩ : ∃ g, w5.heap.size = g := ⟨_, rfl⟩
    generalize (w5.alloc (.cells #[.string ⟨#[108, 116]⟩, .string ⟨#[103, 116]⟩, .string ⟨#[97, 109, 112]⟩, .string ⟨#[97, 112, 111, 115]⟩, .string ⟨#[113, 117, 111, 116]⟩] 9)).alloc (.cells #[.string ⟨#[60]⟩, .string ⟨#[62]⟩, .string ⟨#[38]⟩, .string ⟨#[39]⟩, .string ⟨#[34]⟩] 9) = wb at *
    obtain ⟨F0, hF0, hh⟩ := HR.out.held S HB2.out
    rw [hg] at hF0 HN2 HC2 ⊢
    have HF0 := Lib.hid hF0
    have H := Lib.hid hh
    have HOK := Lib.hid (HR.out.ok S)
    clear hF0 hh hg HW5
    have HKN := Lib.hid (fun W (h : RHeld Is wb F0 (.pointer (some q)) (ref0 (l ++ [ltE])) W) (i : Nat) (hi : i < 5) => show W.cell? ⟨g, i, none⟩ = some (.string (bytes (nameF i))) from (HN2.out.of_block (h.turn.block g HN2.out.lt (fun hk => by have := (HF0.out g hk).2; omega))).cell hi)
    have HKC := Lib.hid (fun W (h : RHeld Is wb F0 (.pointer (some q)) (ref0 (l ++ [ltE])) W) (i : Nat) (hi : i < 5) => show W.cell? ⟨g + 1, i, none⟩ = some (.string (bytes (charF i))) from (HC2.out.of_block (h.turn.block (g + 1) HC2.out.lt (fun hk => by have := (HF0.out (g + 1) hk).2; omega))).cell hi)
    have HGET := Lib.hid (five_get (ref0 (l ++ [ltE])))
    have HOPN := Lib.hid (fun i hi => five_open HOK.out i hi most)
    have HSN := Lib.hid (show (ref0 (l ++ [ltE])).n = 0 from rfl)
    have HSO := Lib.hid (show (ref0 (l ++ [ltE])).opened.length = 0 from rfl)
    have HALL : Hid (∀ W, RHeld Is wb F0 (.pointer (some q)) (ref0 (l ++ [ltE])) W → Below w.heap.size w W) := Lib.hid (fun W h => by
      have h1 := HR.out.since.size
      have h2 := HB2.out.size
      have h3 := HB4.out.size
      have h4 := HB.out.size
      exact ((((HB.out.trans (HB4.out.mono h4)).trans (HR.out.since.mono (by omega))).trans (HB2.out.mono (by omega))).trans (h.since (B := w.heap.size) (by omega) (fun k hk => by have := (HF0.out k hk).1; omega))))
    clear HR HN2 HC2 HF0 HB2 HB4 HB HOK HEN HFR HEA HBA HE1 HE HOB HF
    generalize ref0 (l ++ [ltE]) = R at *
    go_loopw [8] (fun iv wr => ∃ i : Nat, i ≤ 5 ∧ iv = .int .i64 i ∧ Hid (RHeld Is wb F0 (.pointer (some q)) R wr)) (fun iv _ => 5 - (intOf iv).toNat)
    case atStart => exact ⟨0, by decide, rfl, H⟩
    case round =>
      clear H
      obtain ⟨i, hi5, rfl, H⟩ := hrel
      by_cases hlt : i < 5
      · have hlen := (five_is i hlt)
        obtain ⟨c5, _, _, hnl⟩ := hlen
        have n1 := HKN.out _ H.out i hlt
        have hiI : (i : Int) < 5 := by omega
        go_wp2_with fail
        refine (rgetH S (nameF i) _ (bytes (charF i)) rfl _ _ (HGET.out i hlt) hnl H.out).mono ?_
        rintro e w6 ⟨rfl, h⟩
        replace H := Lib.hid h
        clear h n1
        have n2 := HKN.out _ H.out i hlt
        go_wp2_with fail
        refine (ropenH S (nameF i) most _ ⟨#[]⟩ rfl _ _ (HOPN.out i hlt).1 (HOPN.out i hlt).2 hnl HM.out H.out).mono ?_
        rintro e w7 ⟨rfl, h⟩
        replace H := Lib.hid h
        clear h n2
        have n3 := HKC.out _ H.out i hlt
        go_wp2
        go_roundw
        case rel => exact ⟨i + 1, by omega, by go_num, H⟩
        case measure => simp [intOf]; omega
      · have hi5' : ¬ (i : Int) < 5 := by omega
        go_wp2_with fail
        refine (told12_any S _).mono ?_
        rintro e w6 ⟨rfl, h⟩
        replace H := Lib.hid (H.out.other S h)
        clear h
        go_wp2_with fail
        try simp only [List.append_eq, List.cons_append, List.nil_append] at *
        refine (rspentH S H.out).mono ?_
        rw [HSN.out]
        rintro e w7 ⟨rfl, h⟩
        replace H := Lib.hid h
        clear h
        go_wp2_with fail
        try simp only [List.append_eq, List.cons_append, List.nil_append] at *
        refine (rdepthH S H.out).mono ?_
        rw [HSO.out]
        rintro e w8 ⟨rfl, h⟩
        replace H := Lib.hid h
        clear h
        go_wp2
        go_ret
        exact ⟨rfl, HALL.out _ H.out⟩
end Go.Proofs.Ytdgcpeipoiljiaa
