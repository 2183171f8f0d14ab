/-
  LAYER 5: brackenlaw5.ParenNone, out of ParSaid: true for any row, any place. (Written by gen_pnone.py.)
-/
import Derived.Test.YteecanaibkpmfaaParArg
import Derived.Test.YteecanaibkpmfaaParNoneLaws
namespace Go.Proofs.Yteecanaibkpmfaa
open Go.RowKit

set_option maxHeartbeats 20000000 in
set_option maxRecDepth 100000 in
theorem pnone_any {E : Nat → World → Prop} {Is : Nat → Nat → World → Value → List Bool → Prop} (S : ParSaid E Is) (n : Nat) (l : Value) (k : Int) (w : World) (hE : E n w) (hn : n ≤ w.heap.size) (hk : In64 k) (hl : IntsArg w l) :
    Calls Try.prog 3 #[l, .int .i64 k] w fun e w' => e = .returned (.bool true) ∧ Below w.heap.size w w' := by
  have HE0 := Lib.hid hE
  have HN0 := Lib.hid hn
  have HL := Lib.hid hl
  clear hE hn hl
  go_enter Try.func3, Try.ntmps3
  go_wp2_with fail
  refine (parRow_any l 200 w HL.out (by decide)).mono ?_
  rintro e w1 ⟨a, cap, xs, rfl, hm⟩
  have hlb : xs.length ≤ 4194304 := by have := hm.few; omega
  have HB := Lib.hid hm.since
  have HM := Lib.hid hm.may
  have HR := Lib.hid hm.row
  have HE := Lib.hid (S.stay n w w1 HE0.out (hm.since.mono HN0.out))
  have HN := Lib.hid (Nat.le_trans HN0.out hm.since.size)
  clear HL HE0 HN0
  go_wp2_with fail
  refine (newAt S _ HE.out HN.out hlb HR.out HM.out).mono ?_
  rintro e wa ⟨p, T, rfl, h⟩
  have H := Lib.hid h
  by_cases h0 : k < 0
  · have i1 : decide (0 ≤ k) = false := decide_eq_false (by omega)
    by_cases hm1 : k = -1
    · subst hm1
      obtain ⟨rcl, rbe, rsp, rnu, rex, rup, rpl, rop, ren, ru1⟩ := pn_none xs (-1) (by omega)
      replace rcl := Lib.hid rcl
      replace rbe := Lib.hid rbe
      replace rsp := Lib.hid rsp
      replace rnu := Lib.hid rnu
      replace rex := Lib.hid rex
      replace rup := Lib.hid rup
      replace rpl := Lib.hid rpl
      replace rop := Lib.hid rop
      replace ren := Lib.hid ren
      replace ru1 := Lib.hid ru1
      clear h hm
      go_wp2_with fail
      try simp only [List.append_eq, List.cons_append, List.nil_append] at *
      refine (closeAt S (-1) (-1) rcl.out hk H.out).mono ?_
      rintro e wz ⟨rfl, h⟩
      replace H := Lib.hid h
      clear h
      go_wp2_with fail
      refine (beginAt S (-1) (-1) rbe.out hk H.out).mono ?_
      rintro e wz ⟨rfl, h⟩
      replace H := Lib.hid h
      clear h
      go_wp2_with fail
      refine (spanAt S (-1) 0 rsp.out hk H.out).mono ?_
      rintro e wz ⟨rfl, h⟩
      replace H := Lib.hid h
      clear h
      go_wp2_with fail
      refine (numberAt S (-1) (-1) rnu.out hk H.out).mono ?_
      rintro e wz ⟨rfl, h⟩
      replace H := Lib.hid h
      clear h
      go_wp2_with fail
      refine (excessAt S (-1) (-1) rex.out hk H.out).mono ?_
      rintro e wz ⟨rfl, h⟩
      replace H := Lib.hid h
      clear h
      go_wp2_with fail
      refine (upAt S (-1) 0 (-1) rup.out hk (in64_small _) H.out).mono ?_
      rintro e wz ⟨rfl, h⟩
      replace H := Lib.hid h
      clear h
      go_wp2_with fail
      refine (placeAt S (-1) (-1) rpl.out hk H.out).mono ?_
      rintro e wz ⟨rfl, h⟩
      replace H := Lib.hid h
      clear h
      go_wp2_with fail
      refine (told5_any S n _ (H.out.e S) (Nat.le_trans H.out.nb H.out.size)).mono ?_
      rintro e wz ⟨rfl, hb'⟩
      replace H := Lib.hid (H.out.other S hb')
      clear hb'
      go_wp2_with fail
      refine (encloseAt S (-1) (-1) ren.out hk H.out).mono ?_
      rintro e wz ⟨rfl, h⟩
      replace H := Lib.hid h
      clear h
      go_wp2_with fail
      refine (upAt S (-1) 1 (-1) ru1.out hk (in64_small _) H.out).mono ?_
      rintro e wz ⟨rfl, h⟩
      replace H := Lib.hid h
      clear h
      go_wp2_with fail
      refine (openAt S (-1) false rop.out hk H.out).mono ?_
      rintro e wz ⟨rfl, h⟩
      replace H := Lib.hid h
      clear h
      go_wp2
      go_ret
      exact ⟨rfl, H.out.low HB.out (Nat.le_refl _)⟩
    · have q6 : ((-1 : Int) == k) = false := beq_eq_false_iff_ne.2 (by omega)
      obtain ⟨rcl, rbe, rsp, rnu, rex, rup, rpl, rop, ren, ru1⟩ := pn_none xs k (by omega)
      replace rcl := Lib.hid rcl
      replace rbe := Lib.hid rbe
      replace rsp := Lib.hid rsp
      replace rnu := Lib.hid rnu
      replace rex := Lib.hid rex
      replace rup := Lib.hid rup
      replace rpl := Lib.hid rpl
      replace rop := Lib.hid rop
      replace ren := Lib.hid ren
      replace ru1 := Lib.hid ru1
      clear h hm
      go_wp2_with fail
      try simp only [List.append_eq, List.cons_append, List.nil_append] at *
      refine (closeAt S k (-1) rcl.out hk H.out).mono ?_
      rintro e wz ⟨rfl, h⟩
      replace H := Lib.hid h
      clear h
      go_wp2_with fail
      refine (beginAt S k (-1) rbe.out hk H.out).mono ?_
      rintro e wz ⟨rfl, h⟩
      replace H := Lib.hid h
      clear h
      go_wp2_with fail
      refine (spanAt S k 0 rsp.out hk H.out).mono ?_
      rintro e wz ⟨rfl, h⟩
      replace H := Lib.hid h
      clear h
      go_wp2_with fail
      refine (numberAt S k (-1) rnu.out hk H.out).mono ?_
      rintro e wz ⟨rfl, h⟩
      replace H := Lib.hid h
      clear h
      go_wp2_with fail
      refine (excessAt S k (-1) rex.out hk H.out).mono ?_
      rintro e wz ⟨rfl, h⟩
      replace H := Lib.hid h
      clear h
      go_wp2_with fail
      refine (upAt S k 0 (-1) rup.out hk (in64_small _) H.out).mono ?_
      rintro e wz ⟨rfl, h⟩
      replace H := Lib.hid h
      clear h
      go_wp2_with fail
      refine (placeAt S k (-1) rpl.out hk H.out).mono ?_
      rintro e wz ⟨rfl, h⟩
      replace H := Lib.hid h
      clear h
      go_wp2_with fail
      refine (told5_any S n _ (H.out.e S) (Nat.le_trans H.out.nb H.out.size)).mono ?_
      rintro e wz ⟨rfl, hb'⟩
      replace H := Lib.hid (H.out.other S hb')
      clear hb'
      go_wp2_with fail
      refine (encloseAt S k (-1) ren.out hk H.out).mono ?_
      rintro e wz ⟨rfl, h⟩
      replace H := Lib.hid h
      clear h
      go_wp2_with fail
      refine (upAt S k 1 (-1) ru1.out hk (in64_small _) H.out).mono ?_
      rintro e wz ⟨rfl, h⟩
      replace H := Lib.hid h
      clear h
      go_wp2_with fail
      refine (openAt S k false rop.out hk H.out).mono ?_
      rintro e wz ⟨rfl, h⟩
      replace H := Lib.hid h
      clear h
      go_wp2
      go_ret
      exact ⟨rfl, H.out.low HB.out (Nat.le_refl _)⟩
  · by_cases hlt : k < xs.length
    · obtain ⟨j, rfl⟩ := Int.eq_ofNat_of_zero_le (show 0 ≤ k by omega)
      have hjl : j < xs.length := by omega
      obtain ⟨g, rfl, hg, hcell⟩ := hm.cell j hjl
      obtain ⟨hv, i3⟩ : ∃ hv, decide ((j : Int) < (xs.length : Int) / 2) = hv := ⟨_, rfl⟩
      have q7 := sel_half HM.out j
      rw [i3] at q7
      obtain ⟨x, hx⟩ : ∃ x, xs.getD j false = x := ⟨_, rfl⟩
      have hc1 : wa.cell? ⟨g, j, none⟩ = some (.bool x) := by rw [h.since.cell (p := ⟨g, j, none⟩) hg, ← hx]; exact hcell j hjl
      clear hcell
      cases x
      · obtain ⟨rcl, q2, rsp, rnu, q5, rup, rop, ren, ru1⟩ := pn_shut HM.out j hjl hx
        generalize rbe : beginL xs (j : Int) = be at q2
        generalize rex : excL xs (j : Int) = ex at q5
        generalize rpl : selL xs (j : Int) true = pl at q7
        replace rcl := Lib.hid rcl
        replace rbe := Lib.hid rbe
        replace rsp := Lib.hid rsp
        replace rnu := Lib.hid rnu
        replace rex := Lib.hid rex
        replace rup := Lib.hid rup
        replace rpl := Lib.hid rpl
        replace rop := Lib.hid rop
        replace ren := Lib.hid ren
        replace ru1 := Lib.hid ru1
        clear h hm hx
        have q6 : ((-1 : Int) == (j : Int)) = false := beq_eq_false_iff_ne.2 (by omega)
        go_wp2_with fail
        try simp only [List.append_eq, List.cons_append, List.nil_append] at *
        refine (closeAt S (j : Int) (-1) rcl.out hk H.out).mono ?_
        rintro e wz ⟨rfl, h⟩
        replace H := Lib.hid h
        clear h
        go_wp2_with fail
        refine (beginAt S (j : Int) be rbe.out hk H.out).mono ?_
        rintro e wz ⟨rfl, h⟩
        replace H := Lib.hid h
        clear h
        go_wp2_with fail
        refine (spanAt S (j : Int) 0 rsp.out hk H.out).mono ?_
        rintro e wz ⟨rfl, h⟩
        replace H := Lib.hid h
        clear h
        go_wp2_with fail
        refine (numberAt S (j : Int) (-1) rnu.out hk H.out).mono ?_
        rintro e wz ⟨rfl, h⟩
        replace H := Lib.hid h
        clear h
        go_wp2_with fail
        refine (excessAt S (j : Int) ex rex.out hk H.out).mono ?_
        rintro e wz ⟨rfl, h⟩
        replace H := Lib.hid h
        clear h
        go_wp2_with fail
        refine (upAt S (j : Int) 0 (-1) rup.out hk (in64_small _) H.out).mono ?_
        rintro e wz ⟨rfl, h⟩
        replace H := Lib.hid h
        clear h
        go_wp2_with fail
        refine (placeAt S (j : Int) pl rpl.out hk H.out).mono ?_
        rintro e wz ⟨rfl, h⟩
        replace H := Lib.hid h
        clear h
        go_wp2_with fail
        refine (told5_any S n _ (H.out.e S) (Nat.le_trans H.out.nb H.out.size)).mono ?_
        rintro e wz ⟨rfl, hb'⟩
        replace H := Lib.hid (H.out.other S hb')
        clear hb'
        go_wp2_with fail
        refine (encloseAt S (j : Int) (-1) ren.out hk H.out).mono ?_
        rintro e wz ⟨rfl, h⟩
        replace H := Lib.hid h
        clear h
        go_wp2_with fail
        refine (upAt S (j : Int) 1 (-1) ru1.out hk (in64_small _) H.out).mono ?_
        rintro e wz ⟨rfl, h⟩
        replace H := Lib.hid h
        clear h
        go_wp2_with fail
        refine (openAt S (j : Int) false rop.out hk H.out).mono ?_
        rintro e wz ⟨rfl, h⟩
        replace H := Lib.hid h
        clear h
        go_wp2
        go_ret
        exact ⟨rfl, H.out.low HB.out (Nat.le_refl _)⟩
      · obtain ⟨q1, rbe, q3, q4, q5, rup, rop⟩ := pn_open HM.out j hjl hx
        generalize rcl : closeL xs (j : Int) = cl at q1
        generalize rsp : spanL xs (j : Int) = sp at q3
        generalize rnu : numberL xs (j : Int) = nu at q4
        generalize rex : excL xs (j : Int) = ex at q5
        generalize rpl : selL xs (j : Int) true = pl at q7
        replace rcl := Lib.hid rcl
        replace rbe := Lib.hid rbe
        replace rsp := Lib.hid rsp
        replace rnu := Lib.hid rnu
        replace rex := Lib.hid rex
        replace rup := Lib.hid rup
        replace rpl := Lib.hid rpl
        replace rop := Lib.hid rop
        clear h hm hx
        go_wp2_with fail
        try simp only [List.append_eq, List.cons_append, List.nil_append] at *
        refine (closeAt S (j : Int) cl rcl.out hk H.out).mono ?_
        rintro e wz ⟨rfl, h⟩
        replace H := Lib.hid h
        clear h
        go_wp2_with fail
        refine (beginAt S (j : Int) (-1) rbe.out hk H.out).mono ?_
        rintro e wz ⟨rfl, h⟩
        replace H := Lib.hid h
        clear h
        go_wp2_with fail
        refine (spanAt S (j : Int) sp rsp.out hk H.out).mono ?_
        rintro e wz ⟨rfl, h⟩
        replace H := Lib.hid h
        clear h
        go_wp2_with fail
        refine (numberAt S (j : Int) nu rnu.out hk H.out).mono ?_
        rintro e wz ⟨rfl, h⟩
        replace H := Lib.hid h
        clear h
        go_wp2_with fail
        refine (excessAt S (j : Int) ex rex.out hk H.out).mono ?_
        rintro e wz ⟨rfl, h⟩
        replace H := Lib.hid h
        clear h
        go_wp2_with fail
        refine (upAt S (j : Int) 0 (j : Int) rup.out hk (in64_small _) H.out).mono ?_
        rintro e wz ⟨rfl, h⟩
        replace H := Lib.hid h
        clear h
        go_wp2_with fail
        refine (placeAt S (j : Int) pl rpl.out hk H.out).mono ?_
        rintro e wz ⟨rfl, h⟩
        replace H := Lib.hid h
        clear h
        go_wp2_with fail
        refine (told5_any S n _ (H.out.e S) (Nat.le_trans H.out.nb H.out.size)).mono ?_
        rintro e wz ⟨rfl, hb'⟩
        replace H := Lib.hid (H.out.other S hb')
        clear hb'
        go_wp2_with fail
        refine (openAt S (j : Int) true rop.out hk H.out).mono ?_
        rintro e wz ⟨rfl, h⟩
        replace H := Lib.hid h
        clear h
        go_wp2
        go_ret
        exact ⟨rfl, H.out.low HB.out (Nat.le_refl _)⟩
    · have i1 : decide (0 ≤ k) = true := decide_eq_true (by omega)
      have i2 : decide (k < (xs.length : Int)) = false := decide_eq_false hlt
      have i3 : decide (k < (xs.length : Int) / 2) = false := decide_eq_false (by omega)
      have q6 : ((-1 : Int) == k) = false := beq_eq_false_iff_ne.2 (by omega)
      obtain ⟨rcl, rbe, rsp, rnu, rex, rup, rpl, rop, ren, ru1⟩ := pn_none xs k (by omega)
      replace rcl := Lib.hid rcl
      replace rbe := Lib.hid rbe
      replace rsp := Lib.hid rsp
      replace rnu := Lib.hid rnu
      replace rex := Lib.hid rex
      replace rup := Lib.hid rup
      replace rpl := Lib.hid rpl
      replace rop := Lib.hid rop
      replace ren := Lib.hid ren
      replace ru1 := Lib.hid ru1
      clear h hm
      go_wp2_with fail
      try simp only [List.append_eq, List.cons_append, List.nil_append] at *
      refine (closeAt S k (-1) rcl.out hk H.out).mono ?_
      rintro e wz ⟨rfl, h⟩
      replace H := Lib.hid h
      clear h
      go_wp2_with fail
      refine (beginAt S k (-1) rbe.out hk H.out).mono ?_
      rintro e wz ⟨rfl, h⟩
      replace H := Lib.hid h
      clear h
      go_wp2_with fail
      refine (spanAt S k 0 rsp.out hk H.out).mono ?_
      rintro e wz ⟨rfl, h⟩
      replace H := Lib.hid h
      clear h
      go_wp2_with fail
      refine (numberAt S k (-1) rnu.out hk H.out).mono ?_
      rintro e wz ⟨rfl, h⟩
      replace H := Lib.hid h
      clear h
      go_wp2_with fail
      refine (excessAt S k (-1) rex.out hk H.out).mono ?_
      rintro e wz ⟨rfl, h⟩
      replace H := Lib.hid h
      clear h
      go_wp2_with fail
      refine (upAt S k 0 (-1) rup.out hk (in64_small _) H.out).mono ?_
      rintro e wz ⟨rfl, h⟩
      replace H := Lib.hid h
      clear h
      go_wp2_with fail
      refine (placeAt S k (-1) rpl.out hk H.out).mono ?_
      rintro e wz ⟨rfl, h⟩
      replace H := Lib.hid h
      clear h
      go_wp2_with fail
      refine (told5_any S n _ (H.out.e S) (Nat.le_trans H.out.nb H.out.size)).mono ?_
      rintro e wz ⟨rfl, hb'⟩
      replace H := Lib.hid (H.out.other S hb')
      clear hb'
      go_wp2_with fail
      refine (encloseAt S k (-1) ren.out hk H.out).mono ?_
      rintro e wz ⟨rfl, h⟩
      replace H := Lib.hid h
      clear h
      go_wp2_with fail
      refine (upAt S k 1 (-1) ru1.out hk (in64_small _) H.out).mono ?_
      rintro e wz ⟨rfl, h⟩
      replace H := Lib.hid h
      clear h
      go_wp2_with fail
      refine (openAt S k false rop.out hk H.out).mono ?_
      rintro e wz ⟨rfl, h⟩
      replace H := Lib.hid h
      clear h
      go_wp2
      go_ret
      exact ⟨rfl, H.out.low HB.out (Nat.le_refl _)⟩
end Go.Proofs.Yteecanaibkpmfaa
