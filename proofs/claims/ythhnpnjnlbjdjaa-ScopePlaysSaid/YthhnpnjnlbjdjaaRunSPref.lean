/-
  THE LANDED PACKAGE scope: Prefix.
-/
import Derived.Test.YthhnpnjnlbjdjaaRunSAll
import Derived.Deep.LoopGhost
import Derived.Sort.Walk0
namespace Go.Proofs.Ythhnpnjnlbjdjaa
open Go.RowKit

theorem as_pref (a b : ByteArray) (w : World) : (Instr.typeAssert (.iface 72 (.agg #[.string a, .string b])) 56 72 true).run Try.prog w = .ok (.tuple #[.agg #[.string a, .string b], .bool true]) w := by kernel_rfl
theorem as_unpref (b : ByteArray) (w : World) : (Instr.typeAssert (.iface 78 (.agg #[.string b])) 56 72 true).run Try.prog w = .ok (.tuple #[.agg #[.string ⟨#[]⟩, .string ⟨#[]⟩], .bool false]) w := by kernel_rfl
theorem blt (a b : Nm) : Op.bytesLess (bytes a).toList (bytes b).toList = decide (a < b) := by rw [bytesL_toList, bytesL_toList]; exact Go.Proofs.bytesLess_eq a b
theorem beq2 (a b : Nm) : ((bytes a).toList == (bytes b).toList) = decide (a = b) := by rw [sbeq, bytesL_toList]
/-- THE BEST SO FAR. -/
def Best (S : List (List Bd)) (u : Nm) (left : Lit → Bool) (least : Nm) (found : Bool) : Prop :=
  (found = false ∧ least = [] ∧ ∀ q, q ≠ [] → lookS S q = some u → left (.string q) = true) ∨
  (found = true ∧ least ≠ [] ∧ lookS S least = some u ∧ ∀ q, q ≠ [] → lookS S q = some u → left (.string q) = false → ¬ q < least)
theorem strike_ne {left : Lit → Bool} {x q : Nm} (h : q ≠ x) : (left (.string q) && !(Lit.string q).sameKey (.string x)) = left (.string q) := by
  rw [Maps.sameKey_ne (str_ne h)]
  simp
/-- a name that is none of those: nothing turns -/
theorem Best.skip {S : List (List Bd)} {u : Nm} {left : Lit → Bool} {least : Nm} {found : Bool} (h : Best S u left least found) (x : Nm) (hx : x = [] ∨ lookS S x ≠ some u) : Best S u (fun z => left z && !z.sameKey (.string x)) least found := by
  have key : ∀ q, q ≠ [] → lookS S q = some u → q ≠ x := fun q h1 h2 e => by
    subst e
    rcases hx with hx | hx
    · exact h1 hx
    · exact hx h2
  rcases h with ⟨h1, h2, h3⟩ | ⟨h1, h2, h3, h4⟩
  · exact Or.inl ⟨h1, h2, fun q hq hl => by dsimp only; rw [strike_ne (key q hq hl)]; exact h3 q hq hl⟩
  · exact Or.inr ⟨h1, h2, h3, fun q hq hl hs => h4 q hq hl (by dsimp only at hs; rw [strike_ne (key q hq hl)] at hs; exact hs)⟩
/-- the first, or a lesser one -/
theorem Best.take {S : List (List Bd)} {u : Nm} {left : Lit → Bool} {least : Nm} {found : Bool} (h : Best S u left least found) (x : Nm) (h1 : x ≠ []) (h2 : lookS S x = some u) (hx : found = false ∨ x < least) : Best S u (fun z => left z && !z.sameKey (.string x)) x true := by
  refine Or.inr ⟨rfl, h1, h2, fun q hq hl hs hlt => ?_⟩
  have hne : q ≠ x := fun e => nm_lt_irrefl x (by rw [e] at hlt; exact hlt)
  dsimp only at hs
  rw [strike_ne hne] at hs
  rcases h with ⟨_, _, g3⟩ | ⟨g1, _, _, g4⟩
  · rw [g3 q hq hl] at hs; cases hs
  · rcases hx with hx | hx
    · rw [g1] at hx; cases hx
    · exact g4 q hq hl hs (nm_lt_trans hlt hx)
/-- a greater one -/
theorem Best.leave {S : List (List Bd)} {u : Nm} {left : Lit → Bool} {least : Nm} (h : Best S u left least true) (x : Nm) (hx : ¬ x < least) : Best S u (fun z => left z && !z.sameKey (.string x)) least true := by
  rcases h with ⟨h1, _⟩ | ⟨h1, h2, h3, h4⟩
  · cases h1
  · refine Or.inr ⟨rfl, h2, h3, fun q hq hl hs => ?_⟩
    by_cases e : q = x
    · rw [e]; exact hx
    · dsimp only at hs
      rw [strike_ne e] at hs
      exact h4 q hq hl hs
theorem Best.done {S : List (List Bd)} (hN : NiceS S) {u : Nm} {left : Lit → Bool} {least : Nm} {found : Bool} (h : Best S u left least found) (h0 : ∀ kl, left kl = false) : prefS S u = least ∧ prefE S u = found := by
  rcases h with ⟨h1, h2, h3⟩ | ⟨h1, h2, h3, h4⟩
  · have e : findP u (allS S) = none := pref_none fun q hq hl => by
      have := h3 q hq hl
      rw [h0] at this
      cases this
    unfold prefS prefE
    rw [e, h1, h2]
    exact ⟨rfl, rfl⟩
  · have e := pref_some hN h3 h2 fun q hq hl => h4 q hq hl (h0 _)
    unfold prefS prefE
    rw [e, h1]
    exact ⟨rfl, rfl⟩
set_option maxHeartbeats 2000000 in
set_option maxRecDepth 100000 in
theorem rpref_any (F : Nat → Prop) (v : Value) (S : List (List Bd)) (u : Nm) (w : World) (hN : NiceS S) (_hu : u.length ≤ 8388608) (h : IsSc F w v S) :
    Calls Try.prog 14 #[v, .string (bytes u)] w (GaveS IsSc F v S (.tuple #[.string (bytes (prefS S u)), .bool (prefE S u)]) w) := by
  obtain ⟨sb, T, VN, vl, rfl, rfl, h14⟩ := isSc_open h
  have C := Lib.hid (rbound_any h14)
  have HN := Lib.hid hN
  clear h h14 hN
  go_enter Try.func14, Try.ntmps14
  go_wp2_with fail
  refine C.out.mono ?_
  rintro e w1 ⟨mb, b0, F1, rfl, hf, hsub, hsup, hturn⟩
  have HF := Lib.hid hf
  have HW := Lib.hid (show Went F F1 w w1 from ⟨hsub, hsup, hturn⟩)
  clear hsub hsup hturn C
  obtain ⟨D, hown, hD⟩ := hf.map
  have HD := Lib.hid hD
  clear hf hD
  go_wp2_with (first | (at_range; refine wpList_range_own _ rfl _ 52 rfl 9 65 keyed_s Try.underlying52 ptrE mb (Maps.size D) D rfl hown ?_; intro w0 hrg0 hg0 hs0) | go_in)
  go_frame
  obtain ⟨r, hr⟩ : ∃ r, w1.heap.size = r := ⟨_, rfl⟩
  rw [hr] at hrg0 ⊢
  go_loopw [6, 7] (fun lv fv wr => ∃ (least : Nm) (found : Bool) (left : Lit → Bool) (cnt : Nat), lv = .string (bytes least) ∧ fv = .bool found ∧ wr.ranges Try.prog 9 ptrE mb r (Maps.size D) D left cnt ∧ Hid (Best (era T) u left least found) ∧ Below w1.heap.size w1 wr) (fun _ _ wr => wr.rangeLeft mb r)
  case atStart =>
    refine ⟨[], false, _, _, rfl, rfl, hrg0, Lib.hid (Or.inl ⟨rfl, rfl, fun q hq hl => ?_⟩), ?_⟩
    · rw [(HD.out q).2]
      unfold hdB
      cases hh : headB b0 T q with
      | none => rw [uri_none hh] at hl; cases hl
      | some x => rfl
    · exact ((Turns.refl (fun _ => False) w1).grown hg0 (fun k hk => by cases hk)).below (Nat.le_refl _) fun k hk => hk.elim
  case round =>
    obtain ⟨least, found, left, cnt, rfl, rfl, hrg, HBS, hbe⟩ := hrel
    have HBE := Lib.hid hbe
    clear hbe hrg0 hg0 hs0 hown
    go_wp2_with (first
      | (at_next; refine wpList_next_ranges _ rfl _ rfl 9 keyed_s ptrE (fun x : Nm => Value.string (bytes x)) ptrV (fun key kl h => by obtain ⟨x, hx, _⟩ := Maps.keyOf_str Try.underlying9 h; exact ⟨x, hx⟩) (fun v y h => by obtain ⟨o, ho, _⟩ := ptrE_inv h; exact ⟨o, ho⟩) mb r (Maps.size D) _ _ _ rfl hrg ?_ ?_)
      | go_in)
    · intro _ hl0
      have HR := Lib.hid (HBS.out.done HN.out hl0)
      have HFR := Lib.hid (HF.out.below HBE.out)
      have HWR := Lib.hid (HW.out.below HBE.out)
      go_wp2
      go_returns
      rw [HR.out.1, HR.out.2]
      exact ⟨rfl, F1, isSc_some (Or.inr ⟨mb, b0, HFR.out⟩), HWR.out.sub, HWR.out.turns⟩
    · intro x c kl yd yp w2 cnt2 hkx hlx hRc hat hrg2 hlt hg2 hs2 hen
      have hxl : x.length ≤ maxLen := by
        obtain ⟨x', hx', _, hm⟩ := Maps.keyOf_str Try.underlying9 hkx
        have e : x = x' := bytesL_inj (by injection hx')
        rw [e]; exact hm
      obtain rfl : kl = .string x := by
        have h1 := WideMaps.keyOf_string_mk Try.underlying9 (s := bytes x) (by rw [bytesL_len]; exact hxl)
        rw [hkx] at h1
        injection h1
      have hyd : yd = ptrD c := by
        rw [ptrE_mk] at hRc
        injection hRc with e
        injection e with e _
        exact e.symm
      have hcd : hdB b0 T x = c := ptrD_inj (((HD.out x).1.symm.trans (hat _)).trans hyd)
      have hsome : c.isSome = true := by
        rw [← hcd, ← (HD.out x).2]
        exact Maps.has_true_of_atKey hat
      obtain ⟨b, rfl⟩ := Option.isSome_iff_exists.1 hsome
      obtain ⟨k, y, hh⟩ : ∃ k y, headB b0 T x = some (b, k, y) := by
        unfold hdB at hcd
        cases hh : headB b0 T x with
        | none => rw [hh] at hcd; cases hcd
        | some z =>
          obtain ⟨z1, k, y⟩ := z
          rw [hh] at hcd
          injection hcd with e
          have e' : z1 = b := e
          subst e'
          exact ⟨k, y, rfl⟩
      have hlk := uri_some hh
      have HB2 := Lib.hid (show Below w1.heap.size w1 w2 from HBE.out.trans (((Turns.refl (fun k => k = r) wr).grown hg2 (fun k hk => Or.inl (by injection hk with hk; exact hk.symm))).below HBE.out.size fun k hk => by rw [hk, hr]; exact Nat.le_refl _))
      obtain ⟨nxt, hbd⟩ := (HF.out.below HB2.out).bs.head hh
      have d0 : w2.cell? ⟨b, 0, none⟩ = some (.iface (bondT (x, y)) (bondA (x, y))) := hbd.row.cell (i := 0) (by decide)
      have hen' : (Instr.entry (.pointer (some ⟨r, 0, none⟩))).run Try.prog w2 = .ok (.tuple #[.string (bytes x), .pointer (some ⟨b, 0, none⟩)]) w2 := hen
      have HRG := Lib.hid hrg2
      have HLT := Lib.hid (show cnt2 < wr.rangeLeft mb r by rw [hrg.left_eq]; exact hlt)
      have HLK := Lib.hid hlk
      clear hen hbd hh hcd hsome hyd hat hRc hkx hxl hlk hrg2 hlt hg2 hs2 hlx hrg
      by_cases hx0 : x = []
      · have e1 : bondT (x, y) = 78 := bondT_u hx0
        have e2 : bondA (x, y) = .agg #[.string (bytes y)] := bondA_u hx0
        rw [e1, e2] at d0
        have a1 := fun W => as_unpref (bytes y) W
        have HBN := Lib.hid (HBS.out.skip x (Or.inl hx0))
        have HBA := Lib.hid (HB2.out.alloc HB2.out.size (.cells #[.string ⟨#[]⟩, .string ⟨#[]⟩] 72))
        have HRA := Lib.hid (HRG.out.alloc (.cells #[.string ⟨#[]⟩, .string ⟨#[]⟩] 72))
        clear e1 e2 hx0
        go_wp2
        go_roundw
        case rel => exact ⟨least, found, _, cnt2, rfl, rfl, HRA.out, HBN, HBA.out⟩
        case measure => rw [HRA.out.left_eq]; exact HLT.out
      · have e1 : bondT (x, y) = 72 := bondT_p hx0
        have e2 : bondA (x, y) = .agg #[.string (bytes x), .string (bytes y)] := bondA_p hx0
        rw [e1, e2] at d0
        have a1 := fun W => as_pref (bytes x) (bytes y) W
        have HX0 := Lib.hid hx0
        have HBA := Lib.hid (HB2.out.alloc HB2.out.size (.cells #[.string (bytes x), .string (bytes y)] 72))
        have HRA := Lib.hid (HRG.out.alloc (.cells #[.string (bytes x), .string (bytes y)] 72))
        clear e1 e2 hx0
        by_cases hyu : y = u
        · have cu : ((bytes y).toList == (bytes u).toList) = true := by rw [beq2]; exact decide_eq_true hyu
          have HLU := Lib.hid (show lookS (era T) x = some u by rw [HLK.out, ← hyu])
          clear hyu
          cases found with
          | false =>
            have HBN := Lib.hid (HBS.out.take x HX0.out HLU.out (Or.inl rfl))
            go_wp2
            go_roundw
            case rel => exact ⟨x, true, _, cnt2, rfl, rfl, HRA.out, HBN, HBA.out⟩
            case measure => rw [HRA.out.left_eq]; exact HLT.out
          | true =>
            by_cases hlt : x < least
            · have cl : Op.bytesLess (bytes x).toList (bytes least).toList = true := by rw [blt]; exact decide_eq_true hlt
              have HBN := Lib.hid (HBS.out.take x HX0.out HLU.out (Or.inr hlt))
              clear hlt
              go_wp2
              go_roundw
              case rel => exact ⟨x, true, _, cnt2, rfl, rfl, HRA.out, HBN, HBA.out⟩
              case measure => rw [HRA.out.left_eq]; exact HLT.out
            · have cl : Op.bytesLess (bytes x).toList (bytes least).toList = false := by rw [blt]; exact decide_eq_false hlt
              have HBN := Lib.hid (HBS.out.leave x hlt)
              clear hlt
              go_wp2
              go_roundw
              case rel => exact ⟨least, true, _, cnt2, rfl, rfl, HRA.out, HBN, HBA.out⟩
              case measure => rw [HRA.out.left_eq]; exact HLT.out
        · have cu : ((bytes y).toList == (bytes u).toList) = false := by rw [beq2]; exact decide_eq_false hyu
          have HBN := Lib.hid (HBS.out.skip x (Or.inr (by rw [HLK.out]; exact fun e => hyu (by injection e))))
          clear hyu
          go_wp2
          go_roundw
          case rel => exact ⟨least, found, _, cnt2, rfl, rfl, HRA.out, HBN, HBA.out⟩
          case measure => rw [HRA.out.left_eq]; exact HLT.out
end Go.Proofs.Ythhnpnjnlbjdjaa
