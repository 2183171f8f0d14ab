/-
  LAYER 6: the symbols that a law makes of its argument ([]int).
-/
import Derived.Test.YtnjlckgmoodkiaaWavRaw
namespace Go.Proofs.Ytnjlckgmoodkiaa
open Go.RowKit

/-- symbols in memory -/
structure MadeW (sigma most : Nat) (w : World) (v : Value) (xs : List Int) (w' : World) : Prop where
  few : xs.length ≤ most
  syms : ∀ x ∈ xs, 0 ≤ x ∧ x < (sigma : Int)
  row : SymOK w' v xs
  own : OwnI w' w.heap.size v xs
  since : Below w.heap.size w w'
theorem wavRow_any (v : Value) (sigma most : Nat) (w : World) (hv : SymArg w v) (hs1 : 1 ≤ sigma) (hs2 : sigma ≤ 1000000) (hm : most ≤ 4294967296) :
    Calls Try.prog 8 #[v, .int .i64 sigma, .int .i64 most] w fun e w' => ∃ a cap xs, e = .returned (.slice a (xs : List Int).length cap) ∧ MadeW sigma most w (.slice a xs.length cap) xs w' := by
  obtain ⟨a, cap, zs, rfl, hr, _, hz⟩ := hv
  have h : Calls Try.prog 8 #[.slice a zs.length cap, .int .i64 sigma, .int .i64 most] w (WavPost sigma most w) := by
    rcases hr.1 with ⟨a', cap', e, hn⟩ | ⟨b, off, cap', e, h2, h3⟩
    · subst hn
      exact wavRowNone_any a cap sigma most w
    · injection e with e1 e2 e3
      subst e1
      exact wavRowSome_any b off cap zs sigma most w hs1 hs2 hm hz h2 h3
  refine h.mono ?_
  rintro e w' ⟨v', xs, rfl, h1, h2, ho, hbel⟩
  obtain ⟨a4, c4, rfl⟩ := ownI_slice ho
  exact ⟨a4, c4, xs, rfl, h1, h2, symOK_of ho, ho, hbel⟩
theorem MadeW.may {sigma most : Nat} {w w' : World} {v : Value} {xs : List Int} (h : MadeW sigma most w v xs w') (h1 : 1 ≤ sigma) (h2 : sigma ≤ 1048576) : maySyms xs sigma = true := may_ofW h.syms (by omega) (by omega)
theorem MadeW.cell {sigma most : Nat} {w w' : World} {a : Option Addr} {m cap : Nat} {xs : List Int} (h : MadeW sigma most w (.slice a m cap) xs w') (k : Nat) (hk : k < xs.length) :
    ∃ g, a = some ⟨g, 0, none⟩ ∧ g < w'.heap.size ∧ ∀ i, i < xs.length → w'.cell? ⟨g, i, none⟩ = some (.int .i64 (xs.getD i 0)) := by
  rcases ownI_shape h.own with ⟨_, rfl⟩ | ⟨g, cap', e, _, _, hg, hc⟩
  · cases hk
  · injection e with e1 e2 e3
    exact ⟨g, e1, hg, hc⟩
theorem wdrew (w : World) (n : Nat) : Below w.heap.size w (w.drewN n) := (Below.refl w.heap.size w).trans ⟨rfl, rfl, rfl, Nat.le_refl _, fun _ _ => rfl⟩
/-- a number of 64 bits, taken into what is below n -/
theorem wrap_mod3 (a : Int) (n : Nat) (h0 : 0 < n) (hn : n ≤ 1000000) : ∃ u x : Nat, IntKind.u64.wrap a = (u : Int) ∧ IntKind.u64.wrap (n : Int) = (n : Int) ∧ Int.tmod (u : Int) (n : Int) = (x : Int) ∧ x < n ∧ IntKind.u64.wrap (x : Int) = (x : Int) ∧ IntKind.i64.wrap (x : Int) = (x : Int) ∧ ((n : Int) == 0) = false ∧ (n == 0) = false := by
  obtain ⟨u, x, h1, h2, h3, h4, h5, h6⟩ := wrap_mod2 a n h0 hn
  exact ⟨u, x, h1, h2, h3, h4, h5, h6, beq_eq_false_iff_ne.2 (by omega), beq_eq_false_iff_ne.2 (by omega)⟩
end Go.Proofs.Ytnjlckgmoodkiaa
