/-
  THE LANDED PACKAGE scope IS WHAT THE LAWS ASK OF IT.
-/
import Derived.Test.YthhnpnjnlbjdjaaRunSPushW
import Derived.Test.YthhnpnjnlbjdjaaRunSAllW
import Derived.Test.YthhnpnjnlbjdjaaRunSPref
namespace Go.Proofs.Ythhnpnjnlbjdjaa
open Go.RowKit

theorem sc_said : ScSaid IsSc := {
  keep := isSc_keep
  inn := isSc_in
  isPtr := fun F w v S h => by obtain ⟨sb, T, VN, vl, rfl, _⟩ := h; exact ⟨_, rfl⟩
  new := rnew_s
  push := fun F v S l sl w hN h1 h2 h3 h4 h5 => rpush_any F v S l sl w hN h1 h2 h3 h4 h5
  pop := fun F v S w hN h => rpop_any F v S w hN h
  uri := fun F v S p w hN hp h => ruri_any F v S p w hN hp h
  pref := fun F v S u w hN hu h => rpref_any F v S u w hN hu h
  all := fun F v S w hN h => rall_any F v S w hN h
  depth := fun F v S w _ h => by
    obtain ⟨sb, T, VN, vl, rfl, he, h14⟩ := isSc_open h
    obtain ⟨vm, b0, hp⟩ := h14.parts
    refine (rdepth_any hp.sc).mono ?_
    rintro e w' ⟨rfl, rfl⟩
    exact ⟨by rw [← he, era_len], Below.refl _ _⟩ }
end Go.Proofs.Ythhnpnjnlbjdjaa
