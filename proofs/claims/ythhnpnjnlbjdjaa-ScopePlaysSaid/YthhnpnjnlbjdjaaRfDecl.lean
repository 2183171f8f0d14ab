/-
  THE CONTRACT OF brackenref10.Declares.
-/
import Derived.Test.YthhnpnjnlbjdjaaScNames
import Derived.Handy
namespace Go.Proofs.Ythhnpnjnlbjdjaa
open Go.RowKit

/-- what Declares answers -/
def dcP (a : At4) : Nm := match declB a with | some b => b.1 | none => []
def dcI (a : At4) : Bool := (declB a).isSome
theorem dcP_declA (b : Bd) : dcP (declA b) = b.1 := by unfold dcP; rw [declB_declA]
theorem dcI_declA (b : Bd) : dcI (declA b) = true := by unfold dcI; rw [declB_declA]; rfl
set_option maxHeartbeats 1000000 in
set_option maxRecDepth 100000 in
theorem rdeclares_any (a : At4) (w : World) :
    Calls Try.prog 12 #[.agg #[.string (bytes a.pre), .string (bytes a.loc), .string (bytes a.uri), .string (bytes a.val)]] w fun e w' => e = .returned (.tuple #[.string (bytes (dcP a)), .bool (dcI a)]) ∧ Below w.heap.size w w' := by
  obtain ⟨p, l, u, v⟩ := a
  obtain ⟨P, hP⟩ : ∃ P, dcP ⟨p, l, u, v⟩ = P := ⟨_, rfl⟩
  obtain ⟨I, hI⟩ : ∃ I, dcI ⟨p, l, u, v⟩ = I := ⟨_, rfl⟩
  rw [hP, hI]
  unfold dcP at hP
  unfold dcI at hI
  have HB := Lib.hid ((Below.refl w.heap.size w).alloc (Nat.le_refl _) (.cells #[.string (bytes p), .string (bytes l), .string (bytes u), .string (bytes v)] 35))
  have hdr : ∀ W : World, Below w.heap.size w W → Below w.heap.size w W.drew := fun W h => h.drew
  have HDR := Lib.hid hdr
  clear hdr
  by_cases h1 : u = xmlnsU
  · have c1 : ((bytes u).toList == [104, 116, 116, 112, 58, 47, 47, 119, 119, 119, 46, 119, 51, 46, 111, 114, 103, 47, 50, 48, 48, 48, 47, 120, 109, 108, 110, 115, 47]) = true := s14t h1
    by_cases h2 : p = xmlnsN
    · have c2 : ((bytes p).toList == [120, 109, 108, 110, 115]) = true := s14t h2
      by_cases h3 : l = []
      · have hd : declB ⟨p, l, u, v⟩ = some ([], v) := by unfold declB; simp [h1, h2, h3]
        rw [hd] at hP hI
        have HP : Hid (bytes l = bytes P ∧ true = I) := Lib.hid ⟨by rw [← hP, h3], hI⟩
        clear h1 h2 h3 hd hP hI
        go_enter Try.func12, Try.ntmps12
        go_wp2
        go_returns
        rw [← HP.out.1, HP.out.2]
        exact ⟨rfl, HB.out⟩
      · have hd : declB ⟨p, l, u, v⟩ = some (l, v) := by unfold declB; simp [h1, h2, h3]
        rw [hd] at hP hI
        have HP : Hid (bytes l = bytes P ∧ true = I) := Lib.hid ⟨by rw [← hP], hI⟩
        clear h1 h2 h3 hd hP hI
        go_enter Try.func12, Try.ntmps12
        go_wp2
        go_returns
        rw [← HP.out.1, HP.out.2]
        exact ⟨rfl, HB.out⟩
    · have c2 : ((bytes p).toList == [120, 109, 108, 110, 115]) = false := s14f h2
      by_cases h3 : p = []
      · have c3 := s14et h3
        by_cases h4 : l = xmlnsN
        · have c4 : ((bytes l).toList == [120, 109, 108, 110, 115]) = true := s14t h4
          have hd : declB ⟨p, l, u, v⟩ = some ([], v) := by unfold declB; simp [h1, h3, h4, show ¬ ([] : Nm) = xmlnsN by decide]
          rw [hd] at hP hI
          have HP : Hid (Value.string ⟨#[]⟩ = .string (bytes P) ∧ true = I) := Lib.hid ⟨by rw [← hP]; rfl, hI⟩
          clear h1 h2 h3 h4 hd hP hI
          go_enter Try.func12, Try.ntmps12
          go_wp2_with fail
          go_region
          go_wp2
          go_returns
          rw [HP.out.1, HP.out.2]
          exact ⟨rfl, HB.out.drew⟩
        · have c4 : ((bytes l).toList == [120, 109, 108, 110, 115]) = false := s14f h4
          have hd : declB ⟨p, l, u, v⟩ = none := by unfold declB; simp [h1, h3, h4, show ¬ ([] : Nm) = xmlnsN by decide]
          rw [hd] at hP hI
          have HP : Hid (Value.string ⟨#[]⟩ = .string (bytes P) ∧ false = I) := Lib.hid ⟨by rw [← hP]; rfl, hI⟩
          clear h1 h2 h3 h4 hd hP hI
          go_enter Try.func12, Try.ntmps12
          go_wp2_with fail
          go_region
          go_wp2
          go_returns
          rw [HP.out.1, HP.out.2]
          exact ⟨rfl, HB.out.drew⟩
      · have c3 := s14ef h3
        have hd : declB ⟨p, l, u, v⟩ = none := by unfold declB; simp [h1, h2, h3]
        rw [hd] at hP hI
        have HP : Hid (Value.string ⟨#[]⟩ = .string (bytes P) ∧ false = I) := Lib.hid ⟨by rw [← hP]; rfl, hI⟩
        clear h1 h2 h3 hd hP hI
        go_enter Try.func12, Try.ntmps12
        go_wp2_with fail
        go_region
        go_wp2
        go_returns
        rw [HP.out.1, HP.out.2]
        exact ⟨rfl, HB.out.drew⟩
  · have c1 : ((bytes u).toList == [104, 116, 116, 112, 58, 47, 47, 119, 119, 119, 46, 119, 51, 46, 111, 114, 103, 47, 50, 48, 48, 48, 47, 120, 109, 108, 110, 115, 47]) = false := s14f h1
    have hd : declB ⟨p, l, u, v⟩ = none := by unfold declB; simp [h1]
    rw [hd] at hP hI
    have HP : Hid (Value.string ⟨#[]⟩ = .string (bytes P) ∧ false = I) := Lib.hid ⟨by rw [← hP]; rfl, hI⟩
    clear h1 hd hP hI
    go_enter Try.func12, Try.ntmps12
    go_wp2
    go_returns
    rw [HP.out.1, HP.out.2]
    exact ⟨rfl, HB.out⟩
end Go.Proofs.Ythhnpnjnlbjdjaa
