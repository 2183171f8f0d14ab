/-
  THE LANDED PACKAGE scope: declared.
-/
import Derived.Test.YthhnpnjnlbjdjaaRunSBase
import Derived.Test.YthhnpnjnlbjdjaaScSaid
import Derived.Deep.RegionHeld3
namespace Go.Proofs.Ythhnpnjnlbjdjaa
open Go.RowKit

theorem rclone_s (s : ByteArray) (w : World) (hs : s.size ≤ 8388608) : Calls Try.prog 30 #[.string s] w fun e w' => e = .returned (.string s) ∧ Below w.heap.size w w' := by
  have C := Lib.hid (Try.stringslite_Clone s w (by omega))
  go_enter Try.func30, Try.ntmps30
  go_wp2_with fail
  refine C.out.mono ?_
  rintro o w2 ⟨rfl, hb⟩
  go_wp2
  go_ret
  exact ⟨rfl, hb⟩
/-- what declared answers -/
def declV : Option Bd → Value
  | none => .tuple #[.nilIface, .bool false]
  | some b => .tuple #[bondV b, .bool true]
set_option maxHeartbeats 1000000 in
set_option maxRecDepth 100000 in
theorem rdeclared_any (a : At4) (w : World) (hf : FitA a) :
    Calls Try.prog 24 #[.agg #[.string (bytes a.pre), .string (bytes a.loc), .string (bytes a.uri), .string (bytes a.val)]] w fun e w' => e = .returned (declV (declB a)) ∧ Below w.heap.size w w' := by
  obtain ⟨p, l, u, v⟩ := a
  have hl : (bytes l).size ≤ 8388608 := by rw [bytesL_len]; exact hf.1
  have hv : (bytes v).size ≤ 8388608 := by rw [bytesL_len]; exact hf.2
  have CL := Lib.hid (fun W => rclone_s (bytes l) W hl)
  have CV := Lib.hid (fun W => rclone_s (bytes v) W hv)
  obtain ⟨V, hV⟩ : ∃ V, declV (declB ⟨p, l, u, v⟩) = V := ⟨_, rfl⟩
  rw [hV]
  have HV := Lib.hid hV
  clear hl hv hV hf
  have hb := (Below.refl w.heap.size w).alloc (Nat.le_refl _) (.cells #[.string (bytes p), .string (bytes l), .string (bytes u), .string (bytes v)] 35)
  have hbox := World.rowIs_alloc w #[.string (bytes p), .string (bytes l), .string (bytes u), .string (bytes v)] 35 (fun i => if i = 0 then .string (bytes p) else if i = 1 then .string (bytes l) else if i = 2 then .string (bytes u) else .string (bytes v)) (by
    intro i hi
    rcases (show i = 0 ∨ i = 1 ∨ i = 2 ∨ i = 3 by have : i < 4 := hi; omega) with rfl | rfl | rfl | rfl <;> rfl)
  have KEEP := Lib.hid (fun W (h : Below (w.alloc (.cells #[.string (bytes p), .string (bytes l), .string (bytes u), .string (bytes v)] 35)).heap.size (w.alloc (.cells #[.string (bytes p), .string (bytes l), .string (bytes u), .string (bytes v)] 35)) W) =>
    show W.cell? ⟨w.heap.size, 1, none⟩ = some (.string (bytes l)) ∧ W.cell? ⟨w.heap.size, 3, none⟩ = some (.string (bytes v)) from ⟨(h.cell (p := ⟨w.heap.size, 1, none⟩) hbox.lt).trans (hbox.cell (i := 1) (show 1 < 4 by decide)), (h.cell (p := ⟨w.heap.size, 3, none⟩) hbox.lt).trans (hbox.cell (i := 3) (show 3 < 4 by decide))⟩)
  have HB := Lib.hid hb
  clear hb
  by_cases h1 : u = xmlnsU
  · have c1 : ((bytes u).toList == [104, 116, 116, 112, 58, 47, 47, 119, 119, 119, 46, 119, 51, 46, 111, 114, 103, 47, 50, 48, 48, 48, 47, 120, 109, 108, 110, 115, 47]) = true := sbeq_t h1
    by_cases h2 : p = xmlnsN
    · have c2 : ((bytes p).toList == [120, 109, 108, 110, 115]) = true := sbeq_t h2
      by_cases h3 : l = []
      · have c3 := semp_t h3
        have HE := Lib.hid (show declB ⟨p, l, u, v⟩ = some ([], v) by unfold declB; simp [h1, h2, h3])
        clear h1 h2 h3 hbox
        go_enter Try.func24, Try.ntmps24
        go_wp2_with fail
        refine (CV.out _).mono ?_
        rintro e w2 ⟨rfl, hb2⟩
        have HB2 := Lib.hid (HB.out.trans (hb2.mono HB.out.size))
        clear hb2
        go_wp2
        go_returns
        rw [← HV.out, HE.out]
        exact ⟨rfl, HB2.out⟩
      · have c3 := semp_f h3
        have HE := Lib.hid (show declB ⟨p, l, u, v⟩ = some (l, v) by unfold declB; simp [h1, h2, h3])
        have HL := Lib.hid h3
        clear h1 h2 h3 hbox
        go_enter Try.func24, Try.ntmps24
        go_wp2_with fail
        obtain ⟨W0, hW0⟩ : ∃ W0, w.alloc (.cells #[.string (bytes p), .string (bytes l), .string (bytes u), .string (bytes v)] 35) = W0 := ⟨_, rfl⟩
        rw [hW0] at KEEP HB ⊢
        clear hW0
        have k0 := KEEP.out _ (Below.refl _ _).drew
        have hbd : Below W0.heap.size W0 W0.drew := (Below.refl _ _).drew
        have HBD := Lib.hid hbd
        go_region_held3 (fun W => W.cell? ⟨w.heap.size, 1, none⟩ = some (.string (bytes l)) ∧ W.cell? ⟨w.heap.size, 3, none⟩ = some (.string (bytes v)))
          (first | exact k0 | assumption)
          (first | ((refine (CL.out _).mono ?_; rintro e w2 ⟨rfl, hb2⟩; have HB2 := Lib.hid (HBD.out.trans (hb2.mono HBD.out.size)); have k2 := KEEP.out w2 HB2.out)) | ((refine (CV.out _).mono ?_; rintro e w3 ⟨rfl, hb3⟩; have HB3 := Lib.hid (HB2.out.trans (hb3.mono HB2.out.size)); have k3 := KEEP.out w3 HB3.out)))
        have HB4 := Lib.hid (HB.out.trans (HB3.out.mono HB.out.size))
        have HLV := Lib.hid (show declV (some (l, v)) = .tuple #[.iface 72 (.agg #[.string (bytes l), .string (bytes v)]), .bool true] by show Value.tuple #[.iface (bondT (l, v)) (bondA (l, v)), .bool true] = _; rw [bondT_p HL.out, bondA_p HL.out])
        go_wp2
        go_returns
        rw [← HV.out, HE.out, HLV.out]
        exact ⟨rfl, HB4.out⟩
    · have c2 : ((bytes p).toList == [120, 109, 108, 110, 115]) = false := sbeq_f h2
      by_cases h3 : p = []
      · have c3 := semp_t h3
        by_cases h4 : l = xmlnsN
        · have c4 : ((bytes l).toList == [120, 109, 108, 110, 115]) = true := sbeq_t h4
          have HE := Lib.hid (show declB ⟨p, l, u, v⟩ = some ([], v) by unfold declB; simp [h1, h3, h4, show ¬ ([] : Nm) = xmlnsN by decide])
          clear h1 h2 h3 h4 hbox
          go_enter Try.func24, Try.ntmps24
          go_wp2_with fail
          refine (CV.out _).mono ?_
          rintro e w2 ⟨rfl, hb2⟩
          have HB2 := Lib.hid (HB.out.trans (hb2.mono HB.out.size))
          clear hb2
          go_wp2
          go_returns
          rw [← HV.out, HE.out]
          exact ⟨rfl, HB2.out⟩
        · have c4 : ((bytes l).toList == [120, 109, 108, 110, 115]) = false := sbeq_f h4
          have HE := Lib.hid (show declB ⟨p, l, u, v⟩ = none by unfold declB; simp [h1, h3, h4, show ¬ ([] : Nm) = xmlnsN by decide])
          clear h1 h2 h3 h4 hbox
          go_enter Try.func24, Try.ntmps24
          go_wp2
          go_returns
          rw [← HV.out, HE.out]
          exact ⟨rfl, HB.out⟩
      · have c3 := semp_f h3
        have HE := Lib.hid (show declB ⟨p, l, u, v⟩ = none by unfold declB; simp [h1, h2, h3])
        clear h1 h2 h3 hbox
        go_enter Try.func24, Try.ntmps24
        go_wp2
        go_returns
        rw [← HV.out, HE.out]
        exact ⟨rfl, HB.out⟩
  · have c1 : ((bytes u).toList == [104, 116, 116, 112, 58, 47, 47, 119, 119, 119, 46, 119, 51, 46, 111, 114, 103, 47, 50, 48, 48, 48, 47, 120, 109, 108, 110, 115, 47]) = false := sbeq_f h1
    have HE := Lib.hid (show declB ⟨p, l, u, v⟩ = none by unfold declB; simp [h1])
    clear h1 hbox
    go_enter Try.func24, Try.ntmps24
    go_wp2
    go_returns
    rw [← HV.out, HE.out]
    exact ⟨rfl, HB.out⟩
end Go.Proofs.Ythhnpnjnlbjdjaa
