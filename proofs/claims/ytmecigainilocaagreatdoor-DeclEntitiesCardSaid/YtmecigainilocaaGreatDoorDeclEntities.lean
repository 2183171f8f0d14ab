/-
  THE LAW DeclEntities, out of what is asked of package decl (DeclSaid): an entity's text, of pieces.
-/
import Derived.Test.YtmecigainilocaaGreatDoorDeclTypes
import Derived.Test.YtmecigainilocaaGreatDoorDeclEnts
import Derived.Test.YtmecigainilocaaGreatDoorListArg
import Derived.BigQuiet
import Derived.Deep.QuietTactic
import Derived.Deep.LoopGhost
namespace Go.Proofs.YtmecigainilocaaGreatDoor
open Go.RowKit

theorem pieces_next (ws : List (List UInt8)) (is : List Nat) (x : Nat) : piecesT ws (is ++ [x]) = piecesT ws is ++ ws.getD x [] := by
  unfold piecesT
  rw [List.flatMap_append]
  simp
theorem pieces_len (ws : List (List UInt8)) (h : (ws.all fun k => decide (k.length ≤ 20)) = true) : ∀ is : List Nat, (piecesT ws is).length ≤ 20 * is.length
  | [] => Nat.le_refl _
  | i :: is => by
    have e1 : piecesT ws (i :: is) = ws.getD i [] ++ piecesT ws is := by unfold piecesT; rw [List.flatMap_cons]
    have := pieces_len ws h is
    have := word_small ws h i
    rw [e1, List.length_append, List.length_cons]
    omega
theorem ents_bytes (x : List UInt8) : (⟨#[60, 33, 68, 79, 67, 84, 89, 80, 69, 32, 97, 91, 60, 33, 69, 78, 84, 73, 84, 89, 32, 113, 32, 39]⟩ : ByteArray) ++ bytes x ++ ⟨#[39, 62, 93, 62]⟩ = bytes (entsText x) := by
  show bytes [60, 33, 68, 79, 67, 84, 89, 80, 69, 32, 97, 91, 60, 33, 69, 78, 84, 73, 84, 89, 32, 113, 32, 39] ++ bytes x ++ bytes [39, 62, 93, 62] = _
  simp only [bytes_app]
  congr 1
def pObj : Obj := .cells #[.string ⟨#[97]⟩, .string ⟨#[38, 35, 54, 53, 59]⟩, .string ⟨#[38, 35, 120, 50, 54, 59]⟩, .string ⟨#[38, 108, 116, 59]⟩, .string ⟨#[38, 101, 59]⟩, .string ⟨#[195, 169]⟩, .string ⟨#[32]⟩, .string ⟨#[60]⟩, .string ⟨#[62]⟩, .string ⟨#[34]⟩] 9
def qObj : Obj := .cells #[.string ⟨#[97]⟩, .string ⟨#[65]⟩, .string ⟨#[38]⟩, .string ⟨#[38, 108, 116, 59]⟩, .string ⟨#[38, 101, 59]⟩, .string ⟨#[195, 169]⟩, .string ⟨#[32]⟩, .string ⟨#[60]⟩, .string ⟨#[62]⟩, .string ⟨#[34]⟩] 9
theorem p_row (w : World) : (w.alloc pObj).rowIs w.heap.size 9 10 (fun i => .string (bytes (piecesW.getD i []))) := World.rowIs_alloc w _ 9 _ (by
  intro i hi
  rcases (show i = 0 ∨ i = 1 ∨ i = 2 ∨ i = 3 ∨ i = 4 ∨ i = 5 ∨ i = 6 ∨ i = 7 ∨ i = 8 ∨ i = 9 by have : i < 10 := hi; omega) with rfl | rfl | rfl | rfl | rfl | rfl | rfl | rfl | rfl | rfl <;> rfl)
theorem q_row (w : World) : (w.alloc qObj).rowIs w.heap.size 9 10 (fun i => .string (bytes (toldW.getD i []))) := World.rowIs_alloc w _ 9 _ (by
  intro i hi
  rcases (show i = 0 ∨ i = 1 ∨ i = 2 ∨ i = 3 ∨ i = 4 ∨ i = 5 ∨ i = 6 ∨ i = 7 ∨ i = 8 ∨ i = 9 by have : i < 10 := hi; omega) with rfl | rfl | rfl | rfl | rfl | rfl | rfl | rfl | rfl | rfl <;> rfl)
set_option maxHeartbeats 2000000 in
set_option maxRecDepth 100000 in
theorem declentities_any {E : Nat → World → Prop} (S : DeclSaid E) (n : Nat) (v : Value) (w : World) (hE : E n w) (hn : n ≤ w.heap.size) (hl : IntsArg w v) :
    Calls Tryz.prog 7 #[v] w fun e w' => e = .returned (.bool true) ∧ Below w.heap.size w w' := by
  obtain ⟨a, cap, zs, rfl, hzl, hcell⟩ := hl.row
  have H := Lib.hid (show CAt E n w w from ⟨hE, hn, Below.refl _ _⟩)
  have HZ := Lib.hid hcell
  have s1 : (w.alloc pObj).heap.size = w.heap.size + 1 := Deep.nblk_alloc _ _
  have s2 : ((w.alloc pObj).alloc qObj).heap.size = w.heap.size + 2 := by rw [Deep.nblk_alloc, s1]
  have HP : Hid (∀ W, Below ((w.alloc pObj).alloc qObj).heap.size ((w.alloc pObj).alloc qObj) W → ∀ x, x < 10 → W.cell? ⟨w.heap.size, x, none⟩ = some (.string (bytes (piecesW.getD x []))) ∧ W.cell? ⟨w.heap.size + 1, x, none⟩ = some (.string (bytes (toldW.getD x [])))) := Lib.hid (fun W hW x hx => by
    have h1 := ((p_row w).of_block (((Below.refl _ _).alloc (Nat.le_refl _) qObj).block w.heap.size (by rw [s1]; omega))).of_block (hW.block w.heap.size (by rw [s2]; omega))
    have h2 := q_row (w.alloc pObj)
    rw [s1] at h2
    have h3 := h2.of_block (hW.block (w.heap.size + 1) (by rw [s2]; omega))
    exact ⟨h1.cell hx, h3.cell hx⟩)
  have HW0 : Hid (CAt E n w ((w.alloc pObj).alloc qObj)) := Lib.hid ((H.out.alloc S _).alloc S _)
  have HBB : Hid (∀ W, Below ((w.alloc pObj).alloc qObj).heap.size ((w.alloc pObj).alloc qObj) W → Below w.heap.size w W) := Lib.hid (fun W hW => HW0.out.since.trans (hW.mono HW0.out.since.size))
  clear hE hcell hl s1 s2
  go_enter Tryz.func7, Tryz.ntmps7
  go_wp2
  go_loopg [5, 6, 7] (min zs.length 30) (fun gg sv tv iv wr => Below ((w.alloc pObj).alloc qObj).heap.size ((w.alloc pObj).alloc qObj) wr ∧ ∃ is : List Nat, sv = .string (bytes (piecesT piecesW is)) ∧ tv = .string (bytes (piecesT toldW is)) ∧ iv = .int .i64 (is.length : Int) ∧ is.length + gg = min zs.length 30 ∧ ∀ i ∈ is, i < 10)
  case atStart => exact ⟨Below.refl _ _, [], rfl, rfl, rfl, Nat.zero_add _, fun i hi => by cases hi⟩
  case round =>
    obtain ⟨hbw, is, rfl, rfl, rfl, hig, h10⟩ := hrel
    have hS := pieces_len piecesW (by decide) is
    have hT := pieces_len toldW (by decide) is
    obtain ⟨i, hi⟩ : ∃ i, is.length = i := ⟨_, rfl⟩
    rw [hi] at hig hS hT ⊢
    have HBW := Lib.hid hbw
    have H10 := Lib.hid h10
    have zS : (bytes (piecesT piecesW is)).size ≤ 20 * i := by rw [bytes_len11]; exact hS
    have zT : (bytes (piecesT toldW is)).size ≤ 20 * i := by rw [bytes_len11]; exact hT
    have hi30 : i ≤ 30 := by omega
    cases gk with
    | succ g =>
      have hil : i < zs.length := by omega
      obtain ⟨b, off, rfl, hb, hc⟩ := HZ.out i hil
      obtain ⟨z, hz⟩ : ∃ z, zs.getD i 0 = z := ⟨_, rfl⟩
      rw [hz] at hc
      have hc2 : wr.cell? ⟨b, off + i, none⟩ = some (.int .i64 z) := ((HBB.out wr hbw).cell (p := ⟨b, off + i, none⟩) hb).trans hc
      obtain ⟨u, x, hu1, hu2, hu3, hx, hu4, hu5⟩ := wrap_mod2 z 10 (by decide) (by decide)
      replace hu2 : IntKind.u64.wrap 10 = 10 := hu2
      replace hu3 : Int.tmod (u : Int) 10 = (x : Int) := hu3
      obtain ⟨cP, cQ⟩ := HP.out wr hbw x hx
      have sK := word_small piecesW (by decide) x
      have sL := word_small toldW (by decide) x
      have zK : (bytes (piecesW.getD x [])).size ≤ 20 := by rw [bytes_len11]; exact sK
      have zL : (bytes (toldW.getD x [])).size ≤ 20 := by rw [bytes_len11]; exact sL
      have HS2 : Hid (bytes (piecesT piecesW is) ++ bytes (piecesW.getD x []) = bytes (piecesT piecesW (is ++ [x]))) := Lib.hid (by rw [pieces_next, bytes_app])
      have HT2 : Hid (bytes (piecesT toldW is) ++ bytes (toldW.getD x []) = bytes (piecesT toldW (is ++ [x]))) := Lib.hid (by rw [pieces_next, bytes_app])
      have HX : Hid ((is ++ [x]).length = i + 1 ∧ ∀ j ∈ is ++ [x], j < 10) := Lib.hid ⟨by rw [List.length_append, hi]; rfl, fun j hj => by
        rcases List.mem_append.1 hj with h | h
        · exact h10 j h
        · rw [List.mem_singleton.1 h]; exact hx⟩
      have d1 : decide ((i : Int) < (zs.length : Int)) = true := decide_eq_true (by omega)
      have d2 : decide ((i : Int) < 30) = true := decide_eq_true (by omega)
      have d3 : decide (i < zs.length) = true := decide_eq_true hil
      have d4 : decide (i < 30) = true := decide_eq_true (by omega)
      have x5 : (x : Int) < 10 := by omega
      clear hbw h10 hi hS hT sK sL hc hz hb
      generalize bytes (piecesT piecesW is) = GS at *
      generalize bytes (piecesT toldW is) = GT at *
      generalize bytes (piecesW.getD x []) = GK at *
      generalize bytes (toldW.getD x []) = GL at *
      go_wp2
      go_quiet (fail)
      go_wp2
      go_roundg g
      case measure => omega
      case rel => exact ⟨HBW.out.trans ((drewN_below wr _).mono HBW.out.size), is ++ [x], by rw [HS2.out], by rw [HT2.out], by rw [HX.out.1]; rfl, by rw [HX.out.1]; omega, HX.out.2⟩
    | zero =>
      have HE0 : Hid (entT (piecesT piecesW is) = (piecesT toldW is, true)) := Lib.hid (by unfold entT; rw [ent_all is h10])
      have HE1 : Hid (entT (piecesT piecesW is ++ [37]) = ([], false)) := Lib.hid (by unfold entT; rw [ent_bad is h10 _ bad_percent])
      have HE2 : Hid (entT (piecesT piecesW is ++ [38, 32]) = ([], false)) := Lib.hid (by unfold entT; rw [ent_bad is h10 _ bad_space])
      have HE3 : Hid (entT (piecesT piecesW is ++ [38, 35, 48, 59]) = ([], false)) := Lib.hid (by unfold entT; rw [ent_bad is h10 _ bad_nul])
      have HD := Lib.hid (ents_sym (piecesT piecesW is) (piecesT toldW is) (pieces_quote is h10) (ent_all is h10))
      have HLE : (entsText (piecesT piecesW is)).length = (piecesT piecesW is).length + 28 := by simp [entsText]
      have HSB := Lib.hid (ents_bytes (piecesT piecesW is))
      clear H10 h10 HP hi hbw
      generalize piecesT piecesW is = X at *
      generalize piecesT toldW is = Y at *
      generalize entsText X = Z at *
      have hto : (0 : Int) < (Z.length : Int) := by omega
      have hzle : Z.length ≤ 100000 := by omega
      have HX1 : Hid ((X ++ [37]).length ≤ 100000 ∧ (X ++ [38, 32]).length ≤ 100000 ∧ (X ++ [38, 35, 48, 59]).length ≤ 100000 ∧ X.length ≤ 100000) := Lib.hid (by simp only [List.length_append, List.length_cons, List.length_nil]; omega)
      have HW := Lib.hid (HW0.out.other S HBW.out)
      have d0 : (decide ((i : Int) < (zs.length : Int)) = false ∧ decide (i < zs.length) = false) ∨ (i = 30 ∧ decide ((30 : Int) < (zs.length : Int)) = true ∧ decide (30 < zs.length) = true) := by
        by_cases h : i < zs.length
        · have : i = 30 := by omega
          subst this
          exact Or.inr ⟨rfl, decide_eq_true (by omega), decide_eq_true h⟩
        · exact Or.inl ⟨decide_eq_false (by omega), decide_eq_false h⟩
      clear HBW HW0 HBB HZ hig HLE hS hT
      rcases d0 with ⟨d1, d2⟩ | ⟨rfl, d1, d2⟩
      all_goals
        (go_wp2_with fail
         refine (centAt S X Y (bytes Y) rfl true HE0.out HX1.out.2.2.2 HW.out).mono ?_
         rintro e w1 ⟨rfl, h⟩
         replace HW := Lib.hid h
         clear h
         go_wp2_with fail
         rw [show bytes X ++ (⟨#[37]⟩ : ByteArray) = bytes (X ++ [37]) from bytes_app _ _]
         refine (centAt S _ [] ⟨#[]⟩ rfl false HE1.out HX1.out.1 HW.out).mono ?_
         rintro e w1 ⟨rfl, h⟩
         replace HW := Lib.hid h
         clear h
         go_wp2_with fail
         rw [show bytes X ++ (⟨#[38, 32]⟩ : ByteArray) = bytes (X ++ [38, 32]) from bytes_app _ _]
         refine (centAt S _ [] ⟨#[]⟩ rfl false HE2.out HX1.out.2.1 HW.out).mono ?_
         rintro e w1 ⟨rfl, h⟩
         replace HW := Lib.hid h
         clear h
         go_wp2_with fail
         rw [show bytes X ++ (⟨#[38, 35, 48, 59]⟩ : ByteArray) = bytes (X ++ [38, 35, 48, 59]) from bytes_app _ _]
         refine (centAt S _ [] ⟨#[]⟩ rfl false HE3.out HX1.out.2.2.1 HW.out).mono ?_
         rintro e w1 ⟨rfl, h⟩
         replace HW := Lib.hid h
         clear h
         go_wp2_with fail
         rw [HSB.out]
         refine (cdocAt S _ 0 (entsDecl Y) ⟨#[97]⟩ rfl (Z.length : Int) 0 HD.out hzle 1 0 rfl rfl HW.out).mono ?_
         rintro e w5 ⟨a1, c1, a2, c2, rfl, hE1, _, h, _⟩
         obtain ⟨b0, o0, rfl, hb0, hc0⟩ := hE1.cell (show 0 < 1 by decide)
         have HBX := Lib.hid (box_decls w5 (.string ⟨#[97]⟩) (.slice (some ⟨b0, o0, none⟩) 1 c1) (.slice a2 0 c2) 27)
         have HCC : Hid (∀ W, Below w5.heap.size w5 W → W.cell? ⟨b0, o0, none⟩ = some (.string ⟨#[113]⟩) ∧ W.cell? ⟨b0, o0 + 1, none⟩ = some (.string (bytes Y)) ∧ W.cell? ⟨b0, o0 + 2, none⟩ = some (.bool false)) := Lib.hid (fun W hW => by
           obtain ⟨q0, q1, q2⟩ := hc0 0 (show 0 < 1 by decide)
           exact ⟨(hW.cell (p := ⟨b0, o0, none⟩) hb0).trans q0, (hW.cell (p := ⟨b0, o0 + 1, none⟩) hb0).trans q1, (hW.cell (p := ⟨b0, o0 + 2, none⟩) hb0).trans q2⟩)
         have hba := (Below.refl w5.heap.size w5).alloc (Nat.le_refl _) (.cells #[.string ⟨#[97]⟩, .slice (some ⟨b0, o0, none⟩) 1 c1, .slice a2 0 c2] 27)
         have HBB := Lib.hid hba
         have H2 := Lib.hid (h.other S hba)
         clear h hba hE1 hc0 HE0 HE1 HE2 HE3 HD HSB HX1 H
         go_wp2_with fail
         refine (told11_any S n _ H2.out.e H2.out.n_le).mono ?_
         rintro e w6 ⟨rfl, hb⟩
         obtain ⟨x0, x1, x2⟩ := HBX.out _ hb
         obtain ⟨t1, t2, t3⟩ := HCC.out _ (HBB.out.trans (hb.mono HBB.out.size))
         have HF := Lib.hid (H2.out.since.trans (hb.mono H2.out.since.size))
         clear HBX hb HCC HBB HW
         go_wp2
         go_ret
         exact ⟨rfl, HF.out⟩)
end Go.Proofs.YtmecigainilocaaGreatDoor
