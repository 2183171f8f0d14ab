/-
  THE LAW DeclTypes, out of what is asked of package decl (DeclSaid): each type of attributes is one of two, each default stands or does not. All pairs of the law's types and defaults are reckoned by the kernel.
-/
import Derived.Test.YtmecigainilocaaGreatDoorDeclTold
import Derived.Test.YtmecigainilocaaGreatDoorBitNum
namespace Go.Proofs.YtmecigainilocaaGreatDoor
open Go.RowKit

instance : DecidableEq EntD := fun a b => decidable_of_iff (a.name = b.name ∧ a.value = b.value ∧ a.ext = b.ext) (by cases a; cases b; simp)
instance : DecidableEq AttD := fun a b => decidable_of_iff (a.elem = b.elem ∧ a.name = b.name ∧ a.type = b.type ∧ a.has = b.has ∧ a.value = b.value) (by cases a; cases b; simp)
instance : DecidableEq DeclD := fun a b => decidable_of_iff (a.name = b.name ∧ a.ents = b.ents ∧ a.atts = b.atts) (by cases a; cases b; simp)
theorem CAt.alloc {E : Nat → World → Prop} {n : Nat} {w0 w : World} (S : DeclSaid E) (h : CAt E n w0 w) (o : Obj) : CAt E n w0 (w.alloc o) := h.other S ((Below.refl _ _).alloc (Nat.le_refl _) o)
theorem bytes_app (a b : List UInt8) : bytes a ++ bytes b = bytes (a ++ b) := by
  apply ByteArray.ext
  rw [ByteArray.data_append]
  show a.toArray ++ b.toArray = (a ++ b).toArray
  simp
theorem bytes_len11 (x : List UInt8) : (bytes x).size = x.length := by show x.toArray.size = _; rw [List.size_toArray]
def kindsW : List (List UInt8) := [[67, 68, 65, 84, 65], [73, 68], [73, 68, 82, 69, 70], [73, 68, 82, 69, 70, 83], [69, 78, 84, 73, 84, 89], [69, 78, 84, 73, 84, 73, 69, 83], [78, 77, 84, 79, 75, 69, 78], [78, 77, 84, 79, 75, 69, 78, 83], [40, 97, 124, 98, 41], [40, 32, 97, 32, 124, 32, 49, 32, 41], [78, 79, 84, 65, 84, 73, 79, 78, 32, 40, 110, 41], [78, 79, 84, 65, 84, 73, 79, 78, 40, 110, 41], [40, 41], [99, 100, 97, 116, 97], [40, 97, 32, 98, 41]]
def defsW : List (List UInt8) := [[35, 82, 69, 81, 85, 73, 82, 69, 68], [35, 73, 77, 80, 76, 73, 69, 68], [39, 118, 39], [35, 70, 73, 88, 69, 68, 32, 34, 118, 34], [35, 70, 73, 88, 69, 68, 39, 118, 39], [118], [39, 60, 39], [35, 68, 69, 70, 65, 85, 76, 84]]
theorem kindsW_at (x : Nat) (hx : x < 15) : ([Value.string ⟨#[67, 68, 65, 84, 65]⟩, .string ⟨#[73, 68]⟩, .string ⟨#[73, 68, 82, 69, 70]⟩, .string ⟨#[73, 68, 82, 69, 70, 83]⟩, .string ⟨#[69, 78, 84, 73, 84, 89]⟩, .string ⟨#[69, 78, 84, 73, 84, 73, 69, 83]⟩, .string ⟨#[78, 77, 84, 79, 75, 69, 78]⟩, .string ⟨#[78, 77, 84, 79, 75, 69, 78, 83]⟩, .string ⟨#[40, 97, 124, 98, 41]⟩, .string ⟨#[40, 32, 97, 32, 124, 32, 49, 32, 41]⟩, .string ⟨#[78, 79, 84, 65, 84, 73, 79, 78, 32, 40, 110, 41]⟩, .string ⟨#[78, 79, 84, 65, 84, 73, 79, 78, 40, 110, 41]⟩, .string ⟨#[40, 41]⟩, .string ⟨#[99, 100, 97, 116, 97]⟩, .string ⟨#[40, 97, 32, 98, 41]⟩][x]'hx) = .string (bytes (kindsW.getD x [])) := by
  rcases (show x = 0 ∨ x = 1 ∨ x = 2 ∨ x = 3 ∨ x = 4 ∨ x = 5 ∨ x = 6 ∨ x = 7 ∨ x = 8 ∨ x = 9 ∨ x = 10 ∨ x = 11 ∨ x = 12 ∨ x = 13 ∨ x = 14 by omega) with rfl | rfl | rfl | rfl | rfl | rfl | rfl | rfl | rfl | rfl | rfl | rfl | rfl | rfl | rfl <;> rfl
theorem defsW_at (x : Nat) (hx : x < 8) : ([Value.string ⟨#[35, 82, 69, 81, 85, 73, 82, 69, 68]⟩, .string ⟨#[35, 73, 77, 80, 76, 73, 69, 68]⟩, .string ⟨#[39, 118, 39]⟩, .string ⟨#[35, 70, 73, 88, 69, 68, 32, 34, 118, 34]⟩, .string ⟨#[35, 70, 73, 88, 69, 68, 39, 118, 39]⟩, .string ⟨#[118]⟩, .string ⟨#[39, 60, 39]⟩, .string ⟨#[35, 68, 69, 70, 65, 85, 76, 84]⟩][x]'hx) = .string (bytes (defsW.getD x [])) := by
  rcases (show x = 0 ∨ x = 1 ∨ x = 2 ∨ x = 3 ∨ x = 4 ∨ x = 5 ∨ x = 6 ∨ x = 7 by omega) with rfl | rfl | rfl | rfl | rfl | rfl | rfl | rfl <;> rfl
def typText (K D : List UInt8) : List UInt8 := [60, 33, 68, 79, 67, 84, 89, 80, 69, 32, 97, 32, 91, 60, 33, 65, 84, 84, 76, 73, 83, 84, 32, 97, 32, 98, 32] ++ K ++ [32] ++ D ++ [62, 93, 62]
def typMay (x y : Nat) : Bool := decide (x < 11) && decide (y < 4)
def typDecl (x y : Nat) : DeclD := ⟨[97], [], [⟨[97], [98], if x = 0 then 1 else 2, decide (1 < y), if 1 < y then [118] else []⟩]⟩
def typOk (x y : Nat) : Bool := if typMay x y = true then decide ((docT (typText (kindsW.getD x []) (defsW.getD y [])) 0).1 = typDecl x y ∧ (docT (typText (kindsW.getD x []) (defsW.getD y [])) 0).2.2 = 0) else decide ((docT (typText (kindsW.getD x []) (defsW.getD y [])) 0).1 = decl0 ∧ (docT (typText (kindsW.getD x []) (defsW.getD y [])) 0).2.2 = 2)
theorem typ_all : ((List.range 15).all fun x => (List.range 8).all fun y => typOk x y) = true := by kernel_rfl
theorem typ_at (x y : Nat) (hx : x < 15) (hy : y < 8) : ∃ t, docT (typText (kindsW.getD x []) (defsW.getD y [])) 0 = if typMay x y = true then (typDecl x y, t, 0) else (decl0, t, 2) := by
  have h := List.all_eq_true.1 (List.all_eq_true.1 typ_all x (List.mem_range.2 hx)) y (List.mem_range.2 hy)
  unfold typOk at h
  refine ⟨(docT (typText (kindsW.getD x []) (defsW.getD y [])) 0).2.1, ?_⟩
  generalize docT (typText (kindsW.getD x []) (defsW.getD y [])) 0 = z at *
  obtain ⟨z1, z2, z3⟩ := z
  split at h
  · rename_i hm
    obtain ⟨h1, h2⟩ := of_decide_eq_true h
    rw [if_pos hm]
    show (z1, z2, z3) = (typDecl x y, z2, 0)
    rw [show z1 = typDecl x y from h1, show z3 = 0 from h2]
  · rename_i hm
    obtain ⟨h1, h2⟩ := of_decide_eq_true h
    rw [if_neg hm]
    show (z1, z2, z3) = (decl0, z2, 2)
    rw [show z1 = decl0 from h1, show z3 = 2 from h2]
theorem typ_small : ((kindsW.all fun k => decide (k.length ≤ 20)) && (defsW.all fun k => decide (k.length ≤ 20))) = true := by decide
theorem word_small (ws : List (List UInt8)) (h : (ws.all fun k => decide (k.length ≤ 20)) = true) (x : Nat) : (ws.getD x []).length ≤ 20 := by
  rw [List.getD_eq_getElem?_getD]
  cases hx : ws[x]? with
  | none => exact Nat.zero_le _
  | some k =>
    have := List.all_eq_true.1 h k (List.mem_iff_getElem?.2 ⟨x, hx⟩)
    exact of_decide_eq_true this
theorem typ_text (K D : List UInt8) : (⟨#[60, 33, 68, 79, 67, 84, 89, 80, 69, 32, 97, 32, 91, 60, 33, 65, 84, 84, 76, 73, 83, 84, 32, 97, 32, 98, 32]⟩ : ByteArray) ++ bytes K ++ ⟨#[32]⟩ ++ bytes D ++ ⟨#[62, 93, 62]⟩ = bytes (typText K D) := by
  show bytes [60, 33, 68, 79, 67, 84, 89, 80, 69, 32, 97, 32, 91, 60, 33, 65, 84, 84, 76, 73, 83, 84, 32, 97, 32, 98, 32] ++ bytes K ++ bytes [32] ++ bytes D ++ bytes [62, 93, 62] = _
  rw [bytes_app, bytes_app, bytes_app, bytes_app]
  rfl
set_option maxHeartbeats 8000000 in
set_option maxRecDepth 100000 in
theorem decltypes_any {E : Nat → World → Prop} (S : DeclSaid E) (n : Nat) (ka kb : Int) (w : World) (hE : E n w) (hn : n ≤ w.heap.size) :
    Calls Tryz.prog 8 #[.int .i64 ka, .int .i64 kb] w fun e w' => e = .returned (.bool true) ∧ Below w.heap.size w w' := by
  have H := Lib.hid (show CAt E n w w from ⟨hE, hn, Below.refl _ _⟩)
  obtain ⟨u, x, hu1, hu2, hu3, hx, hu4, hu5⟩ := wrap_mod2 ka 15 (by decide) (by decide)
  obtain ⟨v, y, hv1, hv2, hv3, hy, hv4, hv5⟩ := wrap_mod2 kb 8 (by decide) (by decide)
  replace hu2 : IntKind.u64.wrap 15 = 15 := hu2
  replace hu3 : Int.tmod (u : Int) 15 = (x : Int) := hu3
  replace hv2 : IntKind.u64.wrap 8 = 8 := hv2
  replace hv3 : Int.tmod (v : Int) 8 = (y : Int) := hv3
  have hKx := kindsW_at x hx
  have hDy := defsW_at y hy
  obtain ⟨t, ht⟩ := typ_at x y hx hy
  have sK := word_small kindsW (by decide) x
  have sD := word_small defsW (by decide) y
  obtain ⟨K, hK⟩ : ∃ K, kindsW.getD x [] = K := ⟨_, rfl⟩
  obtain ⟨D, hD⟩ : ∃ D, defsW.getD y [] = D := ⟨_, rfl⟩
  rw [hK] at hKx ht sK
  rw [hD] at hDy ht sD
  have HT := Lib.hid ht
  have hsl : (typText K D).length ≤ 100000 := by unfold typText; simp only [List.length_append, List.length_cons, List.length_nil]; omega
  have HTX := Lib.hid (typ_text K D)
  have zK : (bytes K).size ≤ 20 := by rw [bytes_len11]; exact sK
  have zD : (bytes D).size ≤ 20 := by rw [bytes_len11]; exact sD
  have HSL := Lib.hid hsl
  clear hE hK hD ht hsl sK sD
  obtain ⟨G1, hG1⟩ : ∃ G, bytes K = G := ⟨_, rfl⟩
  obtain ⟨G2, hG2⟩ : ∃ G, bytes D = G := ⟨_, rfl⟩
  rw [hG1] at hKx HTX zK
  rw [hG2] at hDy HTX zD
  clear hG1 hG2
  have x4 : ((x : Int) % 18446744073709551616).toNat = x := by omega
  have x5 : (x : Int) < 15 := by omega
  have y5 : (y : Int) < 8 := by omega
  obtain ⟨p1, hp1⟩ : ∃ p, decide (x < 11) = p := ⟨_, rfl⟩
  obtain ⟨p2, hp2⟩ : ∃ p, decide (y < 4) = p := ⟨_, rfl⟩
  obtain ⟨p3, hp3⟩ : ∃ p, decide (x = 0) = p := ⟨_, rfl⟩
  obtain ⟨p4, hp4⟩ : ∃ p, decide (1 < y) = p := ⟨_, rfl⟩
  have g1 : decide ((x : Int) < 11) = p1 := by rw [← hp1]; exact decide_eq_decide.2 (by omega)
  have g2 : decide ((y : Int) < 4) = p2 := by rw [← hp2]; exact decide_eq_decide.2 (by omega)
  have g3 : ((x : Int) == 0) = p3 := by rw [← hp3, Bool.eq_iff_iff, beq_iff_eq, decide_eq_true_eq]; omega
  have g4 : decide ((1 : Int) < (y : Int)) = p4 := by rw [← hp4]; exact decide_eq_decide.2 (by omega)
  have HM : Hid (typMay x y = (p1 && p2)) := Lib.hid (by unfold typMay; rw [hp1, hp2])
  have HP3 := Lib.hid hp3
  have HP4 := Lib.hid hp4
  clear hp1 hp2 hp3 hp4 x4
  go_enter Tryz.func8, Tryz.ntmps8
  go_wp2_with fail
  rw [HTX.out]
  by_cases hm : typMay x y = true
  · have HD : Hid (docT (typText K D) 0 = (typDecl x y, t, 0)) := Lib.hid (by rw [HT.out, if_pos hm])
    obtain ⟨rfl, rfl⟩ : p1 = true ∧ p2 = true := by rw [HM.out] at hm; simpa using hm
    obtain ⟨V, hV⟩ : ∃ V, bytes (if 1 < y then [118] else [] : List UInt8) = V := ⟨_, rfl⟩
    obtain ⟨T, hTT⟩ : ∃ T : Int, (((if x = 0 then 1 else 2 : Nat)) : Int) = T := ⟨_, rfl⟩
    have HV : Hid (V = if p4 = true then ⟨#[118]⟩ else ⟨#[]⟩) := Lib.hid (by
      rw [← hV, ← HP4.out]
      by_cases h : 1 < y
      · rw [if_pos h, if_pos (decide_eq_true h)]; rfl
      · rw [if_neg h, if_neg (by rw [decide_eq_false h]; decide)]; rfl)
    have HTT : Hid (T = if p3 = true then 1 else 2) := Lib.hid (by
      rw [← hTT, ← HP3.out]
      by_cases h : x = 0
      · rw [if_pos h, if_pos (decide_eq_true h)]; rfl
      · rw [if_neg h, if_neg (by rw [decide_eq_false h]; decide)]; rfl)
    refine (cdocAt S (typText K D) 0 (typDecl x y) ⟨#[97]⟩ rfl t 0 HD.out HSL.out 0 1 rfl rfl ((H.out.alloc S _).alloc S _)).mono ?_
    rintro e w1 ⟨a1, c1, a2, c2, rfl, _, hA1, h, _⟩
    obtain ⟨b1, o1, rfl, hb1, hc1⟩ := hA1.cell (show 0 < 1 by decide)
    have HX := Lib.hid (box_decls w1 (.string ⟨#[97]⟩) (.slice a1 0 c1) (.slice (some ⟨b1, o1, none⟩) 1 c2) 27)
    have HC : Hid (∀ W, Below w1.heap.size w1 W → W.cell? ⟨b1, o1 + 2, none⟩ = some (.int .i64 T) ∧ W.cell? ⟨b1, o1 + 3, none⟩ = some (.bool p4) ∧ W.cell? ⟨b1, o1 + 4, none⟩ = some (.string V)) := Lib.hid (fun W hW => by
      obtain ⟨_, _, q2, q3, q4⟩ := hc1 0 (show 0 < 1 by decide)
      rw [← hTT, ← hV, ← HP4.out]
      exact ⟨(hW.cell (p := ⟨b1, o1 + 2, none⟩) hb1).trans q2, (hW.cell (p := ⟨b1, o1 + 3, none⟩) hb1).trans q3, (hW.cell (p := ⟨b1, o1 + 4, none⟩) hb1).trans q4⟩)
    have hba := (Below.refl w1.heap.size w1).alloc (Nat.le_refl _) (.cells #[.string ⟨#[97]⟩, .slice a1 0 c1, .slice (some ⟨b1, o1, none⟩) 1 c2] 27)
    have HB := Lib.hid hba
    have H2 := Lib.hid (h.other S hba)
    clear h hba hA1 hc1 H HD HT HTX HM HP3 HP4 hV hTT hm HSL
    cases p3
    all_goals cases p4
    all_goals
      (replace HV := HV.out
       replace HTT := HTT.out
       simp only [if_true, Bool.false_eq_true, if_false] at HV HTT
       subst HV
       subst HTT
       go_wp2_with fail
       refine (told11_any S n _ H2.out.e H2.out.n_le).mono ?_
       rintro e w2 ⟨rfl, hb2⟩
       obtain ⟨x0, x1, x2⟩ := HX.out _ hb2
       obtain ⟨t2, t3, t4⟩ := HC.out _ (HB.out.trans (hb2.mono HB.out.size))
       have HF := Lib.hid (H2.out.since.trans (hb2.mono H2.out.since.size))
       clear HX HC HB H2 hb2
       go_wp2
       go_ret
       exact ⟨rfl, HF.out⟩)
  · have HD : Hid (docT (typText K D) 0 = (decl0, t, 2)) := Lib.hid (by rw [HT.out, if_neg hm])
    have hpp : p1 = false ∨ (p1 = true ∧ p2 = false) := by rw [HM.out] at hm; cases p1 <;> cases p2 <;> simp_all
    refine (cdocAt S (typText K D) 0 decl0 ⟨#[]⟩ rfl t 2 HD.out HSL.out 0 0 rfl rfl ((H.out.alloc S _).alloc S _)).mono ?_
    rintro e w1 ⟨a1, c1, a2, c2, rfl, _, _, h, _⟩
    have HX := Lib.hid (box_decls w1 (.string ⟨#[]⟩) (.slice a1 0 c1) (.slice a2 0 c2) 27)
    have hba := (Below.refl w1.heap.size w1).alloc (Nat.le_refl _) (.cells #[.string ⟨#[]⟩, .slice a1 0 c1, .slice a2 0 c2] 27)
    have H2 := Lib.hid (h.other S hba)
    clear h hba H HD HT HTX HM HP3 HP4 hm HSL
    rcases hpp with rfl | ⟨rfl, rfl⟩
    all_goals
      (go_wp2_with fail
       refine (told11_any S n _ H2.out.e H2.out.n_le).mono ?_
       rintro e w2 ⟨rfl, hb2⟩
       obtain ⟨x0, x1, x2⟩ := HX.out _ hb2
       have HF := Lib.hid (H2.out.since.trans (hb2.mono H2.out.since.size))
       clear HX H2 hb2
       go_wp2
       go_ret
       exact ⟨rfl, HF.out⟩)
end Go.Proofs.YtmecigainilocaaGreatDoor
