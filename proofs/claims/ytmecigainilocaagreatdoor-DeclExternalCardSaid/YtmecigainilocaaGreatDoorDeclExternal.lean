/-
  THE LAW DeclExternal, out of what is asked of package decl (DeclSaid): a document type may name what stands elsewhere, with or without what it declares itself. All of the law's texts (84) are reckoned by the kernel.
-/
import Derived.Test.YtmecigainilocaaGreatDoorDeclTypes
namespace Go.Proofs.YtmecigainilocaaGreatDoor
open Go.RowKit

def extsW : List (List UInt8) := [[], [32, 83, 89, 83, 84, 69, 77, 32, 39, 117, 39], [32, 83, 89, 83, 84, 69, 77, 32, 34, 117, 39, 118, 34], [32, 80, 85, 66, 76, 73, 67, 32, 39, 112, 39, 32, 34, 117, 34], [32, 80, 85, 66, 76, 73, 67, 32, 39, 112, 39], [32, 83, 89, 83, 84, 69, 77], [32, 79, 84, 72, 69, 82, 32, 39, 117, 39]]
theorem extsW_at (x : Nat) (hx : x < 7) : ([Value.string ⟨#[]⟩, .string ⟨#[32, 83, 89, 83, 84, 69, 77, 32, 39, 117, 39]⟩, .string ⟨#[32, 83, 89, 83, 84, 69, 77, 32, 34, 117, 39, 118, 34]⟩, .string ⟨#[32, 80, 85, 66, 76, 73, 67, 32, 39, 112, 39, 32, 34, 117, 34]⟩, .string ⟨#[32, 80, 85, 66, 76, 73, 67, 32, 39, 112, 39]⟩, .string ⟨#[32, 83, 89, 83, 84, 69, 77]⟩, .string ⟨#[32, 79, 84, 72, 69, 82, 32, 39, 117, 39]⟩][x]'hx) = .string (bytes (extsW.getD x [])) := by
  rcases (show x = 0 ∨ x = 1 ∨ x = 2 ∨ x = 3 ∨ x = 4 ∨ x = 5 ∨ x = 6 by omega) with rfl | rfl | rfl | rfl | rfl | rfl | rfl <;> rfl
def subsW : List (List UInt8) := [[], [91, 93], [32, 91, 32, 93], [91, 60, 33, 69, 78, 84, 73, 84, 89, 32, 101, 32, 83, 89, 83, 84, 69, 77, 32, 39, 102, 39, 62, 93]]
theorem subsW_at (x : Nat) (hx : x < 4) : ([Value.string ⟨#[]⟩, .string ⟨#[91, 93]⟩, .string ⟨#[32, 91, 32, 93]⟩, .string ⟨#[91, 60, 33, 69, 78, 84, 73, 84, 89, 32, 101, 32, 83, 89, 83, 84, 69, 77, 32, 39, 102, 39, 62, 93]⟩][x]'hx) = .string (bytes (subsW.getD x [])) := by
  rcases (show x = 0 ∨ x = 1 ∨ x = 2 ∨ x = 3 by omega) with rfl | rfl | rfl | rfl <;> rfl
def endsW : List (List UInt8) := [[62], [32, 62], [10, 62]]
theorem endsW_at (x : Nat) (hx : x < 3) : ([Value.string ⟨#[62]⟩, .string ⟨#[32, 62]⟩, .string ⟨#[10, 62]⟩][x]'hx) = .string (bytes (endsW.getD x [])) := by
  rcases (show x = 0 ∨ x = 1 ∨ x = 2 by omega) with rfl | rfl | rfl <;> rfl
def extText (x y z : List UInt8) : List UInt8 := [60, 33, 68, 79, 67, 84, 89, 80, 69, 32, 112, 58, 113] ++ x ++ y ++ z
def extOne (a b c : Nat) : List UInt8 := extText (extsW.getD a []) (subsW.getD b []) (endsW.getD c [])
def extDecl (b : Bool) : DeclD := ⟨[112, 58, 113], if b = true then [⟨[101], [], true⟩] else [], []⟩
def extOk (a b c : Nat) : Bool := decide (docT (extOne a b c ++ [60, 97, 47, 62]) 0 = if decide (a < 4) = true then (extDecl (decide (b = 3)), (((extOne a b c).length : Nat) : Int), 0) else (decl0, 0, 2))
theorem word_small' (ws : List (List UInt8)) (h : (ws.all fun k => decide (k.length ≤ 40)) = true) (x : Nat) : (ws.getD x []).length ≤ 40 := by
  rw [List.getD_eq_getElem?_getD]
  cases hx : ws[x]? with
  | none => exact Nat.zero_le _
  | some k =>
    have := List.all_eq_true.1 h k (List.mem_iff_getElem?.2 ⟨x, hx⟩)
    exact of_decide_eq_true this
theorem ext_all : ((List.range 7).all fun a => (List.range 4).all fun b => (List.range 3).all fun c => extOk a b c) = true := by kernel_rfl
theorem ext_at (a b c : Nat) (ha : a < 7) (hb : b < 4) (hc : c < 3) : docT (extOne a b c ++ [60, 97, 47, 62]) 0 = if decide (a < 4) = true then (extDecl (decide (b = 3)), (((extOne a b c).length : Nat) : Int), 0) else (decl0, 0, 2) := by
  have h := List.all_eq_true.1 (List.all_eq_true.1 (List.all_eq_true.1 ext_all a (List.mem_range.2 ha)) b (List.mem_range.2 hb)) c (List.mem_range.2 hc)
  exact of_decide_eq_true h
theorem ext_bytes (x y z : List UInt8) : (⟨#[60, 33, 68, 79, 67, 84, 89, 80, 69, 32, 112, 58, 113]⟩ : ByteArray) ++ bytes x ++ bytes y ++ bytes z = bytes (extText x y z) := by
  show bytes [60, 33, 68, 79, 67, 84, 89, 80, 69, 32, 112, 58, 113] ++ bytes x ++ bytes y ++ bytes z = _
  simp only [bytes_app]
  rfl
theorem ext_bytes4 (t : List UInt8) : bytes t ++ ⟨#[60, 97, 47, 62]⟩ = bytes (t ++ [60, 97, 47, 62]) := by
  show bytes t ++ bytes [60, 97, 47, 62] = _
  exact bytes_app _ _
set_option maxHeartbeats 16000000 in
set_option maxRecDepth 100000 in
theorem declexternal_any {E : Nat → World → Prop} (S : DeclSaid E) (n : Nat) (ka kb kc : Int) (w : World) (hE : E n w) (hn : n ≤ w.heap.size) :
    Calls Tryz.prog 3 #[.int .i64 ka, .int .i64 kb, .int .i64 kc] w fun e w' => e = .returned (.bool true) ∧ Below w.heap.size w w' := by
  have H := Lib.hid (show CAt E n w w from ⟨hE, hn, Below.refl _ _⟩)
  obtain ⟨ua, xa, ha1, ha2, ha3, ha, ha4, ha5⟩ := wrap_mod2 ka 7 (by decide) (by decide)
  obtain ⟨ub, xb, hb1, hb2, hb3, hb, hb4, hb5⟩ := wrap_mod2 kb 4 (by decide) (by decide)
  obtain ⟨uc, xc, hc1, hc2, hc3, hc, hc4, hc5⟩ := wrap_mod2 kc 3 (by decide) (by decide)
  replace ha2 : IntKind.u64.wrap 7 = 7 := ha2
  replace ha3 : Int.tmod (ua : Int) 7 = (xa : Int) := ha3
  replace hb2 : IntKind.u64.wrap 4 = 4 := hb2
  replace hb3 : Int.tmod (ub : Int) 4 = (xb : Int) := hb3
  replace hc2 : IntKind.u64.wrap 3 = 3 := hc2
  replace hc3 : Int.tmod (uc : Int) 3 = (xc : Int) := hc3
  have wX := extsW_at xa ha
  have wY := subsW_at xb hb
  have wZ := endsW_at xc hc
  have HT := Lib.hid (ext_at xa xb xc ha hb hc)
  have sX := word_small' extsW (by decide) xa
  have sY := word_small' subsW (by decide) xb
  have sZ := word_small' endsW (by decide) xc
  unfold extOne at HT
  generalize extsW.getD xa [] = x at *
  generalize subsW.getD xb [] = y at *
  generalize endsW.getD xc [] = z at *
  have B0 := Lib.hid (ext_bytes x y z)
  have zX : (bytes x).size ≤ 40 := by rw [bytes_len11]; exact sX
  have zY : (bytes y).size ≤ 40 := by rw [bytes_len11]; exact sY
  have zZ : (bytes z).size ≤ 40 := by rw [bytes_len11]; exact sZ
  have HX : Hid ((extText x y z).length ≤ 500) := Lib.hid (by unfold extText; simp only [List.length_append, List.length_cons, List.length_nil]; omega)
  generalize bytes x = G0 at *
  generalize bytes y = G1 at *
  generalize bytes z = G2 at *
  obtain ⟨p1, hp1⟩ : ∃ p, decide (xa < 4) = p := ⟨_, rfl⟩
  obtain ⟨p3, hp3⟩ : ∃ p, decide (xb = 3) = p := ⟨_, rfl⟩
  rw [hp1, hp3] at HT
  have g1 : decide ((xa : Int) < 4) = p1 := by rw [← hp1]; exact decide_eq_decide.2 (by omega)
  have g3 : ((xb : Int) == 3) = p3 := by rw [← hp3, Bool.eq_iff_iff, beq_iff_eq, decide_eq_true_eq]; omega
  clear hE hp1 hp3 sX sY sZ
  have xa5 : (xa : Int) < 7 := by omega
  have xb4 : (xb : Int) < 4 := by omega
  have xc4 : (xc : Int) < 3 := by omega
  obtain ⟨X, hX⟩ : ∃ X, extText x y z = X := ⟨_, rfl⟩
  rw [hX] at HT B0 HX
  clear hX
  have hxs : (bytes X).size = X.length := bytes_len11 X
  have hx5 := HX.out
  have hxl : (X ++ [60, 97, 47, 62]).length ≤ 100000 := by rw [List.length_append]; show X.length + 4 ≤ 100000; omega
  have HXL := Lib.hid hxl
  clear hxl HX
  go_enter Tryz.func3, Tryz.ntmps3
  go_wp2_with fail
  rw [B0.out, ext_bytes4]
  clear B0
  cases p1 with
  | false =>
    refine (cdocAt S _ 0 decl0 ⟨#[]⟩ rfl 0 2 (by rw [HT.out]; rfl) HXL.out 0 0 rfl rfl (((H.out.alloc S _).alloc S _).alloc S _)).mono ?_
    rintro e w1 ⟨a1, c1, a2, c2, rfl, _, _, h, _⟩
    have HBX := Lib.hid (box_decls w1 (.string ⟨#[]⟩) (.slice a1 0 c1) (.slice a2 0 c2) 27)
    have H2 := Lib.hid (h.alloc S (.cells #[.string ⟨#[]⟩, .slice a1 0 c1, .slice a2 0 c2] 27))
    clear h H HT HXL
    go_wp2_with fail
    refine (told11_any S n _ H2.out.e H2.out.n_le).mono ?_
    rintro e w2 ⟨rfl, hb⟩
    obtain ⟨x0, x1, x2⟩ := HBX.out _ hb
    have HF := Lib.hid (H2.out.since.trans (hb.mono H2.out.since.size))
    clear HBX hb
    go_wp2
    go_ret
    exact ⟨rfl, HF.out⟩
  | true =>
    cases p3 with
    | false =>
      refine (cdocAt S _ 0 (extDecl false) ⟨#[112, 58, 113]⟩ rfl (X.length : Int) 0 (by rw [HT.out]; rfl) HXL.out 0 0 rfl rfl (((H.out.alloc S _).alloc S _).alloc S _)).mono ?_
      rintro e w1 ⟨a1, c1, a2, c2, rfl, _, _, h, _⟩
      have HBX := Lib.hid (box_decls w1 (.string ⟨#[112, 58, 113]⟩) (.slice a1 0 c1) (.slice a2 0 c2) 27)
      have H2 := Lib.hid (h.alloc S (.cells #[.string ⟨#[112, 58, 113]⟩, .slice a1 0 c1, .slice a2 0 c2] 27))
      clear h H HT HXL
      go_wp2_with fail
      refine (told11_any S n _ H2.out.e H2.out.n_le).mono ?_
      rintro e w2 ⟨rfl, hb⟩
      obtain ⟨x0, x1, x2⟩ := HBX.out _ hb
      have HF := Lib.hid (H2.out.since.trans (hb.mono H2.out.since.size))
      clear HBX hb
      go_wp2
      go_ret
      exact ⟨rfl, HF.out⟩
    | true =>
      refine (cdocAt S _ 0 (extDecl true) ⟨#[112, 58, 113]⟩ rfl (X.length : Int) 0 (by rw [HT.out]; rfl) HXL.out 1 0 rfl rfl (((H.out.alloc S _).alloc S _).alloc S _)).mono ?_
      rintro e w1 ⟨a1, c1, a2, c2, rfl, hE1, _, h, _⟩
      obtain ⟨b1, o1, rfl, hb1, hc1⟩ := hE1.cell (show 0 < 1 by decide)
      have HBX := Lib.hid (box_decls w1 (.string ⟨#[112, 58, 113]⟩) (.slice (some ⟨b1, o1, none⟩) 1 c1) (.slice a2 0 c2) 27)
      have HCC : Hid (∀ W, Below w1.heap.size w1 W → W.cell? ⟨b1, o1 + 1, none⟩ = some (.string ⟨#[]⟩) ∧ W.cell? ⟨b1, o1 + 2, none⟩ = some (.bool true)) := Lib.hid (fun W hW => by
        obtain ⟨_, q1, q2⟩ := hc1 0 (show 0 < 1 by decide)
        exact ⟨(hW.cell (p := ⟨b1, o1 + 1, none⟩) hb1).trans q1, (hW.cell (p := ⟨b1, o1 + 2, none⟩) hb1).trans q2⟩)
      have hba := (Below.refl w1.heap.size w1).alloc (Nat.le_refl _) (.cells #[.string ⟨#[112, 58, 113]⟩, .slice (some ⟨b1, o1, none⟩) 1 c1, .slice a2 0 c2] 27)
      have HB := Lib.hid hba
      have H2 := Lib.hid (h.other S hba)
      clear h H HT HXL hba hE1 hc1
      go_wp2_with fail
      refine (told11_any S n _ H2.out.e H2.out.n_le).mono ?_
      rintro e w2 ⟨rfl, hb⟩
      obtain ⟨x0, x1, x2⟩ := HBX.out _ hb
      obtain ⟨t1, t2⟩ := HCC.out _ (HB.out.trans (hb.mono HB.out.size))
      have HF := Lib.hid (H2.out.since.trans (hb.mono H2.out.since.size))
      clear HBX hb HCC HB
      go_wp2
      go_ret
      exact ⟨rfl, HF.out⟩
end Go.Proofs.YtmecigainilocaaGreatDoor
