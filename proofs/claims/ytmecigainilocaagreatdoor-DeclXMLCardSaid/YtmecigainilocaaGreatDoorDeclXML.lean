/-
  THE LAW DeclXML, out of what is asked of package decl (DeclSaid): XML declarations of all parts, in their order, are read; others are not. All of the law's texts (320) are reckoned by the kernel.
-/
import Derived.Test.YtmecigainilocaaGreatDoorDeclTypes
namespace Go.Proofs.YtmecigainilocaaGreatDoor
open Go.RowKit

def gapsW : List (List UInt8) := [[32], [32, 32], [10], []]
theorem gapsW_at (x : Nat) (hx : x < 4) : ([Value.string ⟨#[32]⟩, .string ⟨#[32, 32]⟩, .string ⟨#[10]⟩, .string ⟨#[]⟩][x]'hx) = .string (bytes (gapsW.getD x [])) := by
  rcases (show x = 0 ∨ x = 1 ∨ x = 2 ∨ x = 3 by omega) with rfl | rfl | rfl | rfl <;> rfl
def versW : List (List UInt8) := [[39, 49, 46, 48, 39], [34, 49, 46, 49, 34], [39, 49, 46, 39], [39, 50, 46, 48, 39], [49, 46, 48]]
theorem versW_at (x : Nat) (hx : x < 5) : ([Value.string ⟨#[39, 49, 46, 48, 39]⟩, .string ⟨#[34, 49, 46, 49, 34]⟩, .string ⟨#[39, 49, 46, 39]⟩, .string ⟨#[39, 50, 46, 48, 39]⟩, .string ⟨#[49, 46, 48]⟩][x]'hx) = .string (bytes (versW.getD x [])) := by
  rcases (show x = 0 ∨ x = 1 ∨ x = 2 ∨ x = 3 ∨ x = 4 by omega) with rfl | rfl | rfl | rfl | rfl <;> rfl
def encsW : List (List UInt8) := [[], [39, 85, 84, 70, 45, 56, 39], [34, 117, 116, 102, 45, 56, 34], [39, 108, 97, 116, 105, 110, 49, 39]]
theorem encsW_at (x : Nat) (hx : x < 4) : ([Value.string ⟨#[]⟩, .string ⟨#[39, 85, 84, 70, 45, 56, 39]⟩, .string ⟨#[34, 117, 116, 102, 45, 56, 34]⟩, .string ⟨#[39, 108, 97, 116, 105, 110, 49, 39]⟩][x]'hx) = .string (bytes (encsW.getD x [])) := by
  rcases (show x = 0 ∨ x = 1 ∨ x = 2 ∨ x = 3 by omega) with rfl | rfl | rfl | rfl <;> rfl
def stasW : List (List UInt8) := [[], [39, 121, 101, 115, 39], [34, 110, 111, 34], [39, 89, 101, 115, 39]]
theorem stasW_at (x : Nat) (hx : x < 4) : ([Value.string ⟨#[]⟩, .string ⟨#[39, 121, 101, 115, 39]⟩, .string ⟨#[34, 110, 111, 34]⟩, .string ⟨#[39, 89, 101, 115, 39]⟩][x]'hx) = .string (bytes (stasW.getD x [])) := by
  rcases (show x = 0 ∨ x = 1 ∨ x = 2 ∨ x = 3 by omega) with rfl | rfl | rfl | rfl <;> rfl
def xmlText0 (g v : List UInt8) : List UInt8 := [60, 63, 120, 109, 108] ++ g ++ [118, 101, 114, 115, 105, 111, 110] ++ g ++ [61] ++ g ++ v
def xmlText1 (t g e : List UInt8) : List UInt8 := t ++ g ++ [101, 110, 99, 111, 100, 105, 110, 103, 61] ++ e
def xmlText2 (t g s : List UInt8) : List UInt8 := t ++ g ++ [115, 116, 97, 110, 100, 97, 108, 111, 110, 101, 61] ++ s
def xmlTextA (b : Bool) (g v e : List UInt8) : List UInt8 := match b with
  | true => xmlText0 g v
  | false => xmlText1 (xmlText0 g v) g e
def xmlText (b c : Bool) (g v e s : List UInt8) : List UInt8 := (match c with
  | true => xmlTextA b g v e
  | false => xmlText2 (xmlTextA b g v e) g s) ++ [63, 62]
def xmlOne (d a b c : Nat) : List UInt8 := xmlText (decide (b = 0)) (decide (c = 0)) (gapsW.getD d []) (versW.getD a []) (encsW.getD b []) (stasW.getD c [])
def xmlMay (a b c : Nat) : Bool := decide (a < 2) && (decide (b < 3) && decide (c < 3))
def xmlOk (d a b c : Nat) : Bool := decide (xmlT (xmlOne d a b c ++ [60, 97, 47, 62]) = if d = 3 then (0, 0) else if xmlMay a b c = true then ((((xmlOne d a b c).length : Nat) : Int), 0) else (0, 2))
theorem xml_all : ((List.range 4).all fun d => (List.range 5).all fun a => (List.range 4).all fun b => (List.range 4).all fun c => xmlOk d a b c) = true := by kernel_rfl
theorem xml_at (d a b c : Nat) (hd : d < 4) (ha : a < 5) (hb : b < 4) (hc : c < 4) : xmlT (xmlOne d a b c ++ [60, 97, 47, 62]) = if d = 3 then (0, 0) else if xmlMay a b c = true then ((((xmlOne d a b c).length : Nat) : Int), 0) else (0, 2) := by
  have h := List.all_eq_true.1 (List.all_eq_true.1 (List.all_eq_true.1 (List.all_eq_true.1 xml_all d (List.mem_range.2 hd)) a (List.mem_range.2 ha)) b (List.mem_range.2 hb)) c (List.mem_range.2 hc)
  exact of_decide_eq_true h
theorem xml_bytes0 (g v : List UInt8) : (⟨#[60, 63, 120, 109, 108]⟩ : ByteArray) ++ bytes g ++ ⟨#[118, 101, 114, 115, 105, 111, 110]⟩ ++ bytes g ++ ⟨#[61]⟩ ++ bytes g ++ bytes v = bytes (xmlText0 g v) := by
  show bytes [60, 63, 120, 109, 108] ++ bytes g ++ bytes [118, 101, 114, 115, 105, 111, 110] ++ bytes g ++ bytes [61] ++ bytes g ++ bytes v = _
  simp only [bytes_app]
  rfl
theorem xml_bytes1 (t g e : List UInt8) : bytes t ++ bytes g ++ ⟨#[101, 110, 99, 111, 100, 105, 110, 103, 61]⟩ ++ bytes e = bytes (xmlText1 t g e) := by
  show bytes t ++ bytes g ++ bytes [101, 110, 99, 111, 100, 105, 110, 103, 61] ++ bytes e = _
  simp only [bytes_app]
  rfl
theorem xml_bytes2 (t g s : List UInt8) : bytes t ++ bytes g ++ ⟨#[115, 116, 97, 110, 100, 97, 108, 111, 110, 101, 61]⟩ ++ bytes s = bytes (xmlText2 t g s) := by
  show bytes t ++ bytes g ++ bytes [115, 116, 97, 110, 100, 97, 108, 111, 110, 101, 61] ++ bytes s = _
  simp only [bytes_app]
  rfl
theorem xml_bytes3 (t : List UInt8) : bytes t ++ ⟨#[63, 62]⟩ = bytes (t ++ [63, 62]) := by
  show bytes t ++ bytes [63, 62] = _
  exact bytes_app _ _
theorem xml_bytes4 (t : List UInt8) : bytes t ++ ⟨#[60, 97, 47, 62]⟩ = bytes (t ++ [60, 97, 47, 62]) := by
  show bytes t ++ bytes [60, 97, 47, 62] = _
  exact bytes_app _ _
theorem empty_is (ws : List (List UInt8)) (x k : Nat) (h : ∀ i : Nat, i < ws.length → ((ws.getD i []).isEmpty = true ↔ i = k)) (hx : x < ws.length) : (bytes (ws.getD x [])).toList.isEmpty = decide (x = k) := by
  rw [Lib.toList_data]
  show (ws.getD x []).isEmpty = _
  rw [Bool.eq_iff_iff, h x hx, decide_eq_true_eq]
set_option maxHeartbeats 16000000 in
set_option maxRecDepth 100000 in
theorem declxml_any {E : Nat → World → Prop} (S : DeclSaid E) (n : Nat) (ka kb kc kd : Int) (w : World) (hE : E n w) (hn : n ≤ w.heap.size) :
    Calls Tryz.prog 4 #[.int .i64 ka, .int .i64 kb, .int .i64 kc, .int .i64 kd] w fun e w' => e = .returned (.bool true) ∧ Below w.heap.size w w' := by
  have H := Lib.hid (show CAt E n w w from ⟨hE, hn, Below.refl _ _⟩)
  obtain ⟨ua, xa, ha1, ha2, ha3, ha, ha4, ha5⟩ := wrap_mod2 ka 5 (by decide) (by decide)
  obtain ⟨ub, xb, hb1, hb2, hb3, hb, hb4, hb5⟩ := wrap_mod2 kb 4 (by decide) (by decide)
  obtain ⟨uc, xc, hc1, _, hc3, hc, hc4, hc5⟩ := wrap_mod2 kc 4 (by decide) (by decide)
  obtain ⟨ud, xd, hd1, _, hd3, hd, hd4, hd5⟩ := wrap_mod2 kd 4 (by decide) (by decide)
  replace ha2 : IntKind.u64.wrap 5 = 5 := ha2
  replace ha3 : Int.tmod (ua : Int) 5 = (xa : Int) := ha3
  replace hb2 : IntKind.u64.wrap 4 = 4 := hb2
  replace hb3 : Int.tmod (ub : Int) 4 = (xb : Int) := hb3
  replace hc3 : Int.tmod (uc : Int) 4 = (xc : Int) := hc3
  replace hd3 : Int.tmod (ud : Int) 4 = (xd : Int) := hd3
  have wG := gapsW_at xd hd
  have wV := versW_at xa ha
  have wE := encsW_at xb hb
  have wS := stasW_at xc hc
  have HT := Lib.hid (xml_at xd xa xb xc hd ha hb hc)
  have sG := word_small gapsW (by decide) xd
  have sV := word_small versW (by decide) xa
  have sE := word_small encsW (by decide) xb
  have sS := word_small stasW (by decide) xc
  have eG := empty_is gapsW xd 3 (by decide) hd
  have eE := empty_is encsW xb 0 (by decide) hb
  have eS := empty_is stasW xc 0 (by decide) hc
  unfold xmlOne at HT
  generalize gapsW.getD xd [] = g at *
  generalize versW.getD xa [] = v at *
  generalize encsW.getD xb [] = en at *
  generalize stasW.getD xc [] = st at *
  have B0 := Lib.hid (xml_bytes0 g v)
  have B1 := Lib.hid (fun t => xml_bytes1 t g en)
  have B2 := Lib.hid (fun t => xml_bytes2 t g st)
  have zG : (bytes g).size ≤ 20 := by rw [bytes_len11]; exact sG
  have zV : (bytes v).size ≤ 20 := by rw [bytes_len11]; exact sV
  have zE : (bytes en).size ≤ 20 := by rw [bytes_len11]; exact sE
  have zS : (bytes st).size ≤ 20 := by rw [bytes_len11]; exact sS
  have HL0 : Hid ((xmlText0 g v).length ≤ 200) := Lib.hid (by unfold xmlText0; simp only [List.length_append, List.length_cons, List.length_nil]; omega)
  have HL1 : Hid (∀ t : List UInt8, (xmlText1 t g en).length ≤ t.length + 100) := Lib.hid (fun t => by unfold xmlText1; simp only [List.length_append, List.length_cons, List.length_nil]; omega)
  have HL2 : Hid (∀ t : List UInt8, (xmlText2 t g st).length ≤ t.length + 100) := Lib.hid (fun t => by unfold xmlText2; simp only [List.length_append, List.length_cons, List.length_nil]; omega)
  generalize bytes g = G0 at *
  generalize bytes v = G1 at *
  generalize bytes en = G2 at *
  generalize bytes st = G3 at *
  obtain ⟨q1, hq1⟩ : ∃ q, decide (xb = 0) = q := ⟨_, rfl⟩
  obtain ⟨q2, hq2⟩ : ∃ q, decide (xc = 0) = q := ⟨_, rfl⟩
  obtain ⟨q3, hq3⟩ : ∃ q, decide (xd = 3) = q := ⟨_, rfl⟩
  rw [hq3] at eG
  rw [hq1] at eE HT
  rw [hq2] at eS HT
  have HT2 : Hid (q3 = true → xmlT (xmlText q1 q2 g v en st ++ [60, 97, 47, 62]) = (0, 0)) := Lib.hid (fun h => by rw [HT.out, if_pos (by rw [h] at hq3; exact of_decide_eq_true hq3)])
  have HT3 : Hid (q3 = false → xmlT (xmlText q1 q2 g v en st ++ [60, 97, 47, 62]) = if xmlMay xa xb xc = true then ((((xmlText q1 q2 g v en st).length : Nat) : Int), 0) else (0, 2)) := Lib.hid (fun h => by rw [HT.out, if_neg (by rw [h] at hq3; exact of_decide_eq_false hq3)])
  obtain ⟨p1, hp1⟩ : ∃ p, decide (xa < 2) = p := ⟨_, rfl⟩
  obtain ⟨p2, hp2⟩ : ∃ p, decide (xb < 3) = p := ⟨_, rfl⟩
  obtain ⟨p3, hp3⟩ : ∃ p, decide (xc < 3) = p := ⟨_, rfl⟩
  have g1 : decide ((xa : Int) < 2) = p1 := by rw [← hp1]; exact decide_eq_decide.2 (by omega)
  have g2 : decide ((xb : Int) < 3) = p2 := by rw [← hp2]; exact decide_eq_decide.2 (by omega)
  have g3 : decide ((xc : Int) < 3) = p3 := by rw [← hp3]; exact decide_eq_decide.2 (by omega)
  have HM : Hid (xmlMay xa xb xc = (p1 && (p2 && p3))) := Lib.hid (by unfold xmlMay; rw [hp1, hp2, hp3])
  clear hE HT hp1 hp2 hp3 hq1 hq2 hq3 sG sV sE sS
  have xa5 : (xa : Int) < 5 := by omega
  have xb4 : (xb : Int) < 4 := by omega
  have xc4 : (xc : Int) < 4 := by omega
  have xd4 : (xd : Int) < 4 := by omega
  have HX : Hid ((xmlText q1 q2 g v en st).length ≤ 500) := Lib.hid (by
    have h0 := HL0.out
    have h1 := HL1.out (xmlText0 g v)
    cases q1 <;> cases q2 <;> unfold xmlText xmlTextA <;> simp only [List.length_append, List.length_cons, List.length_nil]
    · have h2 := HL2.out (xmlText1 (xmlText0 g v) g en); omega
    · omega
    · have h2 := HL2.out (xmlText0 g v); omega
    · omega)
  have HC : Hid ((if q2 = true then (if q1 = true then bytes (xmlText0 g v) else bytes (xmlText1 (xmlText0 g v) g en)) else bytes (xmlText2 (if q1 = true then xmlText0 g v else xmlText1 (xmlText0 g v) g en) g st)) ++ ⟨#[63, 62]⟩ = bytes (xmlText q1 q2 g v en st)) := Lib.hid (by
    cases q1 <;> cases q2 <;> exact xml_bytes3 _)
  obtain ⟨X, hX⟩ : ∃ X, xmlText q1 q2 g v en st = X := ⟨_, rfl⟩
  rw [hX] at HT2 HT3 HC HX
  clear hX HL0 HL1 HL2
  have hxs : (bytes X).size = X.length := bytes_len11 X
  have hx5 := HX.out
  have hxl : (X ++ [60, 97, 47, 62]).length ≤ 100000 := by rw [List.length_append]; show X.length + 4 ≤ 100000; omega
  have HXL := Lib.hid hxl
  clear hxl HX
  cases q1
  all_goals cases q2
  all_goals
    (have HC2 := HC.out
     simp only [if_true, Bool.false_eq_true, if_false] at HC2
     have HC3 := Lib.hid HC2
     clear HC2 HC
     go_enter Tryz.func4, Tryz.ntmps4
     go_wp2_with fail
     try rw [B0.out]
     try rw [B1.out]
     try rw [B2.out]
     rw [HC3.out, xml_bytes4]
     clear HC3 B0 B1 B2
     cases q3
     · by_cases hm : xmlMay xa xb xc = true
       · obtain ⟨rfl, rfl, rfl⟩ : p1 = true ∧ p2 = true ∧ p3 = true := by rw [HM.out] at hm; simpa using hm
         refine (cxmlAt S _ (X.length : Int) 0 (by rw [HT3.out rfl, if_pos hm]) HXL.out ((((H.out.alloc S _).alloc S _).alloc S _).alloc S _)).mono ?_
         rintro e w1 ⟨rfl, h⟩
         have H1 := Lib.hid h
         clear h H HT2 HT3 hm HM HXL
         go_wp2_with fail
         refine (told11_any S n _ H1.out.e H1.out.n_le).mono ?_
         rintro e w2 ⟨rfl, hb⟩
         have HF := Lib.hid (H1.out.since.trans (hb.mono H1.out.since.size))
         clear hb
         go_wp2
         go_ret
         exact ⟨rfl, HF.out⟩
       · have hpp : p1 = false ∨ (p1 = true ∧ p2 = false) ∨ (p1 = true ∧ p2 = true ∧ p3 = false) := by rw [HM.out] at hm; cases p1 <;> cases p2 <;> cases p3 <;> simp_all
         refine (cxmlAt S _ 0 2 (by rw [HT3.out rfl, if_neg hm]) HXL.out ((((H.out.alloc S _).alloc S _).alloc S _).alloc S _)).mono ?_
         rintro e w1 ⟨rfl, h⟩
         have H1 := Lib.hid h
         clear h H HT2 HT3 hm HM HXL
         rcases hpp with rfl | ⟨rfl, rfl⟩ | ⟨rfl, rfl, rfl⟩
         all_goals
           (go_wp2_with fail
            refine (told11_any S n _ H1.out.e H1.out.n_le).mono ?_
            rintro e w2 ⟨rfl, hb⟩
            have HF := Lib.hid (H1.out.since.trans (hb.mono H1.out.since.size))
            clear hb
            go_wp2
            go_ret
            exact ⟨rfl, HF.out⟩)
     · refine (cxmlAt S _ 0 0 (HT2.out rfl) HXL.out ((((H.out.alloc S _).alloc S _).alloc S _).alloc S _)).mono ?_
       rintro e w1 ⟨rfl, h⟩
       have H1 := Lib.hid h
       clear h H HT2 HT3 HM HXL
       go_wp2_with fail
       refine (told11_any S n _ H1.out.e H1.out.n_le).mono ?_
       rintro e w2 ⟨rfl, hb⟩
       have HF := Lib.hid (H1.out.since.trans (hb.mono H1.out.since.size))
       clear hb
       go_wp2
       go_ret
       exact ⟨rfl, HF.out⟩)
end Go.Proofs.YtmecigainilocaaGreatDoor
