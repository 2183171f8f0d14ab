/-
  LAYER 10: brackenlaw10.TokenAttrs, out of TokSaid.
-/
import Derived.Test.YtcnomlhlellmiaaDoorTokAttrLaws
import Derived.Test.YtcnomlhlellmiaaDoorTokAside
import Derived.Deep.QuietTactic
import Derived.BigQuiet
import Derived.IntWalk
namespace Go.Proofs.YtcnomlhlellmiaaDoor
open Go.RowKit

theorem bytes_app (a b : List UInt8) : bytes a ++ bytes b = bytes (a ++ b) := by
  apply ByteArray.ext
  rw [ByteArray.data_append]
  show a.toArray ++ b.toArray = (a ++ b).toArray
  simp
theorem bytes_sizeA (x : List UInt8) : (bytes x).size = x.length := by show x.toArray.size = _; rw [List.size_toArray]
theorem wrap_divs (a : Int) : ∃ u x a3 y a9 z a18 e f : Nat, IntKind.u64.wrap a = (u : Int) ∧ (Int.tmod (u : Int) 3 = (x : Int) ∧ x < 3 ∧ IntKind.u64.wrap (x : Int) = (x : Int) ∧ IntKind.i64.wrap (x : Int) = (x : Int)) ∧
    (IntKind.u64.wrap ((u : Int) / 3) = (a3 : Int) ∧ Int.tmod (a3 : Int) 3 = (y : Int) ∧ y < 3 ∧ IntKind.u64.wrap (y : Int) = (y : Int)) ∧
    (IntKind.u64.wrap ((u : Int) / 9) = (a9 : Int) ∧ Int.tmod (a9 : Int) 2 = (z : Int) ∧ z < 2 ∧ IntKind.u64.wrap (z : Int) = (z : Int)) ∧
    (IntKind.u64.wrap ((u : Int) / 18) = (a18 : Int) ∧ Int.tmod (a18 : Int) 4 = (e : Int) ∧ e < 4 ∧ IntKind.u64.wrap (e : Int) = (e : Int)) ∧
    (Int.tmod (a18 : Int) 2 = (f : Int) ∧ f = e % 2) := by
  obtain ⟨u, x, h1, h2, h3, h4, h5⟩ := wrap_mod a 3 (by decide) (by decide)
  obtain ⟨a3, y, b1, b2, b3, b4, _⟩ := wrap_mod ((u : Int) / 3) 3 (by decide) (by decide)
  obtain ⟨a9, z, c1, c2, c3, c4, _⟩ := wrap_mod ((u : Int) / 9) 2 (by decide) (by decide)
  obtain ⟨a18, e, d1, d2, d3, d4, _⟩ := wrap_mod ((u : Int) / 18) 4 (by decide) (by decide)
  replace d2 : Int.tmod (a18 : Int) 4 = (e : Int) := d2
  have he : a18 % 4 = e := by
    rw [Int.tmod_eq_emod_of_nonneg (by omega)] at d2
    omega
  refine ⟨u, x, a3, y, a9, z, a18, e, a18 % 2, h1, ⟨h2, h3, h4, h5⟩, ⟨b1, b2, b3, b4⟩, ⟨c1, c2, c3, c4⟩, ⟨d1, d2, d3, d4⟩, ?_, by omega⟩
  rw [Int.tmod_eq_emod_of_nonneg (by omega)]
  omega
theorem spc_nil : Spc [] := fun b hb => by cases hb
theorem nextT_of (L : List UInt8) (hL : L ≠ []) (t : Tok) (n : Nat) (h : nextL L = some (t, n)) : nextT (bytes L) 0 = (t, (n : Int), 0) := by
  have h0 : 0 < L.length := List.length_pos_iff.2 hL
  unfold nextT
  rw [if_neg (by rw [bytes_sizeA]; omega), if_neg (by rw [bytes_sizeA]; omega)]
  show (match nextL L with | none => (tok0, (0 : Int), (2 : Int)) | some (t, m) => (t, (0 : Int) + (m : Int), 0)) = _
  rw [h]
  show (_, (0 : Int) + (n : Int), (0 : Int)) = _
  rw [Int.zero_add]
theorem gap_of (x : Nat) (hx : x < 3) : ∃ g : List UInt8, Spc g ∧ g ≠ [] ∧ g.length ≤ 2 ∧ ([Value.string ⟨#[32]⟩, .string ⟨#[10, 32]⟩, .string ⟨#[32, 32]⟩][x]'hx) = .string (bytes g) := by
  rcases (show x = 0 ∨ x = 1 ∨ x = 2 by omega) with rfl | rfl | rfl
  · exact ⟨[32], by intro b hb; simp at hb; simp [hb], by simp, by decide, rfl⟩
  · exact ⟨[10, 32], by intro b hb; simp at hb; rcases hb with rfl | rfl <;> simp, by simp, by decide, rfl⟩
  · exact ⟨[32, 32], by intro b hb; simp at hb; simp [hb], by simp, by decide, rfl⟩
theorem eq_of' (x : Nat) (hx : x < 3) : ∃ p r : List UInt8, Spc p ∧ Spc r ∧ p.length + r.length ≤ 2 ∧ ([Value.string ⟨#[61]⟩, .string ⟨#[32, 61, 32]⟩, .string ⟨#[61, 9]⟩][x]'hx) = .string (bytes (p ++ 61 :: r)) := by
  rcases (show x = 0 ∨ x = 1 ∨ x = 2 by omega) with rfl | rfl | rfl
  · exact ⟨[], [], spc_nil, spc_nil, by decide, rfl⟩
  · exact ⟨[32], [32], by intro b hb; simp at hb; simp [hb], by intro b hb; simp at hb; simp [hb], by decide, rfl⟩
  · exact ⟨[], [9], spc_nil, by intro b hb; simp at hb; simp [hb], by decide, rfl⟩
theorem sign_of (x : Nat) (hx : x < 2) : ∃ q : UInt8, (q = 39 ∨ q = 34) ∧ ([Value.string ⟨#[39]⟩, .string ⟨#[34]⟩][x]'hx) = .string (bytes [q]) := by
  rcases (show x = 0 ∨ x = 1 by omega) with rfl | rfl
  · exact ⟨39, Or.inl rfl, rfl⟩
  · exact ⟨34, Or.inr rfl, rfl⟩
theorem end_of (g : List UInt8) (hg : Spc g) (hl : g.length ≤ 2) (G : ByteArray) (hG : G = bytes g) (x : Nat) (hx : x < 4) : ∃ (eg : List UInt8) (em : Bool), Spc eg ∧ (endL2 eg em).length ≤ 4 ∧ (x % 2 = 0 ∧ em = false ∨ x % 2 = 1 ∧ em = true) ∧
    ([Value.string ⟨#[62]⟩, .string ⟨#[47, 62]⟩, .string (G ++ ⟨#[62]⟩), .string (G ++ ⟨#[47, 62]⟩)][x]'hx) = .string (bytes (endL2 eg em)) := by
  subst hG
  rcases (show x = 0 ∨ x = 1 ∨ x = 2 ∨ x = 3 by omega) with rfl | rfl | rfl | rfl
  · exact ⟨[], false, spc_nil, by decide, Or.inl ⟨rfl, rfl⟩, rfl⟩
  · exact ⟨[], true, spc_nil, by decide, Or.inr ⟨rfl, rfl⟩, rfl⟩
  · refine ⟨g, false, hg, by simp [endL2]; omega, Or.inl ⟨rfl, rfl⟩, ?_⟩
    show Value.string (bytes g ++ bytes [62]) = _
    rw [bytes_app]
    rfl
  · refine ⟨g, true, hg, by simp [endL2]; omega, Or.inr ⟨rfl, rfl⟩, ?_⟩
    show Value.string (bytes g ++ bytes [47, 62]) = _
    rw [bytes_app]
    rfl
/-- the text ahead of the i-th attribute -/
def headT (g p r v : List UInt8) (q : UInt8) (i : Nat) : ByteArray := bytes (60 :: 112 :: 58 :: 97 :: piecesP g p r v q 0 i)
section
variable {g p r v : List UInt8} {q : UInt8}
theorem head_size (i : Nat) (h1 : g.length ≤ 2) (h2 : p.length + r.length ≤ 2) (h3 : v.length ≤ 20) : (headT g p r v q i).size ≤ 4 + i * 29 := by
  unfold headT
  rw [bytes_sizeA]
  have : ∀ i, (piecesP g p r v q 0 i).length ≤ i * 29 := by
    intro i
    induction i with
    | zero => exact Nat.zero_le _
    | succ i ih =>
      rw [pieces_next, List.length_append]
      have : (attrPc g p r v q i).length ≤ 29 := by simp [attrPc]; omega
      omega
  have := this i
  simp only [List.length_cons]
  omega
theorem head_next (i : Nat) (hi : i < 8) (G Q EQ V : ByteArray) (hG : G = bytes g) (hQ : Q = bytes [q]) (hE : EQ = bytes (p ++ 61 :: r)) (hV : V = bytes v) :
    headT g p r v q i ++ G ++ ⟨#[120]⟩ ++ (⟨#[97, 98, 99, 100, 101, 102, 103, 104]⟩ : ByteArray).extract i (i + 1) ++ EQ ++ Q ++ V ++ Q = headT g p r v q (i + 1) := by
  subst hG; subst hQ; subst hE; subst hV
  rw [letter_at i hi]
  show _ ++ bytes [120] ++ _ ++ _ ++ _ ++ _ ++ _ = _
  unfold headT
  rw [bytes_app, bytes_app, bytes_app, bytes_app, bytes_app, bytes_app, bytes_app, pieces_next]
  congr 1
  simp [attrPc]
theorem next_start (h : Made g p r v q) (eg : List UInt8) (em : Bool) (he : Spc eg) (m : Nat) (hm : m ≤ 8) (EN : ByteArray) (hEN : EN = bytes (endL2 eg em)) :
    nextT (headT g p r v q m ++ EN ++ ⟨#[114, 101, 115, 116]⟩) 0 = (⟨2, ⟨#[112, 58, 97]⟩, ⟨#[]⟩, (List.range' 0 m).map (attrV v), em⟩, ((headT g p r v q m).size : Int) + (EN.size : Int), 0) := by
  subst hEN
  have e : headT g p r v q m ++ bytes (endL2 eg em) ++ ⟨#[114, 101, 115, 116]⟩ = bytes (60 :: 112 :: 58 :: 97 :: (piecesP g p r v q 0 m ++ (endL2 eg em ++ [114, 101, 115, 116]))) := by
    show _ ++ _ ++ bytes [114, 101, 115, 116] = _
    unfold headT
    rw [bytes_app, bytes_app]
    congr 1
    simp
  have hn := start_isA h eg em he [114, 101, 115, 116] m hm
  rw [e, nextT_of _ (by simp) _ _ hn]
  unfold headT
  rw [bytes_sizeA, bytes_sizeA]
  simp only [List.length_cons, List.length_append]
  refine Prod.ext rfl (Prod.ext ?_ rfl)
  show ((4 + ((piecesP g p r v q 0 m).length + (endL2 eg em).length) : Nat) : Int) = (((piecesP g p r v q 0 m).length + 1 + 1 + 1 + 1 : Nat) : Int) + ((endL2 eg em).length : Int)
  omega
theorem attr_at (m i : Nat) (hi : i < m) (hm : m ≤ 8) (V : ByteArray) (hV : V = bytes v) : att ((List.range' 0 m).map (attrV v)) i = ((⟨#[120]⟩ : ByteArray) ++ (⟨#[97, 98, 99, 100, 101, 102, 103, 104]⟩ : ByteArray).extract i (i + 1), V) := by
  subst hV
  unfold att
  rw [List.getD_eq_getElem?_getD, List.getElem?_map, List.getElem?_range' hi, letter_at i (by omega)]
  show attrV v (0 + 1 * i) = (bytes [120] ++ _, _)
  rw [bytes_app]
  have : 0 + 1 * i = i := by omega
  rw [this]
  rfl
end

set_option maxHeartbeats 20000000 in
set_option maxRecDepth 100000 in
theorem tokattrs_any {E : Nat → World → Prop} (S : TokSaid E) (n : Nat) (k0 how : Int) (v : ByteArray) (w : World) (hE : E n w) (hn : n ≤ w.heap.size) :
    Calls Tryd.prog 6 #[.int .i64 k0, .int .i64 how, .string v] w fun e w' => e = .returned (.bool true) ∧ Below w.heap.size w w' := by
  have HE := Lib.hid hE
  clear hE
  by_cases h20 : 20 < v.size
  · have g1 : decide (20 < v.size) = true := decide_eq_true h20
    have g2 : decide ((20 : Int) < (v.size : Int)) = true := decide_eq_true (by omega)
    go_enter Tryd.func6, Tryd.ntmps6
    go_wp2_with fail
    refine (told10_any S n w HE.out hn).mono ?_
    rintro e wz ⟨rfl, hb'⟩
    go_wp2
    go_ret
    exact ⟨rfl, hb'⟩
  have g1 : decide (20 < v.size) = false := decide_eq_false h20
  have g2 : decide ((20 : Int) < (v.size : Int)) = false := decide_eq_false (by omega)
  have hv20 : v.size ≤ 20 := by omega
  have hl : v.data.toList.length = v.size := by rw [Array.length_toList]; rfl
  have HL := Lib.hid hl
  clear hl
  go_enter Tryd.func6, Tryd.ntmps6
  go_wp2
  go_loop [7] (fun iv => ∃ (i : Nat), i ≤ v.size ∧ iv = .int .i64 i ∧ Hid (∀ j, j < i → ∀ b, v.data.toList[j]? = some b → b ≠ 39 ∧ b ≠ 34 ∧ b ≠ 60)) (fun iv => v.size - (intOf iv).toNat)
  case atStart => exact ⟨0, Nat.zero_le _, rfl, Lib.hid (fun j hj => by omega)⟩
  case round =>
    obtain ⟨i, hil, rfl, HP⟩ := hrel
    by_cases hlt : i < v.size
    · have hbyte : v.data.toList[i]? = some (v[i]'hlt) := by rw [List.getElem?_eq_getElem (by rw [HL.out]; exact hlt)]; rfl
      by_cases h1 : (v[i]'hlt).toNat = 39
      · have g5 : (((v[i]'hlt).toNat : Int) == 39) = true := beq_iff_eq.2 (by omega)
        go_wp2_with fail
        refine (told10_any S n w HE.out hn).mono ?_
        rintro e wz ⟨rfl, hb'⟩
        go_wp2
        go_ret
        exact ⟨rfl, hb'⟩
      have g5 : (((v[i]'hlt).toNat : Int) == 39) = false := beq_eq_false_iff_ne.2 (by omega)
      by_cases h2 : (v[i]'hlt).toNat = 34
      · have g6 : (((v[i]'hlt).toNat : Int) == 34) = true := beq_iff_eq.2 (by omega)
        go_wp2_with fail
        refine (told10_any S n w HE.out hn).mono ?_
        rintro e wz ⟨rfl, hb'⟩
        go_wp2
        go_ret
        exact ⟨rfl, hb'⟩
      have g6 : (((v[i]'hlt).toNat : Int) == 34) = false := beq_eq_false_iff_ne.2 (by omega)
      by_cases h3 : (v[i]'hlt).toNat = 60
      · have g7 : (((v[i]'hlt).toNat : Int) == 60) = true := beq_iff_eq.2 (by omega)
        go_wp2_with fail
        refine (told10_any S n w HE.out hn).mono ?_
        rintro e wz ⟨rfl, hb'⟩
        go_wp2
        go_ret
        exact ⟨rfl, hb'⟩
      have g7 : (((v[i]'hlt).toNat : Int) == 60) = false := beq_eq_false_iff_ne.2 (by omega)
      have HP' : Hid (∀ j, j < i + 1 → ∀ b, v.data.toList[j]? = some b → b ≠ 39 ∧ b ≠ 34 ∧ b ≠ 60) := Lib.hid (fun j hj b hb => by
        by_cases e : j = i
        · subst e
          rw [hbyte] at hb
          injection hb with hb
          subst hb
          exact ⟨fun e => h1 (by rw [e]; rfl), fun e => h2 (by rw [e]; rfl), fun e => h3 (by rw [e]; rfl)⟩
        · exact HP.out j (by omega) b hb)
      clear hbyte
      go_wp2
      go_round
      case rel => exact ⟨i + 1, by omega, by go_num, HP'⟩
      case measure => simp [intOf]; omega
    · obtain rfl : i = v.size := by omega
      have g0 : decide (v.size < v.size) = false := decide_eq_false (by omega)
      obtain ⟨u0, K, hk1, hk2, hk3, hk4, hk5⟩ := wrap_mod k0 9 (by decide) (by decide)
      replace hk2 : Int.tmod (u0 : Int) 9 = (K : Int) := hk2
      obtain ⟨u, x, a3, y, a9, z, a18, e4, e2, hu, ⟨x1, x2, x3, x4⟩, ⟨y1, y2, y3, y4⟩, ⟨z1, z2, z3, z4⟩, ⟨e41, e42, e43, e44⟩, e21, e22⟩ := wrap_divs how
      obtain ⟨g, hg1, hg2, hg3, hg4⟩ := gap_of x x2
      obtain ⟨p, r, hp1, hp2, hp3, hp4⟩ := eq_of' y y3
      obtain ⟨q, hq1, hq2⟩ := sign_of z z3
      obtain ⟨G, hG⟩ : ∃ G, G = bytes g := ⟨_, rfl⟩
      obtain ⟨EQ, hEQ⟩ : ∃ G, G = bytes (p ++ 61 :: r) := ⟨_, rfl⟩
      obtain ⟨Q, hQ⟩ : ∃ G, G = bytes [q] := ⟨_, rfl⟩
      obtain ⟨eg, em, he1, he2, he3, he4⟩ := end_of g hg1 hg3 G hG e4 e43
      obtain ⟨EN, hEN⟩ : ∃ G, G = bytes (endL2 eg em) := ⟨_, rfl⟩
      rw [← hG] at hg4
      rw [← hEQ] at hp4
      rw [← hQ] at hq2
      rw [← hEN] at he4
      have hM : Made g p r v.data.toList q := ⟨hg1, hg2, hp1, hp2, hq1, fun b hb => by
        obtain ⟨j, hj, hjb⟩ := List.getElem_of_mem hb
        exact HP.out j (by rw [HL.out] at hj; exact hj) b (by rw [List.getElem?_eq_getElem hj, hjb])⟩
      have sG : G.size ≤ 2 := by rw [hG, bytes_sizeA]; exact hg3
      have sE : EQ.size ≤ 3 := by rw [hEQ, bytes_sizeA]; simp; omega
      have sQ : Q.size ≤ 1 := by rw [hQ, bytes_sizeA]; simp
      have sN : EN.size ≤ 4 := by rw [hEN, bytes_sizeA]; exact he2
      have hV : v = bytes v.data.toList := by
        apply ByteArray.ext
        show v.data = v.data.toList.toArray
        rw [Array.toArray_toList]
      have HM := Lib.hid hM
      have HN := Lib.hid (fun i (hi : i < 8) => head_next (g := g) (p := p) (r := r) (v := v.data.toList) (q := q) i hi G Q EQ v hG hQ hEQ hV)
      have HZ := Lib.hid (fun i => head_size (g := g) (p := p) (r := r) (v := v.data.toList) (q := q) i hg3 hp3 (by rw [HL.out]; exact hv20))
      have HT := Lib.hid (next_start hM eg em he1 K (by omega) EN hEN)
      have HAT := Lib.hid (fun i (hi : i < K) => attr_at (v := v.data.toList) K i hi (by omega) v hV)
      have HE2 := Lib.hid (show (e2 = 0 ∧ em = false) ∨ (e2 = 1 ∧ em = true) by rcases he3 with ⟨h, h'⟩ | ⟨h, h'⟩; exact Or.inl ⟨by omega, h'⟩; exact Or.inr ⟨by omega, h'⟩)
      have H := Lib.hid (show KAt E n w w from ⟨HE.out, hn, Below.refl _ _⟩)
      clear hG hEQ hQ hEN hM hV hg1 hg2 hp1 hp2 hq1 he1 he2 he3 hg3 hp3 e22 HP hlt hil
      have HH0 := Lib.hid (show headT g p r v.data.toList q 0 = ⟨#[60, 112, 58, 97]⟩ from rfl)
      generalize headT g p r v.data.toList q = HT0 at *
      have HAL := Lib.hid (show ((List.range' 0 K).map (attrV v.data.toList)).length = K by rw [List.length_map, List.length_range'])
      generalize (List.range' 0 K).map (attrV v.data.toList) = AL at *
      go_wp2_with fail
      go_loop [13, 14] (fun sv iv => ∃ i : Nat, i ≤ K ∧ sv = .string (HT0 i) ∧ iv = .int .i64 i) (fun _ iv => K - (intOf iv).toNat)
      case atStart => exact ⟨0, Nat.zero_le _, by rw [HH0.out], rfl⟩
      case round =>
        obtain ⟨i, hiK, rfl, rfl⟩ := hrel
        have hz := HZ.out i
        by_cases hlt : i < K
        · have sS : (HT0 i).size ≤ 300 := by omega
          have sL : ((⟨#[97, 98, 99, 100, 101, 102, 103, 104]⟩ : ByteArray).extract i (i + 1)).size ≤ 1 := by rw [ByteArray.size_extract]; omega
          have HX := Lib.hid (HN.out i (by omega))
          have q3 : (i : Int) ≤ (i : Int) + 1 := by omega
          have q4 : (i : Int) + 1 ≤ 8 := by omega
          clear hz
          go_wp2
          go_round
          case rel => exact ⟨i + 1, hlt, by rw [← HX.out], by go_num⟩
          case measure => simp [intOf]; omega
        · obtain rfl : i = K := by omega
          have sS : (HT0 i).size ≤ 300 := by omega
          have g3 : decide (i < i) = false := decide_eq_false (by omega)
          clear hz hlt hiK
          have hs1 : (HT0 i ++ EN ++ ⟨#[114, 101, 115, 116]⟩ : ByteArray).size ≤ 100000 := by rw [ByteArray.size_append, ByteArray.size_append]; show (HT0 i).size + EN.size + 4 ≤ _; omega
          have HC := Lib.hid (fun W (h : KAt E n w W) => knextAt S (HT0 i ++ EN ++ ⟨#[114, 101, 115, 116]⟩) 0 _ _ 2 ⟨#[112, 58, 97]⟩ ⟨#[]⟩ AL em HT.out 2 rfl i HAL.out hs1 ⟨by decide, by decide⟩ h)
          clear hs1
          go_wp2_with fail
          refine (HC.out _ (H.out.other S (((((Below.refl w.heap.size w).alloc (Nat.le_refl _) _).alloc (by simp) _).alloc (by simp; omega) _).alloc (by simp; omega) _))).mono ?_
          rintro e w1 ⟨a, capt, rfl, hat, h, _⟩
          have hbx := (Below.refl w1.heap.size w1).alloc (Nat.le_refl _) (.cells #[.int .i64 2, .string ⟨#[112, 58, 97]⟩, .string ⟨#[]⟩, .slice a i capt, .bool em] 27)
          have HX := Lib.hid (box_tok w1 (.int .i64 2) (.string ⟨#[112, 58, 97]⟩) (.string ⟨#[]⟩) (.slice a i capt) (.bool em) 27)
          have H3 := Lib.hid (h.other S hbx)
          have HA3 := Lib.hid ((hat.below hbx).mono hbx.size)
          clear h H hat hbx HC
          have hcase := HE2.out
          clear HE2
          obtain ⟨WB, hWB⟩ : ∃ WB, WB = w1.alloc (.cells #[.int .i64 2, .string ⟨#[112, 58, 97]⟩, .string ⟨#[]⟩, .slice a i capt, .bool em] 27) := ⟨_, rfl⟩
          rw [← hWB] at HX H3 HA3
          have HWB := Lib.hid hWB
          clear hWB
          rcases hcase with ⟨rfl, rfl⟩ | ⟨rfl, rfl⟩
          · (go_wp2_with fail
             go_loopw [19] (fun jv wr => ∃ j : Nat, j ≤ i ∧ jv = .int .i64 j ∧ Hid (Below WB.heap.size WB wr)) (fun jv _ => i - (intOf jv).toNat)
             case atStart => exact ⟨0, Nat.zero_le _, rfl, Lib.hid (by rw [HWB.out]; exact Below.refl _ _)⟩
             case round =>
               obtain ⟨j, hj, rfl, HW⟩ := hrel
               by_cases hlt : j < i
               · have ha := HAT.out j (by omega)
                 obtain ⟨b, off, rfl, hb, hc⟩ := HA3.out.cell (by rw [HAL.out]; omega)
                 have hc2 := hc j (by rw [HAL.out]; exact hlt)
                 rw [ha] at hc2
                 have c1 := (HW.out.cell (p := ⟨b, off + j * 2, none⟩) hb).trans hc2.1
                 have c2 := (HW.out.cell (p := ⟨b, off + j * 2 + 1, none⟩) hb).trans hc2.2
                 obtain ⟨_, _, _, k3, _⟩ := HX.out _ HW.out
                 have sL : ((⟨#[97, 98, 99, 100, 101, 102, 103, 104]⟩ : ByteArray).extract j (j + 1)).size ≤ 1 := by rw [ByteArray.size_extract]; omega
                 have i1 : (j : Int) < (i : Int) := by omega
                 have q3 : (j : Int) ≤ (j : Int) + 1 := by omega
                 have q4 : (j : Int) + 1 ≤ 8 := by omega
                 have q5 : IntKind.i64.wrap ((j : Int) + 1) = (j : Int) + 1 := IntWalk.i64_in _ (by omega)
                 have q6 : ((j : Int) + 1).toNat = j + 1 := by omega
                 have HW2 : Hid (∀ W', Below wr.heap.size wr W' → Below WB.heap.size WB W') := Lib.hid fun W' hW' => HW.out.trans (hW'.mono HW.out.size)
                 clear hc hc2 ha HW
                 go_wp2_with fail
                 go_quiet (fail)
                 have HW3 := Lib.hid (HW2.out (wr.drewN nq) ⟨rfl, rfl, rfl, Nat.le_refl _, fun _ _ => rfl⟩)
                 clear HW2 c1 c2 k3 q5 q6
                 go_wp2
                 go_roundw
                 case rel => exact ⟨j + 1, by omega, by go_num, HW3⟩
                 case measure => simp [intOf]; omega
               · obtain rfl : j = i := by omega
                 have g9 : decide (j < j) = false := decide_eq_false (by omega)
                 have HF := Lib.hid (H3.out.other S HW.out)
                 go_wp2_with fail
                 refine (told10_any S n _ HF.out.e HF.out.n_le).mono ?_
                 rintro e4 w4 ⟨rfl, hb4⟩
                 have HE4 := Lib.hid (HF.out.since.trans (hb4.mono HF.out.since.size))
                 clear hb4
                 go_wp2
                 go_ret
                 exact ⟨rfl, HE4.out⟩)
          · (go_wp2_with fail
             go_loopw [19] (fun jv wr => ∃ j : Nat, j ≤ i ∧ jv = .int .i64 j ∧ Hid (Below WB.heap.size WB wr)) (fun jv _ => i - (intOf jv).toNat)
             case atStart => exact ⟨0, Nat.zero_le _, rfl, Lib.hid (by rw [HWB.out]; exact Below.refl _ _)⟩
             case round =>
               obtain ⟨j, hj, rfl, HW⟩ := hrel
               by_cases hlt : j < i
               · have ha := HAT.out j (by omega)
                 obtain ⟨b, off, rfl, hb, hc⟩ := HA3.out.cell (by rw [HAL.out]; omega)
                 have hc2 := hc j (by rw [HAL.out]; exact hlt)
                 rw [ha] at hc2
                 have c1 := (HW.out.cell (p := ⟨b, off + j * 2, none⟩) hb).trans hc2.1
                 have c2 := (HW.out.cell (p := ⟨b, off + j * 2 + 1, none⟩) hb).trans hc2.2
                 obtain ⟨_, _, _, k3, _⟩ := HX.out _ HW.out
                 have sL : ((⟨#[97, 98, 99, 100, 101, 102, 103, 104]⟩ : ByteArray).extract j (j + 1)).size ≤ 1 := by rw [ByteArray.size_extract]; omega
                 have i1 : (j : Int) < (i : Int) := by omega
                 have q3 : (j : Int) ≤ (j : Int) + 1 := by omega
                 have q4 : (j : Int) + 1 ≤ 8 := by omega
                 have q5 : IntKind.i64.wrap ((j : Int) + 1) = (j : Int) + 1 := IntWalk.i64_in _ (by omega)
                 have q6 : ((j : Int) + 1).toNat = j + 1 := by omega
                 have HW2 : Hid (∀ W', Below wr.heap.size wr W' → Below WB.heap.size WB W') := Lib.hid fun W' hW' => HW.out.trans (hW'.mono HW.out.size)
                 clear hc hc2 ha HW
                 go_wp2_with fail
                 go_quiet (fail)
                 have HW3 := Lib.hid (HW2.out (wr.drewN nq) ⟨rfl, rfl, rfl, Nat.le_refl _, fun _ _ => rfl⟩)
                 clear HW2 c1 c2 k3 q5 q6
                 go_wp2
                 go_roundw
                 case rel => exact ⟨j + 1, by omega, by go_num, HW3⟩
                 case measure => simp [intOf]; omega
               · obtain rfl : j = i := by omega
                 have g9 : decide (j < j) = false := decide_eq_false (by omega)
                 have HF := Lib.hid (H3.out.other S HW.out)
                 go_wp2_with fail
                 refine (told10_any S n _ HF.out.e HF.out.n_le).mono ?_
                 rintro e4 w4 ⟨rfl, hb4⟩
                 have HE4 := Lib.hid (HF.out.since.trans (hb4.mono HF.out.since.size))
                 clear hb4
                 go_wp2
                 go_ret
                 exact ⟨rfl, HE4.out⟩)
end Go.Proofs.YtcnomlhlellmiaaDoor
