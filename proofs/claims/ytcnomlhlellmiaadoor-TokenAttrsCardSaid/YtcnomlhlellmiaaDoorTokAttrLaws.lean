/-
  PLAIN MATHEMATICS FOR TokenAttrs: a start with attributes, read from the left. No program stands in this text.
-/
import Derived.Test.YtcnomlhlellmiaaDoorTokLaws
import Derived.Test.YtcnomlhlellmiaaDoorBitNum
namespace Go.Proofs.YtcnomlhlellmiaaDoor
open Go Go.Lib

theorem run_yes (b : UInt8) (t : List UInt8) (f : Nat) (fst : Bool) (h : b.toNat < 128) (hp : partB (b.toNat : Int) = true) (hs : fst = true → startB (b.toNat : Int) = true) : runL (f + 1) fst (b :: t) = 1 + runL f false t := by
  have hh : headOk fst (b :: t) = true := by
    rw [headOk_ascii fst b t h, hp]
    cases fst
    · rfl
    · rw [hs rfl]; rfl
  have hd : decodeL (b :: t) = (b.toNat, 1) := decodeL_ascii b t h
  show (if (b :: t) = [] then 0 else if headOk fst (b :: t) = true then (decodeL (b :: t)).2 + runL f false ((b :: t).drop (decodeL (b :: t)).2) else 0) = _
  rw [if_neg (by simp), if_pos hh, hd]
  rfl
theorem run_no (b : UInt8) (t : List UInt8) (f : Nat) (fst : Bool) (h : b.toNat < 128) (hp : partB (b.toNat : Int) = false) : runL f fst (b :: t) = 0 := by
  cases f with
  | zero => rfl
  | succ f =>
    have hh : headOk fst (b :: t) = false := by
      rw [headOk_ascii fst b t h, hp]
      rfl
    show (if (b :: t) = [] then 0 else if headOk fst (b :: t) = true then (decodeL (b :: t)).2 + runL f false ((b :: t).drop (decodeL (b :: t)).2) else 0) = _
    rw [if_neg (by simp), hh, if_neg (by simp)]
/-- what ends a name -/
def EndsName (l : List UInt8) : Prop := ∃ c t, l = c :: t ∧ c.toNat < 128 ∧ partB (c.toNat : Int) = false
theorem run_ends {l : List UInt8} (h : EndsName l) (f : Nat) (fst : Bool) : runL f fst l = 0 := by
  obtain ⟨c, t, rfl, h1, h2⟩ := h
  exact run_no c t f fst h1 h2
def letterB (i : Nat) : UInt8 := UInt8.ofNat (97 + i)
theorem letter_part (i : Nat) (h : i < 8) : (letterB i).toNat < 128 ∧ partB ((letterB i).toNat : Int) = true := by
  rcases (show i = 0 ∨ i = 1 ∨ i = 2 ∨ i = 3 ∨ i = 4 ∨ i = 5 ∨ i = 6 ∨ i = 7 by omega) with rfl | rfl | rfl | rfl | rfl | rfl | rfl | rfl <;> exact ⟨by decide, by decide⟩
theorem letter_at (i : Nat) (h : i < 8) : (⟨#[97, 98, 99, 100, 101, 102, 103, 104]⟩ : ByteArray).extract i (i + 1) = bytes [letterB i] := by
  rcases (show i = 0 ∨ i = 1 ∨ i = 2 ∨ i = 3 ∨ i = 4 ∨ i = 5 ∨ i = 6 ∨ i = 7 by omega) with rfl | rfl | rfl | rfl | rfl | rfl | rfl | rfl <;> rfl
theorem name_x (i : Nat) (hi : i < 8) (l : List UInt8) (h : EndsName l) : nameN (120 :: letterB i :: l) = 2 := by
  show runL (l.length + 1 + 1) true (120 :: letterB i :: l) = 2
  rw [run_yes 120 _ _ true (by decide) (by decide) (fun _ => by decide), run_yes _ _ _ false (letter_part i hi).1 (letter_part i hi).2 (fun e => by cases e), run_ends h]
theorem name_pa (l : List UInt8) (h : EndsName l) : nameN (112 :: 58 :: 97 :: l) = 3 := by
  show runL (l.length + 1 + 1 + 1) true (112 :: 58 :: 97 :: l) = 3
  rw [run_yes 112 _ _ true (by decide) (by decide) (fun _ => by decide), run_yes 58 _ _ false (by decide) (by decide) (fun e => by cases e), run_yes 97 _ _ false (by decide) (by decide) (fun e => by cases e), run_ends h]
/-- spaces alone -/
def Spc (g : List UInt8) : Prop := ∀ b ∈ g, b = 32 ∨ b = 10 ∨ b = 9
theorem gap_run : ∀ (g : List UInt8) (c : UInt8) (t : List UInt8), Spc g → spaceU c = false → gapL (g ++ c :: t) = g.length
  | [], c, t, _, hc => by
    show (if spaceU c = true then gapL t + 1 else 0) = 0
    rw [hc, if_neg (by simp)]
  | b :: g, c, t, h, hc => by
    have ih := gap_run g c t (fun x hx => h x (List.mem_cons_of_mem _ hx)) hc
    have hb : spaceU b = true := by rcases h b List.mem_cons_self with rfl | rfl | rfl <;> rfl
    show (if spaceU b = true then gapL (g ++ c :: t) + 1 else 0) = _
    rw [hb, if_pos rfl, ih]
    rfl
theorem spc_ends {g : List UInt8} (h : Spc g) (hg : g ≠ []) (l : List UInt8) : EndsName (g ++ l) := by
  cases g with
  | nil => exact absurd rfl hg
  | cons b t =>
    refine ⟨b, t ++ l, rfl, ?_⟩
    rcases h b List.mem_cons_self with rfl | rfl | rfl <;> exact ⟨by decide, by decide⟩
theorem spc_ends61 {g : List UInt8} (h : Spc g) (l : List UInt8) : EndsName (g ++ 61 :: l) := by
  by_cases hg : g = []
  · subst hg
    exact ⟨61, l, rfl, by decide, by decide⟩
  · exact spc_ends h hg _
theorem find_one (q : UInt8) : ∀ (v : List UInt8) (t : List UInt8), (∀ b ∈ v, b ≠ q) → findL [q] (v ++ q :: t) = some v.length
  | [], t, _ => by
    show (if swB [q] (q :: t) = true then some 0 else _) = some 0
    rw [if_pos (show swB [q] (q :: t) = true from sw_append [q] t)]
  | b :: v, t, h => by
    have ih := find_one q v t fun c hc => h c (List.mem_cons_of_mem _ hc)
    show (if swB [q] (b :: (v ++ q :: t)) = true then some 0 else (findL [q] (v ++ q :: t)).map (· + 1)) = _
    rw [sw_head (Ne.symm (h b List.mem_cons_self)), if_neg (by simp), ih]
    rfl
/-- what the law's texts are made of: the gap ahead, = with spaces, the sign, the value -/
structure Made (g p r v : List UInt8) (q : UInt8) : Prop where
  gap : Spc g
  some' : g ≠ []
  ahead : Spc p
  behind : Spc r
  sign : q = 39 ∨ q = 34
  val : ∀ b ∈ v, b ≠ 39 ∧ b ≠ 34 ∧ b ≠ 60
def attrPc (g p r v : List UInt8) (q : UInt8) (i : Nat) : List UInt8 := g ++ 120 :: letterB i :: (p ++ 61 :: (r ++ q :: (v ++ [q])))
def attrV (v : List UInt8) (i : Nat) : ByteArray × ByteArray := (bytes [120, letterB i], bytes v)
section
variable {g p r v : List UInt8} {q : UInt8}
theorem sign_space (h : Made g p r v q) : spaceU q = false := by
  rcases h.sign with rfl | rfl <;> rfl
theorem literal_is (h : Made g p r v q) (t : List UInt8) : literalL (q :: (v ++ q :: t)) = some (v, v.length + 2) := by
  have hq : q = 34 ∨ q = 39 := h.sign.symm
  have hf := find_one q v t fun b hb => by
    have := h.val b hb
    rcases h.sign with rfl | rfl
    · exact this.1
    · exact this.2.1
  show (if q = 34 ∨ q = 39 then (findL [q] (v ++ q :: t)).bind fun k => some ((v ++ q :: t).take k, k + 2) else none) = _
  rw [if_pos hq, hf, Option.bind_some, List.take_left]
theorem attr_isA (h : Made g p r v q) (i : Nat) (hi : i < 8) (t : List UInt8) : attrL (120 :: letterB i :: (p ++ 61 :: (r ++ q :: (v ++ q :: t)))) = some (attrV v i, 2 + p.length + 1 + r.length + (v.length + 2)) := by
  have hn := name_x i hi _ (spc_ends61 h.ahead (r ++ q :: (v ++ q :: t)))
  have d2 : (120 :: letterB i :: (p ++ 61 :: (r ++ q :: (v ++ q :: t)))).drop 2 = p ++ 61 :: (r ++ q :: (v ++ q :: t)) := rfl
  have hg := gap_run p 61 (r ++ q :: (v ++ q :: t)) h.ahead (by rfl)
  have d3 : (120 :: letterB i :: (p ++ 61 :: (r ++ q :: (v ++ q :: t)))).drop (2 + p.length) = 61 :: (r ++ q :: (v ++ q :: t)) := by
    rw [← List.drop_drop, d2, List.drop_left]
  have d4 : (120 :: letterB i :: (p ++ 61 :: (r ++ q :: (v ++ q :: t)))).drop (2 + p.length + 1) = r ++ q :: (v ++ q :: t) := by
    rw [← List.drop_drop, d3]
    rfl
  have hh := gap_run r q (v ++ q :: t) h.behind (sign_space h)
  have d5 : (120 :: letterB i :: (p ++ 61 :: (r ++ q :: (v ++ q :: t)))).drop (2 + p.length + 1 + r.length) = q :: (v ++ q :: t) := by
    rw [← List.drop_drop, d4, List.drop_left]
  have hc : v.contains 60 = false := by
    rw [Bool.eq_false_iff]
    intro e
    exact (h.val 60 (List.contains_iff_mem.1 e)).2.2 rfl
  unfold attrL
  rw [hn]
  dsimp only
  rw [d2, hg, d3, d4, hh, d5, literal_is h t, if_pos ⟨by decide, by rfl⟩, Option.bind_some, if_neg (by rw [hc]; simp)]
  rfl
/-- what ends a start: perhaps a gap, then > or /> -/
def endL2 (eg : List UInt8) (em : Bool) : List UInt8 := eg ++ if em = true then [47, 62] else [62]
theorem attrs_end (eg : List UInt8) (em : Bool) (he : Spc eg) (t : List UInt8) (f : Nat) : attrsL (f + 1) (endL2 eg em ++ t) = some ([], em, (endL2 eg em).length) := by
  cases em with
  | false =>
    have e : endL2 eg false ++ t = eg ++ 62 :: t := by simp [endL2]
    have hg := gap_run eg 62 t he (by rfl)
    rw [e]
    unfold attrsL
    rw [hg]
    dsimp only
    rw [List.drop_left, if_pos (show swB [62] (62 :: t) = true from sw_append [62] t)]
    simp [endL2]
  | true =>
    have e : endL2 eg true ++ t = eg ++ 47 :: 62 :: t := by simp [endL2]
    have hg := gap_run eg 47 (62 :: t) he (by rfl)
    rw [e]
    unfold attrsL
    rw [hg]
    dsimp only
    rw [List.drop_left, sw_head (by decide), if_neg (by simp), if_pos (show swB [47, 62] (47 :: 62 :: t) = true from sw_append [47, 62] t)]
    simp [endL2]
def piecesP (g p r v : List UInt8) (q : UInt8) (i m : Nat) : List UInt8 := (List.range' i m).flatMap (attrPc g p r v q)
theorem pieces_cons (i m : Nat) : piecesP g p r v q i (m + 1) = attrPc g p r v q i ++ piecesP g p r v q (i + 1) m := by
  unfold piecesP
  rw [List.range'_succ, List.flatMap_cons]
theorem pieces_next (m : Nat) : piecesP g p r v q 0 (m + 1) = piecesP g p r v q 0 m ++ attrPc g p r v q m := by
  unfold piecesP
  rw [List.range'_concat, List.flatMap_append]
  simp
theorem attrs_all (h : Made g p r v q) (eg : List UInt8) (em : Bool) (he : Spc eg) (t : List UInt8) : ∀ (m i f : Nat), i + m ≤ 8 → m < f →
    attrsL f (piecesP g p r v q i m ++ (endL2 eg em ++ t)) = some ((List.range' i m).map (attrV v), em, (piecesP g p r v q i m ++ endL2 eg em).length)
  | 0, i, f, _, hf => by
    obtain ⟨f, rfl⟩ : ∃ j, f = j + 1 := ⟨f - 1, by omega⟩
    exact attrs_end eg em he t f
  | m + 1, i, f, hi, hf => by
    obtain ⟨f, rfl⟩ : ∃ j, f = j + 1 := ⟨f - 1, by omega⟩
    have ih := attrs_all h eg em he t m (i + 1) f (by omega) (by omega)
    obtain ⟨T, hT⟩ : ∃ T, piecesP g p r v q (i + 1) m ++ (endL2 eg em ++ t) = T := ⟨_, rfl⟩
    have e : piecesP g p r v q i (m + 1) ++ (endL2 eg em ++ t) = g ++ 120 :: letterB i :: (p ++ 61 :: (r ++ q :: (v ++ q :: T))) := by
      rw [pieces_cons, List.append_assoc, hT]
      simp [attrPc]
    have hg := gap_run g 120 (letterB i :: (p ++ 61 :: (r ++ q :: (v ++ q :: T)))) h.gap (by rfl)
    have hgn : ¬ g.length = 0 := fun e0 => h.some' (List.eq_nil_of_length_eq_zero e0)
    rw [hT] at ih
    have d6 : (g ++ 120 :: letterB i :: (p ++ 61 :: (r ++ q :: (v ++ q :: T)))).drop (g.length + (2 + p.length + 1 + r.length + (v.length + 2))) = T := by
      have e2 : g ++ 120 :: letterB i :: (p ++ 61 :: (r ++ q :: (v ++ q :: T))) = (g ++ 120 :: letterB i :: (p ++ 61 :: (r ++ q :: (v ++ [q])))) ++ T := by simp
      rw [e2, List.drop_left' (by simp; omega)]
    rw [e]
    unfold attrsL
    rw [hg]
    dsimp only
    rw [List.drop_left, sw_head (by decide), if_neg (by simp), sw_head (by decide), if_neg (by simp), if_neg hgn, attr_isA h i (by omega), Option.bind_some]
    dsimp only
    rw [d6, ih, Option.bind_some, List.range'_succ, List.map_cons, pieces_cons]
    simp only [Option.some.injEq, Prod.mk.injEq, true_and, List.length_append]
    simp [attrPc]
    omega
/-- THE START: its name, its attributes. -/
theorem start_isA (h : Made g p r v q) (eg : List UInt8) (em : Bool) (he : Spc eg) (t : List UInt8) (m : Nat) (hm : m ≤ 8) :
    nextL (60 :: 112 :: 58 :: 97 :: (piecesP g p r v q 0 m ++ (endL2 eg em ++ t))) = some (⟨2, bytes [112, 58, 97], ⟨#[]⟩, (List.range' 0 m).map (attrV v), em⟩, 4 + (piecesP g p r v q 0 m ++ endL2 eg em).length) := by
  have hE : EndsName (piecesP g p r v q 0 m ++ (endL2 eg em ++ t)) := by
    cases m with
    | zero =>
      show EndsName (endL2 eg em ++ t)
      by_cases h0 : eg = []
      · subst h0
        cases em
        · exact ⟨62, t, rfl, by decide, by decide⟩
        · exact ⟨47, 62 :: t, rfl, by decide, by decide⟩
      · unfold endL2
        rw [List.append_assoc]
        exact spc_ends he h0 _
    | succ m =>
      rw [pieces_cons]
      unfold attrPc
      rw [List.append_assoc, List.append_assoc]
      exact spc_ends h.gap h.some' _
  have hlen : m ≤ (piecesP g p r v q 0 m).length := by
    have : ∀ m i, m ≤ (piecesP g p r v q i m).length := by
      intro m
      induction m with
      | zero => intro i; exact Nat.zero_le _
      | succ m ih =>
        intro i
        rw [pieces_cons, List.length_append]
        have := ih (i + 1)
        have h2 : 1 ≤ (attrPc g p r v q i).length := by simp [attrPc]; omega
        omega
    exact this m 0
  have e : nextL (60 :: 112 :: 58 :: 97 :: (piecesP g p r v q 0 m ++ (endL2 eg em ++ t))) = startL (60 :: 112 :: 58 :: 97 :: (piecesP g p r v q 0 m ++ (endL2 eg em ++ t))) := by
    unfold nextL
    rw [if_neg (by simp [swB, List.isPrefixOf]), if_neg (by simp [swB, List.isPrefixOf]), if_neg (by simp [swB, List.isPrefixOf]), if_neg (by simp [swB, List.isPrefixOf]), if_pos (by simp [swB, List.isPrefixOf])]
  have hn := name_pa _ hE
  have d1 : (60 :: 112 :: 58 :: 97 :: (piecesP g p r v q 0 m ++ (endL2 eg em ++ t))).drop 1 = 112 :: 58 :: 97 :: (piecesP g p r v q 0 m ++ (endL2 eg em ++ t)) := rfl
  have d4 : (60 :: 112 :: 58 :: 97 :: (piecesP g p r v q 0 m ++ (endL2 eg em ++ t))).drop (1 + 3) = piecesP g p r v q 0 m ++ (endL2 eg em ++ t) := rfl
  rw [e]
  unfold startL
  rw [d1, hn]
  dsimp only
  rw [if_pos (by decide), d4, attrs_all h eg em he t m 0 _ (by omega) (by simp only [List.length_cons, List.length_append]; omega), Option.bind_some]
  rfl
end
end Go.Proofs.YtcnomlhlellmiaaDoor
