/-
  PLAIN MATHEMATICS FOR LAYER 10: a name that is taken as long as characters of names go on, and the document's; the pieces told by what is taken.
  PLAIN MATHEMATICS FOR LAYER 10: the pieces in a reader's words: what is taken, and what is left behind it (..P); they are the document's.
-/
import Derived.Test.YtjijjmkeehdooaaGreatDoorTokRead
namespace Go.Proofs.YtjijjmkeehdooaaGreatDoor
open Go Go.Lib

theorem getD_take0 (l : List UInt8) (k j : Nat) (h : j < k) : (l.take k).getD j 0 = l.getD j 0 := by simp [List.getD, h]
/-- a character is decoded out of its own bytes alone -/
theorem decodeL_take (l : List UInt8) (k : Nat) (hk : (decodeL l).2 ≤ k) : decodeL (l.take k) = decodeL l := by
  have hw := decodeL_width l
  have hn : (l.take k).length ≤ l.length := by rw [List.length_take]; omega
  have hl : (l.take k).length = min k l.length := List.length_take
  rw [decodeL_N] at hk ⊢
  rw [decodeL_N l]
  have g0 : (l.take k).getD 0 0 = l.getD 0 0 := getD_take0 l k 0 (by rw [decodeL_N] at hw; omega)
  have g1 : 2 ≤ k → (l.take k).getD 1 0 = l.getD 1 0 := fun h => getD_take0 l k 1 (by omega)
  have g2 : 3 ≤ k → (l.take k).getD 2 0 = l.getD 2 0 := fun h => getD_take0 l k 2 (by omega)
  have g3 : 4 ≤ k → (l.take k).getD 3 0 = l.getD 3 0 := fun h => getD_take0 l k 3 (by omega)
  rw [g0]
  rcases decodeN_shape l.length (l.getD 0 0).toNat (l.getD 1 0).toNat (l.getD 2 0).toNat (l.getD 3 0).toNat with ⟨c, e⟩ | ⟨c1, c2, c3, cv, e⟩ | ⟨c1, c2, c3, c4, cv, cs, e⟩ | ⟨c1, c2, c3, c4, c5, cv, cw, e⟩ | e
  · rw [decodeN_ascii _ _ _ _ _ c, decodeN_ascii _ _ _ _ _ c]
  · rw [e] at hk ⊢
    have hk : 2 ≤ k := hk
    rw [g1 hk, decodeN_two _ _ _ _ _ (by omega) (by omega) (by omega) c3, if_neg (by omega)]
  · rw [e] at hk ⊢
    have hk : 3 ≤ k := hk
    rw [g1 (by omega), g2 hk, decodeN_three _ _ _ _ _ (by omega) (by omega) (by omega) c3 c4 _ rfl, if_neg (by omega)]
    congr 1
    omega
  · rw [e] at hk ⊢
    have hk : 4 ≤ k := hk
    rw [g1 (by omega), g2 (by omega), g3 hk, decodeN_four _ _ _ _ _ (by omega) (by omega) (by omega) c3 c4 c5 _ rfl, if_neg (by omega)]
    congr 1
    omega
  · rw [e]
    by_cases hb : decodeN (l.take k).length (l.getD 0 0).toNat ((l.take k).getD 1 0).toNat ((l.take k).getD 2 0).toNat ((l.take k).getD 3 0).toNat = (65533, 1)
    · exact hb
    · have := decodeN_more _ l.length _ _ _ _ (l.getD 1 0).toNat (l.getD 2 0).toNat (l.getD 3 0).toNat hn (fun h => by rw [g1 (by omega)]) (fun h => by rw [g2 (by omega)]) (fun h => by rw [g3 (by omega)]) hb
      rw [e] at this
      exact this.symm

theorem runL_nil : ∀ f fst, runL f fst [] = 0
  | 0, _ => rfl
  | _ + 1, _ => by simp [runL]
theorem runL_fuel : ∀ (n m : Nat) (fst : Bool) (l : List UInt8), l.length ≤ n → l.length ≤ m → runL n fst l = runL m fst l
  | 0, m, fst, l, hn, _ => by
    obtain rfl : l = [] := List.eq_nil_of_length_eq_zero (by omega)
    rw [runL_nil, runL_nil]
  | n + 1, 0, fst, l, _, hm => by
    obtain rfl : l = [] := List.eq_nil_of_length_eq_zero (by omega)
    rw [runL_nil, runL_nil]
  | n + 1, m + 1, fst, l, hn, hm => by
    unfold runL
    by_cases hne : l = []
    · simp [hne]
    · have hw := decodeL_width l
      have hl : 0 < l.length := List.length_pos_iff.2 hne
      rw [if_neg hne, if_neg hne, runL_fuel n m false (l.drop (decodeL l).2) (by rw [List.length_drop]; omega) (by rw [List.length_drop]; omega)]
def runN (fst : Bool) (l : List UInt8) : Nat := runL l.length fst l
theorem runN_step (fst : Bool) (l : List UInt8) (hne : l ≠ []) : runN fst l = if headOk fst l = true then (decodeL l).2 + runN false (l.drop (decodeL l).2) else 0 := by
  have hl : 0 < l.length := List.length_pos_iff.2 hne
  have hw := decodeL_width l
  obtain ⟨n, hn⟩ : ∃ n, l.length = n + 1 := ⟨l.length - 1, by omega⟩
  unfold runN
  rw [hn]
  show (if l = [] then 0 else _) = _
  rw [if_neg hne, runL_fuel n (l.drop (decodeL l).2).length false _ (by rw [List.length_drop]; omega) (Nat.le_refl _)]
/-- a byte that begins no character of UTF-8 stands there -/
def Wild (l : List UInt8) : Prop := ∃ b t, l = b :: t ∧ 128 ≤ b.toNat
theorem wild_of_bad {l : List UInt8} (hne : l ≠ []) (h : decodeL l = (65533, 1)) : Wild l := by
  match l, hne with
  | b :: t, _ =>
    refine ⟨b, t, rfl, ?_⟩
    by_cases hb : b.toNat < 128
    · rw [decodeL_ascii b t hb] at h
      injection h with h _
      omega
    · omega
theorem run_wh : ∀ (n : Nat) (fst : Bool) (l : List UInt8), l.length ≤ n →
    (okL fst (l.take (whN partB l)) = true → runN fst l = whN partB l) ∧
    (okL fst (l.take (whN partB l)) = false → runN fst l < whN partB l ∧ ((runN fst l = 0 ∧ fst = true) ∨ Wild (l.drop (runN fst l))))
  | 0, fst, l, h => by
    obtain rfl : l = [] := List.eq_nil_of_length_eq_zero (by omega)
    exact ⟨fun _ => rfl, fun h => by cases h⟩
  | n + 1, fst, l, h => by
    by_cases hne : l = []
    · subst hne
      exact ⟨fun _ => rfl, fun h => by cases h⟩
    · have hw := decodeL_width l
      have hle := decodeL_le l hne
      have hl : 0 < l.length := List.length_pos_iff.2 hne
      obtain ⟨ih1, ih2⟩ := run_wh n false (l.drop (decodeL l).2) (by rw [List.length_drop]; omega)
      rw [runN_step fst l hne, whN_step partB l hne]
      generalize whN partB (l.drop (decodeL l).2) = m at *
      by_cases hp : partB ((decodeL l).1 : Int) = true
      · rw [if_pos hp]
        have ed : decodeL (l.take ((decodeL l).2 + m)) = decodeL l := decodeL_take l _ (by omega)
        have et : l.take ((decodeL l).2 + m) ≠ [] := by
          intro e
          have := congrArg List.length e
          rw [List.length_take, List.length_nil] at this
          omega
        have eh : headOk fst (l.take ((decodeL l).2 + m)) = headOk fst l := by unfold headOk; rw [ed]
        have er : (l.take ((decodeL l).2 + m)).drop (decodeL l).2 = (l.drop (decodeL l).2).take m := by
          rw [List.drop_take, Nat.add_sub_cancel_left]
        rw [okL_step fst _ et, eh, ed, er]
        by_cases hh : headOk fst l = true
        · rw [if_pos hh, hh, Bool.true_and]
          refine ⟨fun h => by rw [ih1 h], fun h => ?_⟩
          obtain ⟨g1, g2⟩ := ih2 h
          refine ⟨by omega, Or.inr ?_⟩
          rcases g2 with ⟨_, g3⟩ | g3
          · cases g3
          · rw [List.drop_drop] at g3; exact g3
        · rw [if_neg hh]
          have hf : headOk fst l = false := by rw [Bool.eq_false_iff]; exact hh
          rw [hf, Bool.false_and]
          refine ⟨fun h => (by cases h), fun _ => ⟨by omega, ?_⟩⟩
          unfold headOk at hf
          rw [hp, Bool.true_and] at hf
          by_cases hb : decodeL l = (65533, 1)
          · right; rw [List.drop_zero]; exact wild_of_bad hne hb
          · left
            rw [decide_eq_false hb] at hf
            cases fst
            · simp at hf
            · exact ⟨rfl, rfl⟩
      · have hf : headOk fst l = false := by
          unfold headOk
          rw [show partB ((decodeL l).1 : Int) = false by rw [Bool.eq_false_iff]; exact hp]
          simp
        rw [if_neg hp, if_neg (by rw [hf]; decide)]
        exact ⟨fun _ => rfl, fun h => by cases h⟩

/-- the name that is taken, whether it is one -/
def nameT (l : List UInt8) : List UInt8 := l.take (whN partB l)
def isName (s : List UInt8) : Bool := decide (s ≠ []) && okL true s
theorem nameT_length (l : List UInt8) : (nameT l).length = whN partB l := by
  unfold nameT
  rw [List.length_take]
  have := wh_le partB l
  omega
theorem name_yes {l : List UInt8} (h : isName (nameT l) = true) : nameN l = whN partB l ∧ whN partB l ≠ 0 := by
  unfold isName at h
  rw [Bool.and_eq_true, decide_eq_true_eq] at h
  refine ⟨(run_wh _ true l (Nat.le_refl _)).1 h.2, fun e => h.1 ?_⟩
  apply List.eq_nil_of_length_eq_zero
  rw [nameT_length, e]
theorem name_no {l : List UInt8} (h : isName (nameT l) = false) : nameN l = 0 ∨ Wild (l.drop (nameN l)) := by
  unfold isName at h
  rw [Bool.and_eq_false_iff] at h
  obtain ⟨h1, h2⟩ := run_wh _ true l (Nat.le_refl _)
  by_cases ho : okL true (l.take (whN partB l)) = true
  · left
    rcases h with h | h
    · have h := of_decide_eq_false h
      have h0 : nameT l = [] := Classical.byContradiction h
      have := congrArg List.length h0
      rw [nameT_length, List.length_nil] at this
      exact (h1 ho).trans this
    · rw [show okL true (nameT l) = okL true (l.take (whN partB l)) from rfl, ho] at h; cases h
  · obtain ⟨_, g⟩ := h2 (by rw [Bool.eq_false_iff]; exact ho)
    rcases g with ⟨g, _⟩ | g
    · exact Or.inl g
    · exact Or.inr g
theorem wild_gap {l : List UInt8} (h : Wild l) : gapL l = 0 := by
  obtain ⟨b, t, rfl, hb⟩ := h
  unfold gapL
  rw [if_neg]
  unfold spaceU
  intro e
  have := space_ascii e
  omega
theorem wild_sw {l : List UInt8} (h : Wild l) {a : UInt8} {w : List UInt8} (ha : a.toNat < 128) : swB (a :: w) l = false := by
  obtain ⟨b, t, rfl, hb⟩ := h
  exact sw_head fun e => by subst e; omega

/-! ### the pieces -/
theorem end_is (l : List UInt8) : endL l =
    if isName (nameT (l.drop 2)) = true ∧ swB [62] (l.drop (2 + whN partB (l.drop 2) + gapL (l.drop (2 + whN partB (l.drop 2))))) = true then
      some (⟨3, bytes (nameT (l.drop 2)), ⟨#[]⟩, [], false⟩, 2 + whN partB (l.drop 2) + gapL (l.drop (2 + whN partB (l.drop 2))) + 1) else none := by
  unfold endL
  simp only
  by_cases h : isName (nameT (l.drop 2)) = true
  · obtain ⟨h1, h2⟩ := name_yes h
    rw [h1]
    by_cases hs : swB [62] (l.drop (2 + whN partB (l.drop 2) + gapL (l.drop (2 + whN partB (l.drop 2))))) = true
    · rw [if_pos ⟨h2, hs⟩, if_pos ⟨h, hs⟩]; rfl
    · rw [if_neg (fun e => hs e.2), if_neg (fun e => hs e.2)]
  · have hr : ¬ (isName (nameT (l.drop 2)) = true ∧ swB [62] (l.drop (2 + whN partB (l.drop 2) + gapL (l.drop (2 + whN partB (l.drop 2))))) = true) := fun e => h e.1
    rw [if_neg hr, if_neg]
    rintro ⟨h1, h2⟩
    rcases name_no (by rw [Bool.eq_false_iff]; exact h) with h3 | h3
    · exact h1 h3
    · rw [List.drop_drop] at h3
      rw [wild_gap h3, Nat.add_zero, wild_sw h3 (by decide)] at h2
      cases h2
theorem nc_name {s : List UInt8} (h : ncL s = true) : isName s = true := by
  unfold ncL at h
  unfold isName
  simp only [Bool.and_eq_true] at h ⊢
  exact h.1
theorem target_name {s : List UInt8} (h : targetL s = true) : isName s = true := by
  unfold targetL at h
  rw [Bool.and_eq_true] at h
  exact nc_name h.1
theorem target_nil : targetL [] = false := rfl
theorem pi_is (l : List UInt8) : piL l =
    if targetL (nameT (l.drop 2)) = true then
      (if swB [63, 62] (l.drop (2 + whN partB (l.drop 2))) = true then some (⟨5, bytes (nameT (l.drop 2)), ⟨#[]⟩, [], false⟩, 2 + whN partB (l.drop 2) + 2)
       else if gapL (l.drop (2 + whN partB (l.drop 2))) = 0 then none
       else (findL [63, 62] (l.drop (2 + whN partB (l.drop 2) + gapL (l.drop (2 + whN partB (l.drop 2)))))).bind fun k => some (⟨5, bytes (nameT (l.drop 2)), bytes ((l.drop (2 + whN partB (l.drop 2) + gapL (l.drop (2 + whN partB (l.drop 2))))).take k), [], false⟩, 2 + whN partB (l.drop 2) + gapL (l.drop (2 + whN partB (l.drop 2))) + k + 2))
    else none := by
  unfold piL
  simp only
  by_cases h : isName (nameT (l.drop 2)) = true
  · obtain ⟨h1, _⟩ := name_yes h
    rw [h1]
    rfl
  · have h' : isName (nameT (l.drop 2)) = false := by rw [Bool.eq_false_iff]; exact h
    have ht : targetL (nameT (l.drop 2)) = false := by
      rw [Bool.eq_false_iff]
      intro e
      exact h (target_name e)
    rw [if_neg (show ¬ targetL (nameT (l.drop 2)) = true by rw [ht]; decide)]
    rcases name_no h' with h3 | h3
    · rw [h3, List.take_zero, if_neg (by rw [target_nil]; decide)]
    · rw [List.drop_drop] at h3
      split
      · rw [if_neg (by rw [wild_sw h3 (by decide)]; decide), if_pos (wild_gap h3)]
      · rfl
theorem wh_bytes (p : Int → Bool) : ∀ (n : Nat) (l : List UInt8), l.length ≤ n → ∀ j, j < whN p l → ∀ b, l[j]? = some b → 128 ≤ b.toNat ∨ p (b.toNat : Int) = true
  | 0, l, h, j, hj, b, hb => by
    obtain rfl : l = [] := List.eq_nil_of_length_eq_zero (by omega)
    simp at hb
  | n + 1, l, h, j, hj, b, hb => by
    by_cases hne : l = []
    · subst hne; simp at hb
    · have hw := decodeL_width l
      have hl : 0 < l.length := List.length_pos_iff.2 hne
      rw [whN_step p l hne] at hj
      split at hj
      · rename_i hp
        by_cases hjw : j < (decodeL l).2
        · match l, hne with
          | a :: t, hne =>
            by_cases ha : a.toNat < 128
            · rw [decodeL_ascii a t ha] at hjw hp
              obtain rfl : j = 0 := by have : j < 1 := hjw; omega
              injection hb with hb
              subst hb
              exact Or.inr hp
            · left
              have := (decodeL_high hne (by show 128 ≤ a.toNat; omega)).2 j hjw
              rw [List.getD_eq_getElem?_getD, hb] at this
              exact this
        · refine wh_bytes p n (l.drop (decodeL l).2) (by rw [List.length_drop]; omega) (j - (decodeL l).2) (by omega) b ?_
          rw [List.getElem?_drop, show (decodeL l).2 + (j - (decodeL l).2) = j by omega]
          exact hb
      · omega
/-- a name goes on through what is one -/
theorem wh_ok : ∀ (n : Nat) (fst : Bool) (x y : List UInt8), x.length ≤ n → okL fst x = true → whN partB (x ++ y) = x.length + whN partB y
  | n, fst, [], y, _, _ => by simp
  | 0, fst, a :: t, y, h, _ => by simp at h
  | n + 1, fst, a :: t, y, h, ho => by
    have hne : a :: t ≠ [] := by simp
    have hw := decodeL_width (a :: t)
    have hle := decodeL_le (a :: t) hne
    rw [okL_step fst _ hne, Bool.and_eq_true] at ho
    obtain ⟨h1, h2⟩ := ho
    have hb : decodeL (a :: t) ≠ (65533, 1) := by
      intro e
      unfold headOk at h1
      rw [e] at h1
      simp at h1
    have e := decodeL_more (a :: t) y hne hb
    have hp : partB ((decodeL (a :: t)).1 : Int) = true := by
      unfold headOk at h1
      simp only [Bool.and_eq_true] at h1
      exact h1.2.1
    rw [whN_step partB _ (by simp), e, if_pos hp, List.drop_append_of_le_length hle, wh_ok n false _ y (by rw [List.length_drop]; simp at h ⊢; omega) h2, List.length_drop]
    omega
theorem part_59 : partB (59 : Int) = false := by decide
theorem ref_is (t : List UInt8) (h35 : t[0]? ≠ some 35) : refL (38 :: t) =
    if ncL (nameT t) = true ∧ swB [59] (t.drop (whN partB t)) = true then some (⟨8, bytes (nameT t), ⟨#[]⟩, [], false⟩, 1 + whN partB t + 1) else none := by
  have hno : ¬ swB [38, 35] (38 :: t) = true := by
    rw [sw_two]
    rintro ⟨_, h⟩
    exact h35 (by simpa using h)
  unfold refL
  have fs : findL [59] (38 :: t) = (findL [59] t).map (· + 1) := by
    show (if swB [59] (38 :: t) = true then some 0 else _) = _
    rw [if_neg (by rw [sw_head (by decide)]; decide)]
  by_cases h : ncL (nameT t) = true ∧ swB [59] (t.drop (whN partB t)) = true
  · rw [if_pos h]
    have hm : whN partB t < t.length := by
      have := sw_length h.2
      rw [List.length_drop] at this
      simp at this
      omega
    have hf : findL [59] t = some (whN partB t) := find_at hm h.2 fun j hj => by
      rw [Bool.eq_false_iff, Ne, sw_one, List.getElem?_drop, show j + 0 = j by omega]
      intro e
      rcases wh_bytes partB _ t (Nat.le_refl _) j hj 59 e with h1 | h1
      · revert h1; decide
      · rw [show ((59 : UInt8).toNat : Int) = 59 from rfl, part_59] at h1; cases h1
    rw [fs, hf]
    show (if swB [38, 35] (38 :: t) = true then _ else _) = _
    rw [if_neg hno]
    show (if ncL (t.take (whN partB t)) = true then some ((⟨8, bytes (t.take (whN partB t)), ⟨#[]⟩, [], false⟩ : Tok), whN partB t + 1 + 1) else none) = _
    rw [if_pos (show ncL (t.take (whN partB t)) = true from h.1), Nat.add_comm 1]
    rfl
  · rw [if_neg h, fs]
    cases hf : findL [59] t with
    | none => rfl
    | some k =>
      show (if swB [38, 35] (38 :: t) = true then _ else _) = _
      rw [if_neg hno]
      show (if ncL (t.take k) = true then _ else none) = none
      rw [if_neg]
      intro hnc
      apply h
      obtain ⟨h1, h2, _⟩ := find_some hf
      have hok : okL true (t.take k) = true := by
        have := nc_name hnc
        unfold isName at this
        rw [Bool.and_eq_true] at this
        exact this.2
      have hw : whN partB t = k := by
        have e := wh_ok _ true (t.take k) (t.drop k) (Nat.le_refl _) hok
        rw [List.take_append_drop] at e
        rw [e, List.length_take]
        obtain ⟨u, hu⟩ := (sw_iff _ _).1 h2
        have hu : t.drop k = 59 :: u := hu
        rw [hu, whN_step partB _ (by simp), decodeL_ascii 59 u (by decide)]
        show min k t.length + (if partB (59 : Int) = true then _ else 0) = k
        rw [if_neg (by rw [part_59]; decide)]
        omega
      unfold nameT
      rw [hw]
      exact ⟨hnc, h2⟩
theorem comment_is (l : List UInt8) : commentL l = (findL [45, 45] (l.drop 4)).bind fun k => if swB [62] (l.drop (4 + k + 2)) = true then some (⟨4, ⟨#[]⟩, bytes ((l.drop 4).take k), [], false⟩, 4 + k + 3) else none := by
  unfold commentL
  cases hf : findL [45, 45] (l.drop 4) with
  | none => rfl
  | some k =>
    rw [Option.bind_some, Option.bind_some]
    obtain ⟨_, h2, _⟩ := find_some hf
    rw [List.drop_drop] at h2
    obtain ⟨t, ht⟩ := (sw_iff _ _).1 h2
    have e : l.drop (4 + k + 2) = t := by
      rw [← List.drop_drop, ht]; rfl
    rw [e, ht]
    have : swB [45, 45, 62] ([45, 45] ++ t) = swB [62] t := by
      rw [Bool.eq_iff_iff, sw_three, sw_one]
      simp
    rw [this]
theorem swap_take (l : List UInt8) (k : Nat) : (l.take (k + 1 + 1)).drop 2 = (l.drop 2).take k := by
  rw [List.drop_take]
  congr 1
/-- a reference by number -/
theorem char_is (t : List UInt8) : refL (38 :: 35 :: t) = (findL [59] t).bind fun k => (refV (t.take k)).bind fun r => some (⟨7, ⟨#[]⟩, Utf8.encode (r : Int), [], false⟩, 2 + k + 1) := by
  unfold refL
  have fs : findL [59] (38 :: 35 :: t) = (findL [59] t).map (· + 2) := by
    show (if swB [59] (38 :: 35 :: t) = true then some 0 else (if swB [59] (35 :: t) = true then some 0 else (findL [59] t).map (· + 1)).map (· + 1)) = _
    rw [if_neg (by rw [sw_head (by decide)]; decide), if_neg (by rw [sw_head (by decide)]; decide)]
    cases findL [59] t <;> rfl
  rw [fs]
  cases hf : findL [59] t with
  | none => rfl
  | some k =>
    rw [Option.map_some, Option.bind_some, Option.bind_some, if_pos (show swB [38, 35] (38 :: 35 :: t) = true from (sw_iff _ _).2 ⟨t, rfl⟩)]
    obtain ⟨h1, h2, _⟩ := find_some hf
    rw [sw_one, List.getElem?_drop, Nat.add_zero] at h2
    have e1 : (38 :: 35 :: t : List UInt8).take (k + 2 + 1) = 38 :: 35 :: t.take (k + 1) := rfl
    have e2 : t.take (k + 1) = t.take k ++ [59] := by
      rw [List.take_add_one, h2]; rfl
    have e3 : charRefL ((38 :: 35 :: t : List UInt8).take (k + 2 + 1)) = refV (t.take k) := by
      unfold charRefL
      rw [e1, e2]
      have hd : ((38 :: 35 :: (t.take k ++ [59]) : List UInt8).drop 2).dropLast = t.take k := by
        show (t.take k ++ [59]).dropLast = _
        rw [List.dropLast_concat]
      rw [hd]
      by_cases hk : k = 0
      · subst hk
        rw [List.take_zero, if_neg (by simp)]
        rfl
      · have hlen : (t.take k).length = k := by rw [List.length_take]; omega
        rw [if_pos]
        refine ⟨(sw_iff _ _).2 ⟨_, rfl⟩, ?_, ?_⟩
        · show (38 :: 35 :: (t.take k ++ [59]) : List UInt8).getLast? = some 59
          rw [show (38 :: 35 :: (t.take k ++ [59]) : List UInt8) = ([38, 35] ++ t.take k) ++ [59] by simp, List.getLast?_concat]
        · simp only [List.length_cons, List.length_append, hlen, List.length_nil]
          omega
    rw [e3]
    rw [Nat.add_comm 2 k]
end Go.Proofs.YtjijjmkeehdooaaGreatDoor

namespace Go.Proofs.YtjijjmkeehdooaaGreatDoor
open Go Go.Lib

def rst {α : Type} (l : List UInt8) (d : Option (α × Nat)) : Option (α × List UInt8) := d.map fun x => (x.1, l.drop x.2)
def commentP (r : List UInt8) : Option (Tok × List UInt8) :=
  (findL [45, 45] r).bind fun k => if swB [62] (r.drop (k + 2)) = true then some (⟨4, ⟨#[]⟩, bytes (r.take k), [], false⟩, r.drop (k + 2 + 1)) else none
def cdataP (r : List UInt8) : Option (Tok × List UInt8) :=
  (findL [93, 93, 62] r).bind fun k => some (⟨6, ⟨#[]⟩, bytes (r.take k), [], false⟩, r.drop (k + 3))
def piP (r : List UInt8) : Option (Tok × List UInt8) :=
  let s := r.drop (whN partB r)
  if targetL (nameT r) = true then
    (if swB [63, 62] s = true then some (⟨5, bytes (nameT r), ⟨#[]⟩, [], false⟩, s.drop 2)
     else if gapL s = 0 then none
     else (findL [63, 62] (s.drop (gapL s))).bind fun k => some (⟨5, bytes (nameT r), bytes ((s.drop (gapL s)).take k), [], false⟩, (s.drop (gapL s)).drop (k + 2)))
  else none
def endP (r : List UInt8) : Option (Tok × List UInt8) :=
  let s := r.drop (whN partB r)
  if isName (nameT r) = true ∧ swB [62] (s.drop (gapL s)) = true then some (⟨3, bytes (nameT r), ⟨#[]⟩, [], false⟩, (s.drop (gapL s)).drop 1) else none
def charP (r : List UInt8) : Option (Tok × List UInt8) :=
  (findL [59] r).bind fun k => (refV (r.take k)).bind fun c => some (⟨7, ⟨#[]⟩, Utf8.encode (c : Int), [], false⟩, r.drop (k + 1))
def refP (r : List UInt8) : Option (Tok × List UInt8) :=
  if ncL (nameT r) = true ∧ swB [59] (r.drop (whN partB r)) = true then some (⟨8, bytes (nameT r), ⟨#[]⟩, [], false⟩, (r.drop (whN partB r)).drop 1) else none
def plainP (r : List UInt8) : Option (Tok × List UInt8) :=
  if findL [93, 93, 62] (r.take (plainN r)) = none then some (⟨1, ⟨#[]⟩, bytes (r.take (plainN r)), [], false⟩, r.drop (plainN r)) else none
def quoteP (r : List UInt8) : Option (List UInt8 × List UInt8) :=
  match r with
  | [] => none
  | q :: t => if q = 34 ∨ q = 39 then (if swB [q] (t.drop (leadN (valU q) t)) = true then some (t.take (leadN (valU q) t), (t.drop (leadN (valU q) t)).drop 1) else none) else none
def attrP (r : List UInt8) : Option ((ByteArray × ByteArray) × List UInt8) :=
  let s := r.drop (whN partB r)
  let u := s.drop (gapL s)
  if isName (nameT r) = true ∧ swB [61] u = true then (quoteP ((u.drop 1).drop (gapL (u.drop 1)))).bind fun x => some ((bytes (nameT r), bytes x.1), x.2) else none
def attrsR (l : List UInt8) : Option (List (ByteArray × ByteArray) × Bool × List UInt8) := (attrsL l.length l).map fun x => (x.1, x.2.1, l.drop x.2.2)
def startP (r : List UInt8) : Option (Tok × List UInt8) :=
  if isName (nameT r) = true then (attrsR (r.drop (whN partB r))).bind fun x => some (⟨2, bytes (nameT r), ⟨#[]⟩, x.1, x.2.1⟩, x.2.2) else none
def nextP (l : List UInt8) : Option (Tok × List UInt8) :=
  if swB [60, 33, 45, 45] l = true then commentP (l.drop 4)
  else if swB [60, 33, 91, 67, 68, 65, 84, 65, 91] l = true then cdataP (l.drop 9)
  else if swB [60, 63] l = true then piP (l.drop 2)
  else if swB [60, 47] l = true then endP (l.drop 2)
  else if swB [60] l = true then startP (l.drop 1)
  else if swB [38, 35] l = true then charP (l.drop 2)
  else if swB [38] l = true then refP (l.drop 1)
  else plainP l

theorem some_eq {α β : Type} {a b : α} {x y : β} (h1 : a = b) (h2 : x = y) : some (a, x) = some (b, y) := by rw [h1, h2]
theorem rst_comment (l : List UInt8) : rst l (commentL l) = commentP (l.drop 4) := by
  rw [comment_is]
  unfold rst commentP
  simp only [List.drop_drop]
  cases findL [45, 45] (l.drop 4) with
  | none => rfl
  | some k =>
    rw [Option.bind_some, Option.bind_some, ← Nat.add_assoc]
    split
    · exact some_eq rfl (congrArg (fun n => l.drop n) (by show 4 + k + 3 = 4 + (k + 2 + 1); omega))
    · rfl
theorem rst_cdata (l : List UInt8) : rst l (cdataL l) = cdataP (l.drop 9) := by
  unfold rst cdataL cdataP
  simp only [List.drop_drop]
  cases findL [93, 93, 62] (l.drop 9) with
  | none => rfl
  | some k => exact some_eq rfl (congrArg (fun n => l.drop n) (by show 9 + k + 3 = 9 + (k + 3); omega))
theorem rst_pi (l : List UInt8) : rst l (piL l) = piP (l.drop 2) := by
  rw [pi_is]
  unfold rst piP
  simp only [List.drop_drop]
  split
  · split
    · rfl
    · split
      · rfl
      · cases findL [63, 62] (l.drop (2 + whN partB (l.drop 2) + gapL (l.drop (2 + whN partB (l.drop 2))))) with
        | none => rfl
        | some k => exact some_eq rfl (congrArg (fun n => l.drop n) (Nat.add_assoc _ k 2))
  · rfl
theorem rst_end (l : List UInt8) : rst l (endL l) = endP (l.drop 2) := by
  rw [end_is]
  unfold rst endP
  simp only [List.drop_drop]
  split <;> rfl
theorem rst_char (t : List UInt8) : rst (38 :: 35 :: t) (refL (38 :: 35 :: t)) = charP t := by
  rw [char_is]
  unfold rst charP
  cases findL [59] t with
  | none => rfl
  | some k =>
    rw [Option.bind_some, Option.bind_some]
    cases refV (t.take k) with
    | none => rfl
    | some c => exact some_eq rfl (by show (38 :: 35 :: t).drop (2 + k + 1) = t.drop (k + 1); rw [show 2 + k + 1 = (k + 1) + 2 by omega]; rfl)
theorem rst_ref (t : List UInt8) (h35 : t[0]? ≠ some 35) : rst (38 :: t) (refL (38 :: t)) = refP t := by
  rw [ref_is t h35]
  unfold rst refP
  split
  · exact some_eq rfl (by show (38 :: t).drop (1 + whN partB t + 1) = (t.drop (whN partB t)).drop 1; rw [List.drop_drop, show 1 + whN partB t + 1 = (whN partB t + 1) + 1 by omega]; rfl)
  · rfl
theorem rst_text (l : List UInt8) : rst l (textL l) = plainP l := by
  unfold rst textL plainP
  simp only
  split <;> rfl

/-! ### attributes -/
theorem quote_is (r : List UInt8) : ((literalL r).bind fun v => if v.1.contains 60 = true then none else some v) = (quoteP r).map fun x => (x.1, r.length - x.2.length) := by
  unfold literalL quoteP
  match r with
  | [] => rfl
  | q :: t =>
    simp only
    by_cases hq : q = 34 ∨ q = 39
    · rw [if_pos hq, if_pos hq]
      have hv := val_is q t
      have hle := lead_le (valU q) t
      generalize leadN (valU q) t = m at *
      by_cases hs : swB [q] (t.drop m) = true
      · rw [if_pos hs] at hv
        have hlt := sw_length hs
        rw [List.length_drop] at hlt
        simp at hlt
        cases hf : findL [q] t with
        | none => rw [hf] at hv; cases hv
        | some k =>
          rw [hf, Option.bind_some] at hv
          rw [Option.bind_some, Option.bind_some]
          split at hv
          · cases hv
          · rename_i hc
            injection hv with hv
            subst hv
            rw [if_neg hc, if_pos hs]
            show some (_, k + 2) = some (_, _)
            rw [List.length_drop, List.length_drop]
            congr 2
            simp
            omega
      · rw [if_neg hs] at hv
        rw [if_neg hs]
        cases hf : findL [q] t with
        | none => rfl
        | some k =>
          rw [hf, Option.bind_some] at hv
          rw [Option.bind_some, Option.bind_some]
          split at hv
          · rename_i hc
            rw [if_pos hc]; rfl
          · cases hv
    · rw [if_neg hq, if_neg hq]; rfl
theorem quote_rest {r : List UInt8} {x : List UInt8 × List UInt8} (h : quoteP r = some x) : r.drop (r.length - x.2.length) = x.2 := by
  unfold quoteP at h
  match r, h with
  | q :: t, h =>
    simp only at h
    split at h
    · split at h
      · rename_i hs
        have hlt := sw_length hs
        rw [List.length_drop] at hlt
        simp at hlt
        injection h with h
        subst h
        show (q :: t).drop ((q :: t).length - ((t.drop (leadN (valU q) t)).drop 1).length) = (t.drop (leadN (valU q) t)).drop 1
        rw [List.drop_drop, List.length_drop]
        have : (q :: t).length - (t.length - (leadN (valU q) t + 1)) = (leadN (valU q) t + 1) + 1 := by simp; omega
        rw [this]
        rfl
      · cases h
    · cases h
theorem rst_attr (l : List UInt8) : rst l (attrL l) = attrP l := by
  unfold attrL attrP
  simp only [List.drop_drop]
  by_cases h : isName (nameT l) = true
  · obtain ⟨h1, h2⟩ := name_yes h
    rw [h1]
    by_cases hs : swB [61] (l.drop (whN partB l + gapL (l.drop (whN partB l)))) = true
    · rw [if_pos ⟨h2, hs⟩, if_pos ⟨h, hs⟩]
      generalize whN partB l + gapL (l.drop (whN partB l)) + 1 + gapL (l.drop (whN partB l + gapL (l.drop (whN partB l)) + 1)) = z
      have hq := quote_is (l.drop z)
      cases hp : quoteP (l.drop z) with
      | none =>
        rw [hp] at hq
        cases hl : literalL (l.drop z) with
        | none => rfl
        | some v =>
          rw [hl, Option.bind_some] at hq
          split at hq
          · rename_i hc
            rw [Option.bind_some, if_pos hc]; rfl
          · cases hq
      | some x =>
        rw [hp] at hq
        have hr := quote_rest hp
        cases hl : literalL (l.drop z) with
        | none => rw [hl] at hq; cases hq
        | some v =>
          rw [hl, Option.bind_some] at hq
          split at hq
          · cases hq
          · rename_i hc
            injection hq with hq
            rw [Option.bind_some, if_neg hc, hq]
            exact some_eq rfl (by show l.drop (z + _) = x.2; rw [← List.drop_drop, hr])
    · rw [if_neg (fun e => hs e.2), if_neg (fun e => hs e.2)]; rfl
  · have hr : ¬ (isName (nameT l) = true ∧ swB [61] (l.drop (whN partB l + gapL (l.drop (whN partB l)))) = true) := fun e => h e.1
    rw [if_neg hr, if_neg]
    · rfl
    · rintro ⟨h1, h2⟩
      rcases name_no (by rw [Bool.eq_false_iff]; exact h) with h3 | h3
      · exact h1 h3
      · rw [wild_gap h3, Nat.add_zero, wild_sw h3 (by decide)] at h2
        cases h2
theorem attr_pos {l : List UInt8} {a : ByteArray × ByteArray} {n : Nat} (h : attrL l = some (a, n)) : n ≤ l.length := attr_len h
theorem attrs_fuel : ∀ (f g : Nat) (l : List UInt8), l.length ≤ f → l.length ≤ g → attrsL f l = attrsL g l
  | 0, 0, _, _, _ => rfl
  | 0, g + 1, l, h, _ => by
    obtain rfl : l = [] := List.eq_nil_of_length_eq_zero (by omega)
    rfl
  | f + 1, 0, l, _, h => by
    obtain rfl : l = [] := List.eq_nil_of_length_eq_zero (by omega)
    rfl
  | f + 1, g + 1, l, hf, hg => by
    unfold attrsL
    simp only
    split
    · rfl
    · split
      · rfl
      · split
        · rfl
        · rename_i h0
          cases ha : attrL (l.drop (gapL l)) with
          | none => rfl
          | some a =>
            rw [Option.bind_some, Option.bind_some, attrs_fuel f g (l.drop (gapL l + a.2)) (by rw [List.length_drop]; omega) (by rw [List.length_drop]; omega)]
theorem attrsL_succ (f : Nat) (l : List UInt8) : attrsL (f + 1) l = if swB [62] (l.drop (gapL l)) = true then some ([], false, gapL l + 1)
    else if swB [47, 62] (l.drop (gapL l)) = true then some ([], true, gapL l + 2)
    else if gapL l = 0 then none
    else (attrL (l.drop (gapL l))).bind fun a => (attrsL f (l.drop (gapL l + a.2))).bind fun r => some (a.1 :: r.1, r.2.1, gapL l + a.2 + r.2.2) := rfl
theorem attrsR_step (l : List UInt8) : attrsR l =
    if swB [47, 62] (l.drop (gapL l)) = true then some ([], true, (l.drop (gapL l)).drop 2)
    else if swB [62] (l.drop (gapL l)) = true then some ([], false, (l.drop (gapL l)).drop 1)
    else if gapL l = 0 then none
    else (attrP (l.drop (gapL l))).bind fun a => (attrsR a.2).bind fun r => some (a.1 :: r.1, r.2.1, r.2.2) := by
  unfold attrsR
  rw [attrs_fuel l.length (l.length + 1) l (Nat.le_refl _) (by omega), attrsL_succ]
  by_cases h1 : swB [62] (l.drop (gapL l)) = true
  · have h2 : ¬ swB [47, 62] (l.drop (gapL l)) = true := by
      rw [sw_one] at h1
      rw [sw_two]
      rintro ⟨e, _⟩
      rw [h1] at e
      revert e; decide
    rw [if_pos h1, if_neg h2, if_pos h1, List.drop_drop]
    rfl
  · rw [if_neg h1, if_neg h1]
    by_cases h2 : swB [47, 62] (l.drop (gapL l)) = true
    · rw [if_pos h2, if_pos h2, List.drop_drop]
      rfl
    · rw [if_neg h2, if_neg h2]
      by_cases h0 : gapL l = 0
      · rw [if_pos h0, if_pos h0]; rfl
      · rw [if_neg h0, if_neg h0, ← rst_attr]
        unfold rst
        cases ha : attrL (l.drop (gapL l)) with
        | none => rfl
        | some a =>
          rw [Option.bind_some, Option.map_some, Option.bind_some]
          simp only [List.drop_drop]
          rw [attrs_fuel l.length (l.drop (gapL l + a.2)).length (l.drop (gapL l + a.2)) (by rw [List.length_drop]; omega) (Nat.le_refl _)]
          cases attrsL (l.drop (gapL l + a.2)).length (l.drop (gapL l + a.2)) with
          | none => rfl
          | some r => rfl
theorem rst_start (l : List UInt8) (hl : l ≠ []) : rst l (startL l) = startP (l.drop 1) := by
  have hlen : 0 < l.length := List.length_pos_iff.2 hl
  unfold rst startL startP
  simp only
  by_cases h : isName (nameT (l.drop 1)) = true
  · obtain ⟨h1, h2⟩ := name_yes h
    rw [h1, if_pos h2, if_pos h, List.drop_drop]
    unfold attrsR
    rw [attrs_fuel l.length (l.drop (1 + whN partB (l.drop 1))).length _ (by rw [List.length_drop]; omega) (Nat.le_refl _)]
    cases attrsL (l.drop (1 + whN partB (l.drop 1))).length (l.drop (1 + whN partB (l.drop 1))) with
    | none => rfl
    | some r =>
      show some (_, l.drop (1 + whN partB (l.drop 1) + r.2.2)) = some (_, (l.drop (1 + whN partB (l.drop 1))).drop r.2.2)
      rw [List.drop_drop]
      rfl
  · rw [if_neg h]
    rcases name_no (by rw [Bool.eq_false_iff]; exact h) with h3 | h3
    · rw [if_neg (by rw [h3]; decide)]; rfl
    · rw [List.drop_drop] at h3
      split
      · have ha : attrsL l.length (l.drop (1 + nameN (l.drop 1))) = none := by
          obtain ⟨f, hf⟩ : ∃ f, l.length = f + 1 := ⟨l.length - 1, by omega⟩
          rw [hf]
          unfold attrsL
          simp only
          rw [wild_gap h3, List.drop_zero, if_neg (by rw [wild_sw h3 (by decide)]; decide), if_neg (by rw [wild_sw h3 (by decide)]; decide), if_pos rfl]
        rw [ha]; rfl
      · rfl
/-- THE READER's PIECE IS THE DOCUMENT's. -/
theorem nextP_is (l : List UInt8) (hl : l ≠ []) : nextP l = rst l (nextL l) := by
  unfold nextP nextL
  by_cases h1 : swB [60, 33, 45, 45] l = true
  · rw [if_pos h1, if_pos h1, rst_comment]
  · rw [if_neg h1, if_neg h1]
    by_cases h2 : swB [60, 33, 91, 67, 68, 65, 84, 65, 91] l = true
    · rw [if_pos h2, if_pos h2, rst_cdata]
    · rw [if_neg h2, if_neg h2]
      by_cases h3 : swB [60, 63] l = true
      · rw [if_pos h3, if_pos h3, rst_pi]
      · rw [if_neg h3, if_neg h3]
        by_cases h4 : swB [60, 47] l = true
        · rw [if_pos h4, if_pos h4, rst_end]
        · rw [if_neg h4, if_neg h4]
          by_cases h5 : swB [60] l = true
          · rw [if_pos h5, if_pos h5, rst_start l hl]
          · rw [if_neg h5, if_neg h5]
            by_cases h6 : swB [38, 35] l = true
            · obtain ⟨t, rfl⟩ := (sw_iff _ _).1 h6
              rw [if_pos h6, if_pos (show swB [38] ([38, 35] ++ t) = true from (sw_iff _ _).2 ⟨35 :: t, rfl⟩)]
              exact (rst_char t).symm
            · rw [if_neg h6]
              by_cases h7 : swB [38] l = true
              · obtain ⟨t, rfl⟩ := (sw_iff _ _).1 h7
                rw [if_pos h7, if_pos h7]
                refine (rst_ref t fun e => h6 ?_).symm
                rw [sw_two]
                exact ⟨rfl, e⟩
              · rw [if_neg h7, if_neg h7, rst_text]

/-! ### numbers -/
/-- a digit's value; 16: it is none -/
def digV (c : Int) : Int := if 48 ≤ c ∧ c ≤ 57 then c - 48 else if 65 ≤ c ∧ c ≤ 70 then c - 55 else if 97 ≤ c ∧ c ≤ 102 then c - 87 else 16
def digU (base : Nat) (b : UInt8) : Option Nat := if digV (b.toNat : Int) < (base : Int) then some (digV (b.toNat : Int)).toNat else none
theorem digV_bounds (c : Int) : 0 ≤ digV c ∧ digV c ≤ 16 := by
  unfold digV
  repeat' split
  all_goals omega
theorem dec_digU : decV = digU 10 := by
  funext b
  unfold decV digU digV
  repeat' split
  all_goals first | omega | rfl | (congr 1; omega) | skip
theorem hex_digU : hexV = digU 16 := by
  funext b
  unfold hexV digU digV
  repeat' split
  all_goals first | omega | rfl | (congr 1; omega) | skip
theorem num_ge (dig : UInt8 → Option Nat) (base : Nat) (hb : 1 ≤ base) : ∀ (l : List UInt8) (a r : Nat), numL dig base a l = some r → a ≤ r
  | [], a, r, h => by injection h with h; omega
  | b :: t, a, r, h => by
    unfold numL at h
    split at h
    · cases h
    · rename_i x _
      have := num_ge dig base hb t _ r h
      have h2 : a * 1 ≤ a * base := Nat.mul_le_mul_left a hb
      omega
/-- the character of a number, in a base -/
def numV (base : Nat) (l : List UInt8) : Option Nat := (numL (digU base) base 0 l).bind fun r => if charB (r : Int) = true then some r else none
theorem char_zero : charB 0 = false := by decide
theorem refV_is (d : List UInt8) : refV d = if swB [120] d = true then numV 16 (d.drop 1) else numV 10 d := by
  have h0 : ∀ base, numV base [] = none := fun base => by
    unfold numV
    rw [show numL (digU base) base 0 [] = some 0 from rfl, Option.bind_some, if_neg (by rw [show ((0 : Nat) : Int) = 0 from rfl, char_zero]; decide)]
  match d with
  | [] =>
    rw [if_neg (by decide), h0]; rfl
  | b :: t =>
    by_cases hb : b = 120
    · subst hb
      rw [if_pos (show swB [120] (120 :: t) = true from (sw_iff _ _).2 ⟨t, rfl⟩)]
      match t with
      | [] => exact (h0 16).symm
      | c :: u => show (numL hexV 16 0 (c :: u)).bind _ = _; rw [hex_digU]; rfl
    · rw [if_neg (by rw [sw_head (fun e => hb e.symm)]; decide)]
      unfold refV
      split
      · rename_i e; cases e
      · rename_i e; injection e with e _; exact absurd e hb
      · rename_i e; injection e with e _; exact absurd e hb
      · rw [dec_digU]; rfl
theorem num_big (base : Nat) (hb : 1 ≤ base) (l : List UInt8) (a : Nat) (ha : 1114111 < a) : ((numL (digU base) base a l).bind fun r => if charB (r : Int) = true then some r else none) = none := by
  cases h : numL (digU base) base a l with
  | none => rfl
  | some r =>
    have := num_ge _ base hb l a r h
    rw [Option.bind_some, if_neg]
    unfold charB inB
    simp only [Bool.or_eq_true, Bool.and_eq_true, beq_iff_eq, decide_eq_true_eq]
    omega
end Go.Proofs.YtjijjmkeehdooaaGreatDoor
