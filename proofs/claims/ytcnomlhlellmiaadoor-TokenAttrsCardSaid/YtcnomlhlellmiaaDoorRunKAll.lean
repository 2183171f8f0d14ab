/-
  THE LANDED PACKAGE token: the contract of All, out of that of Next.
-/
import Derived.Test.YtcnomlhlellmiaaDoorRunKFit
import Derived.Test.YtcnomlhlellmiaaDoorRunKOwn
namespace Go.Proofs.YtcnomlhlellmiaaDoor
open Go.RowKit

theorem info_tok : (Tryd.prog.info? 27).map (fun i => (i.zero, i.size, i.bytes)) = some (some (.agg #[.int .i64 0, .string ⟨#[]⟩, .string ⟨#[]⟩, .slice none 0 0, .bool false]), 5, 72) := by kernel_rfl
/-- the pieces, cell by cell: each with the value of its attributes' slice -/
def cellsT (p : Tok × Value) : List Value := [.int .i64 (p.1.kind : Int), .string p.1.name, .string p.1.text, p.2, .bool p.1.empty]
def flatT (l : List (Tok × Value)) : List Value := l.flatMap cellsT
theorem flatT_cons (a : Tok × Value) (t : List (Tok × Value)) : flatT (a :: t) = cellsT a ++ flatT t := rfl
theorem flatT_length : ∀ l : List (Tok × Value), (flatT l).length = l.length * 5
  | [] => rfl
  | a :: t => by
    rw [flatT_cons, List.length_append, flatT_length t, List.length_cons]
    show 5 + t.length * 5 = _
    omega
theorem flatT_next (l : List (Tok × Value)) (p : Tok × Value) : flatT (l ++ [p]) = flatT l ++ cellsT p := by
  unfold flatT
  rw [List.flatMap_append]
  simp
theorem flatT_get : ∀ (l : List (Tok × Value)) (i j : Nat), j < 5 → ∀ h : i < l.length, (flatT l)[i * 5 + j]? = (cellsT (l[i]'h))[j]?
  | [], i, j, _, h => by simp at h
  | a :: t, 0, j, hj, _ => by
    rw [flatT_cons, Nat.zero_mul, Nat.zero_add, List.getElem?_append_left (by exact hj)]
    rfl
  | a :: t, i + 1, j, hj, h => by
    have ih := flatT_get t i j hj (by simpa using h)
    rw [flatT_cons, List.getElem?_append_right (by show 5 ≤ _; omega), show (i + 1) * 5 + j - (cellsT a).length = i * 5 + j by show (i + 1) * 5 + j - 5 = _; omega, ih]
    rfl
theorem owns_ne {w : World} {B B' : Nat} {e e' : TypeId} {k k' m m' : Nat} {v v' : Value} {xs xs' : List Value} (h : w.ownsRow B e k v m xs) (h' : w.ownsRow B' e' k' v' m' xs') (he : e ≠ e') : ∀ g, v.ownBlock = some g → v'.ownBlock ≠ some g := by
  intro g hg hg'
  rcases h.2 with ⟨rfl, _⟩ | ⟨g1, _, c1, rfl, _, h1, _⟩
  · cases hg
  · rcases h'.2 with ⟨rfl, _⟩ | ⟨g2, _, c2, rfl, _, h2, _⟩
    · cases hg'
    · simp only [Value.ownBlock, Option.some.injEq] at hg hg'
      subst hg
      subst hg'
      rw [h1] at h2
      injection h2 with h2
      injection h2 with _ h3 _
      exact he h3
theorem atts_of {w : World} {B : Nat} {v : Value} {A : List (ByteArray × ByteArray)} (h : w.ownsRow B 42 2 v A.length (flatA A)) : AttsAt w.heap.size w v A := by
  rcases h.2 with ⟨rfl, h0⟩ | ⟨g, cap, cur, rfl, _, hg, _, _, _, h4⟩
  · exact Or.inl ⟨none, 0, rfl, List.eq_nil_of_length_eq_zero h0⟩
  · refine Or.inr ⟨g, 0, cap, rfl, (Array.getElem?_eq_some_iff.1 hg).1, fun i hi => ?_⟩
    obtain ⟨v1, v2⟩ := flatA_get A i hi
    rw [← h4, List.getElem?_take, if_pos (by omega)] at v1
    rw [← h4, List.getElem?_take, if_pos (by omega)] at v2
    rw [Array.getElem?_toList] at v1 v2
    rw [Nat.zero_add]
    exact ⟨by simp [World.cell?, hg, v1], by simp [World.cell?, hg, v2]⟩
/-- the pieces T so far, in a row of the call's own; each one's attributes in a row of its own -/
structure ToksO (B : Nat) (w : World) (v : Value) (T : List (Tok × Value)) : Prop where
  row : w.ownsRow B 27 5 v T.length (flatT T)
  each : ∀ p ∈ T, w.ownsRow B 42 2 p.2 p.1.attrs.length (flatA p.1.attrs)
section
variable {B : Nat} {w w' : World} {v : Value} {T : List (Tok × Value)}
theorem ToksO.other (h : ToksO B w v T) (hb : Below w.heap.size w w') : ToksO B w' v T :=
  ⟨owns_keep h.row fun g hg => hb.block g (owns_block h.row g hg).2, fun p hp => owns_keep (h.each p hp) fun g hg => hb.block g (owns_block (h.each p hp) g hg).2⟩
theorem ToksO.grown (h : ToksO B w v T) {v2 : Value} {p : Tok × Value} (hg : w.grownBy w' v.ownBlock) (ho : w'.ownsRow B 27 5 v2 (T.length + 1) (flatT T ++ cellsT p)) (hp : w.ownsRow B 42 2 p.2 p.1.attrs.length (flatA p.1.attrs)) : ToksO B w' v2 (T ++ [p]) := by
  have keep : ∀ q : Tok × Value, w.ownsRow B 42 2 q.2 q.1.attrs.length (flatA q.1.attrs) → w'.ownsRow B 42 2 q.2 q.1.attrs.length (flatA q.1.attrs) := fun q hq =>
    owns_keep hq fun g hgq => hg.block g (owns_block hq g hgq).2 fun e => owns_ne hq h.row (by decide) g hgq e.symm
  refine ⟨by rw [List.length_append, flatT_next]; exact ho, fun q hq => ?_⟩
  rcases List.mem_append.1 hq with h1 | h1
  · exact keep q (h.each q h1)
  · obtain rfl := List.mem_singleton.1 h1
    exact keep q hp
theorem ToksO.at (h : ToksO B w v T) : ToksAt w.heap.size w v (T.map (·.1)) := by
  rcases h.row.2 with ⟨rfl, h0⟩ | ⟨g, cap, cur, rfl, _, hg, _, _, _, h4⟩
  · exact Or.inl ⟨none, 0, rfl, by rw [List.eq_nil_of_length_eq_zero h0]; rfl⟩
  · refine Or.inr ⟨g, 0, cap, by rw [List.length_map], (Array.getElem?_eq_some_iff.1 hg).1, fun i hi => ?_⟩
    rw [List.length_map] at hi
    have hT : tokI (T.map (·.1)) i = (T[i]'hi).1 := by
      unfold tokI
      rw [List.getD_eq_getElem?_getD, List.getElem?_map, List.getElem?_eq_getElem hi]
      rfl
    have hc : ∀ j, j < 5 → w.cell? ⟨g, 0 + i * 5 + j, none⟩ = (cellsT (T[i]'hi))[j]? := fun j hj => by
      have e := flatT_get T i j hj hi
      rw [← h4, List.getElem?_take, if_pos (by omega), Array.getElem?_toList] at e
      rw [Nat.zero_add]
      simp [World.cell?, hg, e]
    rw [hT]
    exact ⟨(T[i]'hi).2, hc 0 (by decide), hc 1 (by decide), hc 2 (by decide), hc 3 (by decide), hc 4 (by decide), atts_of (h.each _ (List.getElem_mem _))⟩
end
theorem allL_fuel : ∀ (f g : Nat) (l : List UInt8), l.length ≤ f → l.length ≤ g → allL f l = allL g l
  | 0, 0, _, _, _ => rfl
  | 0, g + 1, l, h, _ => by
    obtain rfl : l = [] := List.eq_nil_of_length_eq_zero (by omega)
    rfl
  | f + 1, 0, l, _, h => by
    obtain rfl : l = [] := List.eq_nil_of_length_eq_zero (by omega)
    rfl
  | f + 1, g + 1, l, hf, hg => by
    unfold allL
    by_cases hl : l = []
    · rw [if_pos hl, if_pos hl]
    · rw [if_neg hl, if_neg hl]
      cases hn : nextL l with
      | none => rfl
      | some q =>
        obtain ⟨t, n⟩ := q
        have hp := (next_piece l hl t n hn).pos
        have hlen : 0 < l.length := List.length_pos_iff.2 hl
        show (t :: (allL f (l.drop n)).1, n + (allL f (l.drop n)).2.1, (allL f (l.drop n)).2.2) = _
        rw [allL_fuel f g (l.drop n) (by rw [List.length_drop]; omega) (by rw [List.length_drop]; omega)]
def allR (l : List UInt8) : List Tok × Nat × Bool := allL l.length l
theorem allR_nil : allR [] = ([], 0, true) := rfl
theorem allR_none {l : List UInt8} (hl : l ≠ []) (h : nextL l = none) : allR l = ([], 0, false) := by
  unfold allR
  obtain ⟨f, hf⟩ : ∃ f, l.length = f + 1 := ⟨l.length - 1, by have := List.length_pos_iff.2 hl; omega⟩
  rw [hf]
  unfold allL
  rw [if_neg hl, h]
theorem allR_some {l : List UInt8} (hl : l ≠ []) {t : Tok} {n : Nat} (h : nextL l = some (t, n)) : allR l = (t :: (allR (l.drop n)).1, n + (allR (l.drop n)).2.1, (allR (l.drop n)).2.2) := by
  have hp := (next_piece l hl t n h).pos
  have hlen : 0 < l.length := List.length_pos_iff.2 hl
  unfold allR
  obtain ⟨f, hf⟩ : ∃ f, l.length = f + 1 := ⟨l.length - 1, by omega⟩
  rw [hf, allL_fuel (l.drop n).length f (l.drop n) (Nat.le_refl _) (by rw [List.length_drop]; omega)]
  show (if l = [] then _ else _) = _
  rw [if_neg hl, h]
/-- the loop of All -/
def AllInv (l : List UInt8) (w : World) (lv av : Value) (wr : World) : Prop :=
  ∃ (T : List (Tok × Value)) (pos : Nat), av = .int .i64 (pos : Int) ∧ pos ≤ l.length ∧ ToksO w.heap.size wr lv T ∧ Below w.heap.size w wr ∧ T.length ≤ pos ∧
    allR l = (T.map (·.1) ++ (allR (l.drop pos)).1, pos + (allR (l.drop pos)).2.1, (allR (l.drop pos)).2.2)
/-- what is asked of Next -/
def NextK (n : Nat) (s : ByteArray) : Prop := ∀ (k : Int) (W : World), KE n W → n ≤ W.heap.size → Calls Tryd.prog 9 #[.string s, .int .i64 k] W fun e w' =>
  ∃ sl, e = .returned (.tuple #[.agg #[.int .i64 ((nextT s k).1.kind : Int), .string (nextT s k).1.name, .string (nextT s k).1.text, sl, .bool (nextT s k).1.empty], .int .i64 (nextT s k).2.1, .int .i64 (nextT s k).2.2]) ∧ w'.ownsRow W.heap.size 42 2 sl (nextT s k).1.attrs.length (flatA (nextT s k).1.attrs) ∧ Below W.heap.size W w'
theorem nextT_drop (l : List UInt8) (pos : Nat) (h : pos < l.length) : nextT (bytes l) (pos : Int) = match nextL (l.drop pos) with | none => (tok0, (pos : Int), 2) | some (t, m) => (t, (pos : Int) + m, 0) := by
  have hsz : (bytes l).size = l.length := bytes_len l
  unfold nextT
  rw [if_neg (by rw [hsz]; omega), if_neg (by rw [hsz]; omega)]
  rfl
theorem tokB_new (w : World) (p : Tok × Value) : (w.alloc (.cells #[.int .i64 (p.1.kind : Int), .string p.1.name, .string p.1.text, p.2, .bool p.1.empty] 27)).heap[w.heap.size]? = some (.cells #[.int .i64 (p.1.kind : Int), .string p.1.name, .string p.1.text, p.2, .bool p.1.empty] 27 (0, 0)) := by
  show (w.heap.push _)[w.heap.size]? = _
  rw [Array.getElem?_push_size]
set_option maxHeartbeats 8000000 in
set_option maxRecDepth 100000 in
theorem all_any (n : Nat) (l : List UInt8) (w : World) (hE : KE n w) (hn : n ≤ w.heap.size) (hs : l.length ≤ 100000) (hN : NextK n (bytes l)) :
    Calls Tryd.prog 13 #[.string (bytes l)] w fun e w' => ∃ v, e = .returned (.tuple #[v, .int .i64 (allT (bytes l)).2.1, .int .i64 (allT (bytes l)).2.2]) ∧ ToksAt w'.heap.size w' v (allT (bytes l)).1 ∧ Below w.heap.size w w' := by
  have hsz : (bytes l).size = l.length := bytes_len l
  have HA : Hid (allT (bytes l) = ((allR l).1, ((allR l).2.1 : Int), if (allR l).2.2 = true then 0 else 2)) := Lib.hid (by unfold allT; rw [hsz]; rfl)
  have HE := Lib.hid hE
  have HNX := Lib.hid hN
  clear hE hN
  obtain ⟨i0, hi, hz⟩ := Option.map_eq_some_iff.1 info_tok
  simp only [Prod.mk.injEq] at hz
  obtain ⟨hz0, hz1, hz2⟩ := hz
  go_enter Tryd.func13, Tryd.ntmps13
  go_wp2
  go_loopw [5, 6] (fun lv av wr => AllInv l w lv av wr) (fun _ av _ => l.length - (intOf av).toNat)
  case atStart => exact ⟨[], 0, rfl, Nat.zero_le _, ⟨⟨rfl, Or.inl ⟨rfl, rfl⟩⟩, fun p hp => by cases hp⟩, Below.refl _ _, Nat.le_refl _, by rw [List.drop_zero]; simp⟩
  case round =>
    obtain ⟨T, pos, rfl, hpl, hT, hb, hTl, hall⟩ := hrel
    obtain ⟨a, c, rfl⟩ := owns_slice hT.row
    have HTO := Lib.hid hT
    have HB := Lib.hid hb
    have HALL := Lib.hid hall
    clear hT hb hall
    by_cases hlt : pos < l.length
    · have hne : l.drop pos ≠ [] := by
        intro e
        have := congrArg List.length e
        rw [List.length_drop, List.length_nil] at this
        omega
      have C := HNX.out (pos : Int) wr (HE.out.stay (HB.out.mono hn)) (Nat.le_trans hn HB.out.size)
      rw [nextT_drop l pos hlt] at C
      cases hnl : nextL (l.drop pos) with
      | none =>
        rw [hnl] at C
        replace C : Calls Tryd.prog 9 #[.string (bytes l), .int .i64 (pos : Int)] wr fun e w' => ∃ sl, e = .returned (.tuple #[.agg #[.int .i64 0, .string ⟨#[]⟩, .string ⟨#[]⟩, sl, .bool false], .int .i64 (pos : Int), .int .i64 2]) ∧ w'.ownsRow wr.heap.size 42 2 sl 0 (flatA []) ∧ Below wr.heap.size wr w' := C
        have hR := allR_none hne hnl
        have HF : Hid (allT (bytes l) = (T.map (·.1), (pos : Int), 2)) := Lib.hid (by rw [HA.out, HALL.out, hR]; simp)
        have HC := Lib.hid C
        clear C hnl hR hne
        go_wp2_with fail
        refine HC.out.mono ?_
        rintro e w1 ⟨sl2, rfl, ho, hb1⟩
        obtain ⟨sa2, sc2, rfl⟩ := owns_slice ho
        have HT1 := Lib.hid ((HTO.out.other hb1).other ((Below.refl _ _).alloc (Nat.le_refl _) (.cells #[.int .i64 0, .string ⟨#[]⟩, .string ⟨#[]⟩, .slice sa2 0 sc2, .bool false] 27)))
        have HB1 := Lib.hid ((HB.out.trans (hb1.mono HB.out.size)).alloc (Nat.le_trans HB.out.size hb1.size) (.cells #[.int .i64 0, .string ⟨#[]⟩, .string ⟨#[]⟩, .slice sa2 0 sc2, .bool false] 27))
        clear ho hb1 HC
        go_wp2
        go_ret3
        rw [HF.out]
        exact ⟨_, rfl, HT1.out.at, HB1.out⟩
      | some q =>
        obtain ⟨⟨kd, nm, tx, A, em⟩, m⟩ := q
        rw [hnl] at C
        have hR := allR_some hne hnl
        have hpc := next_piece _ hne _ m hnl
        have hm1 := hpc.pos
        have hm2 := hpc.le
        rw [List.length_drop] at hm2
        rw [List.drop_drop] at hR
        have HR := Lib.hid hR
        have HC := Lib.hid C
        clear C hnl hR hne hpc
        go_wp2_with fail
        refine HC.out.mono ?_
        rintro e w1 ⟨sl2, rfl, ho, hb1⟩
        have HO : Hid (w1.ownsRow w.heap.size 42 2 sl2 A.length (flatA A)) := Lib.hid (owns_mono ho HB.out.size)
        have hbA : Below w1.heap.size w1 ((w1.alloc (.cells #[.int .i64 (kd : Int), .string nm, .string tx, sl2, .bool em] 27)).alloc (.cells #[.int .i64 (kd : Int), .string nm, .string tx, sl2, .bool em] 27)) := ((Below.refl _ _).alloc (Nat.le_refl _) _).alloc (by rw [Deep.nblk_alloc]; omega) _
        have HT1 := Lib.hid ((HTO.out.other hb1).other hbA)
        have HO1 : Hid (((w1.alloc (.cells #[.int .i64 (kd : Int), .string nm, .string tx, sl2, .bool em] 27)).alloc (.cells #[.int .i64 (kd : Int), .string nm, .string tx, sl2, .bool em] 27)).ownsRow w.heap.size 42 2 sl2 A.length (flatA A)) := Lib.hid (owns_keep HO.out fun g hg => hbA.block g (owns_block HO.out g hg).2)
        have HB1 := Lib.hid ((HB.out.trans (hb1.mono HB.out.size)).trans (hbA.mono (Nat.le_trans HB.out.size hb1.size)))
        have HNB : Hid (((w1.alloc (.cells #[.int .i64 (kd : Int), .string nm, .string tx, sl2, .bool em] 27)).alloc (.cells #[.int .i64 (kd : Int), .string nm, .string tx, sl2, .bool em] 27)).heap[w1.heap.size + 1]? = some (.cells #[.int .i64 (kd : Int), .string nm, .string tx, sl2, .bool em] 27 (0, 0))) := Lib.hid (by
          have := tokB_new (w1.alloc (.cells #[.int .i64 (kd : Int), .string nm, .string tx, sl2, .bool em] 27)) (⟨kd, nm, tx, A, em⟩, sl2)
          rw [Deep.nblk_alloc] at this
          exact this)
        obtain ⟨sa2, sc2, rfl⟩ := owns_slice HO.out
        have hsz1 : w.heap.size ≤ w1.heap.size := Nat.le_trans HB.out.size hb1.size
        have hTl2 : T.length ≤ 100000 := by omega
        clear ho hb1 hbA HC HO
        go_wp2_with (at_builtin; refine wpList_append_lies _ rfl _ _ 36 rfl w.heap.size 27 i0 (.agg #[.int .i64 0, .string ⟨#[]⟩, .string ⟨#[]⟩, .slice none 0 0, .bool false]) 5 72 Tryd.underlying36 hi hz0 hz1 hz2 rfl (by decide) _ _ _ rfl HT1.out.row ⟨w1.heap.size + 1, 0, none⟩ 1 1 (cellsT (⟨kd, nm, tx, A, em⟩, .slice sa2 A.length sc2)) rfl rfl (World.news_of_block HNB.out) (by intro u hu; simp [cellsT] at hu; rcases hu with rfl | rfl | rfl | rfl | rfl <;> rfl) (by decide) (by unfold maxLen; omega) (by omega) (by rw [Deep.nblk_alloc, Deep.nblk_alloc]; omega) _ rfl ?_; intro g cap w2 hown hgrow _ _; have HT2 := Lib.hid (HT1.out.grown (p := (⟨kd, nm, tx, A, em⟩, .slice sa2 A.length sc2)) hgrow hown HO1.out); have HB2 : Hid (Below w.heap.size w w2) := Lib.hid (HB1.out.grown hgrow (by rw [Deep.nblk_alloc, Deep.nblk_alloc]; omega) (fun k hk => (owns_block HT1.out.row k hk).1)); clear hown hgrow)
        go_roundw
        case rel => exact ⟨T ++ [(⟨kd, nm, tx, A, em⟩, .slice sa2 A.length sc2)], pos + m, by go_num, by omega, HT2.out, HB2.out, by rw [List.length_append]; show T.length + 1 ≤ _; omega, by
          rw [HALL.out, HR.out]
          simp only [List.map_append, List.append_assoc, Nat.add_assoc]
          rfl⟩
        case measure => simp [intOf]; omega
    · obtain rfl : pos = l.length := by omega
      have HF : Hid (allT (bytes l) = (T.map (·.1), (l.length : Int), 0)) := Lib.hid (by rw [HA.out, HALL.out, List.drop_length, allR_nil]; simp)
      go_wp2
      go_ret3
      rw [HF.out]
      exact ⟨_, rfl, HTO.out.at, HB.out⟩
end Go.Proofs.YtcnomlhlellmiaaDoor
