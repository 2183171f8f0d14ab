/-
  LAYER 13: brackenlaw13.ValueBlanks, out of ValSaid and RefsSaid: true for every text.
-/
import Derived.Test.YtjijjmkeehdooaaGreatDoorValTold
import Derived.IntWalk
import Derived.Deep.QuietTactic
namespace Go.Proofs.YtjijjmkeehdooaaGreatDoor
open Go.RowKit

/-- without its blanks -/
def noB (l : List UInt8) : List UInt8 := l.filter fun b => decide (b ≠ 32)
theorem noB_app (a b : List UInt8) : noB (a ++ b) = noB a ++ noB b := List.filter_append ..
theorem noB_normF : ∀ (l out : List UInt8) (p : Bool), noB (normF out p l) = noB out ++ noB l
  | [], out, p => by show noB out = noB out ++ []; rw [List.append_nil]
  | b :: t, out, p => by
    unfold normF
    by_cases hb : b = 32
    · subst hb
      rw [if_pos rfl, noB_normF t out true]
      rfl
    · rw [if_neg hb, noB_normF t _ false, noB_app, noB_app]
      have e1 : noB (if p = true ∧ out ≠ [] then [32] else []) = [] := by split <;> rfl
      have e2 : noB (b :: t) = [b] ++ noB t := by unfold noB; rw [List.filter_cons, if_pos (by simpa using hb)]; rfl
      have e3 : noB [b] = [b] := by unfold noB; rw [List.filter_cons, if_pos (by simpa using hb)]; rfl
      rw [e1, e2, e3, List.append_nil, List.append_assoc]
theorem noB_norm (l : List UInt8) : noB (normL l) = noB l := noB_normF l [] false
/-- no blank at the ends, none behind another -/
def Neat (t : List UInt8) : Prop := ∀ i : Nat, t[i]? = some 32 → 0 < i ∧ i + 1 < t.length ∧ t[i - 1]? ≠ some 32
theorem neat_nil : Neat [] := fun i h => (by cases h)
theorem Neat.last {t : List UInt8} (h : Neat t) (h0 : t ≠ []) : t[t.length - 1]? ≠ some 32 := fun e => by
  have := (h _ e).2.1
  have := List.length_pos_iff.2 h0
  omega
theorem Neat.one {o : List UInt8} (h : Neat o) {b : UInt8} (hb : b ≠ 32) : Neat (o ++ [b]) := by
  intro i hi
  by_cases hlt : i < o.length
  · rw [List.getElem?_append_left hlt] at hi
    obtain ⟨h1, h2, h3⟩ := h i hi
    refine ⟨h1, by rw [List.length_append]; show i + 1 < o.length + 1; omega, ?_⟩
    rw [List.getElem?_append_left (by omega)]
    exact h3
  · rw [List.getElem?_append_right (by omega)] at hi
    have : i - o.length = 0 := by
      have := (List.getElem?_eq_some_iff.1 hi).1
      have e : [b].length = 1 := rfl
      omega
    rw [this] at hi
    injection hi with hi
    exact absurd hi hb
theorem Neat.two {o : List UInt8} (h : Neat o) (h0 : o ≠ []) {b : UInt8} (hb : b ≠ 32) : Neat (o ++ [32] ++ [b]) := by
  intro i hi
  have hl := List.length_pos_iff.2 h0
  by_cases hlt : i < o.length
  · rw [List.append_assoc, List.getElem?_append_left hlt] at hi
    obtain ⟨h1, h2, h3⟩ := h i hi
    refine ⟨h1, by rw [List.length_append, List.length_append]; show i + 1 < o.length + 1 + 1; omega, ?_⟩
    rw [List.append_assoc, List.getElem?_append_left (by omega)]
    exact h3
  · by_cases he : i = o.length
    · subst he
      refine ⟨hl, by rw [List.length_append, List.length_append]; show o.length + 1 < o.length + 1 + 1; omega, ?_⟩
      rw [List.append_assoc, List.getElem?_append_left (by omega)]
      exact h.last h0
    · exfalso
      have hlen := (List.getElem?_eq_some_iff.1 hi).1
      rw [List.length_append, List.length_append] at hlen
      have e1 : [(32 : UInt8)].length = 1 := rfl
      have e2 : [b].length = 1 := rfl
      have he2 : i = o.length + 1 := by omega
      subst he2
      rw [List.getElem?_append_right (by rw [List.length_append]; exact Nat.le_refl _), List.length_append, e1, Nat.sub_self] at hi
      injection hi with hi
      exact hb hi
theorem neat_normF : ∀ (l out : List UInt8) (p : Bool), Neat out → Neat (normF out p l)
  | [], _, _, h => h
  | b :: t, out, p, h => by
    unfold normF
    by_cases hb : b = 32
    · rw [if_pos hb]; exact neat_normF t out true h
    · rw [if_neg hb]
      refine neat_normF t _ false ?_
      by_cases hp : p = true ∧ out ≠ []
      · rw [if_pos hp]; exact h.two hp.2 hb
      · rw [if_neg hp, List.append_nil]; exact h.one hb
theorem neat_norm (l : List UInt8) : Neat (normL l) := neat_normF l [] false neat_nil
theorem len_normF : ∀ (l out : List UInt8) (p : Bool), (normF out p l).length ≤ out.length + l.length + (if p = true then 1 else 0)
  | [], out, p => by show out.length ≤ out.length + 0 + _; omega
  | b :: t, out, p => by
    unfold normF
    rw [List.length_cons]
    by_cases hb : b = 32
    · rw [if_pos hb]
      have := len_normF t out true
      rw [if_pos rfl] at this
      omega
    · rw [if_neg hb]
      have := len_normF t (out ++ (if p = true ∧ out ≠ [] then [32] else []) ++ [b]) false
      rw [List.length_append, List.length_append, if_neg (show ¬ (false = true) by decide)] at this
      have e1 : (if p = true ∧ out ≠ [] then [32] else [] : List UInt8).length ≤ if p = true then 1 else 0 := by
        cases p
        · rw [if_neg (fun h => by cases h.1)]; exact Nat.zero_le _
        · split
          · exact Nat.le_refl _
          · exact Nat.zero_le _
      have e2 : [b].length = 1 := rfl
      omega
theorem len_norm (l : List UInt8) : (normL l).length ≤ l.length := by
  have := len_normF l [] false
  rw [if_neg (by decide)] at this
  have e : ([] : List UInt8).length = 0 := rfl
  show (normF [] false l).length ≤ _
  omega
/-- what is neat stays so -/
theorem norm_neat_at {t : List UInt8} (h : Neat t) : ∀ (m k : Nat), t.length = k + m → normF (t.take k) false (t.drop k) = t ∧ (0 < k → t[k - 1]? = some 32 → normF (t.take (k - 1)) true (t.drop k) = t)
  | 0, k, hm => by
    rw [List.drop_eq_nil_of_le (by omega), List.take_of_length_le (by omega)]
    refine ⟨rfl, fun hk h32 => ?_⟩
    have := (h _ h32).2.1
    omega
  | m + 1, k, hm => by
    have hk : k < t.length := by omega
    have ih := norm_neat_at h m (k + 1) (by omega)
    have hd : t.drop k = t[k] :: t.drop (k + 1) := List.drop_eq_getElem_cons hk
    have ht : t.take (k + 1) = t.take k ++ [t[k]] := (List.take_append_getElem hk).symm
    have hg : t[k]? = some t[k] := List.getElem?_eq_getElem hk
    rw [hd]
    constructor
    · unfold normF
      by_cases hb : t[k] = 32
      · rw [if_pos hb]
        have := ih.2 (by omega) (by rw [Nat.add_sub_cancel, hg, hb])
        rw [Nat.add_sub_cancel] at this
        exact this
      · rw [if_neg hb, if_neg (fun h => by cases h.1), List.append_nil, ← ht]
        exact ih.1
    · intro hk0 h32
      have hb : t[k] ≠ 32 := fun e => (h k (by rw [hg, e])).2.2 h32
      unfold normF
      have hne : t.take (k - 1) ≠ [] := by
        have := (h _ h32).1
        intro e
        have := congrArg List.length e
        rw [List.length_take, List.length_nil] at this
        omega
      rw [if_neg hb, if_pos ⟨rfl, hne⟩]
      have h2 : t.take (k - 1) ++ [32] = t.take k := by
        have hk1 : k - 1 < t.length := by omega
        have := List.take_append_getElem hk1
        rw [List.getElem?_eq_getElem hk1] at h32
        injection h32 with h32
        rw [h32, show k - 1 + 1 = k by omega] at this
        exact this
      rw [h2, ← ht]
      exact ih.1
theorem norm_norm (l : List UInt8) : normL (normL l) = normL l := by
  have := (norm_neat_at (neat_norm l) (normL l).length 0 (by omega)).1
  rw [List.take_zero, List.drop_zero] at this
  exact this
theorem noB_next {l : List UInt8} {i : Nat} (hi : i < l.length) : noB (l.take (i + 1)) = noB (l.take i) ++ (if l[i] = 32 then [] else [l[i]]) := by
  rw [← List.take_append_getElem hi, noB_app]
  congr 1
  unfold noB
  by_cases h : l[i] = 32
  · rw [List.filter_cons, if_pos h, if_neg (by simpa using h)]; rfl
  · rw [List.filter_cons, if_neg h, if_pos (by simpa using h)]; rfl
theorem byte_at (s : ByteArray) (i : Nat) (h : i < s.size) : s.extract i (i + 1) = bytes [s[i]'h] := by
  apply ByteArray.ext
  apply Array.ext'
  rw [ByteArray.data_extract, Array.toList_extract, List.extract_eq_take_drop, show i + 1 - i = 1 by omega]
  have hl : i < s.data.toList.length := by rw [Array.length_toList]; exact h
  rw [List.drop_eq_getElem_cons hl]
  rfl
theorem bytes_app (a b : List UInt8) : bytes a ++ bytes b = bytes (a ++ b) := ByteArray.ext (Array.ext' (by simp [bytes]))
set_option maxHeartbeats 8000000 in
set_option maxRecDepth 100000 in
theorem valblanks_any {E : Nat → World → Prop} {Is : (Nat → Prop) → World → Value → RefD → Prop} (R : RefsSaid Is) (S : ValSaid E Is) (n : Nat) (s : ByteArray) (w : World) (hE : E n w) (hn : n ≤ w.heap.size) :
    Calls Tryz.prog 6 #[.string s] w fun e w' => e = .returned (.bool true) ∧ Below w.heap.size w w' := by
  have HTOLD := Lib.hid (fun W (h : VAt E n w W) => told13_any R S n W h.e h.n_le)
  have HV := Lib.hid (show VAt E n w w from ⟨hE, hn, Below.refl _ _⟩)
  clear hE
  by_cases hs : 60 < s.size
  · have g1 : decide (60 < (s.size : Int)) = true := decide_eq_true (by omega)
    go_enter Tryz.func6, Tryz.ntmps6
    go_wp2_with fail
    refine (HTOLD.out _ HV.out).mono ?_
    rintro e w4 ⟨rfl, hb⟩
    go_wp2
    go_ret
    exact ⟨rfl, hb⟩
  have g1 : decide (60 < (s.size : Int)) = false := decide_eq_false (by omega)
  obtain ⟨l, hl⟩ : ∃ l : List UInt8, s.data.toList = l := ⟨_, rfl⟩
  have hs2 : s = bytes l := by rw [← hl]; rfl
  subst hs2
  clear hl
  rw [bytesL_len] at hs g1
  have e1 : ((bytes l).size : Int) = (l.length : Int) := by rw [bytesL_len]
  obtain ⟨t, ht⟩ : ∃ t, normL l = t := ⟨_, rfl⟩
  have hts : t.length ≤ l.length := by rw [← ht]; exact len_norm l
  have e2 : ((bytes t).size : Int) = (t.length : Int) := by rw [bytesL_len]
  have HT := Lib.hid ht
  clear ht
  go_enter Tryz.func6, Tryz.ntmps6
  go_wp2_with fail
  refine (vnormAt S l t _ rfl HT.out (by omega) HV.out).mono ?_
  rintro e w1 ⟨rfl, hv, hb1⟩
  replace HV := Lib.hid hv
  clear hv hb1
  go_wp2
  go_loopw [4, 6] (fun av iv wr => wr = w1 ∧ ∃ i : Nat, i ≤ l.length ∧ iv = .int .i64 i ∧ av = .string (bytes (noB (l.take i)))) (fun _ iv _ => l.length - (intOf iv).toNat)
  case atStart => exact ⟨rfl, 0, Nat.zero_le _, rfl, rfl⟩
  case round =>
    obtain ⟨rfl, i, hil, rfl, rfl⟩ := hrel
    by_cases hlt : i < l.length
    · have g2 : decide ((i : Int) < (l.length : Int)) = true := decide_eq_true (by omega)
      have hi' : i < (bytes l).size := by rw [bytesL_len]; exact hlt
      have hx : (bytes l)[i]'hi' = l[i]'hlt := rfl
      have HX := Lib.hid (byte_at (bytes l) i hi')
      rw [hx] at HX
      have HN := Lib.hid (noB_next hlt)
      have hfew : (noB (l.take i)).length ≤ 60 := Nat.le_trans (List.length_filter_le _ _) (by rw [List.length_take]; omega)
      have z1 : (9223372036854775807 < (bytes (noB (l.take i))).size + (min (i + 1) (bytes l).size - i)) = False := eq_false (by rw [bytesL_len, bytesL_len]; omega)
      by_cases hb : l[i]'hlt = 32
      · have g3 : ((((bytes l)[i]'hi').toNat : Int) != 32) = false := by rw [hx, hb]; rfl
        clear hx
        go_wp2
        go_roundw
        case rel => exact ⟨by trivial, i + 1, hlt, by go_num, by rw [HN.out, if_pos hb, List.append_nil]⟩
        case measure => simp [intOf]; omega
      · have g3 : ((((bytes l)[i]'hi').toNat : Int) != 32) = true := by
          rw [hx, bne_iff_ne]
          intro e
          exact hb (UInt8.toNat_inj.1 (show (l[i]'hlt).toNat = 32 by omega))
        clear hx
        go_wp2
        go_roundw
        case rel => exact ⟨by trivial, i + 1, hlt, by go_num, by rw [HN.out, if_neg hb, ← bytes_app, HX.out]⟩
        case measure => simp [intOf]; omega
    · have g2 : decide ((i : Int) < (l.length : Int)) = false := decide_eq_false (by omega)
      have hil2 : i = l.length := by omega
      subst hil2
      rw [List.take_length]
      have HNB : Hid (noB t = noB l) := Lib.hid (by rw [← HT.out]; exact noB_norm l)
      have HNT : Hid (Neat t) := Lib.hid (by rw [← HT.out]; exact neat_norm l)
      clear hlt hil
      go_wp2
      go_loopw [5, 7] (fun bv iv wr2 => wr2 = wr ∧ ∃ i : Nat, i ≤ t.length ∧ iv = .int .i64 i ∧ bv = .string (bytes (noB (t.take i)))) (fun _ iv _ => t.length - (intOf iv).toNat)
      case atStart => exact ⟨rfl, 0, Nat.zero_le _, rfl, rfl⟩
      case round =>
        obtain ⟨rfl, i, hil, rfl, rfl⟩ := hrel
        by_cases hlt : i < t.length
        · have g4 : decide ((i : Int) < (t.length : Int)) = true := decide_eq_true (by omega)
          have hi' : i < (bytes t).size := by rw [bytesL_len]; exact hlt
          have hx : (bytes t)[i]'hi' = t[i]'hlt := rfl
          have HX := Lib.hid (byte_at (bytes t) i hi')
          rw [hx] at HX
          have HN := Lib.hid (noB_next hlt)
          have hfew : (noB (t.take i)).length ≤ 60 := Nat.le_trans (List.length_filter_le _ _) (by rw [List.length_take]; omega)
          have z1 : (9223372036854775807 < (bytes (noB (t.take i))).size + (min (i + 1) (bytes t).size - i)) = False := eq_false (by rw [bytesL_len, bytesL_len]; omega)
          by_cases hb : t[i]'hlt = 32
          · have g3 : ((((bytes t)[i]'hi').toNat : Int) != 32) = false := by rw [hx, hb]; rfl
            obtain ⟨h1, h2, h3⟩ := HNT.out i (by rw [List.getElem?_eq_getElem hlt, hb])
            obtain ⟨j, rfl⟩ : ∃ j, i = j + 1 := ⟨i - 1, by omega⟩
            rw [Nat.add_sub_cancel] at h3
            have hj : j < (bytes t).size := by omega
            have hj2 : j < t.length := by omega
            have g5 : ((((bytes t)[j]'hj).toNat : Int) == 32) = false := by
              rw [beq_eq_false_iff_ne]
              intro e
              have : t[j]'hj2 = 32 := UInt8.toNat_inj.1 (by show ((bytes t)[j]'hj).toNat = 32; omega)
              exact h3 (by rw [List.getElem?_eq_getElem hj2, this])
            have g6 : ((j : Int) + 1 == 0) = false := by rw [beq_eq_false_iff_ne]; omega
            have g7 : ((j : Int) + 1 == (t.length : Int) - 1) = false := by rw [beq_eq_false_iff_ne]; omega
            have g8 : (j : Int) + 1 - 1 = (j : Int) := by omega
            clear hx
            go_wp2
            go_roundw
            case rel => exact ⟨by trivial, j + 1 + 1, hlt, by go_num, by rw [HN.out, if_pos hb, List.append_nil]⟩
            case measure => simp [intOf]; omega
          · have g3 : ((((bytes t)[i]'hi').toNat : Int) != 32) = true := by
              rw [hx, bne_iff_ne]
              intro e
              exact hb (UInt8.toNat_inj.1 (show (t[i]'hlt).toNat = 32 by omega))
            clear hx
            go_wp2
            go_roundw
            case rel => exact ⟨by trivial, i + 1, hlt, by go_num, by rw [HN.out, if_neg hb, ← bytes_app, HX.out]⟩
            case measure => simp [intOf]; omega
        · have g4 : decide ((i : Int) < (t.length : Int)) = false := decide_eq_false (by omega)
          have hil2 : i = t.length := by omega
          subst hil2
          rw [List.take_length, HNB.out]
          have g11 : decide ((t.length : Int) ≤ (l.length : Int)) = true := decide_eq_true (by omega)
          go_wp2_with fail
          refine (HTOLD.out _ HV.out).mono ?_
          rintro e w4 ⟨rfl, hb⟩
          replace HV := Lib.hid (HV.out.other S hb)
          clear hb
          go_wp2_with fail
          refine (vnormAt S t t _ rfl (by rw [← HT.out]; exact norm_norm l) (by omega) HV.out).mono ?_
          rintro e w5 ⟨rfl, hv, hb1⟩
          replace HV := Lib.hid hv
          clear hv hb1
          go_wp2
          go_ret
          exact ⟨rfl, HV.out.since⟩
end Go.Proofs.YtjijjmkeehdooaaGreatDoor
