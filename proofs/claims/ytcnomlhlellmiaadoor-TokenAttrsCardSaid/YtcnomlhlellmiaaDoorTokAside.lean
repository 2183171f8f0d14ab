/-
  LAYER 10: brackenlaw10.TokenAside, out of TokSaid: true for any text.
-/
import Derived.Test.YtcnomlhlellmiaaDoorTokTold
namespace Go.Proofs.YtcnomlhlellmiaaDoor
open Go.RowKit

/-- does w stand at one of the first i places? -/
def anyTo (w l : List UInt8) (i : Nat) : Bool := (List.range i).any fun j => swB w (l.drop j)
theorem any_next (w l : List UInt8) (i : Nat) : anyTo w l (i + 1) = (anyTo w l i || swB w (l.drop i)) := by
  unfold anyTo
  rw [List.range_succ, List.any_append]
  simp
theorem any_true {w l : List UInt8} {i : Nat} (h : anyTo w l i = true) : ∃ j, j < i ∧ swB w (l.drop j) = true := by
  unfold anyTo at h
  rw [List.any_eq_true] at h
  obtain ⟨j, hj, h2⟩ := h
  exact ⟨j, List.mem_range.1 hj, h2⟩
theorem any_false {w l : List UInt8} {i : Nat} (h : anyTo w l i = false) (j : Nat) (hj : j < i) : swB w (l.drop j) = false := by
  rw [Bool.eq_false_iff]
  intro e
  rw [Bool.eq_false_iff] at h
  apply h
  unfold anyTo
  rw [List.any_eq_true]
  exact ⟨j, List.mem_range.2 hj, e⟩
theorem sw_short {w l : List UInt8} (h : l.length < w.length) : swB w l = false := by
  rw [Bool.eq_false_iff]
  intro e
  have := sw_length e
  omega
theorem any_find {w l : List UInt8} {i : Nat} (hw : 2 ≤ w.length) (hi : l.length ≤ i + 1) (h : anyTo w l i = false) : findL w l = none :=
  find_none.2 fun j hj => by
    by_cases h1 : j < i
    · exact any_false h j h1
    · exact sw_short (by rw [List.length_drop]; omega)
/-- so many bytes of a text, against a word -/
theorem cut_is (s : ByteArray) (w : List UInt8) (i k : Nat) (hk : k = w.length) (h : i + k ≤ s.size) : ((s.extract i (i + k)).toList == w) = swB w (s.data.toList.drop i) := by
  subst hk
  have hl : s.data.toList.length = s.size := by rw [Array.length_toList]; rfl
  have e : (s.extract i (i + w.length)).toList = (s.data.toList.drop i).take w.length := by
    rw [ByteArray.toList_eq, ByteArray.data_extract, Array.toList_extract, List.extract_eq_take_drop, Nat.add_sub_cancel_left]
  rw [e, Bool.eq_iff_iff, beq_iff_eq]
  constructor
  · intro h2
    exact (sw_iff _ _).2 ⟨(s.data.toList.drop i).drop w.length, by rw [← h2, h2]; conv => lhs; rw [← List.take_append_drop w.length (s.data.toList.drop i), h2]⟩
  · exact sw_takes
theorem nextT_zero (A : ByteArray) (hA : 0 < A.size) : nextT A 0 = match nextL A.data.toList with
    | none => (tok0, 0, 2)
    | some (t, n) => (t, (n : Int), 0) := by
  unfold nextT
  rw [if_neg (by omega), if_neg (by omega)]
  show (match nextL (A.data.toList.drop 0) with | none => (tok0, (0 : Int), (2 : Int)) | some (t, n) => (t, (0 : Int) + n, (0 : Int))) = _
  rw [List.drop_zero]
  cases nextL A.data.toList with
  | none => rfl
  | some r => simp
theorem around_list (a b : Array UInt8) (s : ByteArray) : ((⟨a⟩ : ByteArray) ++ s ++ (⟨b⟩ : ByteArray)).data.toList = a.toList ++ s.data.toList ++ b.toList := by
  rw [ByteArray.data_append, ByteArray.data_append, Array.toList_append, Array.toList_append]
theorem around_size (a b : Array UInt8) (s : ByteArray) : ((⟨a⟩ : ByteArray) ++ s ++ (⟨b⟩ : ByteArray)).size = a.size + s.size + b.size := by
  rw [ByteArray.size_append, ByteArray.size_append]; rfl
theorem bytes_of (s : ByteArray) : bytes s.data.toList = s := rfl
theorem bytes_x (s : ByteArray) : bytes (120 :: s.data.toList) = (⟨#[120]⟩ : ByteArray) ++ s := by
  apply ByteArray.ext
  apply Array.ext'
  rw [ByteArray.data_append, Array.toList_append]
  rfl
def asideA (s : ByteArray) : ByteArray := ⟨#[60, 33, 45, 45]⟩ ++ s ++ ⟨#[45, 45, 62]⟩
def asideB (s : ByteArray) : ByteArray := ⟨#[60, 63, 113, 32, 120]⟩ ++ s ++ ⟨#[63, 62]⟩
def asideC (s : ByteArray) : ByteArray := ⟨#[60, 33, 91, 67, 68, 65, 84, 65, 91]⟩ ++ s ++ ⟨#[93, 93, 62]⟩
theorem aside_a (s : ByteArray) (d0 : Bool) (i : Nat) (hi : s.data.toList.length ≤ i + 1) (h1 : s.data.toList.length = 0 → d0 = false) (h2 : ∀ m, m + 1 = s.data.toList.length → (d0 = true ↔ s.data.toList[m]? = some 45)) (d : Bool) (hd : d = (d0 || anyTo [45, 45] s.data.toList i)) :
    ∃ (kd : Nat) (nm tx : ByteArray) (al : List (ByteArray × ByteArray)) (em : Bool) (to c : Int), nextT (asideA s) 0 = (⟨kd, nm, tx, al, em⟩, to, c) ∧ ((d = false ∧ c = 0 ∧ s = tx ∧ to = s.size + 7) ∨ (d = true ∧ c = 2) ∨ (d = true ∧ c = 0 ∧ tx ≠ s)) := by
  have hl : s.data.toList.length = s.size := by rw [Array.length_toList]; rfl
  have e0 := nextT_zero (asideA s) (by unfold asideA; rw [around_size]; show 0 < 4 + s.size + 3; omega)
  have e1 : (asideA s).data.toList = [60, 33, 45, 45] ++ s.data.toList ++ [45, 45, 62] := around_list _ _ s
  rw [e1, next_comment] at e0
  cases d with
  | false =>
    have hd' := hd.symm
    rw [Bool.or_eq_false_iff] at hd'
    have hn := any_find (w := [45, 45]) (by decide) hi hd'.2
    rw [comment_whole _ hn (fun k hk e => by
      have := (h2 k hk).2 e
      rw [hd'.1] at this
      cases this)] at e0
    exact ⟨_, _, _, _, _, _, _, e0, Or.inl ⟨rfl, rfl, rfl, by rw [hl]; omega⟩⟩
  | true =>
    have hp : (∃ j, j < s.data.toList.length ∧ swB [45, 45] (s.data.toList.drop j) = true) ∨ ∃ k, k + 1 = s.data.toList.length ∧ s.data.toList[k]? = some 45 := by
      have hd' := hd.symm
      rw [Bool.or_eq_true] at hd'
      rcases hd' with h | h
      · right
        by_cases hz : s.data.toList.length = 0
        · rw [h1 hz] at h; cases h
        · exact ⟨s.data.toList.length - 1, by omega, (h2 _ (by omega)).1 h⟩
      · left
        obtain ⟨j, _, h4⟩ := any_true h
        refine ⟨j, ?_, h4⟩
        have := sw_length h4
        rw [List.length_drop] at this
        simp at this
        omega
    cases hc : commentL ([60, 33, 45, 45] ++ s.data.toList ++ [45, 45, 62]) with
    | none =>
      rw [hc] at e0
      exact ⟨_, _, _, _, _, _, _, e0, Or.inr (Or.inl ⟨rfl, rfl⟩)⟩
    | some r =>
      obtain ⟨⟨kd, nm, tx, al, em⟩, k⟩ := r
      rw [hc] at e0
      have := comment_part _ hp _ _ hc
      exact ⟨_, _, _, _, _, _, _, e0, Or.inr (Or.inr ⟨rfl, rfl, fun e => by
        have h5 : tx.size < s.data.toList.length := this
        rw [e] at h5
        omega⟩)⟩
theorem aside_b (s : ByteArray) (i : Nat) (hi : s.data.toList.length ≤ i + 1) (p : Bool) (hp : p = anyTo [63, 62] s.data.toList i) :
    ∃ (kd : Nat) (nm tx : ByteArray) (al : List (ByteArray × ByteArray)) (em : Bool) (to c : Int), nextT (asideB s) 0 = (⟨kd, nm, tx, al, em⟩, to, c) ∧ (p = true ∨ (p = false ∧ ∃ m, m + 1 = s.size ∧ s.data.toList[m]? = some 63) ∨ (p = false ∧ (∀ m, m + 1 = s.size → s.data.toList[m]? ≠ some 63) ∧ c = 0 ∧ tx = ⟨#[120]⟩ ++ s ∧ to = s.size + 7)) := by
  have hl : s.data.toList.length = s.size := by rw [Array.length_toList]; rfl
  have e0 := nextT_zero (asideB s) (by unfold asideB; rw [around_size]; show 0 < 5 + s.size + 2; omega)
  have e1 : (asideB s).data.toList = [60, 63, 113, 32, 120] ++ s.data.toList ++ [63, 62] := around_list _ _ s
  by_cases h : p = false ∧ ∀ m, m + 1 = s.size → s.data.toList[m]? ≠ some 63
  · have hn := any_find (w := [63, 62]) (by decide) hi (hp.symm.trans h.1)
    rw [e1, next_pi _ hn (fun k hk => h.2 k (by omega))] at e0
    exact ⟨_, _, _, _, _, _, _, e0, Or.inr (Or.inr ⟨h.1, h.2, rfl, bytes_x s, by rw [hl]; omega⟩)⟩
  · rcases hr : nextT (asideB s) 0 with ⟨⟨kd, nm, tx, al, em⟩, to, c⟩
    refine ⟨kd, nm, tx, al, em, to, c, rfl, ?_⟩
    cases p with
    | true => exact Or.inl rfl
    | false =>
      right; left
      refine ⟨rfl, ?_⟩
      by_cases hx : ∃ m, m + 1 = s.size ∧ s.data.toList[m]? = some 63
      · exact hx
      · exact absurd ⟨rfl, fun m hm e => hx ⟨m, hm, e⟩⟩ h
theorem aside_c (s : ByteArray) (i : Nat) (hi : s.data.toList.length ≤ i + 1) (e : Bool) (he : e = anyTo [93, 93, 62] s.data.toList i) :
    ∃ (kd : Nat) (nm tx : ByteArray) (al : List (ByteArray × ByteArray)) (em : Bool) (to c : Int), nextT (asideC s) 0 = (⟨kd, nm, tx, al, em⟩, to, c) ∧ (e = true ∨ (e = false ∧ c = 0 ∧ s = tx ∧ to = s.size + 12)) := by
  have hl : s.data.toList.length = s.size := by rw [Array.length_toList]; rfl
  have e0 := nextT_zero (asideC s) (by unfold asideC; rw [around_size]; show 0 < 9 + s.size + 3; omega)
  have e1 : (asideC s).data.toList = [60, 33, 91, 67, 68, 65, 84, 65, 91] ++ s.data.toList ++ [93, 93, 62] := around_list _ _ s
  cases e with
  | false =>
    have hn := any_find (w := [93, 93, 62]) (by decide) hi he.symm
    rw [e1, next_cdata _ hn] at e0
    exact ⟨_, _, _, _, _, _, _, e0, Or.inr ⟨rfl, rfl, rfl, by rw [hl]; omega⟩⟩
  | true =>
    rcases hr : nextT (asideC s) 0 with ⟨⟨kd, nm, tx, al, em⟩, to, c⟩
    exact ⟨kd, nm, tx, al, em, to, c, rfl, Or.inl rfl⟩
theorem str_eq {t s : ByteArray} (h : t = s) : (t.toList == s.toList) = true := by rw [h]; exact beq_self_eq_true _
theorem str_ne {t s : ByteArray} (h : ¬ t = s) : (t.toList == s.toList) = false := beq_eq_false_iff_ne.2 fun e => h (by
  rw [ByteArray.toList_eq, ByteArray.toList_eq] at e
  cases t; cases s; congr 1; exact Array.toList_inj.1 e)
set_option maxHeartbeats 20000000 in
set_option maxRecDepth 100000 in
theorem tokaside_any {E : Nat → World → Prop} (S : TokSaid E) (n : Nat) (s : ByteArray) (w : World) (hE : E n w) (hn : n ≤ w.heap.size) :
    Calls Tryd.prog 7 #[.string s] w fun e w' => e = .returned (.bool true) ∧ Below w.heap.size w w' := by
  have HE := Lib.hid hE
  clear hE
  by_cases h60 : 60 < s.size
  · have g1 : decide (60 < s.size) = true := decide_eq_true h60
    have g2 : decide ((60 : Int) < (s.size : Int)) = true := decide_eq_true (by omega)
    go_enter Tryd.func7, Tryd.ntmps7
    go_wp2_with fail
    refine (told10_any S n w HE.out hn).mono ?_
    rintro e wz ⟨rfl, hb'⟩
    go_wp2
    go_ret
    exact ⟨rfl, hb'⟩
  have g1 : decide (60 < s.size) = false := decide_eq_false h60
  have g2 : decide ((60 : Int) < (s.size : Int)) = false := decide_eq_false (by omega)
  have hs60 : s.size ≤ 60 := by omega
  have hl : s.data.toList.length = s.size := by rw [Array.length_toList]; rfl
  have HL := Lib.hid hl
  -- the last byte
  have H0 : ∃ d0 : Bool, (s.size = 0 → d0 = false) ∧ ∀ m, m + 1 = s.size → (d0 = true ↔ s.data.toList[m]? = some 45) := by
    by_cases h : ∃ m, m + 1 = s.size ∧ s.data.toList[m]? = some 45
    · obtain ⟨m, h1, h2⟩ := h
      refine ⟨true, fun h => by omega, fun m' h' => ?_⟩
      obtain rfl : m = m' := by omega
      exact ⟨fun _ => h2, fun _ => rfl⟩
    · exact ⟨false, fun _ => rfl, fun m hm => ⟨fun h => absurd h (by decide), fun h2 => absurd ⟨m, hm, h2⟩ h⟩⟩
  obtain ⟨d0, hd1, hd2⟩ := H0
  have HD1 := Lib.hid hd1
  have HD2 := Lib.hid hd2
  go_enter Tryd.func7, Tryd.ntmps7
  refine Or.elim (Nat.eq_zero_or_pos s.size) (fun hz => ?empty) (fun hz => ?some)
  case' empty =>
    have hd0 : d0 = false := hd1 hz
    have HZ0 : Hid (false = (d0 || anyTo [45, 45] s.data.toList 0)) := Lib.hid (by rw [hd0]; rfl)
    clear hd0
    have g3 : decide (0 < s.size) = false := decide_eq_false (by omega)
    have g4 : decide ((0 : Int) < (s.size : Int)) = false := decide_eq_false (by omega)
    clear hd1 hd2
    go_wp2
  case' some =>
    obtain ⟨m, hm⟩ : ∃ m, m + 1 = s.size := ⟨s.size - 1, by omega⟩
    have hms : m < s.size := by omega
    have e1 : (s.size : Int) - 1 = (m : Int) := by omega
    have g3 : decide (0 < s.size) = true := decide_eq_true (by omega)
    have g4 : decide ((0 : Int) < (s.size : Int)) = true := decide_eq_true (by omega)
    have hb : (((s[m]'hms).toNat : Int) == 45) = d0 := by
      rw [Bool.eq_iff_iff, hd2 m hm, beq_iff_eq, List.getElem?_eq_getElem (by rw [hl]; exact hms)]
      constructor
      · intro h
        have h2 : (s[m]'hms).toNat = 45 := by omega
        congr 1
        exact UInt8.toNat_inj.1 h2
      · intro h
        injection h with h
        have h2 : (s[m]'hms).toNat = (45 : UInt8).toNat := congrArg UInt8.toNat h
        have h3 : (45 : UInt8).toNat = 45 := rfl
        omega
    have HZ0 : Hid (d0 = (d0 || anyTo [45, 45] s.data.toList 0)) := Lib.hid (by simp [anyTo])
    clear hd1 hd2
    go_wp2
    clear hb e1 hm
  all_goals
    (go_loop [3, 4, 5, 6] (fun dv pv ev iv => ∃ (i : Nat) (d p e : Bool), (i = 0 ∨ i + 1 ≤ s.size) ∧ iv = .int .i64 i ∧ dv = .bool d ∧ pv = .bool p ∧ ev = .bool e ∧ Hid (d = (d0 || anyTo [45, 45] s.data.toList i)) ∧ Hid (p = anyTo [63, 62] s.data.toList i) ∧ Hid (e = anyTo [93, 93, 62] s.data.toList i)) (fun _ _ _ iv => s.size - (intOf iv).toNat)
     case atStart => exact ⟨0, _, _, _, Or.inl rfl, rfl, rfl, rfl, rfl, HZ0, Lib.hid rfl, Lib.hid rfl⟩
     case round =>
       obtain ⟨i, d, p, e, hil, rfl, rfl, rfl, rfl, HD, HP, HT⟩ := hrel
       by_cases hlt : i + 1 < s.size
       · first
         | (exfalso; omega)
         | (have g5 : decide ((i : Int) + 1 < (s.size : Int)) = true := decide_eq_true (by omega)
            have q1 : (i : Int) ≤ (i : Int) + 2 := by omega
            have q2 : (i : Int) + 2 ≤ (s.size : Int) := by omega
            obtain ⟨x1, hx1⟩ : ∃ x, ((s.extract i (i + 2)).toList == [45, 45]) = x := ⟨_, rfl⟩
            obtain ⟨x2, hx2⟩ : ∃ x, ((s.extract i (i + 2)).toList == [63, 62]) = x := ⟨_, rfl⟩
            obtain ⟨x3, hx3⟩ : ∃ x, ((s.extract i (i + 3)).toList == [93, 93, 62]) = x := ⟨_, rfl⟩
            have HD' : Hid ((d || x1) = (d0 || anyTo [45, 45] s.data.toList (i + 1))) := Lib.hid (by rw [any_next, ← Bool.or_assoc, ← HD.out, ← hx1, cut_is s [45, 45] i 2 rfl (by omega)])
            have HP' : Hid ((p || x2) = anyTo [63, 62] s.data.toList (i + 1)) := Lib.hid (by rw [any_next, ← HP.out, ← hx2, cut_is s [63, 62] i 2 rfl (by omega)])
            by_cases h3 : i + 2 < s.size
            · have HT' : Hid ((e || x3) = anyTo [93, 93, 62] s.data.toList (i + 1)) := Lib.hid (by rw [any_next, ← HT.out, ← hx3, cut_is s [93, 93, 62] i 3 rfl (by omega)])
              have g6 : decide ((i : Int) + 2 < (s.size : Int)) = true := decide_eq_true (by omega)
              have q3 : (i : Int) ≤ (i : Int) + 3 := by omega
              have q4 : (i : Int) + 3 ≤ (s.size : Int) := by omega
              cases d <;> cases p <;> cases e <;>
                (go_wp2
                 go_round
                 case rel => exact ⟨i + 1, _, _, _, Or.inr (by omega), by go_num, rfl, rfl, rfl, HD', HP', HT'⟩
                 case measure => simp [intOf]; omega)
            · have HT' : Hid (e = anyTo [93, 93, 62] s.data.toList (i + 1)) := Lib.hid (by rw [any_next, ← HT.out, sw_short (by rw [List.length_drop, HL.out]; show s.size - i < 3; omega), Bool.or_false])
              have g6 : decide ((i : Int) + 2 < (s.size : Int)) = false := decide_eq_false (by omega)
              cases d <;> cases p <;> cases e <;>
                (go_wp2
                 go_round
                 case rel => exact ⟨i + 1, _, _, _, Or.inr (by omega), by go_num, rfl, rfl, rfl, HD', HP', HT'⟩
                 case measure => simp [intOf]; omega))
       · have hi : s.data.toList.length ≤ i + 1 := by rw [HL.out]; omega
         obtain ⟨kda, nma, txa, ala, ema, toa, ca, hA, hA2⟩ := aside_a s d0 i hi (fun h => HD1.out (by rw [← HL.out]; exact h)) (fun m hm => HD2.out m (by rw [← HL.out]; exact hm)) d HD.out
         obtain ⟨kdb, nmb, txb, alb, emb, tob, cb, hB, hB2⟩ := aside_b s i hi p HP.out
         obtain ⟨kdc, nmc, txc, alc, emc, toc, cc, hC, hC2⟩ := aside_c s i hi e HT.out
         have hAs : (asideA s).size ≤ 100000 := by unfold asideA; rw [around_size]; show 4 + s.size + 3 ≤ 100000; omega
         have hBs : (asideB s).size ≤ 100000 := by unfold asideB; rw [around_size]; show 5 + s.size + 2 ≤ 100000; omega
         have hCs : (asideC s).size ≤ 100000 := by unfold asideC; rw [around_size]; show 9 + s.size + 3 ≤ 100000; omega
         have H := Lib.hid (show KAt E n w w from ⟨HE.out, hn, Below.refl _ _⟩)
         have CA := Lib.hid (fun W (h : KAt E n w W) => knextAt S (asideA s) 0 toa ca kda nma txa ala ema hA (kda : Int) rfl ala.length rfl hAs (fits10 _) h)
         have CB := Lib.hid (fun W (h : KAt E n w W) => knextAt S (asideB s) 0 tob cb kdb nmb txb alb emb hB (kdb : Int) rfl alb.length rfl hBs (fits10 _) h)
         have CC := Lib.hid (fun W (h : KAt E n w W) => knextAt S (asideC s) 0 toc cc kdc nmc txc alc emc hC (kdc : Int) rfl alc.length rfl hCs (fits10 _) h)
         unfold asideA at CA
         unfold asideB at CB
         unfold asideC at CC
         clear hA hB hC hAs hBs hCs HD HP HT hi
         have HA2 := Lib.hid hA2
         have HB2 := Lib.hid hB2
         have HC2 := Lib.hid hC2
         clear hA2 hB2 hC2
         go_wp2_with fail
         refine (CA.out _ H.out).mono ?_
         rintro e1 w1 ⟨aa, capa, rfl, _, h, _⟩
         have HXa := Lib.hid (fun W (h : Below (w1.alloc (.cells #[.int .i64 (kda : Int), .string nma, .string txa, .slice aa ala.length capa, .bool ema] 27)).heap.size (w1.alloc (.cells #[.int .i64 (kda : Int), .string nma, .string txa, .slice aa ala.length capa, .bool ema] 27)) W) => (box_tok w1 _ _ _ _ _ _ W h).2.2.1)
         replace H := Lib.hid (h.other S ((Below.refl _ _).alloc (Nat.le_refl _) (.cells #[.int .i64 (kda : Int), .string nma, .string txa, .slice aa ala.length capa, .bool ema] 27)))
         clear h CA
         go_wp2_with fail
         refine (CB.out _ H.out).mono ?_
         rintro e2 w2 ⟨ab, capb, rfl, _, h, hb⟩
         have hb2 := hb.alloc hb.size (.cells #[.int .i64 (kdb : Int), .string nmb, .string txb, .slice ab alb.length capb, .bool emb] 27)
         have HXb := Lib.hid (fun W (h : Below (w2.alloc (.cells #[.int .i64 (kdb : Int), .string nmb, .string txb, .slice ab alb.length capb, .bool emb] 27)).heap.size (w2.alloc (.cells #[.int .i64 (kdb : Int), .string nmb, .string txb, .slice ab alb.length capb, .bool emb] 27)) W) => (box_tok w2 _ _ _ _ _ _ W h).2.2.1)
         replace HXa := Lib.hid (fun W (h : Below (w2.alloc (.cells #[.int .i64 (kdb : Int), .string nmb, .string txb, .slice ab alb.length capb, .bool emb] 27)).heap.size (w2.alloc (.cells #[.int .i64 (kdb : Int), .string nmb, .string txb, .slice ab alb.length capb, .bool emb] 27)) W) => HXa.out W (hb2.trans (h.mono hb2.size)))
         replace H := Lib.hid (h.other S ((Below.refl _ _).alloc (Nat.le_refl _) (.cells #[.int .i64 (kdb : Int), .string nmb, .string txb, .slice ab alb.length capb, .bool emb] 27)))
         clear h CB hb hb2
         go_wp2_with fail
         refine (CC.out _ H.out).mono ?_
         rintro e3 w3 ⟨ac, capc, rfl, _, h, hb⟩
         have hb2 := hb.alloc hb.size (.cells #[.int .i64 (kdc : Int), .string nmc, .string txc, .slice ac alc.length capc, .bool emc] 27)
         have k3 := fun W (h : Below (w3.alloc (.cells #[.int .i64 (kdc : Int), .string nmc, .string txc, .slice ac alc.length capc, .bool emc] 27)).heap.size (w3.alloc (.cells #[.int .i64 (kdc : Int), .string nmc, .string txc, .slice ac alc.length capc, .bool emc] 27)) W) => (box_tok w3 _ _ _ _ _ _ W h).2.2.1
         have k1 := HXa.out _ hb2
         have k2 := HXb.out _ hb2
         have HK3 := Lib.hid k3
         clear k3
         have HKA := Lib.hid (h.other S ((Below.refl _ _).alloc (Nat.le_refl _) (.cells #[.int .i64 (kdc : Int), .string nmc, .string txc, .slice ac alc.length capc, .bool emc] 27)))
         clear h CC hb hb2 HXa HXb H
         have jx := str_eq (t := s) rfl
         have jy := str_eq (t := (⟨#[120]⟩ : ByteArray) ++ s) rfl
         rcases Nat.eq_zero_or_pos s.size with hz0 | hz0
         · first
           | (exfalso; omega)
           | (have g7 : decide (0 < s.size) = false := decide_eq_false (by omega)
              have g8 : decide ((0 : Int) < (s.size : Int)) = false := decide_eq_false (by omega)
              have g9 : (s.size == 0) = true := beq_iff_eq.2 hz0
              have g10 : ((s.size : Int) == 0) = true := beq_iff_eq.2 (by omega)
              have HBZ : Hid (p = true ∨ (p = false ∧ cb = 0 ∧ txb = ⟨#[120]⟩ ++ s ∧ tob = s.size + 7)) := Lib.hid (by
                rcases HB2.out with h | ⟨_, m, hm, _⟩ | ⟨h1, _, h2, h3, h4⟩
                · exact Or.inl h
                · omega
                · exact Or.inr ⟨h1, h2, h3, h4⟩)
              clear HB2
              rcases HA2.out with ⟨rfl, rfl, rfl, rfl⟩ | ⟨rfl, rfl⟩ | ⟨rfl, rfl, hx⟩
              all_goals (try have jz := str_ne hx)
              all_goals (clear HA2; rcases HBZ.out with rfl | ⟨rfl, rfl, rfl, rfl⟩)
              all_goals
                (clear HBZ
                 go_wp2_with fail
                 refine (told10_any S n _ HKA.out.e HKA.out.n_le).mono ?_
                 rintro e4 w4 ⟨rfl, hb4⟩
                 have kc := HK3.out w4 hb4
                 have HF := Lib.hid (HKA.out.since.trans (hb4.mono HKA.out.since.size))
                 clear hb4 k1 k2
                 rcases HC2.out with rfl | ⟨rfl, rfl, rfl, rfl⟩
                 all_goals
                   (clear HC2
                    go_wp2
                    go_ret
                    exact ⟨rfl, HF.out⟩)))
         · first
           | (exfalso; omega)
           | (obtain ⟨m, hm⟩ : ∃ m, m + 1 = s.size := ⟨s.size - 1, by omega⟩
              have hms : m < s.size := by omega
              have e1 : (s.size : Int) - 1 = (m : Int) := by omega
              have g7 : decide (0 < s.size) = true := decide_eq_true hz0
              have g8 : decide ((0 : Int) < (s.size : Int)) = true := decide_eq_true (by omega)
              have g9 : (s.size == 0) = false := beq_eq_false_iff_ne.2 (by omega)
              have g10 : ((s.size : Int) == 0) = false := beq_eq_false_iff_ne.2 (by omega)
              have hbyte : s.data.toList[m]? = some (s[m]'hms) := by rw [List.getElem?_eq_getElem (by rw [HL.out]; exact hms)]; rfl
              have HBZ : Hid (p = true ∨ (p = false ∧ (s[m]'hms).toNat = 63) ∨ (p = false ∧ ¬ (s[m]'hms).toNat = 63 ∧ cb = 0 ∧ txb = ⟨#[120]⟩ ++ s ∧ tob = s.size + 7)) := Lib.hid (by
                rcases HB2.out with h | ⟨h, m', hm', h2⟩ | ⟨h1, h5, h2, h3, h4⟩
                · exact Or.inl h
                · obtain rfl : m = m' := by omega
                  rw [hbyte] at h2
                  injection h2 with h2
                  exact Or.inr (Or.inl ⟨h, by rw [h2]; rfl⟩)
                · refine Or.inr (Or.inr ⟨h1, fun h6 => h5 m hm ?_, h2, h3, h4⟩)
                  rw [hbyte]
                  congr 1
                  exact UInt8.toNat_inj.1 h6)
              clear HB2 hbyte
              rcases HA2.out with ⟨rfl, rfl, rfl, rfl⟩ | ⟨rfl, rfl⟩ | ⟨rfl, rfl, hx⟩
              all_goals (try have jz := str_ne hx)
              all_goals (clear HA2; rcases HBZ.out with rfl | ⟨rfl, hq⟩ | ⟨rfl, hq, rfl, rfl, rfl⟩)
              all_goals clear HBZ
              all_goals (try have g11 : (((s[m]'hms).toNat : Int) == 63) = true := beq_iff_eq.2 (by omega))
              all_goals (try have g12 : (((s[m]'hms).toNat : Int) == 63) = false := beq_eq_false_iff_ne.2 (by omega))
              all_goals
                (go_wp2_with fail
                 refine (told10_any S n _ HKA.out.e HKA.out.n_le).mono ?_
                 rintro e4 w4 ⟨rfl, hb4⟩
                 have kc := HK3.out w4 hb4
                 have HF := Lib.hid (HKA.out.since.trans (hb4.mono HKA.out.since.size))
                 clear hb4 k1 k2
                 rcases HC2.out with rfl | ⟨rfl, rfl, rfl, rfl⟩
                 · clear HC2
                   go_wp2
                   go_ret
                   exact ⟨rfl, HF.out⟩
                 · clear HC2
                   by_cases hr : (s[m]'hms).toNat = 93
                   · first
                     | (exfalso; omega)
                     | (have g13 : (((s[m]'hms).toNat : Int) == 93) = true := beq_iff_eq.2 (by omega)
                        go_wp2
                        go_ret
                        exact ⟨rfl, HF.out⟩)
                   · have g13 : (((s[m]'hms).toNat : Int) == 93) = false := beq_eq_false_iff_ne.2 (by omega)
                     go_wp2
                     go_ret
                     exact ⟨rfl, HF.out⟩)))
end Go.Proofs.YtcnomlhlellmiaaDoor
