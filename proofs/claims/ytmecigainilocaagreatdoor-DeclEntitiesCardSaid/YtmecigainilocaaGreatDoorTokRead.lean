/-
  PLAIN MATHEMATICS FOR LAYER 10: what a reader that goes over a text from the left takes (while, up to a mark, a name), and that it comes to the document's pieces.
-/
import Derived.Test.YtmecigainilocaaGreatDoorTokLaws
import Derived.Lib.IndexMore
import Derived.Lib.MapLaws
namespace Go.Proofs.YtmecigainilocaaGreatDoor
open Go Go.Lib

/-- how many bytes of characters that are so stand ahead -/
def whL (p : Int → Bool) : Nat → List UInt8 → Nat
  | 0, _ => 0
  | f + 1, l => if l = [] then 0 else if p ((decodeL l).1 : Int) = true then (decodeL l).2 + whL p f (l.drop (decodeL l).2) else 0
def whN (p : Int → Bool) (l : List UInt8) : Nat := whL p l.length l
theorem whL_nil (p : Int → Bool) : ∀ f, whL p f [] = 0
  | 0 => rfl
  | _ + 1 => by simp [whL]
theorem whL_fuel (p : Int → Bool) : ∀ (n m : Nat) (l : List UInt8), l.length ≤ n → l.length ≤ m → whL p n l = whL p m l
  | 0, m, l, hn, _ => by
    obtain rfl : l = [] := List.eq_nil_of_length_eq_zero (by omega)
    rw [whL_nil, whL_nil]
  | n + 1, 0, l, _, hm => by
    obtain rfl : l = [] := List.eq_nil_of_length_eq_zero (by omega)
    rw [whL_nil, whL_nil]
  | n + 1, m + 1, l, hn, hm => by
    unfold whL
    by_cases hne : l = []
    · simp [hne]
    · have hw := decodeL_width l
      have hl : 0 < l.length := List.length_pos_iff.2 hne
      rw [if_neg hne, if_neg hne, whL_fuel p n m (l.drop (decodeL l).2) (by rw [List.length_drop]; omega) (by rw [List.length_drop]; omega)]
theorem whN_nil (p : Int → Bool) : whN p [] = 0 := rfl
theorem whN_step (p : Int → Bool) (l : List UInt8) (hne : l ≠ []) : whN p l = if p ((decodeL l).1 : Int) = true then (decodeL l).2 + whN p (l.drop (decodeL l).2) else 0 := by
  have hl : 0 < l.length := List.length_pos_iff.2 hne
  have hw := decodeL_width l
  obtain ⟨n, hn⟩ : ∃ n, l.length = n + 1 := ⟨l.length - 1, by omega⟩
  unfold whN
  rw [hn]
  show (if l = [] then 0 else _) = _
  rw [if_neg hne, whL_fuel p n (l.drop (decodeL l).2).length _ (by rw [List.length_drop]; omega) (Nat.le_refl _)]
theorem whN_le (p : Int → Bool) : ∀ (n : Nat) (l : List UInt8), l.length ≤ n → whN p l ≤ l.length
  | 0, l, h => by
    obtain rfl : l = [] := List.eq_nil_of_length_eq_zero (by omega)
    exact Nat.le_refl _
  | n + 1, l, h => by
    by_cases hne : l = []
    · subst hne; exact Nat.le_refl _
    · have hw := decodeL_width l
      have hle := decodeL_le l hne
      rw [whN_step p l hne]
      split
      · have := whN_le p n (l.drop (decodeL l).2) (by rw [List.length_drop]; omega)
        rw [List.length_drop] at this
        omega
      · exact Nat.zero_le _
theorem wh_le (p : Int → Bool) (l : List UInt8) : whN p l ≤ l.length := whN_le p _ l (Nat.le_refl _)

/-! ### characters above 127 -/
theorem decodeL_high {l : List UInt8} (_ : l ≠ []) (hb : 128 ≤ (l.getD 0 0).toNat) : 128 ≤ (decodeL l).1 ∧ ∀ j, j < (decodeL l).2 → 128 ≤ (l.getD j 0).toNat := by
  rw [decodeL_N]
  rcases decodeN_shape l.length (l.getD 0 0).toNat (l.getD 1 0).toNat (l.getD 2 0).toNat (l.getD 3 0).toNat with ⟨c, e⟩ | ⟨c1, c2, c3, cv, e⟩ | ⟨c1, c2, c3, c4, cv, cs, e⟩ | ⟨c1, c2, c3, c4, c5, cv, cw, e⟩ | e
  · omega
  · rw [e]
    refine ⟨cv, fun j (hj : j < 2) => ?_⟩
    rcases (show j = 0 ∨ j = 1 by omega) with rfl | rfl <;> omega
  · rw [e]
    refine ⟨by show 128 ≤ _ ; omega, fun j (hj : j < 3) => ?_⟩
    rcases (show j = 0 ∨ j = 1 ∨ j = 2 by omega) with rfl | rfl | rfl <;> omega
  · rw [e]
    refine ⟨by show 128 ≤ _ ; omega, fun j (hj : j < 4) => ?_⟩
    rcases (show j = 0 ∨ j = 1 ∨ j = 2 ∨ j = 3 by omega) with rfl | rfl | rfl | rfl <;> omega
  · rw [e]
    refine ⟨by decide, fun j (hj : j < 1) => ?_⟩
    rcases (show j = 0 by omega) with rfl
    exact hb
/-- how many bytes that are so stand ahead -/
def leadN (q : UInt8 → Bool) : List UInt8 → Nat
  | [] => 0
  | b :: t => if q b = true then leadN q t + 1 else 0
theorem lead_skip (q : UInt8 → Bool) : ∀ (w : Nat) (l : List UInt8), w ≤ l.length → (∀ j, j < w → q (l.getD j 0) = true) → leadN q l = w + leadN q (l.drop w)
  | 0, l, _, _ => by simp
  | w + 1, [], h, _ => by simp at h
  | w + 1, b :: t, h, hq => by
    have h0 : q b = true := hq 0 (by omega)
    show (if q b = true then leadN q t + 1 else 0) = w + 1 + leadN q (t.drop w)
    rw [if_pos h0, lead_skip q w t (by simpa using h) (fun j hj => hq (j + 1) (by omega))]
    omega
theorem wh_lead_in (p : Int → Bool) (q : UInt8 → Bool) (ha : ∀ b : UInt8, b.toNat < 128 → p (b.toNat : Int) = q b) (hp : ∀ c : Int, 128 ≤ c → p c = true) (hq : ∀ b : UInt8, 128 ≤ b.toNat → q b = true) :
    ∀ (n : Nat) (l : List UInt8), l.length ≤ n → whN p l = leadN q l
  | 0, l, h => by
    obtain rfl : l = [] := List.eq_nil_of_length_eq_zero (by omega)
    rfl
  | n + 1, l, h => by
    match l, h with
    | [], _ => rfl
    | b :: t, h =>
      have hne : b :: t ≠ [] := by simp
      have hw := decodeL_width (b :: t)
      have hle := decodeL_le (b :: t) hne
      have ih := wh_lead_in p q ha hp hq n ((b :: t).drop (decodeL (b :: t)).2) (by rw [List.length_drop]; omega)
      rw [whN_step p _ hne, ih]
      by_cases hb : b.toNat < 128
      · rw [decodeL_ascii b t hb]
        show (if p (b.toNat : Int) = true then 1 + leadN q t else 0) = (if q b = true then leadN q t + 1 else 0)
        rw [ha b hb, Nat.add_comm]
      · obtain ⟨h1, h2⟩ := decodeL_high hne (by show 128 ≤ b.toNat; omega)
        rw [if_pos (hp _ (by omega))]
        exact (lead_skip q _ _ hle fun j hj => hq _ (h2 j hj)).symm
theorem wh_lead_out (p : Int → Bool) (q : UInt8 → Bool) (ha : ∀ b : UInt8, b.toNat < 128 → p (b.toNat : Int) = q b) (hp : ∀ c : Int, 128 ≤ c → p c = false) (hq : ∀ b : UInt8, 128 ≤ b.toNat → q b = false) :
    ∀ (n : Nat) (l : List UInt8), l.length ≤ n → whN p l = leadN q l
  | 0, l, h => by
    obtain rfl : l = [] := List.eq_nil_of_length_eq_zero (by omega)
    rfl
  | n + 1, l, h => by
    match l, h with
    | [], _ => rfl
    | b :: t, h =>
      have hne : b :: t ≠ [] := by simp
      have hw := decodeL_width (b :: t)
      have ih := wh_lead_out p q ha hp hq n ((b :: t).drop (decodeL (b :: t)).2) (by rw [List.length_drop]; omega)
      rw [whN_step p _ hne, ih]
      by_cases hb : b.toNat < 128
      · rw [decodeL_ascii b t hb]
        show (if p (b.toNat : Int) = true then 1 + leadN q t else 0) = (if q b = true then leadN q t + 1 else 0)
        rw [ha b hb, Nat.add_comm]
      · obtain ⟨h1, _⟩ := decodeL_high hne (by show 128 ≤ b.toNat; omega)
        rw [if_neg (by rw [hp _ (by omega)]; decide)]
        show 0 = (if q b = true then _ else 0)
        rw [if_neg (by rw [hq b (by omega)]; decide)]
theorem lead_at (q : UInt8 → Bool) : ∀ (l : List UInt8) (j : Nat), j < leadN q l → ∃ b, l[j]? = some b ∧ q b = true
  | [], j, h => by simp [leadN] at h
  | b :: t, j, h => by
    unfold leadN at h
    split at h
    · rename_i hb
      cases j with
      | zero => exact ⟨b, rfl, hb⟩
      | succ j => exact lead_at q t j (by omega)
    · omega
theorem lead_stop (q : UInt8 → Bool) : ∀ (l : List UInt8) (b : UInt8), l[leadN q l]? = some b → q b = false
  | [], b, h => by simp at h
  | a :: t, b, h => by
    unfold leadN at h
    split at h
    · exact lead_stop q t b (by simpa using h)
    · rename_i ha
      simp only [List.getElem?_cons_zero] at h
      injection h with h
      subst h
      rw [Bool.eq_false_iff]; exact ha
theorem lead_le (q : UInt8 → Bool) : ∀ l : List UInt8, leadN q l ≤ l.length
  | [] => Nat.le_refl _
  | b :: t => by
    unfold leadN
    split
    · have := lead_le q t; simp; exact this
    · exact Nat.zero_le _

/-! ### spaces, texts -/
theorem gap_lead : ∀ l : List UInt8, gapL l = leadN spaceU l
  | [] => rfl
  | b :: t => by unfold gapL leadN; rw [gap_lead t]
theorem wh_space (l : List UInt8) : whN spaceB l = gapL l := by
  rw [gap_lead]
  refine wh_lead_out spaceB spaceU (fun b _ => rfl) (fun c hc => ?_) (fun b hb => ?_) _ l (Nat.le_refl _)
  · rw [Bool.eq_false_iff]; intro e; have := space_ascii e; omega
  · unfold spaceU
    rw [Bool.eq_false_iff]; intro e; have := space_ascii e; omega
def textP (c : Int) : Bool := (c != 60) && (c != 38)
theorem plain_lead : ∀ l : List UInt8, plainN l = leadN (fun b => decide (¬ (b = 60 ∨ b = 38))) l
  | [] => rfl
  | b :: t => by
    unfold plainN leadN
    rw [plain_lead t]
    by_cases h : b = 60 ∨ b = 38
    · rw [if_pos h, if_neg (by simp [h])]
    · rw [if_neg h, if_pos (by simp only [decide_eq_true_eq]; exact h)]
theorem byte_eq {b : UInt8} {k : Nat} (hk : k < 256) : b = UInt8.ofNat k ↔ b.toNat = k := by
  constructor
  · rintro rfl
    rw [UInt8.toNat_ofNat']
    exact Nat.mod_eq_of_lt hk
  · intro h
    apply UInt8.toNat_inj.1
    rw [h, UInt8.toNat_ofNat', Nat.mod_eq_of_lt hk]
theorem wh_text (l : List UInt8) : whN textP l = plainN l := by
  rw [plain_lead]
  refine wh_lead_in textP _ (fun b _ => ?_) (fun c hc => ?_) (fun b hb => ?_) _ l (Nat.le_refl _)
  · have h60 : b = 60 ↔ b.toNat = 60 := byte_eq (by decide)
    have h38 : b = 38 ↔ b.toNat = 38 := byte_eq (by decide)
    unfold textP
    rw [Bool.eq_iff_iff]
    simp only [Bool.and_eq_true, bne_iff_ne, decide_eq_true_eq, h60, h38]
    omega
  · unfold textP
    simp only [Bool.and_eq_true, bne_iff_ne]
    omega
  · have h60 : b = 60 ↔ b.toNat = 60 := byte_eq (by decide)
    have h38 : b = 38 ↔ b.toNat = 38 := byte_eq (by decide)
    simp only [decide_eq_true_eq, h60, h38]
    omega
/-- an attribute's value: up to its quote, or to a sign -/
def valP (q : Nat) (c : Int) : Bool := (c != (q : Int)) && (c != 60)
def valU (q : UInt8) (b : UInt8) : Bool := decide (b ≠ q ∧ b ≠ 60)
theorem wh_val (q : UInt8) (hq : q.toNat < 128) (l : List UInt8) : whN (valP q.toNat) l = leadN (valU q) l := by
  have h60 : ∀ b : UInt8, b = 60 ↔ b.toNat = 60 := fun b => byte_eq (by decide)
  have hqq : ∀ b : UInt8, b = q ↔ b.toNat = q.toNat := fun b => UInt8.toNat_inj.symm
  refine wh_lead_in (valP q.toNat) (valU q) (fun b _ => ?_) (fun c hc => ?_) (fun b hb => ?_) _ l (Nat.le_refl _)
  · unfold valP valU
    rw [Bool.eq_iff_iff]
    simp only [Bool.and_eq_true, bne_iff_ne, decide_eq_true_eq, ne_eq, h60, hqq]
    omega
  · unfold valP
    simp only [Bool.and_eq_true, bne_iff_ne]
    omega
  · unfold valU
    simp only [decide_eq_true_eq, ne_eq, h60, hqq]
    omega
theorem sw_one {a : UInt8} {l : List UInt8} : swB [a] l = true ↔ l[0]? = some a := by
  rw [sw_iff]
  constructor
  · rintro ⟨t, rfl⟩; rfl
  · intro h
    match l, h with
    | x :: t, h =>
      simp at h
      exact ⟨t, by rw [h]; rfl⟩
theorem val_is (q : UInt8) (t : List UInt8) :
    ((findL [q] t).bind fun k => if (t.take k).contains 60 = true then none else some k) = if swB [q] (t.drop (leadN (valU q) t)) = true then some (leadN (valU q) t) else none := by
  have hle := lead_le (valU q) t
  have hat := lead_at (valU q) t
  have hst := lead_stop (valU q) t
  generalize leadN (valU q) t = m at *
  have ahead : ∀ j, j < m → swB [q] (t.drop j) = false := fun j hj => by
    rw [Bool.eq_false_iff]
    intro e
    rw [sw_one, List.getElem?_drop] at e
    obtain ⟨b, h1, h2⟩ := hat j hj
    rw [show j + 0 = j by omega, h1] at e
    injection e with e
    unfold valU at h2
    exact (of_decide_eq_true h2).1 e
  by_cases hs : swB [q] (t.drop m) = true
  · rw [if_pos hs]
    have hm : m < t.length := by
      have := sw_length hs
      rw [List.length_drop] at this
      simp at this
      omega
    rw [find_at hm hs ahead, Option.bind_some, if_neg]
    rw [List.contains_iff_mem]
    intro hmem
    obtain ⟨j, hj⟩ := List.mem_iff_getElem?.1 hmem
    rw [List.getElem?_take] at hj
    split at hj
    · rename_i hjm
      obtain ⟨b, h1, h2⟩ := hat j hjm
      rw [h1] at hj
      injection hj with hj
      unfold valU at h2
      exact (of_decide_eq_true h2).2 hj
    · cases hj
  · rw [if_neg hs]
    cases hf : findL [q] t with
    | none => rfl
    | some k =>
      obtain ⟨h1, h2, h3⟩ := find_some hf
      have hkm : m < k := by
        rcases Nat.lt_trichotomy k m with h | h | h
        · rw [ahead k h] at h2; cases h2
        · subst h; exact absurd h2 hs
        · exact h
      rw [Option.bind_some, if_pos]
      rw [List.contains_iff_mem]
      have hm : m < t.length := by omega
      have hb : t[m]? = some (t[m]'hm) := List.getElem?_eq_getElem hm
      have hv := hst _ hb
      have hbq : ¬ t[m]'hm = q := fun e => hs (by rw [sw_one, List.getElem?_drop, show m + 0 = m by omega, hb, e])
      have : t[m]'hm = 60 := by
        unfold valU at hv
        have := of_decide_eq_false hv
        by_cases e : t[m]'hm = 60
        · exact e
        · exact absurd ⟨hbq, e⟩ this
      rw [← this]
      exact List.mem_iff_getElem?.2 ⟨m, by rw [List.getElem?_take, if_pos hkm]; exact hb⟩

/-! ### a mark is searched -/
theorem index_find (w : List UInt8) (hw : w ≠ []) : ∀ l : List UInt8, Lib.index l w = match findL w l with | some k => (k : Int) | none => -1
  | [] => by
    unfold Lib.index findL
    cases w with
    | nil => exact absurd rfl hw
    | cons a u => rfl
  | b :: t => by
    have ih := index_find w hw t
    unfold Lib.index findL swB
    by_cases h : w.isPrefixOf (b :: t) = true
    · rw [if_pos h, if_pos h]; rfl
    · rw [if_neg h, if_neg h, ih]
      cases findL w t with
      | none => rfl
      | some k =>
        show (if ((k : Int) == -1) = true then (-1 : Int) else (k : Int) + 1) = ((k + 1 : Nat) : Int)
        rw [if_neg (by simp only [beq_iff_eq]; omega)]
        omega
theorem cut_some {w l : List UInt8} {k : Nat} (hw : w ≠ []) (h : findL w l = some k) : Lib.cut l w = (l.take k, l.drop (k + w.length), true) := by
  unfold Lib.cut
  rw [index_find w hw, h]
  simp
theorem cut_none {w l : List UInt8} (hw : w ≠ []) (h : findL w l = none) : Lib.cut l w = (l, [], false) := by
  unfold Lib.cut
  rw [index_find w hw, h]
  simp
theorem contains_find {w l : List UInt8} (hw : w ≠ []) : Lib.contains l w = (findL w l).isSome := by
  unfold Lib.contains
  rw [index_find w hw]
  cases findL w l with
  | none => simp
  | some k => simp
end Go.Proofs.YtmecigainilocaaGreatDoor
