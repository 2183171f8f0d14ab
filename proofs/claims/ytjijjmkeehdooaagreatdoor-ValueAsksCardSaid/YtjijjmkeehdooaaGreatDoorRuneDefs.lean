/-
  PLAIN MATHEMATICS FOR LAYER 1 (characters and names): no program stands in this text.
  The kinds of characters as Bool functions of an Int; names, blanks and splits of a byte string over the model's own decoder.
-/
import Derived.Lib.ValidLaws
import Derived.Lib.IndexLaws
import Derived.Lib.Strings
import Derived.Laws.RangeAny
namespace Go.Proofs.YtjijjmkeehdooaaGreatDoor
open Go Go.Lib

/-- from a to b, both within -/
def inB (r a b : Int) : Bool := decide (a ≤ r) && decide (r ≤ b)
def charB (r : Int) : Bool := r == 9 || r == 10 || r == 13 || inB r 32 55295 || inB r 57344 65533 || inB r 65536 1114111
def spaceB (r : Int) : Bool := r == 32 || r == 9 || r == 13 || r == 10
def startB (r : Int) : Bool :=
  inB r 65 90 || inB r 97 122 || r == 95 || r == 58 || inB r 192 214 || inB r 216 246 || inB r 248 767 || inB r 880 893 || inB r 895 8191 ||
  inB r 8204 8205 || inB r 8304 8591 || inB r 11264 12271 || inB r 12289 55295 || inB r 63744 64975 || inB r 65008 65533 || inB r 65536 983039
def partB (r : Int) : Bool :=
  startB r || r == 45 || r == 46 || inB r 48 57 || r == 183 || inB r 768 879 || inB r 8255 8256

theorem inB_two (r a : Int) : inB r a (a + 1) = (r == a || r == a + 1) := by
  unfold inB
  rw [Bool.eq_iff_iff]
  simp only [Bool.and_eq_true, Bool.or_eq_true, decide_eq_true_eq, beq_iff_eq]
  omega
theorem inB_joins : ∀ r : Int, inB r 8204 8205 = (r == 8204 || r == 8205) := fun r => inB_two r 8204
theorem inB_ties : ∀ r : Int, inB r 8255 8256 = (r == 8255 || r == 8256) := fun r => inB_two r 8255

/-- What begins a name goes on in it. -/
theorem part_of_start {r : Int} (h : startB r = true) : partB r = true := by simp [partB, h]

/-! ### names, over places in the string -/
/-- does the decoder find no character there? -/
def badAt (s : ByteArray) (pos : Nat) : Bool := decide ((Utf8.decode s pos).1 = 65533 ∧ (Utf8.decode s pos).2 = 1)
/-- may the character r stand in a name at place pos, where the name begins at the place beg? -/
def okB (beg pos : Nat) (r : Int) : Bool := partB r && (pos != beg || startB r)
/-- do all characters from pos on fit in a name that begins at 0? -/
def allOk (s : ByteArray) : Nat → Nat → Bool
  | 0, _ => true
  | f + 1, pos => if pos < s.size then okB 0 pos ((Utf8.decode s pos).1 : Int) && allOk s f (pos + (Utf8.decode s pos).2) else true
/-- where a name that begins at beg ends, looked at from pos on -/
def runTo (s : ByteArray) (beg : Nat) : Nat → Nat → Nat
  | 0, pos => pos
  | f + 1, pos => if pos < s.size then (if badAt s pos = false ∧ okB beg pos ((Utf8.decode s pos).1 : Int) = true then runTo s beg f (pos + (Utf8.decode s pos).2) else pos) else pos
def nameB (s : ByteArray) : Bool := decide (s.size ≠ 0) && (validD s.data.toList && allOk s s.size 0)
def nameRunB (s : ByteArray) : Bool := decide (s.size ≠ 0) && decide (runTo s 0 s.size 0 = s.size)

theorem width_le (s : ByteArray) (pos : Nat) (h : pos < s.size) : pos + (Utf8.decode s pos).2 ≤ s.size := by
  have h1 := decodeL_le (s.data.toList.drop pos) (by
    intro e
    have := congrArg List.length e
    simp [List.length_drop] at this
    omega)
  rw [decodeL_drop, List.length_drop, ← size_eq] at h1
  omega
theorem drop_ne (s : ByteArray) (pos : Nat) (h : pos < s.size) : s.data.toList.drop pos ≠ [] := by
  intro e
  have := congrArg List.length e
  simp [List.length_drop] at this
  omega
theorem valid_at (s : ByteArray) (pos : Nat) (h : pos < s.size) : validD (s.data.toList.drop pos) = (!badAt s pos && validD (s.data.toList.drop (pos + (Utf8.decode s pos).2))) := by
  rw [validD_step _ (drop_ne s pos h), decodeL_drop, List.drop_drop]
  unfold badAt
  by_cases hb : (Utf8.decode s pos).1 = 65533 ∧ (Utf8.decode s pos).2 = 1
  · rw [if_pos hb, decide_eq_true hb]; rfl
  · rw [if_neg hb, decide_eq_false hb]; rfl
theorem allOk_end (s : ByteArray) (f pos : Nat) (h : ¬ pos < s.size) : allOk s f pos = true := by
  cases f <;> simp [allOk, h]
theorem runTo_end (s : ByteArray) (beg f pos : Nat) (h : ¬ pos < s.size) : runTo s beg f pos = pos := by
  cases f <;> simp [runTo, h]
theorem runTo_le (s : ByteArray) (beg : Nat) : ∀ f pos, pos ≤ s.size → runTo s beg f pos ≤ s.size
  | 0, _, h => h
  | f + 1, pos, h => by
    unfold runTo
    split
    · rename_i hp
      split
      · exact runTo_le s beg f _ (width_le s pos hp)
      · exact h
    · exact h
theorem runTo_all (s : ByteArray) : ∀ f pos, pos ≤ s.size → s.size ≤ pos + f →
    decide (runTo s 0 f pos = s.size) = (validD (s.data.toList.drop pos) && allOk s f pos)
  | 0, pos, h, hf => by
    have e : pos = s.size := by omega
    subst e
    rw [List.drop_of_length_le (by rw [← size_eq]; omega)]
    simp [runTo, allOk, validD_nil]
  | f + 1, pos, h, hf => by
    by_cases hp : pos < s.size
    · have hw := width_pos s pos
      have hle := width_le s pos hp
      rw [valid_at s pos hp]
      unfold runTo allOk
      rw [if_pos hp, if_pos hp]
      cases hb : badAt s pos
      · cases ho : okB 0 pos ((Utf8.decode s pos).1 : Int)
        · have : ¬ pos = s.size := by omega
          simp [this]
        · simp only [true_and, if_true, Bool.true_and, Bool.not_false]
          exact runTo_all s f _ hle (by omega)
      · have : ¬ pos = s.size := by omega
        simp [this]
    · have e : pos = s.size := by omega
      rw [runTo_end s 0 _ _ hp, allOk_end s _ _ hp, List.drop_of_length_le (by rw [← size_eq]; omega)]
      simp [e, validD_nil]
/-- THE TWO ROADS TO A NAME ARE ONE. -/
theorem nameRun_eq (s : ByteArray) : nameRunB s = nameB s := by
  unfold nameRunB nameB
  rw [runTo_all s s.size 0 (Nat.zero_le _) (by omega)]
  rfl

/-! ### names without a colon; splits -/
def colonB (s : ByteArray) : Bool := decide (0 ≤ indexByte s.data.toList 58)
def ncB (s : ByteArray) : Bool := nameB s && !colonB s
/-- where the first colon stands -/
def colonAt (s : ByteArray) : Nat := (indexByte s.data.toList 58).toNat
def splitV (s : ByteArray) : ByteArray × ByteArray × Bool :=
  if colonB s = true then
    (if ncB (s.extract 0 (colonAt s)) = true ∧ ncB (s.extract (colonAt s + 1) s.size) = true then (s.extract 0 (colonAt s), s.extract (colonAt s + 1) s.size, true) else (⟨#[]⟩, ⟨#[]⟩, false))
  else (if ncB s = true then (⟨#[]⟩, s, true) else (⟨#[]⟩, ⟨#[]⟩, false))

/-! ### blanks -/
def spaceU (b : UInt8) : Bool := spaceB (b.toNat : Int)
def blankB (s : ByteArray) : Bool := s.data.toList.all spaceU

/-! ### the document's own decoder, step by step -/
def oneV (s : ByteArray) (k : Nat) : Nat × Nat := if badAt s k = true then (0, 0) else Utf8.decode s k
def accR (s : ByteArray) (k lead : Nat) : Nat → Nat
  | 0 => lead
  | m + 1 => accR s k lead m * 64 + (s.get! (k + (m + 1))).toNat % 64
def contsB (s : ByteArray) (k : Nat) : Nat → Bool
  | 0 => true
  | m + 1 => contsB s k m && decide ((s.get! (k + (m + 1))).toNat / 64 = 2)
/-- a lead byte of so many bytes, its mask and the least character that wants so many -/
def Leads (n q least b : Nat) : Prop := (n = 2 ∧ q = 32 ∧ least = 128 ∧ 192 ≤ b ∧ b < 224) ∨ (n = 3 ∧ q = 16 ∧ least = 2048 ∧ 224 ≤ b ∧ b < 240) ∨ (n = 4 ∧ q = 8 ∧ least = 65536 ∧ 240 ≤ b ∧ b < 248)

theorem badAt_N (s : ByteArray) (k : Nat) : badAt s k = decide ((decodeN (s.size - k) (s.get! k).toNat (s.get! (k + 1)).toNat (s.get! (k + 2)).toNat (s.get! (k + 3)).toNat) = (65533, 1)) := by
  unfold badAt
  rw [decode_at]
  generalize decodeN _ _ _ _ _ = d
  obtain ⟨a, b⟩ := d
  simp
theorem oneV_N (s : ByteArray) (k : Nat) (d : Nat × Nat) (h : decodeN (s.size - k) (s.get! k).toNat (s.get! (k + 1)).toNat (s.get! (k + 2)).toNat (s.get! (k + 3)).toNat = d) : oneV s k = if d = (65533, 1) then (0, 0) else d := by
  unfold oneV
  rw [badAt_N, decode_at, h]
  by_cases e : d = (65533, 1) <;> simp [e]
theorem oneV_ascii (s : ByteArray) (k : Nat) (h : (s.get! k).toNat < 128) : oneV s k = ((s.get! k).toNat, 1) := by
  have e : decodeN (s.size - k) (s.get! k).toNat (s.get! (k + 1)).toNat (s.get! (k + 2)).toNat (s.get! (k + 3)).toNat = ((s.get! k).toNat, 1) := by unfold decodeN; rw [if_pos h]
  rw [oneV_N s k _ e, if_neg (by simp; omega)]
theorem oneV_stray (s : ByteArray) (k : Nat) (h : (128 ≤ (s.get! k).toNat ∧ (s.get! k).toNat < 192) ∨ 248 ≤ (s.get! k).toNat) : oneV s k = (0, 0) := by
  have hb : (s.get! k).toNat < 256 := UInt8.toNat_lt _
  have e : decodeN (s.size - k) (s.get! k).toNat (s.get! (k + 1)).toNat (s.get! (k + 2)).toNat (s.get! (k + 3)).toNat = (65533, 1) := by
    unfold decodeN
    rw [if_neg (by omega), if_neg (by omega), if_neg (by omega), if_neg (by omega)]
  rw [oneV_N s k _ e]; rfl
theorem oneV_short (s : ByteArray) (k n q least : Nat) (hl : Leads n q least (s.get! k).toNat) (h : s.size < k + n) : oneV s k = (0, 0) := by
  have e : decodeN (s.size - k) (s.get! k).toNat (s.get! (k + 1)).toNat (s.get! (k + 2)).toNat (s.get! (k + 3)).toNat = (65533, 1) := by
    unfold decodeN
    rcases hl with ⟨rfl, rfl, rfl, h1, h2⟩ | ⟨rfl, rfl, rfl, h1, h2⟩ | ⟨rfl, rfl, rfl, h1, h2⟩
    all_goals rw [if_neg (by omega), if_neg (by omega), if_neg (by omega), if_neg (by omega)]
  rw [oneV_N s k _ e]; rfl
theorem oneV_cont (s : ByteArray) (k n q least m : Nat) (hl : Leads n q least (s.get! k).toNat) (hm : m + 1 < n) (h : ¬ (s.get! (k + (m + 1))).toNat / 64 = 2) : oneV s k = (0, 0) := by
  have e : decodeN (s.size - k) (s.get! k).toNat (s.get! (k + 1)).toNat (s.get! (k + 2)).toNat (s.get! (k + 3)).toNat = (65533, 1) := by
    have hm' : m = 0 ∨ m = 1 ∨ m = 2 := by rcases hl with ⟨rfl, _⟩ | ⟨rfl, _⟩ | ⟨rfl, _⟩ <;> omega
    unfold decodeN
    rcases hm' with rfl | rfl | rfl
    all_goals
      simp only [Nat.zero_add, Nat.reduceAdd] at h
      rcases hl with ⟨rfl, rfl, rfl, h1, h2⟩ | ⟨rfl, rfl, rfl, h1, h2⟩ | ⟨rfl, rfl, rfl, h1, h2⟩
    all_goals first | omega | rw [if_neg (by omega), if_neg (by omega), if_neg (by omega), if_neg (by omega)]
  rw [oneV_N s k _ e]; rfl
theorem decodeN_two (N b0 b1 b2 b3 : Nat) (h1 : 192 ≤ b0) (h2 : b0 < 224) (hn : 2 ≤ N) (c1 : b1 / 64 = 2) :
    decodeN N b0 b1 b2 b3 = if b0 % 32 * 64 + b1 % 64 < 128 ∨ 1114111 < b0 % 32 * 64 + b1 % 64 ∨ (55296 ≤ b0 % 32 * 64 + b1 % 64 ∧ b0 % 32 * 64 + b1 % 64 ≤ 57343) then (65533, 1) else (b0 % 32 * 64 + b1 % 64, 2) := by
  unfold decodeN
  rw [if_neg (by omega), if_pos (by omega)]
  by_cases h : b0 % 32 * 64 + b1 % 64 ≥ 128
  · rw [if_pos h, if_neg (by omega)]
  · rw [if_neg h, if_pos (by omega)]
theorem decodeN_three (N b0 b1 b2 b3 : Nat) (h1 : 224 ≤ b0) (h2 : b0 < 240) (hn : 3 ≤ N) (c1 : b1 / 64 = 2) (c2 : b2 / 64 = 2) (R : Nat) (hR : (b0 % 16 * 64 + b1 % 64) * 64 + b2 % 64 = R) :
    decodeN N b0 b1 b2 b3 = if R < 2048 ∨ 1114111 < R ∨ (55296 ≤ R ∧ R ≤ 57343) then (65533, 1) else (R, 3) := by
  have ea : b0 % 16 * 4096 + b1 % 64 * 64 + b2 % 64 = R := by omega
  unfold decodeN
  rw [if_neg (by omega), if_neg (by omega), if_pos (by omega), ea]
  by_cases h : R ≥ 2048 ∧ (R < 55296 ∨ (57344 ≤ R ∧ R ≤ 1114111))
  · rw [if_pos h, if_neg (by omega)]
  · rw [if_neg h, if_pos (by omega)]
theorem decodeN_four (N b0 b1 b2 b3 : Nat) (h1 : 240 ≤ b0) (h2 : b0 < 248) (hn : 4 ≤ N) (c1 : b1 / 64 = 2) (c2 : b2 / 64 = 2) (c3 : b3 / 64 = 2) (R : Nat) (hR : ((b0 % 8 * 64 + b1 % 64) * 64 + b2 % 64) * 64 + b3 % 64 = R) :
    decodeN N b0 b1 b2 b3 = if R < 65536 ∨ 1114111 < R ∨ (55296 ≤ R ∧ R ≤ 57343) then (65533, 1) else (R, 4) := by
  have ea : b0 % 8 * 262144 + b1 % 64 * 4096 + b2 % 64 * 64 + b3 % 64 = R := by omega
  unfold decodeN
  rw [if_neg (by omega), if_neg (by omega), if_neg (by omega), if_pos (by omega), ea]
  by_cases h : R ≥ 65536 ∧ (R < 55296 ∨ (57344 ≤ R ∧ R ≤ 1114111))
  · rw [if_pos h, if_neg (by omega)]
  · rw [if_neg h, if_pos (by omega)]
theorem pick_bad (p : Prop) [Decidable p] (R n : Nat) (hn : 1 < n) : (if (if p then ((65533, 1) : Nat × Nat) else (R, n)) = (65533, 1) then ((0, 0) : Nat × Nat) else if p then (65533, 1) else (R, n)) = if p then (0, 0) else (R, n) := by
  by_cases hp : p
  · simp [hp]
  · simp [hp]; omega
theorem oneV_full (s : ByteArray) (k n q least : Nat) (hl : Leads n q least (s.get! k).toNat) (hk : k + n ≤ s.size) (m : Nat) (hm : m + 1 = n) (hc : contsB s k m = true) :
    oneV s k = if accR s k ((s.get! k).toNat % q) m < least ∨ 1114111 < accR s k ((s.get! k).toNat % q) m ∨ (55296 ≤ accR s k ((s.get! k).toNat % q) m ∧ accR s k ((s.get! k).toNat % q) m ≤ 57343) then (0, 0) else (accR s k ((s.get! k).toNat % q) m, n) := by
  rcases hl with ⟨rfl, rfl, rfl, h1, h2⟩ | ⟨rfl, rfl, rfl, h1, h2⟩ | ⟨rfl, rfl, rfl, h1, h2⟩
  · obtain rfl : m = 1 := by omega
    simp only [contsB, Bool.true_and, decide_eq_true_eq, Nat.zero_add] at hc
    rw [oneV_N s k _ (decodeN_two _ _ _ _ _ h1 h2 (by omega) hc)]
    exact pick_bad _ _ _ (by omega)
  · obtain rfl : m = 2 := by omega
    simp only [contsB, Bool.true_and, Bool.and_eq_true, decide_eq_true_eq, Nat.zero_add, Nat.reduceAdd] at hc
    rw [oneV_N s k _ (decodeN_three _ _ _ _ _ h1 h2 (by omega) hc.1 hc.2 _ rfl)]
    exact pick_bad _ _ _ (by omega)
  · obtain rfl : m = 3 := by omega
    simp only [contsB, Bool.true_and, Bool.and_eq_true, decide_eq_true_eq, Nat.zero_add, Nat.reduceAdd] at hc
    rw [oneV_N s k _ (decodeN_four _ _ _ _ _ h1 h2 (by omega) hc.1.1 hc.1.2 hc.2 _ rfl)]
    exact pick_bad _ _ _ (by omega)
theorem accR_lt (s : ByteArray) (k n q least b m : Nat) (hl : Leads n q least b) (hm : m + 1 < n) : accR s k (b % q) m < 32768 := by
  rcases hl with ⟨rfl, rfl, rfl, h1, h2⟩ | ⟨rfl, rfl, rfl, h1, h2⟩ | ⟨rfl, rfl, rfl, h1, h2⟩
  · obtain rfl : m = 0 := by omega
    simp only [accR]; omega
  · have : m = 0 ∨ m = 1 := by omega
    rcases this with rfl | rfl <;> (simp only [accR]; omega)
  · have : m = 0 ∨ m = 1 ∨ m = 2 := by omega
    rcases this with rfl | rfl | rfl <;> (simp only [accR]; omega)

/-! ### one step of a name, of a colon's search, of a blank -/
theorem oneV_bad (s : ByteArray) (k : Nat) (h : badAt s k = true) : oneV s k = (0, 0) := by unfold oneV; rw [if_pos h]
theorem oneV_good (s : ByteArray) (k : Nat) (h : badAt s k = false) : oneV s k = Utf8.decode s k := by unfold oneV; rw [h]; rfl
theorem runTo_stop (s : ByteArray) (beg f pos : Nat) (hp : pos < s.size) (h : badAt s pos = true ∨ okB beg pos ((Utf8.decode s pos).1 : Int) = false) : runTo s beg f pos = pos := by
  cases f with
  | zero => rfl
  | succ f =>
    unfold runTo
    rw [if_pos hp, if_neg]
    rintro ⟨h1, h2⟩
    rcases h with h | h
    · rw [h1] at h; cases h
    · rw [h2] at h; cases h
theorem runTo_step (s : ByteArray) (beg f pos : Nat) (hp : pos < s.size) (h1 : badAt s pos = false) (h2 : okB beg pos ((Utf8.decode s pos).1 : Int) = true) : runTo s beg (f + 1) pos = runTo s beg f (pos + (Utf8.decode s pos).2) := by
  unfold runTo
  rw [if_pos hp, if_pos ⟨h1, h2⟩]
  cases f <;> rfl
theorem allOk_step (s : ByteArray) (f pos : Nat) (hp : pos < s.size) : allOk s (f + 1) pos = (okB 0 pos ((Utf8.decode s pos).1 : Int) && allOk s f (pos + (Utf8.decode s pos).2)) := by
  show (if pos < s.size then _ else _) = _
  rw [if_pos hp]

/-- there is no colon ahead of place k -/
def NoColon (s : ByteArray) (k : Nat) : Prop := ∀ j, j < k → s.data.toList[j]? ≠ some 58
theorem noColon_zero (s : ByteArray) : NoColon s 0 := fun _ h => absurd h (Nat.not_lt_zero _)
theorem at_byte (s : ByteArray) (k : Nat) (h : k < s.size) : s.data.toList[k]? = some (s[k]'h) := by
  rw [List.getElem?_eq_getElem (by simpa using h)]; rfl
theorem noColon_succ (s : ByteArray) (k : Nat) (h : k < s.size) (hn : NoColon s k) (hc : ¬ (s[k]'h).toNat = 58) : NoColon s (k + 1) := by
  intro j hj
  by_cases e : j = k
  · subst e
    rw [at_byte s j h]
    intro e
    exact hc (by rw [Option.some.inj e]; rfl)
  · exact hn j (by omega)
theorem colon_none (s : ByteArray) (hn : NoColon s s.size) : colonB s = false := by
  unfold colonB
  refine decide_eq_false fun h => ?_
  obtain ⟨o, ho⟩ := Int.eq_ofNat_of_zero_le h
  have h1 := (indexByte_some ho).1
  have h2 : o < s.size := by
    have := (List.getElem?_eq_some_iff.1 h1).1
    simpa using this
  exact hn o h2 h1
theorem colon_at (s : ByteArray) (k : Nat) (h : k < s.size) (hn : NoColon s k) (hc : (s[k]'h).toNat = 58) : colonB s = true ∧ colonAt s = k := by
  have hk : s.data.toList[k]? = some 58 := by
    rw [at_byte s k h]; congr 1; exact UInt8.toNat_inj.1 hc
  have hge := indexByte_ge s.data.toList 58
  have hnn : indexByte s.data.toList 58 ≠ -1 := fun e => indexByte_none e k hk
  obtain ⟨o, ho⟩ := Int.eq_ofNat_of_zero_le (show (0 : Int) ≤ indexByte s.data.toList 58 by omega)
  obtain ⟨h1, h2⟩ := indexByte_some ho
  have e : o = k := by
    rcases Nat.lt_trichotomy o k with h3 | h3 | h3
    · exact absurd h1 (hn o h3)
    · exact h3
    · exact absurd hk (h2 k h3)
  subst e
  exact ⟨decide_eq_true (by omega), by unfold colonAt; omega⟩
theorem colonAt_lt (s : ByteArray) (h : colonB s = true) : colonAt s < s.size := by
  unfold colonB at h
  have h := of_decide_eq_true h
  obtain ⟨o, ho⟩ := Int.eq_ofNat_of_zero_le h
  have h1 := (indexByte_some ho).1
  have h2 : o < s.size := by
    have := (List.getElem?_eq_some_iff.1 h1).1
    simpa using this
  unfold colonAt
  omega

/-- the first k bytes are blank -/
def Blanks (s : ByteArray) (k : Nat) : Prop := ∀ j, j < k → ∀ b, s.data.toList[j]? = some b → spaceU b = true
theorem blanks_zero (s : ByteArray) : Blanks s 0 := fun _ h => absurd h (Nat.not_lt_zero _)
theorem blanks_succ (s : ByteArray) (k : Nat) (h : k < s.size) (hn : Blanks s k) (hc : spaceB ((s[k]'h).toNat : Int) = true) : Blanks s (k + 1) := by
  intro j hj b hb
  by_cases e : j = k
  · subst e
    rw [at_byte s j h] at hb
    rw [← Option.some.inj hb]; exact hc
  · exact hn j (by omega) b hb
theorem blank_yes (s : ByteArray) (h : Blanks s s.size) : blankB s = true := by
  unfold blankB
  rw [List.all_eq_true]
  intro b hb
  obtain ⟨j, hj⟩ := List.mem_iff_getElem?.1 hb
  have h2 : j < s.size := by
    have := (List.getElem?_eq_some_iff.1 hj).1
    simpa using this
  exact h j h2 b hj
theorem blank_no (s : ByteArray) (k : Nat) (h : k < s.size) (hc : spaceB ((s[k]'h).toNat : Int) = false) : blankB s = false := by
  unfold blankB
  rw [Bool.eq_false_iff]
  intro e
  rw [List.all_eq_true] at e
  have := e (s[k]'h) (List.mem_iff_getElem?.2 ⟨k, at_byte s k h⟩)
  unfold spaceU at this
  rw [hc] at this
  cases this
theorem space_ascii {r : Int} (h : spaceB r = true) : r = 32 ∨ r = 9 ∨ r = 13 ∨ r = 10 := by
  simp [spaceB] at h
  omega
/-- What the decoder finds is a blank just where the byte is. -/
theorem space_decode (s : ByteArray) (k : Nat) (h : k < s.size) : spaceB ((Utf8.decode s k).1 : Int) = spaceB ((s[k]'h).toNat : Int) := by
  by_cases hb : (s[k]'h).toNat < 128
  · rw [decode_ascii s k h hb]
  · have h1 := (decode_high s k h (by omega)).1
    have e1 : spaceB ((Utf8.decode s k).1 : Int) = false := by
      rw [Bool.eq_false_iff]; intro e; have := space_ascii e; omega
    have e2 : spaceB ((s[k]'h).toNat : Int) = false := by
      rw [Bool.eq_false_iff]; intro e; have := space_ascii e; omega
    rw [e1, e2]
theorem width_ascii (s : ByteArray) (k : Nat) (h : k < s.size) (hc : spaceB ((s[k]'h).toNat : Int) = true) : (Utf8.decode s k).2 = 1 := by
  have := space_ascii hc
  rw [decode_ascii s k h (by omega)]
end Go.Proofs.YtjijjmkeehdooaaGreatDoor
