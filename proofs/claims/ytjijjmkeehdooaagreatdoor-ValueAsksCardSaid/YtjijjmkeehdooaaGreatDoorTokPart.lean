/-
  PLAIN MATHEMATICS FOR LAYER 10: all pieces of a text, one behind the other.
-/
import Derived.Test.YtjijjmkeehdooaaGreatDoorTokAt
import Derived.Test.YtjijjmkeehdooaaGreatDoorTokStart
import Derived.Laws.Cover4
namespace Go.Proofs.YtjijjmkeehdooaaGreatDoor
open Go.RowKit

/-- where the i-th piece begins -/
def posAt : Nat → List UInt8 → Nat
  | 0, _ => 0
  | i + 1, l => match nextL l with
    | none => 0
    | some (_, n) => n + posAt i (l.drop n)
structure AllSaid (l : List UInt8) (r : List Tok × Nat × Bool) : Prop where
  each : ∀ i, i < r.1.length → ∃ n, nextL (l.drop (posAt i l)) = some (tokI r.1 i, n) ∧ posAt (i + 1) l = posAt i l + n ∧ posAt i l < l.length
  last : posAt r.1.length l = r.2.1
  count : r.1.length ≤ l.length
  le : r.2.1 ≤ l.length
  whole : r.2.2 = true → r.2.1 = l.length
  part : r.2.2 = false → r.2.1 < l.length ∧ nextL (l.drop r.2.1) = none
theorem all_said : ∀ (f : Nat) (l : List UInt8), l.length ≤ f → AllSaid l (allL f l)
  | 0, l, h => by
    have hl : l = [] := List.eq_nil_of_length_eq_zero (by omega)
    subst hl
    exact ⟨fun i hi => by simp [allL] at hi, rfl, Nat.le_refl _, Nat.le_refl _, fun _ => rfl, fun h => by cases h⟩
  | f + 1, l, h => by
    unfold allL
    by_cases hl : l = []
    · rw [if_pos hl]
      subst hl
      exact ⟨fun i hi => by simp at hi, rfl, Nat.le_refl _, Nat.le_refl _, fun _ => rfl, fun h => by cases h⟩
    · rw [if_neg hl]
      have hlen : 0 < l.length := List.length_pos_iff.2 hl
      cases hn : nextL l with
      | none => exact ⟨fun i hi => by simp at hi, rfl, Nat.zero_le _, Nat.zero_le _, fun h => (by cases h), fun _ => ⟨hlen, hn⟩⟩
      | some q =>
        obtain ⟨t, n⟩ := q
        have hp := next_piece l hl t n hn
        have h1 := hp.pos
        have h2 := hp.le
        have ih := all_said f (l.drop n) (by rw [List.length_drop]; omega)
        have e1 : ∀ i, posAt (i + 1) l = n + posAt i (l.drop n) := fun i => by
          show (match nextL l with | none => 0 | some (_, n) => n + posAt i (l.drop n)) = _
          rw [hn]
        show AllSaid l (t :: (allL f (l.drop n)).1, n + (allL f (l.drop n)).2.1, (allL f (l.drop n)).2.2)
        generalize allL f (l.drop n) = r at *
        refine ⟨fun i hi => ?_, ?_, ?_, ?_, fun h => ?_, fun h => ?_⟩
        · cases i with
          | zero => exact ⟨n, hn, by rw [e1 0]; show n + 0 = 0 + n; omega, hlen⟩
          | succ i =>
            obtain ⟨m, g1, g2, g3⟩ := ih.each i (by simpa using hi)
            rw [List.drop_drop] at g1
            rw [List.length_drop] at g3
            exact ⟨m, by rw [e1]; exact g1, by rw [e1, e1, g2]; omega, by rw [e1]; omega⟩
        · show posAt (r.1.length + 1) l = _
          rw [e1, ih.last]
        · have := ih.count
          rw [List.length_drop] at this
          show r.1.length + 1 ≤ _
          omega
        · have := ih.le
          rw [List.length_drop] at this
          show n + r.2.1 ≤ _
          omega
        · have := ih.whole h
          rw [List.length_drop] at this
          show n + r.2.1 = _
          omega
        · obtain ⟨g1, g2⟩ := ih.part h
          rw [List.length_drop] at g1
          rw [List.drop_drop] at g2
          exact ⟨by show n + r.2.1 < _; omega, g2⟩
theorem extract_bytes (s : ByteArray) (k n : Nat) : s.extract k (k + n) = bytes ((s.data.toList.drop k).take n) := by
  apply ByteArray.ext
  apply Array.ext'
  rw [ByteArray.data_extract, Array.toList_extract, List.extract_eq_take_drop, Nat.add_sub_cancel_left]
  rfl
theorem nextT_at (s : ByteArray) (k : Nat) (hk : k < s.size) (t : Tok) (n : Nat) (h : nextL (s.data.toList.drop k) = some (t, n)) : nextT s (k : Int) = (t, ((k + n : Nat) : Int), (0 : Int)) := by
  unfold nextT
  rw [if_neg (by omega), if_neg (by omega), Int.toNat_natCast, h]
  rfl
theorem nextT_end (s : ByteArray) : nextT s (s.size : Int) = (tok0, (s.size : Int), (6 : Int)) := by
  unfold nextT
  rw [if_neg (by omega), if_pos rfl]
theorem nextT_none (s : ByteArray) (k : Nat) (hk : k < s.size) (h : nextL (s.data.toList.drop k) = none) : nextT s (k : Int) = (tok0, (k : Int), (2 : Int)) := by
  unfold nextT
  rw [if_neg (by omega), if_neg (by omega), Int.toNat_natCast, h]
theorem atts_slice {B : Nat} {w : World} {v : Value} {l : List (ByteArray × ByteArray)} (h : AttsAt B w v l) : ∃ a c, v = .slice a l.length c := by
  rcases h with ⟨a, c, rfl, rfl⟩ | ⟨b, off, c, rfl, _, _⟩
  · exact ⟨a, c, rfl⟩
  · exact ⟨_, c, rfl⟩
/-- a piece has no more attributes than bytes -/
theorem attrs_count : ∀ (f : Nat) (l : List UInt8) (r : List (ByteArray × ByteArray) × Bool × Nat), attrsL f l = some r → r.1.length ≤ f
  | 0, _, _, h => by cases h
  | f + 1, l, r, h => by
    unfold attrsL at h
    simp only at h
    split at h
    · injection h with h
      subst h
      exact Nat.zero_le _
    · split at h
      · injection h with h
        subst h
        exact Nat.zero_le _
      · split at h
        · cases h
        · cases ha : attrL (l.drop (gapL l)) with
          | none => rw [ha] at h; cases h
          | some a =>
            rw [ha, Option.bind_some] at h
            cases hr : attrsL f (l.drop (gapL l + a.2)) with
            | none => rw [hr] at h; cases h
            | some q =>
              rw [hr, Option.bind_some] at h
              injection h with h
              subst h
              have := attrs_count f _ q hr
              show q.1.length + 1 ≤ f + 1
              omega
theorem next_attrs (l : List UInt8) (t : Tok) (n : Nat) (h : nextL l = some (t, n)) : t.attrs.length ≤ l.length := by
  have no : ∀ {x : Option (Tok × Nat)}, x = some (t, n) → (∀ t' n', x = some (t', n') → t'.attrs = []) → t.attrs.length ≤ l.length := fun hx hy => by
    rw [hy t n hx]; exact Nat.zero_le _
  unfold nextL at h
  split at h
  · refine no h fun t' n' e => ?_
    unfold commentL at e
    cases hf : findL [45, 45] (l.drop 4) with
    | none => rw [hf] at e; cases e
    | some k =>
      rw [hf, Option.bind_some] at e
      split at e
      · injection e with e; injection e with e1 _; rw [← e1]
      · cases e
  · split at h
    · refine no h fun t' n' e => ?_
      unfold cdataL at e
      cases hf : findL [93, 93, 62] (l.drop 9) with
      | none => rw [hf] at e; cases e
      | some k =>
        rw [hf, Option.bind_some] at e
        injection e with e; injection e with e1 _; rw [← e1]
    · split at h
      · refine no h fun t' n' e => ?_
        unfold piL at e
        simp only at e
        split at e
        · split at e
          · injection e with e; injection e with e1 _; rw [← e1]
          · split at e
            · cases e
            · cases hf : findL [63, 62] (l.drop (2 + nameN (l.drop 2) + gapL (l.drop (2 + nameN (l.drop 2))))) with
              | none => rw [hf] at e; cases e
              | some k =>
                rw [hf, Option.bind_some] at e
                injection e with e; injection e with e1 _; rw [← e1]
        · cases e
      · split at h
        · refine no h fun t' n' e => ?_
          unfold endL at e
          simp only at e
          split at e
          · injection e with e; injection e with e1 _; rw [← e1]
          · cases e
        · split at h
          · unfold startL at h
            simp only at h
            split at h
            · cases hf : attrsL l.length (l.drop (1 + nameN (l.drop 1))) with
              | none => rw [hf] at h; cases h
              | some r =>
                rw [hf, Option.bind_some] at h
                injection h with h
                injection h with h1 _
                rw [← h1]
                exact attrs_count _ _ r hf
            · cases h
          · split at h
            · refine no h fun t' n' e => ?_
              unfold refL at e
              cases hf : findL [59] l with
              | none => rw [hf] at e; cases e
              | some k =>
                rw [hf, Option.bind_some] at e
                split at e
                · cases hr : charRefL (l.take (k + 1)) with
                  | none => rw [hr] at e; cases e
                  | some r =>
                    rw [hr, Option.bind_some] at e
                    injection e with e; injection e with e1 _; rw [← e1]
                · split at e
                  · injection e with e; injection e with e1 _; rw [← e1]
                  · cases e
            · refine no h fun t' n' e => ?_
              unfold textL at e
              simp only at e
              split at e
              · injection e with e; injection e with e1 _; rw [← e1]
              · cases e
theorem bytes_size (x : List UInt8) : (bytes x).size = x.length := by show x.toArray.size = _; rw [List.size_toArray]
theorem next_small (l : List UInt8) (t : Tok) (n : Nat) (h : nextL l = some (t, n)) : t.text.size ≤ l.length + 4 := by
  have no : ∀ {x : Option (Tok × Nat)}, x = some (t, n) → (∀ t' n', x = some (t', n') → t'.text.size ≤ l.length + 4) → t.text.size ≤ l.length + 4 := fun hx hy => hy t n hx
  have emp : (⟨#[]⟩ : ByteArray).size ≤ l.length + 4 := Nat.zero_le _
  have cut : ∀ d k : Nat, (bytes ((l.drop d).take k)).size ≤ l.length + 4 := fun d k => by rw [bytes_size, List.length_take, List.length_drop]; omega
  have cut0 : ∀ k : Nat, (bytes (l.take k)).size ≤ l.length + 4 := fun k => by rw [bytes_size, List.length_take]; omega
  have enc : ∀ r : Int, (Utf8.encode r).size ≤ l.length + 4 := fun r => Nat.le_trans (encode_size_le r) (by omega)
  unfold nextL at h
  split at h
  · refine no h fun t' n' e => ?_
    unfold commentL at e
    cases hf : findL [45, 45] (l.drop 4) with
    | none => rw [hf] at e; cases e
    | some k =>
      rw [hf, Option.bind_some] at e
      split at e
      · injection e with e; injection e with e1 _; rw [← e1]; first | exact emp | exact cut _ _ | exact cut0 _ | exact enc _
      · cases e
  · split at h
    · refine no h fun t' n' e => ?_
      unfold cdataL at e
      cases hf : findL [93, 93, 62] (l.drop 9) with
      | none => rw [hf] at e; cases e
      | some k =>
        rw [hf, Option.bind_some] at e
        injection e with e; injection e with e1 _; rw [← e1]; first | exact emp | exact cut _ _ | exact cut0 _ | exact enc _
    · split at h
      · refine no h fun t' n' e => ?_
        unfold piL at e
        simp only at e
        split at e
        · split at e
          · injection e with e; injection e with e1 _; rw [← e1]; first | exact emp | exact cut _ _ | exact cut0 _ | exact enc _
          · split at e
            · cases e
            · cases hf : findL [63, 62] (l.drop (2 + nameN (l.drop 2) + gapL (l.drop (2 + nameN (l.drop 2))))) with
              | none => rw [hf] at e; cases e
              | some k =>
                rw [hf, Option.bind_some] at e
                injection e with e; injection e with e1 _; rw [← e1]; first | exact emp | exact cut _ _ | exact cut0 _ | exact enc _
        · cases e
      · split at h
        · refine no h fun t' n' e => ?_
          unfold endL at e
          simp only at e
          split at e
          · injection e with e; injection e with e1 _; rw [← e1]; first | exact emp | exact cut _ _ | exact cut0 _ | exact enc _
          · cases e
        · split at h
          · unfold startL at h
            simp only at h
            split at h
            · cases hf : attrsL l.length (l.drop (1 + nameN (l.drop 1))) with
              | none => rw [hf] at h; cases h
              | some r =>
                rw [hf, Option.bind_some] at h
                injection h with h
                injection h with h1 _
                rw [← h1]; exact emp
            · cases h
          · split at h
            · refine no h fun t' n' e => ?_
              unfold refL at e
              cases hf : findL [59] l with
              | none => rw [hf] at e; cases e
              | some k =>
                rw [hf, Option.bind_some] at e
                split at e
                · cases hr : charRefL (l.take (k + 1)) with
                  | none => rw [hr] at e; cases e
                  | some r =>
                    rw [hr, Option.bind_some] at e
                    injection e with e; injection e with e1 _
                    have h7 : t'.text = Utf8.encode (r : Int) := by rw [← e1]
                    rw [h7]; exact enc (r : Int)
                · split at e
                  · injection e with e; injection e with e1 _; rw [← e1]; exact emp
                  · cases e
            · refine no h fun t' n' e => ?_
              unfold textL at e
              simp only at e
              split at e
              · injection e with e; injection e with e1 _; rw [← e1]; first | exact emp | exact cut _ _ | exact cut0 _ | exact enc _
              · cases e
end Go.Proofs.YtjijjmkeehdooaaGreatDoor
