/-
  THE CHARACTER AT A PLACE OF A ROW OF BYTES: a byte below 128, or bytes above.
-/
import Derived.Test.YtjijjmkeehdooaaGreatDoorTokRead
import Derived.Test.YtjijjmkeehdooaaGreatDoorBytesL
namespace Go.Proofs.YtjijjmkeehdooaaGreatDoor
open Go Go.Lib

/-- the character at a place: a byte below 128, or bytes above -/
theorem rune_at (l : List UInt8) (pos : Nat) (hlt : pos < l.length) : 1 ≤ (decodeL (l.drop pos)).2 ∧ pos + (decodeL (l.drop pos)).2 ≤ l.length ∧
    ((∃ b, l[pos]? = some b ∧ b.toNat = (decodeL (l.drop pos)).1 ∧ (decodeL (l.drop pos)).1 < 128 ∧ (decodeL (l.drop pos)).2 = 1) ∨
     (128 ≤ (decodeL (l.drop pos)).1 ∧ ∀ j, pos ≤ j → j < pos + (decodeL (l.drop pos)).2 → ∃ b, l[j]? = some b ∧ 128 ≤ b.toNat)) := by
  obtain ⟨b, t, hbt⟩ : ∃ b t, l.drop pos = b :: t := by
    cases hd : l.drop pos with
    | nil => have := congrArg List.length hd; rw [List.length_drop, List.length_nil] at this; omega
    | cons b t => exact ⟨b, t, rfl⟩
  have hne : l.drop pos ≠ [] := by rw [hbt]; simp
  have hw := decodeL_width (l.drop pos)
  have hle := decodeL_le (l.drop pos) hne
  rw [List.length_drop] at hle
  have hb0 : l[pos]? = some b := by
    have : (l.drop pos)[0]? = some b := by rw [hbt]; rfl
    rwa [List.getElem?_drop, Nat.add_zero] at this
  refine ⟨hw, by omega, ?_⟩
  by_cases hb : b.toNat < 128
  · refine Or.inl ⟨b, hb0, ?_⟩
    rw [hbt, decodeL_ascii b t hb]
    exact ⟨rfl, hb, rfl⟩
  · obtain ⟨h1, h2⟩ := decodeL_high hne (by rw [hbt]; show 128 ≤ b.toNat; omega)
    refine Or.inr ⟨h1, fun j hj hj2 => ?_⟩
    have := h2 (j - pos) (by omega)
    have hjl : j < l.length := by omega
    refine ⟨l[j], List.getElem?_eq_getElem hjl, ?_⟩
    rw [List.getD_eq_getElem?_getD, List.getElem?_drop, show pos + (j - pos) = j by omega, List.getElem?_eq_getElem hjl] at this
    exact this

theorem decode_le (l : List UInt8) (pos : Nat) : (Utf8.decode (bytes l) pos).1 ≤ 1114111 := by
  generalize bytes l = s
  have h256 : ∀ k, (s.get! (pos + k)).toNat < 256 := fun k => UInt8.toNat_lt _
  have a0 := h256 0
  have a1 := h256 1
  have a2 := h256 2
  have a3 := h256 3
  unfold Utf8.decode
  dsimp only
  repeat' split
  all_goals simp_all [Utf8.valid, Utf8.runeError]
  all_goals omega
end Go.Proofs.YtjijjmkeehdooaaGreatDoor
