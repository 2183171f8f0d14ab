/-
  PLAIN MATHEMATICS FOR LAYER 11: an entity's text, piece by piece (the law DeclEntities). No program stands in this text.
-/
import Derived.Test.YtmecigainilocaaGreatDoorDeclSym
namespace Go.Proofs.YtmecigainilocaaGreatDoor
open Go Go.Lib

def piecesW : List (List UInt8) := [[97], [38, 35, 54, 53, 59], [38, 35, 120, 50, 54, 59], [38, 108, 116, 59], [38, 101, 59], [195, 169], [32], [60], [62], [34]]
def toldW : List (List UInt8) := [[97], [65], [38], [38, 108, 116, 59], [38, 101, 59], [195, 169], [32], [60], [62], [34]]
theorem piece_0 (t : List UInt8) : entS 0 (97 :: t) = (entS 0 t).map (97 :: ·) := by kernel_rfl
theorem piece_1 (t : List UInt8) : entS 0 (38 :: 35 :: 54 :: 53 :: 59 :: t) = (entS 0 t).map ([65] ++ ·) := by kernel_rfl
theorem piece_2 (t : List UInt8) : entS 0 (38 :: 35 :: 120 :: 50 :: 54 :: 59 :: t) = (entS 0 t).map ([38] ++ ·) := by kernel_rfl
theorem piece_3 (t : List UInt8) : entS 0 (38 :: 108 :: 116 :: 59 :: t) = ((((entS 0 t).map (59 :: ·)).map (116 :: ·)).map (108 :: ·)).map (38 :: ·) := by kernel_rfl
theorem piece_4 (t : List UInt8) : entS 0 (38 :: 101 :: 59 :: t) = (((entS 0 t).map (59 :: ·)).map (101 :: ·)).map (38 :: ·) := by kernel_rfl
theorem piece_5 (t : List UInt8) : entS 0 (195 :: 169 :: t) = ((entS 0 t).map (169 :: ·)).map (195 :: ·) := by kernel_rfl
theorem piece_6 (t : List UInt8) : entS 0 (32 :: t) = (entS 0 t).map (32 :: ·) := by kernel_rfl
theorem piece_7 (t : List UInt8) : entS 0 (60 :: t) = (entS 0 t).map (60 :: ·) := by kernel_rfl
theorem piece_8 (t : List UInt8) : entS 0 (62 :: t) = (entS 0 t).map (62 :: ·) := by kernel_rfl
theorem piece_9 (t : List UInt8) : entS 0 (34 :: t) = (entS 0 t).map (34 :: ·) := by kernel_rfl
theorem ent_piece (i : Nat) (hi : i < 10) (t : List UInt8) : entL (piecesW.getD i [] ++ t) = (entL t).map (toldW.getD i [] ++ ·) := by
  show entS 0 _ = (entS 0 t).map _
  rcases (show i = 0 ∨ i = 1 ∨ i = 2 ∨ i = 3 ∨ i = 4 ∨ i = 5 ∨ i = 6 ∨ i = 7 ∨ i = 8 ∨ i = 9 by omega) with rfl | rfl | rfl | rfl | rfl | rfl | rfl | rfl | rfl | rfl
  · exact (piece_0 t).trans (by cases entS 0 t <;> rfl)
  · exact (piece_1 t).trans (by cases entS 0 t <;> rfl)
  · exact (piece_2 t).trans (by cases entS 0 t <;> rfl)
  · exact (piece_3 t).trans (by cases entS 0 t <;> rfl)
  · exact (piece_4 t).trans (by cases entS 0 t <;> rfl)
  · exact (piece_5 t).trans (by cases entS 0 t <;> rfl)
  · exact (piece_6 t).trans (by cases entS 0 t <;> rfl)
  · exact (piece_7 t).trans (by cases entS 0 t <;> rfl)
  · exact (piece_8 t).trans (by cases entS 0 t <;> rfl)
  · exact (piece_9 t).trans (by cases entS 0 t <;> rfl)
def piecesT (ws : List (List UInt8)) (is : List Nat) : List UInt8 := is.flatMap fun i => ws.getD i []
theorem ent_pieces : ∀ (is : List Nat) (t : List UInt8), (∀ i ∈ is, i < 10) → entL (piecesT piecesW is ++ t) = (entL t).map (piecesT toldW is ++ ·)
  | [], t, _ => by
    show entL t = (entL t).map fun x => x
    cases entL t <;> rfl
  | i :: is, t, h => by
    have e1 : piecesT piecesW (i :: is) = piecesW.getD i [] ++ piecesT piecesW is := by unfold piecesT; rw [List.flatMap_cons]
    have e2 : piecesT toldW (i :: is) = toldW.getD i [] ++ piecesT toldW is := by unfold piecesT; rw [List.flatMap_cons]
    rw [e1, List.append_assoc, ent_piece i (h i List.mem_cons_self), ent_pieces is t (fun j hj => h j (List.mem_cons_of_mem _ hj)), e2]
    cases entL t with
    | none => rfl
    | some x =>
      show some (toldW.getD i [] ++ (piecesT toldW is ++ x)) = some (toldW.getD i [] ++ piecesT toldW is ++ x)
      rw [List.append_assoc]
theorem ent_all (is : List Nat) (h : ∀ i ∈ is, i < 10) : entL (piecesT piecesW is) = some (piecesT toldW is) := by
  have := ent_pieces is [] h
  rw [List.append_nil] at this
  rw [this]
  show some (piecesT toldW is ++ []) = _
  rw [List.append_nil]
theorem ent_bad (is : List Nat) (h : ∀ i ∈ is, i < 10) (t : List UInt8) (ht : entL t = none) : entL (piecesT piecesW is ++ t) = none := by
  rw [ent_pieces is t h, ht]; rfl
theorem bad_percent : entL [37] = none := by kernel_rfl
theorem bad_space : entL [38, 32] = none := by kernel_rfl
theorem bad_nul : entL [38, 35, 48, 59] = none := by kernel_rfl
theorem pieces_quote (is : List Nat) (h : ∀ i ∈ is, i < 10) : (39 : UInt8) ∉ piecesT piecesW is := by
  intro hm
  obtain ⟨i, hi, h2⟩ := List.mem_flatMap.1 hm
  have h10 := h i hi
  revert h2
  rcases (show i = 0 ∨ i = 1 ∨ i = 2 ∨ i = 3 ∨ i = 4 ∨ i = 5 ∨ i = 6 ∨ i = 7 ∨ i = 8 ∨ i = 9 by omega) with rfl | rfl | rfl | rfl | rfl | rfl | rfl | rfl | rfl | rfl <;> decide
/-- the text of the law's document type -/
def entsText (s : List UInt8) : List UInt8 := 60 :: 33 :: 68 :: 79 :: 67 :: 84 :: 89 :: 80 :: 69 :: 32 :: 97 :: 91 :: 60 :: 33 :: 69 :: 78 :: 84 :: 73 :: 84 :: 89 :: 32 :: 113 :: 32 :: 39 :: (s ++ 39 :: 62 :: [93, 62])
def entsDecl (t : List UInt8) : DeclD := ⟨[97], [⟨[113], t, false⟩], []⟩
theorem whole_bracket (r : List UInt8) : wholeD (32 :: 97 :: 91 :: r) = ((subsF (r.length + 1 + 1) ⟨[97], [], []⟩ r).map fun x => (x.1, mayL x.2)).bind fun (x : DeclD × List UInt8) => (markL [62] x.2).map fun r => (x.1, r) := by
  unfold wholeD
  rw [name_a]
  rfl
theorem docT_at (s l : List UInt8) (d : DeclD) (hm : markL doctypeW (s.drop (0 : Int).toNat) = some l) (hw : wholeD l = some (d, [])) : docT s 0 = (d, (s.length : Int), 0) := by
  unfold docT
  rw [if_neg (by omega), hm]
  dsimp only
  rw [hw]
  rfl
theorem ents_sym (s t : List UInt8) (h : (39 : UInt8) ∉ s) (ht : entL s = some t) : docT (entsText s) 0 = (entsDecl t, ((entsText s).length : Int), 0) := by
  have hm : markL doctypeW ((entsText s).drop (0 : Int).toNat) = some (32 :: 97 :: 91 :: (60 :: 33 :: 69 :: 78 :: 84 :: 73 :: 84 :: 89 :: 32 :: 113 :: 32 :: 39 :: (s ++ 39 :: 62 :: [93, 62]))) := rfl
  obtain ⟨f, hf⟩ : ∃ f, (60 :: 33 :: 69 :: 78 :: 84 :: 73 :: 84 :: 89 :: 32 :: 113 :: 32 :: 39 :: (s ++ 39 :: 62 :: [93, 62])).length + 1 + 1 = f + 1 + 1 := ⟨_, rfl⟩
  have hs : subsF (f + 1 + 1) ⟨[97], [], []⟩ (60 :: 33 :: 69 :: 78 :: 84 :: 73 :: 84 :: 89 :: 32 :: 113 :: 32 :: 39 :: (s ++ 39 :: 62 :: [93, 62])) = some (entsDecl t, [62]) := by
    rw [subs_ent, entity_sym 113 s t _ name_q h ht]
    simp only [Option.map_some, Option.bind_some]
    rw [subs_close]
    rfl
  have hw : wholeD (32 :: 97 :: 91 :: (60 :: 33 :: 69 :: 78 :: 84 :: 73 :: 84 :: 89 :: 32 :: 113 :: 32 :: 39 :: (s ++ 39 :: 62 :: [93, 62]))) = some (entsDecl t, []) := by
    rw [whole_bracket, hf, hs]
    rfl
  exact docT_at _ _ _ hm hw
end Go.Proofs.YtmecigainilocaaGreatDoor
