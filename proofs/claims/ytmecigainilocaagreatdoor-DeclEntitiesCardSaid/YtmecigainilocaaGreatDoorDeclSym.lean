/-
  PLAIN MATHEMATICS FOR LAYER 11: document types whose literals are any texts. No program stands in this text.
-/
import Derived.Test.YtmecigainilocaaGreatDoorRunDRead
namespace Go.Proofs.YtmecigainilocaaGreatDoor
open Go Go.Lib

/-! ### names -/
theorem sp_name (so : List UInt8 → Bool) (c d : UInt8) (r : List UInt8) (hg : gapL (32 :: c :: d :: r) = 1) (hn : nameT (c :: d :: r) = [c]) (hp : partR (c :: d :: r) = d :: r) (hs : so [c] = true) : spNameL so (32 :: c :: d :: r) = some ([c], d :: r) := by
  unfold spNameL spcL
  rw [hg, if_neg (by decide)]
  show (if so (nameT (c :: d :: r)) = true then some (nameT (c :: d :: r), partR (c :: d :: r)) else none) = _
  rw [hn, hp, if_pos hs]
theorem nc_e : ncBL [101] = true := by kernel_rfl
theorem nc_q : ncBL [113] = true := by kernel_rfl
theorem sp_r : splitB [114] = true := by kernel_rfl
theorem sp_a : splitB [97] = true := by kernel_rfl
theorem sp_x : splitB [120] = true := by kernel_rfl
theorem sp_y : splitB [121] = true := by kernel_rfl
/-! ### literals -/
theorem lit_sym (v t : List UInt8) (h : (39 : UInt8) ∉ v) : litL (39 :: (v ++ 39 :: t)) = some (v, t) := by
  unfold litL
  have hl : literalL (39 :: (v ++ 39 :: t)) = some (((39 :: (v ++ 39 :: t)).drop 1).take (v.length + 1 - 1), v.length + 1 + 1) := by
    refine lit_found (q := 39) (Or.inr rfl) rfl (by omega) ?_ ?_
    · show (v ++ 39 :: t)[v.length]? = some 39
      rw [List.getElem?_append_right (Nat.le_refl _), Nat.sub_self]; rfl
    · intro j h1 h2
      obtain ⟨j, rfl⟩ : ∃ m, j = m + 1 := ⟨j - 1, by omega⟩
      show (v ++ 39 :: t)[j]? ≠ some 39
      rw [List.getElem?_append_left (by omega)]
      intro e
      exact h (List.mem_iff_getElem?.2 ⟨j, e⟩)
  rw [hl]
  show some (((v ++ 39 :: t)).take (v.length + 1 - 1), (39 :: (v ++ 39 :: t)).drop (v.length + 1 + 1)) = _
  rw [Nat.add_sub_cancel, List.take_left' rfl]
  show some (v, (v ++ 39 :: t).drop (v.length + 1)) = _
  rw [List.drop_append, List.drop_eq_nil_of_le (by omega), show v.length + 1 - v.length = 1 by omega]
  rfl
theorem ent_plain : ∀ v : List UInt8, (38 : UInt8) ∉ v → (37 : UInt8) ∉ v → entL v = some v
  | [], _, _ => rfl
  | b :: t, h1, h2 => by
    have e1 : b ≠ 37 := fun e => h2 (by rw [e]; exact List.mem_cons_self)
    have e2 : b ≠ 38 := fun e => h1 (by rw [e]; exact List.mem_cons_self)
    have ih := ent_plain t (fun e => h1 (List.mem_cons_of_mem _ e)) (fun e => h2 (List.mem_cons_of_mem _ e))
    show entS 0 (b :: t) = _
    unfold entS
    rw [if_neg e1, if_neg e2, if_pos rfl, show entS 0 t = some t from ih]
    rfl
theorem content_sym (v u t : List UInt8) (h : (39 : UInt8) ∉ v) (hu : entL v = some u) : contentL (39 :: (v ++ 39 :: t)) = some ((u, false), t) := by
  unfold contentL
  rw [lit_sym v t h]
  show (entL v).map _ = _
  rw [hu]
  rfl
/-! ### an entity -/
theorem entity_sym (c : UInt8) (v u t : List UInt8) (hn : ∀ r, spNameL ncBL (32 :: c :: 32 :: r) = some ([c], 32 :: r)) (h : (39 : UInt8) ∉ v) (hu : entL v = some u) : entityL (32 :: c :: 32 :: 39 :: (v ++ 39 :: 62 :: t)) = some (⟨[c], u, false⟩, t) := by
  unfold entityL
  rw [hn]
  simp only [Option.bind_some]
  rw [show spcL (32 :: 39 :: (v ++ 39 :: 62 :: t)) = some (39 :: (v ++ 39 :: 62 :: t)) from rfl]
  simp only [Option.bind_some]
  rw [content_sym v u (62 :: t) h hu]
  rfl
theorem name_e (r : List UInt8) : spNameL ncBL (32 :: 101 :: 32 :: r) = some ([101], 32 :: r) := sp_name ncBL 101 32 r rfl rfl rfl nc_e
theorem name_q (r : List UInt8) : spNameL ncBL (32 :: 113 :: 32 :: r) = some ([113], 32 :: r) := sp_name ncBL 113 32 r rfl rfl rfl nc_q
theorem name_r (r : List UInt8) : spNameL splitB (32 :: 114 :: 32 :: r) = some ([114], 32 :: r) := sp_name splitB 114 32 r rfl rfl rfl sp_r
theorem name_x (r : List UInt8) : spNameL splitB (32 :: 120 :: 32 :: r) = some ([120], 32 :: r) := sp_name splitB 120 32 r rfl rfl rfl sp_x
theorem name_y (r : List UInt8) : spNameL splitB (32 :: 121 :: 32 :: r) = some ([121], 32 :: r) := sp_name splitB 121 32 r rfl rfl rfl sp_y
theorem name_a (r : List UInt8) : spNameL splitB (32 :: 97 :: 91 :: r) = some ([97], 91 :: r) := sp_name splitB 97 91 r rfl rfl rfl sp_a
/-! ### attributes -/
theorem att_sym (el : List UInt8) (c : UInt8) (k : Nat) (w v t : List UInt8) (hn : ∀ r, spNameL splitB (32 :: c :: 32 :: r) = some ([c], 32 :: r)) (hk : ∀ r, kindL (w ++ 32 :: r) = some (k, 32 :: r)) (hw : ∀ r, spcL (32 :: (w ++ r)) = some (w ++ r)) (h39 : (39 : UInt8) ∉ v) (h60 : (60 : UInt8) ∉ v) :
    attD el (32 :: c :: 32 :: (w ++ 32 :: 39 :: (v ++ 39 :: t))) = some (⟨el, [c], k, true, v⟩, t) := by
  unfold attD
  rw [hn]
  simp only [Option.bind_some]
  rw [hw]
  simp only [Option.bind_some]
  rw [hk]
  simp only [Option.bind_some]
  rw [show spcL (32 :: 39 :: (v ++ 39 :: t)) = some (39 :: (v ++ 39 :: t)) from rfl]
  simp only [Option.bind_some]
  have hst : standL (39 :: (v ++ 39 :: t)) = some ((true, v), t) := by
    unfold standL
    rw [if_neg (by rw [show swB requiredW (39 :: (v ++ 39 :: t)) = false from rfl]; decide), if_neg (by rw [show swB impliedW (39 :: (v ++ 39 :: t)) = false from rfl]; decide), if_neg (by rw [show swB fixedW (39 :: (v ++ 39 :: t)) = false from rfl]; decide)]
    show (litL (39 :: (v ++ 39 :: t))).bind _ = _
    rw [lit_sym v t h39]
    show (if v.contains 60 = true then none else some ((true, v), t)) = _
    rw [if_neg (by simpa using h60)]
  rw [hst]
  rfl
theorem name_cdata (r : List UInt8) : nameT ([67, 68, 65, 84, 65] ++ 32 :: r) = cdataW := by kernel_rfl
theorem rest_cdata (r : List UInt8) : partR ([67, 68, 65, 84, 65] ++ 32 :: r) = 32 :: r := by kernel_rfl
theorem name_id (r : List UInt8) : nameT ([73, 68] ++ 32 :: r) = [73, 68] := by kernel_rfl
theorem rest_id (r : List UInt8) : partR ([73, 68] ++ 32 :: r) = 32 :: r := by kernel_rfl
theorem kind_cdata (r : List UInt8) : kindL ([67, 68, 65, 84, 65] ++ 32 :: r) = some (1, 32 :: r) := by
  have h1 := name_cdata r
  have h2 := rest_cdata r
  unfold kindL
  rw [if_pos h1, h2]
theorem kind_id (r : List UInt8) : kindL ([73, 68] ++ 32 :: r) = some (2, 32 :: r) := by
  have h1 := name_id r
  have h2 := rest_id r
  unfold kindL
  rw [h1, if_neg (by decide), if_pos (by decide), h2]
theorem spc_cdata (r : List UInt8) : spcL (32 :: ([67, 68, 65, 84, 65] ++ r)) = some ([67, 68, 65, 84, 65] ++ r) := rfl
theorem spc_id (r : List UInt8) : spcL (32 :: ([73, 68] ++ r)) = some ([73, 68] ++ r) := rfl
theorem atts_end (el : List UInt8) (f : Nat) (t : List UInt8) : attsF el f (62 :: t) = ([], 62 :: t) := by
  cases f with
  | zero => rfl
  | succ f =>
    have : attD el (62 :: t) = none := rfl
    unfold attsF
    rw [this]
/-! ### pieces -/
theorem piece_ent (d : DeclD) (l : List UInt8) : pieceD d (60 :: 33 :: 69 :: 78 :: 84 :: 73 :: 84 :: 89 :: l) = (entityL l).map fun x => (⟨d.name, addE d.ents x.1, d.atts⟩, x.2) := rfl
theorem piece_att (d : DeclD) (l : List UInt8) : pieceD d (60 :: 33 :: 65 :: 84 :: 84 :: 76 :: 73 :: 83 :: 84 :: l) = (attlistL l).map fun x => (⟨d.name, d.ents, x.1.foldl addA d.atts⟩, x.2) := rfl
theorem subs_ent (f : Nat) (d : DeclD) (l : List UInt8) : subsF (f + 1) d (60 :: 33 :: 69 :: 78 :: 84 :: 73 :: 84 :: 89 :: l) = ((entityL l).map fun x => (⟨d.name, addE d.ents x.1, d.atts⟩, x.2)).bind fun (x : DeclD × List UInt8) => subsF f x.1 x.2 := rfl
theorem subs_att (f : Nat) (d : DeclD) (l : List UInt8) : subsF (f + 1) d (60 :: 33 :: 65 :: 84 :: 84 :: 76 :: 73 :: 83 :: 84 :: l) = ((attlistL l).map fun x => (⟨d.name, d.ents, x.1.foldl addA d.atts⟩, x.2)).bind fun (x : DeclD × List UInt8) => subsF f x.1 x.2 := rfl
theorem subs_close (f : Nat) (d : DeclD) (l : List UInt8) : subsF (f + 1) d (93 :: l) = some (d, l) := rfl
end Go.Proofs.YtmecigainilocaaGreatDoor
