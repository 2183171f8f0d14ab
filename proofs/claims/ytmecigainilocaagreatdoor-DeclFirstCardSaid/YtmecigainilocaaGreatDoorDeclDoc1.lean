/-
  PLAIN MATHEMATICS FOR LAYER 11: the document type of the law DeclFirst. No program stands in this text.
-/
import Derived.Test.YtmecigainilocaaGreatDoorDeclSym
namespace Go.Proofs.YtmecigainilocaaGreatDoor
open Go Go.Lib

theorem attsF_some (f : Nat) {el l : List UInt8} {x : AttD × List UInt8} (h : attD el l = some x) : attsF el (f + 1) l = (x.1 :: (attsF el f x.2).1, (attsF el f x.2).2) := by
  show (match attD el l with | none => ([], l) | some a => (a.1 :: (attsF el f a.2).1, (attsF el f a.2).2)) = _
  rw [h]
theorem attlist_x (a t : List UInt8) (h39 : (39 : UInt8) ∉ a) (h60 : (60 : UInt8) ∉ a) : attlistL (32 :: 114 :: 32 :: 120 :: 32 :: 67 :: 68 :: 65 :: 84 :: 65 :: 32 :: 39 :: (a ++ 39 :: 62 :: t)) = some ([⟨[114], [120], 1, true, a⟩], t) := by
  obtain ⟨f, hf⟩ : ∃ f, (32 :: 114 :: 32 :: 120 :: 32 :: 67 :: 68 :: 65 :: 84 :: 65 :: 32 :: 39 :: (a ++ 39 :: 62 :: t)).length = f + 1 := ⟨_, rfl⟩
  have hat := att_sym [114] 120 1 [67, 68, 65, 84, 65] a (62 :: t) name_x kind_cdata spc_cdata h39 h60
  have hrun := attsF_some f hat
  simp only [atts_end] at hrun
  unfold attlistL
  rw [hf]
  generalize hg : f + 1 = g at hrun ⊢
  rw [name_r]
  simp only [Option.bind_some]
  rw [show attsF [114] g (32 :: 120 :: 32 :: 67 :: 68 :: 65 :: 84 :: 65 :: 32 :: 39 :: (a ++ 39 :: 62 :: t)) = _ from hrun]
  rfl
theorem attlist_y (b t : List UInt8) (h39 : (39 : UInt8) ∉ b) (h60 : (60 : UInt8) ∉ b) : attlistL (32 :: 114 :: 32 :: 121 :: 32 :: 67 :: 68 :: 65 :: 84 :: 65 :: 32 :: 39 :: 113 :: 39 :: 32 :: 120 :: 32 :: 73 :: 68 :: 32 :: 39 :: (b ++ 39 :: 62 :: t)) = some ([⟨[114], [121], 1, true, [113]⟩, ⟨[114], [120], 2, true, b⟩], t) := by
  obtain ⟨f, hf⟩ : ∃ f, (32 :: 114 :: 32 :: 121 :: 32 :: 67 :: 68 :: 65 :: 84 :: 65 :: 32 :: 39 :: 113 :: 39 :: 32 :: 120 :: 32 :: 73 :: 68 :: 32 :: 39 :: (b ++ 39 :: 62 :: t)).length = f + 1 + 1 := ⟨_, rfl⟩
  have ha1 := att_sym [114] 121 1 [67, 68, 65, 84, 65] [113] (32 :: 120 :: 32 :: 73 :: 68 :: 32 :: 39 :: (b ++ 39 :: 62 :: t)) name_y kind_cdata spc_cdata (by decide) (by decide)
  have ha2 := att_sym [114] 120 2 [73, 68] b (62 :: t) name_x kind_id spc_id h39 h60
  have hr2 := attsF_some f ha2
  simp only [atts_end] at hr2
  have hr1 := attsF_some (f + 1) ha1
  rw [show attsF [114] (f + 1) ((⟨[114], [121], 1, true, [113]⟩, 32 :: 120 :: 32 :: 73 :: 68 :: 32 :: 39 :: (b ++ 39 :: 62 :: t)) : AttD × List UInt8).2 = _ from hr2] at hr1
  unfold attlistL
  rw [hf]
  generalize hg : f + 1 + 1 = g at hr1 ⊢
  rw [name_r]
  simp only [Option.bind_some]
  rw [show attsF [114] g (32 :: 121 :: 32 :: 67 :: 68 :: 65 :: 84 :: 65 :: 32 :: 39 :: 113 :: 39 :: 32 :: 120 :: 32 :: 73 :: 68 :: 32 :: 39 :: (b ++ 39 :: 62 :: t)) = _ from hr1]
  rfl
/-- the text of the law -/
def firstText (a b : List UInt8) : List UInt8 := 60 :: 33 :: 68 :: 79 :: 67 :: 84 :: 89 :: 80 :: 69 :: 32 :: 114 :: 32 :: 91 :: 60 :: 33 :: 69 :: 78 :: 84 :: 73 :: 84 :: 89 :: 32 :: 101 :: 32 :: 39 :: (a ++ 39 :: 62 :: 60 :: 33 :: 69 :: 78 :: 84 :: 73 :: 84 :: 89 :: 32 :: 101 :: 32 :: 39 :: (b ++ 39 :: 62 :: 60 :: 33 :: 65 :: 84 :: 84 :: 76 :: 73 :: 83 :: 84 :: 32 :: 114 :: 32 :: 120 :: 32 :: 67 :: 68 :: 65 :: 84 :: 65 :: 32 :: 39 :: (a ++ 39 :: 62 :: 60 :: 33 :: 65 :: 84 :: 84 :: 76 :: 73 :: 83 :: 84 :: 32 :: 114 :: 32 :: 121 :: 32 :: 67 :: 68 :: 65 :: 84 :: 65 :: 32 :: 39 :: 113 :: 39 :: 32 :: 120 :: 32 :: 73 :: 68 :: 32 :: 39 :: (b ++ 39 :: 62 :: [93, 62]))))
def firstDecl (a : List UInt8) : DeclD := ⟨[114], [⟨[101], a, false⟩], [⟨[114], [120], 1, true, a⟩, ⟨[114], [121], 1, true, [113]⟩]⟩
theorem subs_first (f : Nat) (a b : List UInt8) (ha : (39 : UInt8) ∉ a ∧ (60 : UInt8) ∉ a ∧ (38 : UInt8) ∉ a ∧ (37 : UInt8) ∉ a) (hb : (39 : UInt8) ∉ b ∧ (60 : UInt8) ∉ b ∧ (38 : UInt8) ∉ b ∧ (37 : UInt8) ∉ b) :
    subsF (f + 1 + 1 + 1 + 1 + 1) ⟨[114], [], []⟩ (60 :: 33 :: 69 :: 78 :: 84 :: 73 :: 84 :: 89 :: 32 :: 101 :: 32 :: 39 :: (a ++ 39 :: 62 :: 60 :: 33 :: 69 :: 78 :: 84 :: 73 :: 84 :: 89 :: 32 :: 101 :: 32 :: 39 :: (b ++ 39 :: 62 :: 60 :: 33 :: 65 :: 84 :: 84 :: 76 :: 73 :: 83 :: 84 :: 32 :: 114 :: 32 :: 120 :: 32 :: 67 :: 68 :: 65 :: 84 :: 65 :: 32 :: 39 :: (a ++ 39 :: 62 :: 60 :: 33 :: 65 :: 84 :: 84 :: 76 :: 73 :: 83 :: 84 :: 32 :: 114 :: 32 :: 121 :: 32 :: 67 :: 68 :: 65 :: 84 :: 65 :: 32 :: 39 :: 113 :: 39 :: 32 :: 120 :: 32 :: 73 :: 68 :: 32 :: 39 :: (b ++ 39 :: 62 :: [93, 62]))))) = some (firstDecl a, [62]) := by
  rw [subs_ent, entity_sym 101 a a _ name_e ha.1 (ent_plain a ha.2.2.1 ha.2.2.2)]
  simp only [Option.map_some, Option.bind_some]
  rw [subs_ent, entity_sym 101 b b _ name_e hb.1 (ent_plain b hb.2.2.1 hb.2.2.2)]
  simp only [Option.map_some, Option.bind_some]
  rw [subs_att, attlist_x a _ ha.1 ha.2.1]
  simp only [Option.map_some, Option.bind_some]
  rw [subs_att, attlist_y b _ hb.1 hb.2.1]
  simp only [Option.map_some, Option.bind_some]
  rw [subs_close]
  rfl
theorem whole_open (r : List UInt8) : wholeD (32 :: 114 :: 32 :: 91 :: r) = ((subsF (r.length + 1 + 1) ⟨[114], [], []⟩ r).map fun x => (x.1, mayL x.2)).bind fun (x : DeclD × List UInt8) => (markL [62] x.2).map fun r => (x.1, r) := by
  unfold wholeD
  rw [name_r]
  rfl
theorem docT_of (s l : List UInt8) (d : DeclD) (hm : markL doctypeW (s.drop (0 : Int).toNat) = some l) (hw : wholeD l = some (d, [])) : docT s 0 = (d, (s.length : Int), 0) := by
  unfold docT
  rw [if_neg (by omega), hm]
  dsimp only
  rw [hw]
  rfl
theorem first_sym (a b : List UInt8) (ha : (39 : UInt8) ∉ a ∧ (60 : UInt8) ∉ a ∧ (38 : UInt8) ∉ a ∧ (37 : UInt8) ∉ a) (hb : (39 : UInt8) ∉ b ∧ (60 : UInt8) ∉ b ∧ (38 : UInt8) ∉ b ∧ (37 : UInt8) ∉ b) : docT (firstText a b) 0 = (firstDecl a, ((firstText a b).length : Int), 0) := by
  have hm : markL doctypeW ((firstText a b).drop (0 : Int).toNat) = some (32 :: 114 :: 32 :: 91 :: (60 :: 33 :: 69 :: 78 :: 84 :: 73 :: 84 :: 89 :: 32 :: 101 :: 32 :: 39 :: (a ++ 39 :: 62 :: 60 :: 33 :: 69 :: 78 :: 84 :: 73 :: 84 :: 89 :: 32 :: 101 :: 32 :: 39 :: (b ++ 39 :: 62 :: 60 :: 33 :: 65 :: 84 :: 84 :: 76 :: 73 :: 83 :: 84 :: 32 :: 114 :: 32 :: 120 :: 32 :: 67 :: 68 :: 65 :: 84 :: 65 :: 32 :: 39 :: (a ++ 39 :: 62 :: 60 :: 33 :: 65 :: 84 :: 84 :: 76 :: 73 :: 83 :: 84 :: 32 :: 114 :: 32 :: 121 :: 32 :: 67 :: 68 :: 65 :: 84 :: 65 :: 32 :: 39 :: 113 :: 39 :: 32 :: 120 :: 32 :: 73 :: 68 :: 32 :: 39 :: (b ++ 39 :: 62 :: [93, 62])))))) := rfl
  obtain ⟨f, hf⟩ : ∃ f, (60 :: 33 :: 69 :: 78 :: 84 :: 73 :: 84 :: 89 :: 32 :: 101 :: 32 :: 39 :: (a ++ 39 :: 62 :: 60 :: 33 :: 69 :: 78 :: 84 :: 73 :: 84 :: 89 :: 32 :: 101 :: 32 :: 39 :: (b ++ 39 :: 62 :: 60 :: 33 :: 65 :: 84 :: 84 :: 76 :: 73 :: 83 :: 84 :: 32 :: 114 :: 32 :: 120 :: 32 :: 67 :: 68 :: 65 :: 84 :: 65 :: 32 :: 39 :: (a ++ 39 :: 62 :: 60 :: 33 :: 65 :: 84 :: 84 :: 76 :: 73 :: 83 :: 84 :: 32 :: 114 :: 32 :: 121 :: 32 :: 67 :: 68 :: 65 :: 84 :: 65 :: 32 :: 39 :: 113 :: 39 :: 32 :: 120 :: 32 :: 73 :: 68 :: 32 :: 39 :: (b ++ 39 :: 62 :: [93, 62]))))).length + 1 + 1 = f + 1 + 1 + 1 + 1 + 1 := ⟨_, rfl⟩
  have hw : wholeD (32 :: 114 :: 32 :: 91 :: (60 :: 33 :: 69 :: 78 :: 84 :: 73 :: 84 :: 89 :: 32 :: 101 :: 32 :: 39 :: (a ++ 39 :: 62 :: 60 :: 33 :: 69 :: 78 :: 84 :: 73 :: 84 :: 89 :: 32 :: 101 :: 32 :: 39 :: (b ++ 39 :: 62 :: 60 :: 33 :: 65 :: 84 :: 84 :: 76 :: 73 :: 83 :: 84 :: 32 :: 114 :: 32 :: 120 :: 32 :: 67 :: 68 :: 65 :: 84 :: 65 :: 32 :: 39 :: (a ++ 39 :: 62 :: 60 :: 33 :: 65 :: 84 :: 84 :: 76 :: 73 :: 83 :: 84 :: 32 :: 114 :: 32 :: 121 :: 32 :: 67 :: 68 :: 65 :: 84 :: 65 :: 32 :: 39 :: 113 :: 39 :: 32 :: 120 :: 32 :: 73 :: 68 :: 32 :: 39 :: (b ++ 39 :: 62 :: [93, 62])))))) = some (firstDecl a, []) := by
    rw [whole_open, hf, subs_first f a b ha hb]
    rfl
  exact docT_of _ _ _ hm hw
end Go.Proofs.YtmecigainilocaaGreatDoor
