/-
  PLAIN MATHEMATICS FOR LAYER 11 (what stands ahead): what an XML declaration, a document type, a literal and an entity's text are, in the document's words, over rows of bytes. No program stands in this text.
-/
import Derived.Test.YtmecigainilocaaGreatDoorTokName
namespace Go.Proofs.YtmecigainilocaaGreatDoor
open Go Go.Lib

/-- an entity that is declared -/
structure EntD where
  name : List UInt8
  value : List UInt8
  ext : Bool
/-- an attribute that is declared -/
structure AttD where
  elem : List UInt8
  name : List UInt8
  type : Nat
  has : Bool
  value : List UInt8
structure DeclD where
  name : List UInt8
  ents : List EntD
  atts : List AttD
def decl0 : DeclD := ⟨[], [], []⟩

/-! ### steps: what is left behind them, if they can be taken -/
def spcL (l : List UInt8) : Option (List UInt8) := if gapL l = 0 then none else some (l.drop (gapL l))
def mayL (l : List UInt8) : List UInt8 := l.drop (gapL l)
def markL (m l : List UInt8) : Option (List UInt8) := if swB m l = true then some (l.drop m.length) else none
def litL (l : List UInt8) : Option (List UInt8 × List UInt8) := (literalL l).map fun v => (v.1, l.drop v.2)
def perL (f : List UInt8 → Option (List UInt8)) (l : List UInt8) : List UInt8 := (f l).getD l
def partR (l : List UInt8) : List UInt8 := l.drop (whN partB l)
def spNameL (so : List UInt8 → Bool) (l : List UInt8) : Option (List UInt8 × List UInt8) := (spcL l).bind fun m => if so (nameT m) = true then some (nameT m, partR m) else none
def spLitL (l : List UInt8) : Option (List UInt8) := (spcL l).bind fun m => (litL m).map (·.2)

/-! ### an XML declaration -/
def digD (b : UInt8) : Bool := decide (48 ≤ b.toNat ∧ b.toNat ≤ 57)
def verB (l : List UInt8) : Bool := swB [49, 46] l && (decide (l.drop 2 ≠ []) && (l.drop 2).all digD)
def utfL : List UInt8 := [117, 116, 102, 45, 56]
def encB (l : List UInt8) : Bool := decide (l.map lowU = utfL)
def staB (l : List UInt8) : Bool := decide (l = [121, 101, 115]) || decide (l = [110, 111])
def eqL (l : List UInt8) : Option (List UInt8) := (markL [61] (mayL l)).map mayL
def setL (name : List UInt8) (so : List UInt8 → Bool) (l : List UInt8) : Option (List UInt8) :=
  (markL name l).bind fun m => (eqL m).bind fun m => (litL m).bind fun v => if so v.1 = true then some v.2 else none
def versionW : List UInt8 := [118, 101, 114, 115, 105, 111, 110]
def encodingW : List UInt8 := [101, 110, 99, 111, 100, 105, 110, 103]
def standaloneW : List UInt8 := [115, 116, 97, 110, 100, 97, 108, 111, 110, 101]
def setsL (l : List UInt8) : Option (List UInt8) :=
  (setL versionW verB l).bind fun m => markL [63, 62] (mayL (perL (fun x => (spcL x).bind (setL standaloneW staB)) (perL (fun x => (spcL x).bind (setL encodingW encB)) m)))
def xmlB (l : List UInt8) : Option (List UInt8) := (markL [60, 63, 120, 109, 108] l).bind spcL
def xmlT (s : List UInt8) : Int × Int := match xmlB s with
  | none => (0, 0)
  | some m => match setsL m with
    | none => (0, 2)
    | some r => ((s.length - r.length : Nat), 0)

/-! ### an entity's text -/
/-- the first number: how many bytes of a character reference are still to be passed over -/
def entS : Nat → List UInt8 → Option (List UInt8)
  | _, [] => some []
  | k, b :: t =>
    if b = 37 then none
    else if b = 38 then (refL (b :: t)).bind fun r => if r.1.kind = 7 then (entS (r.2 - 1) t).map (r.1.text.data.toList ++ ·) else (entS 0 t).map (b :: ·)
    else if k = 0 then (entS 0 t).map (b :: ·) else entS (k - 1) t
def entL (l : List UInt8) : Option (List UInt8) := entS 0 l
def entT (s : List UInt8) : List UInt8 × Bool := match entL s with
  | none => ([], false)
  | some t => (t, true)
def litT (s : List UInt8) (k : Int) : List UInt8 × Int × Bool :=
  if k < 0 ∨ (s.length : Int) < k then ([], k, false)
  else match literalL (s.drop k.toNat) with
    | none => ([], k, false)
    | some (v, n) => (v, k + n, true)

/-! ### a document type -/
def splitB (l : List UInt8) : Bool := (splitV (bytes l)).2.2
def ncBL (l : List UInt8) : Bool := ncB (bytes l)
def systemW : List UInt8 := [83, 89, 83, 84, 69, 77]
def publicW : List UInt8 := [80, 85, 66, 76, 73, 67]
def ndataW : List UInt8 := [78, 68, 65, 84, 65]
def extL (l : List UInt8) : Option (List UInt8) :=
  if swB systemW l = true then spLitL (l.drop 6) else if swB publicW l = true then (spLitL (l.drop 6)).bind spLitL else none
def ndataL (l : List UInt8) : Option (List UInt8) := (spcL l).bind fun m => (markL ndataW m).bind fun m => (spNameL ncBL m).map (·.2)
def contentL (l : List UInt8) : Option ((List UInt8 × Bool) × List UInt8) := match litL l with
  | some v => (entL v.1).map fun t => ((t, false), v.2)
  | none => (extL l).map fun r => (([], true), perL ndataL r)
def endL11 (l : List UInt8) : Option (List UInt8) := markL [62] (mayL l)
def entityL (l : List UInt8) : Option (EntD × List UInt8) :=
  (spNameL ncBL l).bind fun a => (spcL a.2).bind fun m => (contentL m).bind fun c => (endL11 c.2).map fun r => (⟨a.1, c.1.1, c.1.2⟩, r)
def wordsL : Nat → List UInt8 → Option (List UInt8)
  | 0, _ => none
  | f + 1, l =>
    let m := mayL l
    if (decide (nameT m ≠ []) && validD (nameT m)) = true then
      let r := mayL (partR m)
      if swB [41] r = true then some (r.drop 1) else if swB [124] r = true then wordsL f (r.drop 1) else none
    else none
def listL (l : List UInt8) : Option (List UInt8) := if swB [40] l = true then wordsL l.length (l.drop 1) else none
def cdataW : List UInt8 := [67, 68, 65, 84, 65]
def typesW : List (List UInt8) := [[73, 68], [73, 68, 82, 69, 70], [73, 68, 82, 69, 70, 83], [69, 78, 84, 73, 84, 89], [69, 78, 84, 73, 84, 73, 69, 83], [78, 77, 84, 79, 75, 69, 78], [78, 77, 84, 79, 75, 69, 78, 83]]
def notationW : List UInt8 := [78, 79, 84, 65, 84, 73, 79, 78]
def kindL (l : List UInt8) : Option (Nat × List UInt8) :=
  if nameT l = cdataW then some (1, partR l)
  else if nameT l ∈ typesW then some (2, partR l)
  else if nameT l = notationW then ((spcL (partR l)).bind listL).map fun r => (2, r)
  else if nameT l = [] then (listL (partR l)).map fun r => (2, r)
  else none
def requiredW : List UInt8 := [35, 82, 69, 81, 85, 73, 82, 69, 68]
def impliedW : List UInt8 := [35, 73, 77, 80, 76, 73, 69, 68]
def fixedW : List UInt8 := [35, 70, 73, 88, 69, 68]
def standL (l : List UInt8) : Option ((Bool × List UInt8) × List UInt8) :=
  if swB requiredW l = true then some ((false, []), l.drop 9)
  else if swB impliedW l = true then some ((false, []), l.drop 8)
  else (if swB fixedW l = true then spcL (l.drop 6) else some l).bind fun m => (litL m).bind fun v => if v.1.contains 60 = true then none else some ((true, v.1), v.2)
def attD (elem : List UInt8) (l : List UInt8) : Option (AttD × List UInt8) :=
  (spNameL splitB l).bind fun a => (spcL a.2).bind fun m => (kindL m).bind fun k => (spcL k.2).bind fun m => (standL m).map fun d => (⟨elem, a.1, k.1, d.1.1, d.1.2⟩, d.2)
def attsF (elem : List UInt8) : Nat → List UInt8 → List AttD × List UInt8
  | 0, l => ([], l)
  | f + 1, l => match attD elem l with
    | none => ([], l)
    | some a => (a.1 :: (attsF elem f a.2).1, (attsF elem f a.2).2)
def attlistL (l : List UInt8) : Option (List AttD × List UInt8) :=
  (spNameL splitB l).bind fun e => (endL11 (attsF e.1 l.length e.2).2).map fun r => ((attsF e.1 l.length e.2).1, r)
def addE (l : List EntD) (e : EntD) : List EntD := if l.any (fun x => decide (x.name = e.name)) = true then l else l ++ [e]
def addA (l : List AttD) (a : AttD) : List AttD := if l.any (fun x => decide (x.elem = a.elem) && decide (x.name = a.name)) = true then l else l ++ [a]
/-- how many bytes stand ahead of a mark that ends what is passed over -/
def outU (b : UInt8) : Bool := decide (¬ (b = 60 ∨ b = 62 ∨ b = 34 ∨ b = 39))
def ignF : Nat → List UInt8 → Option (List UInt8)
  | 0, _ => none
  | f + 1, l =>
    let r := l.drop (leadN outU l)
    if swB [62] r = true then some (r.drop 1) else (litL r).bind fun v => ignF f v.2
def ignL (l : List UInt8) : Option (List UInt8) := (spcL l).bind fun m => ignF (m.length + 1) m
def asideL (l : List UInt8) : Option (List UInt8) := if l = [] then none else (nextL l).bind fun t => if t.1.kind = 4 ∨ t.1.kind = 5 then some (l.drop t.2) else none
def entityW : List UInt8 := [60, 33, 69, 78, 84, 73, 84, 89]
def attlistW : List UInt8 := [60, 33, 65, 84, 84, 76, 73, 83, 84]
def elementW : List UInt8 := [60, 33, 69, 76, 69, 77, 69, 78, 84]
def notatW : List UInt8 := [60, 33, 78, 79, 84, 65, 84, 73, 79, 78]
def pieceD (d : DeclD) (l : List UInt8) : Option (DeclD × List UInt8) :=
  if gapL l ≠ 0 then some (d, mayL l)
  else if swB entityW l = true then (entityL (l.drop 8)).map fun x => (⟨d.name, addE d.ents x.1, d.atts⟩, x.2)
  else if swB attlistW l = true then (attlistL (l.drop 9)).map fun x => (⟨d.name, d.ents, x.1.foldl addA d.atts⟩, x.2)
  else if swB elementW l = true then (ignL (l.drop 9)).map fun r => (d, r)
  else if swB notatW l = true then (ignL (l.drop 10)).map fun r => (d, r)
  else (asideL l).map fun r => (d, r)
def subsF : Nat → DeclD → List UInt8 → Option (DeclD × List UInt8)
  | 0, _, _ => none
  | f + 1, d, l => if swB [93] l = true then some (d, l.drop 1) else (pieceD d l).bind fun x => subsF f x.1 x.2
def wholeD (l : List UInt8) : Option (DeclD × List UInt8) :=
  (spNameL splitB l).bind fun a =>
    let m := mayL (perL (fun x => (spcL x).bind extL) a.2)
    (if swB [91] m = true then (subsF (m.length + 1) ⟨a.1, [], []⟩ (m.drop 1)).map fun x => (x.1, mayL x.2) else some (⟨a.1, [], []⟩, m)).bind fun x => (markL [62] x.2).map fun r => (x.1, r)
def doctypeW : List UInt8 := [60, 33, 68, 79, 67, 84, 89, 80, 69]
/-- what Doctype answers: what is declared, where it ends, the code -/
def docT (s : List UInt8) (k : Int) : DeclD × Int × Int :=
  if k < 0 ∨ (s.length : Int) < k then (decl0, k, 6)
  else match markL doctypeW (s.drop k.toNat) with
    | none => (decl0, k, 6)
    | some l => match wholeD l with
      | none => (decl0, k, 2)
      | some (d, r) => (d, (s.length - r.length : Nat), 0)

/-! ### a few, told by reckoning -/
/-- "<?xml version='1.0' encoding=\"UTF-8\"?>x" -/
def few11x : List UInt8 := [60, 63, 120, 109, 108, 32, 118, 101, 114, 115, 105, 111, 110, 61, 39, 49, 46, 48, 39, 32, 101, 110, 99, 111, 100, 105, 110, 103, 61, 34, 85, 84, 70, 45, 56, 34, 63, 62, 120]
/-- "<!DOCTYPE a [<!ENTITY e 'x&#65;&f;'><!ATTLIST a b CDATA 'v' c (x|y) #IMPLIED>]>" -/
def few11d : List UInt8 := [60, 33, 68, 79, 67, 84, 89, 80, 69, 32, 97, 32, 91, 60, 33, 69, 78, 84, 73, 84, 89, 32, 101, 32, 39, 120, 38, 35, 54, 53, 59, 38, 102, 59, 39, 62, 60, 33, 65, 84, 84, 76, 73, 83, 84, 32, 97, 32, 98, 32, 67, 68, 65, 84, 65, 32, 39, 118, 39, 32, 99, 32, 40, 120, 124, 121, 41, 32, 35, 73, 77, 80, 76, 73, 69, 68, 62, 93, 62]
theorem few11x_is : xmlT few11x = (38, 0) := by kernel_rfl
theorem few11d_is : docT few11d 0 = (⟨[97], [⟨[101], [120, 65, 38, 102, 59], false⟩], [⟨[97], [98], 1, true, [118]⟩, ⟨[97], [99], 2, false, []⟩]⟩, 79, 0) := by kernel_rfl
end Go.Proofs.YtmecigainilocaaGreatDoor
