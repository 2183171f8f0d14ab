/-
  PLAIN MATHEMATICS FOR LAYER 10 (pieces of content): what the next piece of a row of bytes is, in the document's words. No program stands in this text.
-/
import Derived.Test.YtjijjmkeehdooaaGreatDoorNameLaws
import Derived.Test.YtjijjmkeehdooaaGreatDoorBytesL
import Derived.KernelRfl
namespace Go.Proofs.YtjijjmkeehdooaaGreatDoor
open Go Go.Lib

/-- a piece: its kind, name, text, attributes, and whether it is empty -/
structure Tok where
  kind : Nat
  name : ByteArray
  text : ByteArray
  attrs : List (ByteArray × ByteArray)
  empty : Bool
def tok0 : Tok := ⟨0, ⟨#[]⟩, ⟨#[]⟩, [], false⟩
def swB (w l : List UInt8) : Bool := w.isPrefixOf l
/-- where w stands first -/
def findL (w : List UInt8) : List UInt8 → Option Nat
  | [] => none
  | b :: t => if swB w (b :: t) = true then some 0 else (findL w t).map (· + 1)
/-- how many spaces stand ahead -/
def gapL : List UInt8 → Nat
  | [] => 0
  | b :: t => if spaceU b = true then gapL t + 1 else 0
/-- how many bytes of a name stand ahead -/
def runL : Nat → Bool → List UInt8 → Nat
  | 0, _, _ => 0
  | f + 1, fst, l => if l = [] then 0 else if headOk fst l = true then (decodeL l).2 + runL f false (l.drop (decodeL l).2) else 0
def nameN (l : List UInt8) : Nat := runL l.length true l
/-- how many bytes stand ahead of a sign -/
def plainN : List UInt8 → Nat
  | [] => 0
  | b :: t => if b = 60 ∨ b = 38 then 0 else plainN t + 1
def ncL (l : List UInt8) : Bool := decide (l ≠ []) && okL true l && !l.contains 58
def lowU (b : UInt8) : UInt8 := if 65 ≤ b.toNat ∧ b.toNat ≤ 90 then b + 32 else b
def targetL (l : List UInt8) : Bool := ncL l && decide (l.map lowU ≠ [120, 109, 108])
/-- a digit's value -/
def decV (b : UInt8) : Option Nat := if 48 ≤ b.toNat ∧ b.toNat ≤ 57 then some (b.toNat - 48) else none
def hexV (b : UInt8) : Option Nat :=
  if 48 ≤ b.toNat ∧ b.toNat ≤ 57 then some (b.toNat - 48) else if 97 ≤ b.toNat ∧ b.toNat ≤ 102 then some (b.toNat - 87) else if 65 ≤ b.toNat ∧ b.toNat ≤ 70 then some (b.toNat - 55) else none
def numL (dig : UInt8 → Option Nat) (base : Nat) : Nat → List UInt8 → Option Nat
  | a, [] => some a
  | a, b :: t => match dig b with
    | none => none
    | some x => numL dig base (a * base + x) t
/-- the character of a reference's inside -/
def refV (d : List UInt8) : Option Nat :=
  match d with
  | [] => none
  | [120] => none
  | 120 :: t => (numL hexV 16 0 t).bind fun r => if charB (r : Int) = true then some r else none
  | d => (numL decV 10 0 d).bind fun r => if charB (r : Int) = true then some r else none
/-- "&#", digits, ";" -/
def charRefL (l : List UInt8) : Option Nat := if swB [38, 35] l = true ∧ l.getLast? = some 59 ∧ 4 ≤ l.length then refV ((l.drop 2).dropLast) else none

def commentL (l : List UInt8) : Option (Tok × Nat) :=
  (findL [45, 45] (l.drop 4)).bind fun k => if swB [45, 45, 62] (l.drop (4 + k)) = true then some (⟨4, ⟨#[]⟩, bytes ((l.drop 4).take k), [], false⟩, 4 + k + 3) else none
def cdataL (l : List UInt8) : Option (Tok × Nat) :=
  (findL [93, 93, 62] (l.drop 9)).bind fun k => some (⟨6, ⟨#[]⟩, bytes ((l.drop 9).take k), [], false⟩, 9 + k + 3)
def piL (l : List UInt8) : Option (Tok × Nat) :=
  let n := nameN (l.drop 2)
  let name := (l.drop 2).take n
  if targetL name = true then
    (if swB [63, 62] (l.drop (2 + n)) = true then some (⟨5, bytes name, ⟨#[]⟩, [], false⟩, 2 + n + 2)
     else let g := gapL (l.drop (2 + n))
      if g = 0 then none
      else (findL [63, 62] (l.drop (2 + n + g))).bind fun k => some (⟨5, bytes name, bytes ((l.drop (2 + n + g)).take k), [], false⟩, 2 + n + g + k + 2))
  else none
def endL (l : List UInt8) : Option (Tok × Nat) :=
  let n := nameN (l.drop 2)
  let g := gapL (l.drop (2 + n))
  if n ≠ 0 ∧ swB [62] (l.drop (2 + n + g)) = true then some (⟨3, bytes ((l.drop 2).take n), ⟨#[]⟩, [], false⟩, 2 + n + g + 1) else none
/-- between two like signs -/
def literalL (l : List UInt8) : Option (List UInt8 × Nat) :=
  match l with
  | [] => none
  | q :: t => if q = 34 ∨ q = 39 then (findL [q] t).bind fun k => some (t.take k, k + 2) else none
/-- a name, =, a value: its length -/
def attrL (l : List UInt8) : Option ((ByteArray × ByteArray) × Nat) :=
  let n := nameN l
  let g := gapL (l.drop n)
  if n ≠ 0 ∧ swB [61] (l.drop (n + g)) = true then
    let h := gapL (l.drop (n + g + 1))
    (literalL (l.drop (n + g + 1 + h))).bind fun v => if v.1.contains 60 = true then none else some ((bytes (l.take n), bytes v.1), n + g + 1 + h + v.2)
  else none
/-- the attributes, and what ends a start: whether it is empty, and the length of it all -/
def attrsL : Nat → List UInt8 → Option (List (ByteArray × ByteArray) × Bool × Nat)
  | 0, _ => none
  | f + 1, l =>
    let g := gapL l
    if swB [62] (l.drop g) = true then some ([], false, g + 1)
    else if swB [47, 62] (l.drop g) = true then some ([], true, g + 2)
    else if g = 0 then none
    else (attrL (l.drop g)).bind fun a => (attrsL f (l.drop (g + a.2))).bind fun r => some (a.1 :: r.1, r.2.1, g + a.2 + r.2.2)
def startL (l : List UInt8) : Option (Tok × Nat) :=
  let n := nameN (l.drop 1)
  if n ≠ 0 then (attrsL l.length (l.drop (1 + n))).bind fun r => some (⟨2, bytes ((l.drop 1).take n), ⟨#[]⟩, r.1, r.2.1⟩, 1 + n + r.2.2) else none
def refL (l : List UInt8) : Option (Tok × Nat) :=
  (findL [59] l).bind fun k =>
    if swB [38, 35] l = true then (charRefL (l.take (k + 1))).bind fun r => some (⟨7, ⟨#[]⟩, Utf8.encode (r : Int), [], false⟩, k + 1)
    else if ncL ((l.take k).drop 1) = true then some (⟨8, bytes ((l.take k).drop 1), ⟨#[]⟩, [], false⟩, k + 1) else none
def textL (l : List UInt8) : Option (Tok × Nat) :=
  let k := plainN l
  if findL [93, 93, 62] (l.take k) = none then some (⟨1, ⟨#[]⟩, bytes (l.take k), [], false⟩, k) else none
/-- THE NEXT PIECE of a row of bytes that is not empty, and its length. -/
def nextL (l : List UInt8) : Option (Tok × Nat) :=
  if swB [60, 33, 45, 45] l = true then commentL l
  else if swB [60, 33, 91, 67, 68, 65, 84, 65, 91] l = true then cdataL l
  else if swB [60, 63] l = true then piL l
  else if swB [60, 47] l = true then endL l
  else if swB [60] l = true then startL l
  else if swB [38] l = true then refL l
  else textL l
/-- what Next answers: the piece, where it ends, the code -/
def nextT (s : ByteArray) (k : Int) : Tok × Int × Int :=
  if k < 0 ∨ (s.size : Int) < k then (tok0, k, 4)
  else if k = s.size then (tok0, k, 6)
  else match nextL (s.data.toList.drop k.toNat) with
    | none => (tok0, k, 2)
    | some (t, n) => (t, k + n, 0)
/-- all pieces from a place on, where they end, and whether all of it was read -/
def allL : Nat → List UInt8 → List Tok × Nat × Bool
  | 0, _ => ([], 0, true)
  | f + 1, l => if l = [] then ([], 0, true) else match nextL l with
    | none => ([], 0, false)
    | some (t, n) => let r := allL f (l.drop n); (t :: r.1, n + r.2.1, r.2.2)
def allT (s : ByteArray) : List Tok × Int × Int :=
  let r := allL s.size s.data.toList
  (r.1, r.2.1, if r.2.2 = true then 0 else 2)

/-! ### a few, told by reckoning -/
def few10 : List UInt8 := [60, 97, 32, 98, 61, 39, 49, 39, 32, 99, 32, 61, 32, 34, 50, 34, 47, 62, 120]
theorem few10_is : nextT (bytes few10) 0 = (⟨2, ⟨#[97]⟩, ⟨#[]⟩, [(⟨#[98]⟩, ⟨#[49]⟩), (⟨#[99]⟩, ⟨#[50]⟩)], true⟩, 18, 0) := by kernel_rfl
end Go.Proofs.YtjijjmkeehdooaaGreatDoor
