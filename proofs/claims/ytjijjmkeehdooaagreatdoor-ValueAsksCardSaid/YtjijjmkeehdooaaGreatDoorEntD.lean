/-
  WHAT A DOCUMENT TYPE DECLARES, as rows of bytes.
-/
import Derived.Test.YtjijjmkeehdooaaGreatDoorBytesL
namespace Go.Proofs.YtjijjmkeehdooaaGreatDoor

/-- an entity that is declared -/
structure EntD where
  name : List UInt8
  value : List UInt8
  ext : Bool
/-- an attribute that is declared -/
structure AttD where
  elem : List UInt8
  name : List UInt8
  type : Nat
  has : Bool
  value : List UInt8
structure DeclD where
  name : List UInt8
  ents : List EntD
  atts : List AttD
def decl0 : DeclD := ⟨[], [], []⟩
end Go.Proofs.YtjijjmkeehdooaaGreatDoor
