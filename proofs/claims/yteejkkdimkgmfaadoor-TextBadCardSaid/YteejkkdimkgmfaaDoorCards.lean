/-
  DERIVED. GIVEN WITH THE SEED: THE CARDS: each row of YteejkkdimkgmfaaDoorRows.lean that lists a variable, with what it lists TIED to the program's text (the seventh form; the later family's looks); each row that meets fmt, with fmt's text TOLD by the authors' own Lean function (tested against real Go, not proved from fmt's source: count such statements apart). THE CARD IS WHAT COUNTS. Prove the row's statement (the work); the ties are given (YteejkkdimkgmfaaDoorTie.lean); close each card by the builder's one call (the guide's Derived/Test/ToyasCard.lean, 'card_holds'). Laid BY PROGRAM, IN A SANDBOX (cutbox-door.mjs). By AI agents, Wed Nov 11 2026. No macro, syntax, notation, axiom, sorry.
-/
import Derived.Test.YteejkkdimkgmfaaDoorRows
import GoSem.ClaimSeven
namespace Go.Proofs.YteejkkdimkgmfaaDoor
namespace Rows

/-- THE TIED CARD OF 'brackenlaw2.TextBad'. -/
def textBadCard : Claim7 := { stood := { row := textBadRow, standIns := [], harness := (true, "e7fd4216bbf86e1cb502721ed5f883d39b61627192a14c636d49349c686ab1f8"), looks := false }, kinds := [], alts := [], laidByText := true, laidKinds := [.data, .pinned], laidTests := true, laidLooks := .later }
def TextBadCardSaid : Prop := Claim7.holds Tryd.pinned (.plain (OpenSpec.ofChange textBadSpec)) textBadCard

/-- THE TIED CARD OF 'brackenlaw2.TextAsks'. -/
def textAsksCard : Claim7 := { stood := { row := textAsksRow, standIns := [], harness := (true, "e7fd4216bbf86e1cb502721ed5f883d39b61627192a14c636d49349c686ab1f8"), looks := false }, kinds := [], alts := [], laidByText := true, laidKinds := [.data, .pinned], laidTests := true, laidLooks := .later }
def TextAsksCardSaid : Prop := Claim7.holds Tryd.pinned (.plain (OpenSpec.ofChange textAsksSpec)) textAsksCard

/-- THE TIED CARD OF 'brackenlaw2.TextRunes'. -/
def textRunesCard : Claim7 := { stood := { row := textRunesRow, standIns := [], harness := (true, "e7fd4216bbf86e1cb502721ed5f883d39b61627192a14c636d49349c686ab1f8"), looks := false }, kinds := [], alts := [], laidByText := true, laidKinds := [.data, .pinned], laidTests := true, laidLooks := .later }
def TextRunesCardSaid : Prop := Claim7.holds Tryd.pinned (.plain (OpenSpec.ofChange textRunesSpec)) textRunesCard

/-- THE TIED CARD OF 'brackenlaw2.TextEnds'. -/
def textEndsCard : Claim7 := { stood := { row := textEndsRow, standIns := [], harness := (true, "e7fd4216bbf86e1cb502721ed5f883d39b61627192a14c636d49349c686ab1f8"), looks := false }, kinds := [], alts := [], laidByText := true, laidKinds := [.data, .pinned], laidTests := true, laidLooks := .later }
def TextEndsCardSaid : Prop := Claim7.holds Tryd.pinned (.plain (OpenSpec.ofChange textEndsSpec)) textEndsCard

/-- THE TIED CARD OF 'brackenlaw2.TextMark'. -/
def textMarkCard : Claim7 := { stood := { row := textMarkRow, standIns := [], harness := (true, "e7fd4216bbf86e1cb502721ed5f883d39b61627192a14c636d49349c686ab1f8"), looks := false }, kinds := [], alts := [], laidByText := true, laidKinds := [.data, .pinned], laidTests := true, laidLooks := .later }
def TextMarkCardSaid : Prop := Claim7.holds Tryd.pinned (.plain (OpenSpec.ofChange textMarkSpec)) textMarkCard

/-- THE TIED CARD OF 'brackenlaw2.TextParts'. -/
def textPartsCard : Claim7 := { stood := { row := textPartsRow, standIns := [], harness := (true, "e7fd4216bbf86e1cb502721ed5f883d39b61627192a14c636d49349c686ab1f8"), looks := false }, kinds := [], alts := [], laidByText := true, laidKinds := [.data, .pinned], laidTests := true, laidLooks := .later }
def TextPartsCardSaid : Prop := Claim7.holds Tryd.pinned (.plain (OpenSpec.ofChange textPartsSpec)) textPartsCard

/-- THE SECOND FORM's CARD OF 'brackenlaw2.TextBad'. -/
def textBadUptoCard : Claim7 := { stood := { row := textBadUptoRow, standIns := [], harness := (true, "e7fd4216bbf86e1cb502721ed5f883d39b61627192a14c636d49349c686ab1f8"), looks := false }, kinds := [], alts := [], laidByText := true, laidKinds := [.data, .pinned], laidTests := true, laidLooks := .later }
def TextBadUptoCardSaid : Prop := Claim7.holds Tryd.pinned (.plain (OpenSpec.upto textBadSpec)) textBadUptoCard

/-- THE SECOND FORM's CARD OF 'brackenlaw2.TextAsks'. -/
def textAsksUptoCard : Claim7 := { stood := { row := textAsksUptoRow, standIns := [], harness := (true, "e7fd4216bbf86e1cb502721ed5f883d39b61627192a14c636d49349c686ab1f8"), looks := false }, kinds := [], alts := [], laidByText := true, laidKinds := [.data, .pinned], laidTests := true, laidLooks := .later }
def TextAsksUptoCardSaid : Prop := Claim7.holds Tryd.pinned (.plain (OpenSpec.upto textAsksSpec)) textAsksUptoCard

/-- THE SECOND FORM's CARD OF 'brackenlaw2.TextRunes'. -/
def textRunesUptoCard : Claim7 := { stood := { row := textRunesUptoRow, standIns := [], harness := (true, "e7fd4216bbf86e1cb502721ed5f883d39b61627192a14c636d49349c686ab1f8"), looks := false }, kinds := [], alts := [], laidByText := true, laidKinds := [.data, .pinned], laidTests := true, laidLooks := .later }
def TextRunesUptoCardSaid : Prop := Claim7.holds Tryd.pinned (.plain (OpenSpec.upto textRunesSpec)) textRunesUptoCard

/-- THE SECOND FORM's CARD OF 'brackenlaw2.TextEnds'. -/
def textEndsUptoCard : Claim7 := { stood := { row := textEndsUptoRow, standIns := [], harness := (true, "e7fd4216bbf86e1cb502721ed5f883d39b61627192a14c636d49349c686ab1f8"), looks := false }, kinds := [], alts := [], laidByText := true, laidKinds := [.data, .pinned], laidTests := true, laidLooks := .later }
def TextEndsUptoCardSaid : Prop := Claim7.holds Tryd.pinned (.plain (OpenSpec.upto textEndsSpec)) textEndsUptoCard

/-- THE SECOND FORM's CARD OF 'brackenlaw2.TextMark'. -/
def textMarkUptoCard : Claim7 := { stood := { row := textMarkUptoRow, standIns := [], harness := (true, "e7fd4216bbf86e1cb502721ed5f883d39b61627192a14c636d49349c686ab1f8"), looks := false }, kinds := [], alts := [], laidByText := true, laidKinds := [.data, .pinned], laidTests := true, laidLooks := .later }
def TextMarkUptoCardSaid : Prop := Claim7.holds Tryd.pinned (.plain (OpenSpec.upto textMarkSpec)) textMarkUptoCard

/-- THE SECOND FORM's CARD OF 'brackenlaw2.TextParts'. -/
def textPartsUptoCard : Claim7 := { stood := { row := textPartsUptoRow, standIns := [], harness := (true, "e7fd4216bbf86e1cb502721ed5f883d39b61627192a14c636d49349c686ab1f8"), looks := false }, kinds := [], alts := [], laidByText := true, laidKinds := [.data, .pinned], laidTests := true, laidLooks := .later }
def TextPartsUptoCardSaid : Prop := Claim7.holds Tryd.pinned (.plain (OpenSpec.upto textPartsSpec)) textPartsUptoCard
end Rows
end Go.Proofs.YteejkkdimkgmfaaDoor
