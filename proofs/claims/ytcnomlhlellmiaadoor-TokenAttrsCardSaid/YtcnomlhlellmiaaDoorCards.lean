/-
  DERIVED. GIVEN WITH THE SEED: THE CARDS: each row of YtcnomlhlellmiaaDoorRows.lean that lists a variable, with what it lists TIED to the program's text (the seventh form; the later family's looks); each row that meets fmt, with fmt's text TOLD by the authors' own Lean function (tested against real Go, not proved from fmt's source: count such statements apart). THE CARD IS WHAT COUNTS. Prove the row's statement (the work); the ties are given (YtcnomlhlellmiaaDoorTie.lean); close each card by the builder's one call (the guide's Derived/Test/ToyasCard.lean, 'card_holds'). Laid BY PROGRAM, IN A SANDBOX (cutbox-door.mjs). By AI agents, Wed Nov 11 2026. No macro, syntax, notation, axiom, sorry.
-/
import Derived.Test.YtcnomlhlellmiaaDoorRows
import GoSem.ClaimSeven
namespace Go.Proofs.YtcnomlhlellmiaaDoor
namespace Rows

/-- THE TIED CARD OF 'brackenlaw10.TokenTexts'. -/
def tokenTextsCard : Claim7 := { stood := { row := tokenTextsRow, standIns := [], harness := (true, "266ad52ebd0ffd5d66a817442c5d083593a12d906658ed49cd2ace4a52c45252"), looks := false }, kinds := [], alts := [], laidByText := true, laidKinds := [.data, .data, .data, .pinned, .pinned], laidTests := true, laidLooks := .later }
def TokenTextsCardSaid : Prop := Claim7.holds Tryd.pinned (.plain (OpenSpec.ofChange tokenTextsSpec)) tokenTextsCard

/-- THE TIED CARD OF 'brackenlaw10.TokenRefs'. -/
def tokenRefsCard : Claim7 := { stood := { row := tokenRefsRow, standIns := [], harness := (true, "266ad52ebd0ffd5d66a817442c5d083593a12d906658ed49cd2ace4a52c45252"), looks := false }, kinds := [], alts := [], laidByText := true, laidKinds := [.data, .data, .data, .pinned, .pinned], laidTests := true, laidLooks := .later }
def TokenRefsCardSaid : Prop := Claim7.holds Tryd.pinned (.plain (OpenSpec.ofChange tokenRefsSpec)) tokenRefsCard

/-- THE TIED CARD OF 'brackenlaw10.TokenRows'. -/
def tokenRowsCard : Claim7 := { stood := { row := tokenRowsRow, standIns := [], harness := (true, "266ad52ebd0ffd5d66a817442c5d083593a12d906658ed49cd2ace4a52c45252"), looks := false }, kinds := [], alts := [], laidByText := true, laidKinds := [.data, .data, .data, .pinned, .pinned], laidTests := true, laidLooks := .later }
def TokenRowsCardSaid : Prop := Claim7.holds Tryd.pinned (.plain (OpenSpec.ofChange tokenRowsSpec)) tokenRowsCard

/-- THE TIED CARD OF 'brackenlaw10.TokenAttrs'. -/
def tokenAttrsCard : Claim7 := { stood := { row := tokenAttrsRow, standIns := [], harness := (true, "266ad52ebd0ffd5d66a817442c5d083593a12d906658ed49cd2ace4a52c45252"), looks := false }, kinds := [], alts := [], laidByText := true, laidKinds := [.data, .data, .data, .pinned, .pinned], laidTests := true, laidLooks := .later }
def TokenAttrsCardSaid : Prop := Claim7.holds Tryd.pinned (.plain (OpenSpec.ofChange tokenAttrsSpec)) tokenAttrsCard

/-- THE TIED CARD OF 'brackenlaw10.TokenAside'. -/
def tokenAsideCard : Claim7 := { stood := { row := tokenAsideRow, standIns := [], harness := (true, "266ad52ebd0ffd5d66a817442c5d083593a12d906658ed49cd2ace4a52c45252"), looks := false }, kinds := [], alts := [], laidByText := true, laidKinds := [.data, .data, .data, .pinned, .pinned], laidTests := true, laidLooks := .later }
def TokenAsideCardSaid : Prop := Claim7.holds Tryd.pinned (.plain (OpenSpec.ofChange tokenAsideSpec)) tokenAsideCard

/-- THE SECOND FORM's CARD OF 'brackenlaw10.TokenTexts'. -/
def tokenTextsUptoCard : Claim7 := { stood := { row := tokenTextsUptoRow, standIns := [], harness := (true, "266ad52ebd0ffd5d66a817442c5d083593a12d906658ed49cd2ace4a52c45252"), looks := false }, kinds := [], alts := [], laidByText := true, laidKinds := [.data, .data, .data, .pinned, .pinned], laidTests := true, laidLooks := .later }
def TokenTextsUptoCardSaid : Prop := Claim7.holds Tryd.pinned (.plain (OpenSpec.upto tokenTextsSpec)) tokenTextsUptoCard

/-- THE SECOND FORM's CARD OF 'brackenlaw10.TokenRefs'. -/
def tokenRefsUptoCard : Claim7 := { stood := { row := tokenRefsUptoRow, standIns := [], harness := (true, "266ad52ebd0ffd5d66a817442c5d083593a12d906658ed49cd2ace4a52c45252"), looks := false }, kinds := [], alts := [], laidByText := true, laidKinds := [.data, .data, .data, .pinned, .pinned], laidTests := true, laidLooks := .later }
def TokenRefsUptoCardSaid : Prop := Claim7.holds Tryd.pinned (.plain (OpenSpec.upto tokenRefsSpec)) tokenRefsUptoCard

/-- THE SECOND FORM's CARD OF 'brackenlaw10.TokenRows'. -/
def tokenRowsUptoCard : Claim7 := { stood := { row := tokenRowsUptoRow, standIns := [], harness := (true, "266ad52ebd0ffd5d66a817442c5d083593a12d906658ed49cd2ace4a52c45252"), looks := false }, kinds := [], alts := [], laidByText := true, laidKinds := [.data, .data, .data, .pinned, .pinned], laidTests := true, laidLooks := .later }
def TokenRowsUptoCardSaid : Prop := Claim7.holds Tryd.pinned (.plain (OpenSpec.upto tokenRowsSpec)) tokenRowsUptoCard

/-- THE SECOND FORM's CARD OF 'brackenlaw10.TokenAttrs'. -/
def tokenAttrsUptoCard : Claim7 := { stood := { row := tokenAttrsUptoRow, standIns := [], harness := (true, "266ad52ebd0ffd5d66a817442c5d083593a12d906658ed49cd2ace4a52c45252"), looks := false }, kinds := [], alts := [], laidByText := true, laidKinds := [.data, .data, .data, .pinned, .pinned], laidTests := true, laidLooks := .later }
def TokenAttrsUptoCardSaid : Prop := Claim7.holds Tryd.pinned (.plain (OpenSpec.upto tokenAttrsSpec)) tokenAttrsUptoCard

/-- THE SECOND FORM's CARD OF 'brackenlaw10.TokenAside'. -/
def tokenAsideUptoCard : Claim7 := { stood := { row := tokenAsideUptoRow, standIns := [], harness := (true, "266ad52ebd0ffd5d66a817442c5d083593a12d906658ed49cd2ace4a52c45252"), looks := false }, kinds := [], alts := [], laidByText := true, laidKinds := [.data, .data, .data, .pinned, .pinned], laidTests := true, laidLooks := .later }
def TokenAsideUptoCardSaid : Prop := Claim7.holds Tryd.pinned (.plain (OpenSpec.upto tokenAsideSpec)) tokenAsideUptoCard
end Rows
end Go.Proofs.YtcnomlhlellmiaaDoor
