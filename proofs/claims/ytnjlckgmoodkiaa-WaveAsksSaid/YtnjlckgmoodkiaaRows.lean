/-
  No cell of these rows narrows 'for every input' (looked for: loops, veiled, ifaces, maps, wideKeys, modest, calm, conditions, laid).
  DERIVED. THE GIVEN ROWS OF THIS SEAT. 5 by the template 'for every input the law returns true; each argument reads behind the call as it read before'; 0 by the template 'total and deterministic' (their statements: YtnjlckgmoodkiaaTotals.lean).
  GIVEN WITH THE SEED: the statements are not yours to turn. If you find one false, say at which input.
  Laid BY PROGRAM, IN A SANDBOX (cutbox-rows.mjs): the forced cells as the released guide's own fill.sh prints them over the translation a3b00fb38f990fdb… (all of the seat's roots in one cut). By AI agents, Wed Nov 11 2026. No macro, syntax, notation, axiom, sorry.
-/
import Derived.Test.YtnjlckgmoodkiaaChecked
import GoSem.Claim
import GoSem.ClaimJoined
import GoSem.ClaimMapViews
import Derived.JoinedTies
import Derived.KernelRfl
namespace Go.Proofs.Ytnjlckgmoodkiaa
/- THE CELL 'sum', in the pinned program and in every row, IS THE sha256 OF THE DUMP (.gsa) THAT YtnjlckgmoodkiaaProg.lean LOADS. Nothing in Lean hashes anything: it is a label: what it is worth is what the hold of that sum in a sandbox is worth. -/
noncomputable def Try.pinned : Pinned := { name := "ytnjlckgmoodkiaa", sum := "a3b00fb38f990fdbcef83c7f6a1fa1e58e9169d254084973ee227a5d24a33877", checked := Try.checked }
namespace Rows
def none {H : Type} : Left H := { results := [], args := [] }

/-- 'brackenlaw6.WaveAsks': WHATEVER THE INPUT: true; the input reads as it did. -/
def waveAsksSpec : ChangeSpec := { name := "waveAsks", fn := fun _ => fun
  | [d1, d2, d3, d4, d5, d6] => { results := [.lit (.bool true)], args := [d1, d2, d3, d4, d5, d6] }
  | _ => none }
def waveAsksRow : OpenClaim := { program := "ytnjlckgmoodkiaa", sum := "a3b00fb38f990fdbcef83c7f6a1fa1e58e9169d254084973ee227a5d24a33877", func := "bracken/brackenlaw6.WaveAsks", spec := "waveAsks", unfollowed := true, recurses := true, apart := false }
def WaveAsksSaid : Prop := waveAsksRow.holds Try.pinned (OpenSpec.ofChange waveAsksSpec)

/-- ITS FALSE NEIGHBOUR: 'it returns false'. Refute it at one input. -/
def waveAsksWrong : ChangeSpec := { name := "waveAsks", fn := fun _ => fun
  | [d1, d2, d3, d4, d5, d6] => { results := [.lit (.bool false)], args := [d1, d2, d3, d4, d5, d6] }
  | _ => none }
def WaveAsksWrongFalsely : Prop := waveAsksRow.holds Try.pinned (OpenSpec.ofChange waveAsksWrong)

/-- 'brackenlaw6.WaveRaw': WHATEVER THE INPUT: true; the input reads as it did. -/
def waveRawSpec : ChangeSpec := { name := "waveRaw", fn := fun _ => fun
  | [d1, d2] => { results := [.lit (.bool true)], args := [d1, d2] }
  | _ => none }
def waveRawRow : OpenClaim := { program := "ytnjlckgmoodkiaa", sum := "a3b00fb38f990fdbcef83c7f6a1fa1e58e9169d254084973ee227a5d24a33877", func := "bracken/brackenlaw6.WaveRaw", spec := "waveRaw", unfollowed := true, recurses := true, apart := false }
def WaveRawSaid : Prop := waveRawRow.holds Try.pinned (OpenSpec.ofChange waveRawSpec)

/-- ITS FALSE NEIGHBOUR: 'it returns false'. Refute it at one input. -/
def waveRawWrong : ChangeSpec := { name := "waveRaw", fn := fun _ => fun
  | [d1, d2] => { results := [.lit (.bool false)], args := [d1, d2] }
  | _ => none }
def WaveRawWrongFalsely : Prop := waveRawRow.holds Try.pinned (OpenSpec.ofChange waveRawWrong)

/-- 'brackenlaw6.WaveParts': WHATEVER THE INPUT: true; the input reads as it did. -/
def wavePartsSpec : ChangeSpec := { name := "waveParts", fn := fun _ => fun
  | [d1, d2, d3, d4] => { results := [.lit (.bool true)], args := [d1, d2, d3, d4] }
  | _ => none }
def wavePartsRow : OpenClaim := { program := "ytnjlckgmoodkiaa", sum := "a3b00fb38f990fdbcef83c7f6a1fa1e58e9169d254084973ee227a5d24a33877", func := "bracken/brackenlaw6.WaveParts", spec := "waveParts", unfollowed := true, recurses := true, apart := false }
def WavePartsSaid : Prop := wavePartsRow.holds Try.pinned (OpenSpec.ofChange wavePartsSpec)

/-- ITS FALSE NEIGHBOUR: 'it returns false'. Refute it at one input. -/
def wavePartsWrong : ChangeSpec := { name := "waveParts", fn := fun _ => fun
  | [d1, d2, d3, d4] => { results := [.lit (.bool false)], args := [d1, d2, d3, d4] }
  | _ => none }
def WavePartsWrongFalsely : Prop := wavePartsRow.holds Try.pinned (OpenSpec.ofChange wavePartsWrong)

/-- 'brackenlaw6.WaveOne': WHATEVER THE INPUT: true; the input reads as it did. -/
def waveOneSpec : ChangeSpec := { name := "waveOne", fn := fun _ => fun
  | [d1, d2, d3] => { results := [.lit (.bool true)], args := [d1, d2, d3] }
  | _ => none }
def waveOneRow : OpenClaim := { program := "ytnjlckgmoodkiaa", sum := "a3b00fb38f990fdbcef83c7f6a1fa1e58e9169d254084973ee227a5d24a33877", func := "bracken/brackenlaw6.WaveOne", spec := "waveOne", unfollowed := true, recurses := true, apart := false }
def WaveOneSaid : Prop := waveOneRow.holds Try.pinned (OpenSpec.ofChange waveOneSpec)

/-- ITS FALSE NEIGHBOUR: 'it returns false'. Refute it at one input. -/
def waveOneWrong : ChangeSpec := { name := "waveOne", fn := fun _ => fun
  | [d1, d2, d3] => { results := [.lit (.bool false)], args := [d1, d2, d3] }
  | _ => none }
def WaveOneWrongFalsely : Prop := waveOneRow.holds Try.pinned (OpenSpec.ofChange waveOneWrong)

/-- 'brackenlaw6.WaveSelects': WHATEVER THE INPUT: true; the input reads as it did. -/
def waveSelectsSpec : ChangeSpec := { name := "waveSelects", fn := fun _ => fun
  | [d1, d2] => { results := [.lit (.bool true)], args := [d1, d2] }
  | _ => none }
def waveSelectsRow : OpenClaim := { program := "ytnjlckgmoodkiaa", sum := "a3b00fb38f990fdbcef83c7f6a1fa1e58e9169d254084973ee227a5d24a33877", func := "bracken/brackenlaw6.WaveSelects", spec := "waveSelects", unfollowed := true, recurses := true, apart := false }
def WaveSelectsSaid : Prop := waveSelectsRow.holds Try.pinned (OpenSpec.ofChange waveSelectsSpec)

/-- ITS FALSE NEIGHBOUR: 'it returns false'. Refute it at one input. -/
def waveSelectsWrong : ChangeSpec := { name := "waveSelects", fn := fun _ => fun
  | [d1, d2] => { results := [.lit (.bool false)], args := [d1, d2] }
  | _ => none }
def WaveSelectsWrongFalsely : Prop := waveSelectsRow.holds Try.pinned (OpenSpec.ofChange waveSelectsWrong)

/- THE SECOND FORM. 'bulk': how many values and letters a reading holds, each counted each time it is reached (what is shared counts as often as it is met; a slice's spare places count too). A statement '..UptoSaid' is the law's where the arguments, and the package variables that the reading takes, are together of bulk at most 1048576: NARROWER than '..Said'. Prove '..Said' where nothing that the law and all that it calls make is longer than what came in: it says more and counts as full. Else prove '..UptoSaid'. A law counts once. -/
mutual
def uptoBulk {H : Type} : DataW H → Nat
  | .lit (.string bytes) => bytes.length + 1
  | .lit _ => 1
  | .nil => 1
  | .ptr d => uptoBulk d + 1
  | .slice elems spare => uptoBulkAll elems + uptoBulkAll spare + 1
  | .agg parts => uptoBulkAll parts + 1
  | .iface _ d => uptoBulk d + 1
  | .map entries => uptoBulkEntries entries + 1
  | .held _ => 1
def uptoBulkAll {H : Type} : List (DataW H) → Nat
  | [] => 0
  | d :: r => uptoBulk d + uptoBulkAll r
def uptoBulkEntries {H : Type} : List (Lit × DataW H) → Nat
  | [] => 0
  | x :: r => uptoBulkEntry x + uptoBulkEntries r
def uptoBulkEntry {H : Type} : Lit × DataW H → Nat
  | (.string bytes, d) => bytes.length + uptoBulk d + 1
  | (_, d) => uptoBulk d + 1
 end
def uptoSmall : (H : Type) → List (DataW H) → Bool := fun _ ds => decide (uptoBulkAll ds ≤ 1048576)
def OpenSpec.upto (s : _root_.Go.ChangeSpec) : _root_.Go.OpenSpec := { _root_.Go.OpenSpec.ofChange s with cond := some uptoSmall }

/-- 'brackenlaw6.WaveAsks', WHERE WHAT IT READS IS OF BULK AT MOST 1048576: true; the input reads as it did. -/
def waveAsksUptoRow : OpenClaim := { program := "ytnjlckgmoodkiaa", sum := "a3b00fb38f990fdbcef83c7f6a1fa1e58e9169d254084973ee227a5d24a33877", func := "bracken/brackenlaw6.WaveAsks", spec := "waveAsks", unfollowed := true, recurses := true, apart := false, narrowed := true }
def WaveAsksUptoSaid : Prop := waveAsksUptoRow.holds Try.pinned (OpenSpec.upto waveAsksSpec)

/-- 'brackenlaw6.WaveRaw', WHERE WHAT IT READS IS OF BULK AT MOST 1048576: true; the input reads as it did. -/
def waveRawUptoRow : OpenClaim := { program := "ytnjlckgmoodkiaa", sum := "a3b00fb38f990fdbcef83c7f6a1fa1e58e9169d254084973ee227a5d24a33877", func := "bracken/brackenlaw6.WaveRaw", spec := "waveRaw", unfollowed := true, recurses := true, apart := false, narrowed := true }
def WaveRawUptoSaid : Prop := waveRawUptoRow.holds Try.pinned (OpenSpec.upto waveRawSpec)

/-- 'brackenlaw6.WaveParts', WHERE WHAT IT READS IS OF BULK AT MOST 1048576: true; the input reads as it did. -/
def wavePartsUptoRow : OpenClaim := { program := "ytnjlckgmoodkiaa", sum := "a3b00fb38f990fdbcef83c7f6a1fa1e58e9169d254084973ee227a5d24a33877", func := "bracken/brackenlaw6.WaveParts", spec := "waveParts", unfollowed := true, recurses := true, apart := false, narrowed := true }
def WavePartsUptoSaid : Prop := wavePartsUptoRow.holds Try.pinned (OpenSpec.upto wavePartsSpec)

/-- 'brackenlaw6.WaveOne', WHERE WHAT IT READS IS OF BULK AT MOST 1048576: true; the input reads as it did. -/
def waveOneUptoRow : OpenClaim := { program := "ytnjlckgmoodkiaa", sum := "a3b00fb38f990fdbcef83c7f6a1fa1e58e9169d254084973ee227a5d24a33877", func := "bracken/brackenlaw6.WaveOne", spec := "waveOne", unfollowed := true, recurses := true, apart := false, narrowed := true }
def WaveOneUptoSaid : Prop := waveOneUptoRow.holds Try.pinned (OpenSpec.upto waveOneSpec)

/-- 'brackenlaw6.WaveSelects', WHERE WHAT IT READS IS OF BULK AT MOST 1048576: true; the input reads as it did. -/
def waveSelectsUptoRow : OpenClaim := { program := "ytnjlckgmoodkiaa", sum := "a3b00fb38f990fdbcef83c7f6a1fa1e58e9169d254084973ee227a5d24a33877", func := "bracken/brackenlaw6.WaveSelects", spec := "waveSelects", unfollowed := true, recurses := true, apart := false, narrowed := true }
def WaveSelectsUptoSaid : Prop := waveSelectsUptoRow.holds Try.pinned (OpenSpec.upto waveSelectsSpec)

end Rows
end Go.Proofs.Ytnjlckgmoodkiaa
