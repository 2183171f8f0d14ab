/-
  No cell of these rows narrows 'for every input' (looked for: loops, veiled, ifaces, maps, wideKeys, modest, calm, conditions, laid).
  DERIVED. THE GIVEN ROWS OF THIS SEAT. 3 by the template 'for every input the law returns true; each argument reads behind the call as it read before'; 0 by the template 'total and deterministic' (their statements: YtcgglpjapkjphaaTotals.lean).
  GIVEN WITH THE SEED: the statements are not yours to turn. If you find one false, say at which input.
  Laid BY PROGRAM, IN A SANDBOX (cutbox-rows.mjs): the forced cells as the released guide's own fill.sh prints them over the translation 5894bf9d192f723a… (all of the seat's roots in one cut). By AI agents, Wed Nov 11 2026. No macro, syntax, notation, axiom, sorry.
-/
import Derived.Test.YtcgglpjapkjphaaChecked
import GoSem.Claim
import GoSem.ClaimJoined
import GoSem.ClaimMapViews
import Derived.JoinedTies
import Derived.KernelRfl
namespace Go.Proofs.Ytcgglpjapkjphaa
/- THE CELL 'sum', in the pinned program and in every row, IS THE sha256 OF THE DUMP (.gsa) THAT YtcgglpjapkjphaaProg.lean LOADS. Nothing in Lean hashes anything: it is a label: what it is worth is what the hold of that sum in a sandbox is worth. -/
noncomputable def Try.pinned : Pinned := { name := "ytcgglpjapkjphaa", sum := "5894bf9d192f723a2d9cff3d47c6aa7080d8307176f5cf2893bed902b9b30d89", checked := Try.checked }
namespace Rows
def none {H : Type} : Left H := { results := [], args := [] }

/-- 'brackenlaw7.OffsAsks': WHATEVER THE INPUT: true; the input reads as it did. -/
def offsAsksSpec : ChangeSpec := { name := "offsAsks", fn := fun _ => fun
  | [d1, d2] => { results := [.lit (.bool true)], args := [d1, d2] }
  | _ => none }
def offsAsksRow : OpenClaim := { program := "ytcgglpjapkjphaa", sum := "5894bf9d192f723a2d9cff3d47c6aa7080d8307176f5cf2893bed902b9b30d89", func := "bracken/brackenlaw7.OffsAsks", spec := "offsAsks", unfollowed := true, recurses := true, apart := false }
def OffsAsksSaid : Prop := offsAsksRow.holds Try.pinned (OpenSpec.ofChange offsAsksSpec)

/-- ITS FALSE NEIGHBOUR: 'it returns false'. Refute it at one input. -/
def offsAsksWrong : ChangeSpec := { name := "offsAsks", fn := fun _ => fun
  | [d1, d2] => { results := [.lit (.bool false)], args := [d1, d2] }
  | _ => none }
def OffsAsksWrongFalsely : Prop := offsAsksRow.holds Try.pinned (OpenSpec.ofChange offsAsksWrong)

/-- 'brackenlaw7.OffsRise': WHATEVER THE INPUT: true; the input reads as it did. -/
def offsRiseSpec : ChangeSpec := { name := "offsRise", fn := fun _ => fun
  | [d] => { results := [.lit (.bool true)], args := [d] }
  | _ => none }
def offsRiseRow : OpenClaim := { program := "ytcgglpjapkjphaa", sum := "5894bf9d192f723a2d9cff3d47c6aa7080d8307176f5cf2893bed902b9b30d89", func := "bracken/brackenlaw7.OffsRise", spec := "offsRise", unfollowed := true, recurses := true, apart := false }
def OffsRiseSaid : Prop := offsRiseRow.holds Try.pinned (OpenSpec.ofChange offsRiseSpec)

/-- ITS FALSE NEIGHBOUR: 'it returns false'. Refute it at one input. -/
def offsRiseWrong : ChangeSpec := { name := "offsRise", fn := fun _ => fun
  | [d] => { results := [.lit (.bool false)], args := [d] }
  | _ => none }
def OffsRiseWrongFalsely : Prop := offsRiseRow.holds Try.pinned (OpenSpec.ofChange offsRiseWrong)

/-- 'brackenlaw7.OffsLow': WHATEVER THE INPUT: true; the input reads as it did. -/
def offsLowSpec : ChangeSpec := { name := "offsLow", fn := fun _ => fun
  | [d] => { results := [.lit (.bool true)], args := [d] }
  | _ => none }
def offsLowRow : OpenClaim := { program := "ytcgglpjapkjphaa", sum := "5894bf9d192f723a2d9cff3d47c6aa7080d8307176f5cf2893bed902b9b30d89", func := "bracken/brackenlaw7.OffsLow", spec := "offsLow", unfollowed := true, recurses := true, apart := false }
def OffsLowSaid : Prop := offsLowRow.holds Try.pinned (OpenSpec.ofChange offsLowSpec)

/-- ITS FALSE NEIGHBOUR: 'it returns false'. Refute it at one input. -/
def offsLowWrong : ChangeSpec := { name := "offsLow", fn := fun _ => fun
  | [d] => { results := [.lit (.bool false)], args := [d] }
  | _ => none }
def OffsLowWrongFalsely : Prop := offsLowRow.holds Try.pinned (OpenSpec.ofChange offsLowWrong)

/- THE SECOND FORM. 'bulk': how many values and letters a reading holds, each counted each time it is reached (what is shared counts as often as it is met; a slice's spare places count too). A statement '..UptoSaid' is the law's where the arguments, and the package variables that the reading takes, are together of bulk at most 1048576: NARROWER than '..Said'. Prove '..Said' where nothing that the law and all that it calls make is longer than what came in: it says more and counts as full. Else prove '..UptoSaid'. A law counts once. -/
mutual
def uptoBulk {H : Type} : DataW H → Nat
  | .lit (.string bytes) => bytes.length + 1
  | .lit _ => 1
  | .nil => 1
  | .ptr d => uptoBulk d + 1
  | .slice elems spare => uptoBulkAll elems + uptoBulkAll spare + 1
  | .agg parts => uptoBulkAll parts + 1
  | .iface _ d => uptoBulk d + 1
  | .map entries => uptoBulkEntries entries + 1
  | .held _ => 1
def uptoBulkAll {H : Type} : List (DataW H) → Nat
  | [] => 0
  | d :: r => uptoBulk d + uptoBulkAll r
def uptoBulkEntries {H : Type} : List (Lit × DataW H) → Nat
  | [] => 0
  | x :: r => uptoBulkEntry x + uptoBulkEntries r
def uptoBulkEntry {H : Type} : Lit × DataW H → Nat
  | (.string bytes, d) => bytes.length + uptoBulk d + 1
  | (_, d) => uptoBulk d + 1
 end
def uptoSmall : (H : Type) → List (DataW H) → Bool := fun _ ds => decide (uptoBulkAll ds ≤ 1048576)
def OpenSpec.upto (s : _root_.Go.ChangeSpec) : _root_.Go.OpenSpec := { _root_.Go.OpenSpec.ofChange s with cond := some uptoSmall }

/-- 'brackenlaw7.OffsAsks', WHERE WHAT IT READS IS OF BULK AT MOST 1048576: true; the input reads as it did. -/
def offsAsksUptoRow : OpenClaim := { program := "ytcgglpjapkjphaa", sum := "5894bf9d192f723a2d9cff3d47c6aa7080d8307176f5cf2893bed902b9b30d89", func := "bracken/brackenlaw7.OffsAsks", spec := "offsAsks", unfollowed := true, recurses := true, apart := false, narrowed := true }
def OffsAsksUptoSaid : Prop := offsAsksUptoRow.holds Try.pinned (OpenSpec.upto offsAsksSpec)

/-- 'brackenlaw7.OffsRise', WHERE WHAT IT READS IS OF BULK AT MOST 1048576: true; the input reads as it did. -/
def offsRiseUptoRow : OpenClaim := { program := "ytcgglpjapkjphaa", sum := "5894bf9d192f723a2d9cff3d47c6aa7080d8307176f5cf2893bed902b9b30d89", func := "bracken/brackenlaw7.OffsRise", spec := "offsRise", unfollowed := true, recurses := true, apart := false, narrowed := true }
def OffsRiseUptoSaid : Prop := offsRiseUptoRow.holds Try.pinned (OpenSpec.upto offsRiseSpec)

/-- 'brackenlaw7.OffsLow', WHERE WHAT IT READS IS OF BULK AT MOST 1048576: true; the input reads as it did. -/
def offsLowUptoRow : OpenClaim := { program := "ytcgglpjapkjphaa", sum := "5894bf9d192f723a2d9cff3d47c6aa7080d8307176f5cf2893bed902b9b30d89", func := "bracken/brackenlaw7.OffsLow", spec := "offsLow", unfollowed := true, recurses := true, apart := false, narrowed := true }
def OffsLowUptoSaid : Prop := offsLowUptoRow.holds Try.pinned (OpenSpec.upto offsLowSpec)

end Rows
end Go.Proofs.Ytcgglpjapkjphaa
