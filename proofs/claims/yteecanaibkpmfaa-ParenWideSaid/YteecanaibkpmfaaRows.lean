/-
  No cell of these rows narrows 'for every input' (looked for: loops, veiled, ifaces, maps, wideKeys, modest, calm, conditions, laid).
  DERIVED. THE GIVEN ROWS OF THIS SEAT. 8 by the template 'for every input the law returns true; each argument reads behind the call as it read before'; 0 by the template 'total and deterministic' (their statements: YteecanaibkpmfaaTotals.lean).
  GIVEN WITH THE SEED: the statements are not yours to turn. If you find one false, say at which input.
  Laid BY PROGRAM, IN A SANDBOX (cutbox-rows.mjs): the forced cells as the released guide's own fill.sh prints them over the translation 94bc75858c5c92b1… (all of the seat's roots in one cut). By AI agents, Wed Nov 11 2026. No macro, syntax, notation, axiom, sorry.
-/
import Derived.Test.YteecanaibkpmfaaChecked
import GoSem.Claim
import GoSem.ClaimJoined
import GoSem.ClaimMapViews
import Derived.JoinedTies
import Derived.KernelRfl
namespace Go.Proofs.Yteecanaibkpmfaa
/- THE CELL 'sum', in the pinned program and in every row, IS THE sha256 OF THE DUMP (.gsa) THAT YteecanaibkpmfaaProg.lean LOADS. Nothing in Lean hashes anything: it is a label: what it is worth is what the hold of that sum in a sandbox is worth. -/
noncomputable def Try.pinned : Pinned := { name := "yteecanaibkpmfaa", sum := "94bc75858c5c92b10e0c8a05614ca02a355afa22c90ad5b315df3658bfba77a1", checked := Try.checked }
namespace Rows
def none {H : Type} : Left H := { results := [], args := [] }

/-- 'brackenlaw5.ParenNone': WHATEVER THE INPUT: true; the input reads as it did. -/
def parenNoneSpec : ChangeSpec := { name := "parenNone", fn := fun _ => fun
  | [d1, d2] => { results := [.lit (.bool true)], args := [d1, d2] }
  | _ => none }
def parenNoneRow : OpenClaim := { program := "yteecanaibkpmfaa", sum := "94bc75858c5c92b10e0c8a05614ca02a355afa22c90ad5b315df3658bfba77a1", func := "bracken/brackenlaw5.ParenNone", spec := "parenNone", unfollowed := true, recurses := true, apart := false }
def ParenNoneSaid : Prop := parenNoneRow.holds Try.pinned (OpenSpec.ofChange parenNoneSpec)

/-- ITS FALSE NEIGHBOUR: 'it returns false'. Refute it at one input. -/
def parenNoneWrong : ChangeSpec := { name := "parenNone", fn := fun _ => fun
  | [d1, d2] => { results := [.lit (.bool false)], args := [d1, d2] }
  | _ => none }
def ParenNoneWrongFalsely : Prop := parenNoneRow.holds Try.pinned (OpenSpec.ofChange parenNoneWrong)

/-- 'brackenlaw5.ParenAsks': WHATEVER THE INPUT: true; the input reads as it did. -/
def parenAsksSpec : ChangeSpec := { name := "parenAsks", fn := fun _ => fun
  | [d1, d2, d3] => { results := [.lit (.bool true)], args := [d1, d2, d3] }
  | _ => none }
def parenAsksRow : OpenClaim := { program := "yteecanaibkpmfaa", sum := "94bc75858c5c92b10e0c8a05614ca02a355afa22c90ad5b315df3658bfba77a1", func := "bracken/brackenlaw5.ParenAsks", spec := "parenAsks", unfollowed := true, recurses := true, apart := false }
def ParenAsksSaid : Prop := parenAsksRow.holds Try.pinned (OpenSpec.ofChange parenAsksSpec)

/-- ITS FALSE NEIGHBOUR: 'it returns false'. Refute it at one input. -/
def parenAsksWrong : ChangeSpec := { name := "parenAsks", fn := fun _ => fun
  | [d1, d2, d3] => { results := [.lit (.bool false)], args := [d1, d2, d3] }
  | _ => none }
def ParenAsksWrongFalsely : Prop := parenAsksRow.holds Try.pinned (OpenSpec.ofChange parenAsksWrong)

/-- 'brackenlaw5.ParenRaw': WHATEVER THE INPUT: true; the input reads as it did. -/
def parenRawSpec : ChangeSpec := { name := "parenRaw", fn := fun _ => fun
  | [d] => { results := [.lit (.bool true)], args := [d] }
  | _ => none }
def parenRawRow : OpenClaim := { program := "yteecanaibkpmfaa", sum := "94bc75858c5c92b10e0c8a05614ca02a355afa22c90ad5b315df3658bfba77a1", func := "bracken/brackenlaw5.ParenRaw", spec := "parenRaw", unfollowed := true, recurses := true, apart := false }
def ParenRawSaid : Prop := parenRawRow.holds Try.pinned (OpenSpec.ofChange parenRawSpec)

/-- ITS FALSE NEIGHBOUR: 'it returns false'. Refute it at one input. -/
def parenRawWrong : ChangeSpec := { name := "parenRaw", fn := fun _ => fun
  | [d] => { results := [.lit (.bool false)], args := [d] }
  | _ => none }
def ParenRawWrongFalsely : Prop := parenRawRow.holds Try.pinned (OpenSpec.ofChange parenRawWrong)

/-- 'brackenlaw5.ParenPairs': WHATEVER THE INPUT: true; the input reads as it did. -/
def parenPairsSpec : ChangeSpec := { name := "parenPairs", fn := fun _ => fun
  | [d] => { results := [.lit (.bool true)], args := [d] }
  | _ => none }
def parenPairsRow : OpenClaim := { program := "yteecanaibkpmfaa", sum := "94bc75858c5c92b10e0c8a05614ca02a355afa22c90ad5b315df3658bfba77a1", func := "bracken/brackenlaw5.ParenPairs", spec := "parenPairs", unfollowed := true, recurses := true, apart := false }
def ParenPairsSaid : Prop := parenPairsRow.holds Try.pinned (OpenSpec.ofChange parenPairsSpec)

/-- ITS FALSE NEIGHBOUR: 'it returns false'. Refute it at one input. -/
def parenPairsWrong : ChangeSpec := { name := "parenPairs", fn := fun _ => fun
  | [d] => { results := [.lit (.bool false)], args := [d] }
  | _ => none }
def ParenPairsWrongFalsely : Prop := parenPairsRow.holds Try.pinned (OpenSpec.ofChange parenPairsWrong)

/-- 'brackenlaw5.ParenDeep': WHATEVER THE INPUT: true; the input reads as it did. -/
def parenDeepSpec : ChangeSpec := { name := "parenDeep", fn := fun _ => fun
  | [d1, d2, d3] => { results := [.lit (.bool true)], args := [d1, d2, d3] }
  | _ => none }
def parenDeepRow : OpenClaim := { program := "yteecanaibkpmfaa", sum := "94bc75858c5c92b10e0c8a05614ca02a355afa22c90ad5b315df3658bfba77a1", func := "bracken/brackenlaw5.ParenDeep", spec := "parenDeep", unfollowed := true, recurses := true, apart := false }
def ParenDeepSaid : Prop := parenDeepRow.holds Try.pinned (OpenSpec.ofChange parenDeepSpec)

/-- ITS FALSE NEIGHBOUR: 'it returns false'. Refute it at one input. -/
def parenDeepWrong : ChangeSpec := { name := "parenDeep", fn := fun _ => fun
  | [d1, d2, d3] => { results := [.lit (.bool false)], args := [d1, d2, d3] }
  | _ => none }
def ParenDeepWrongFalsely : Prop := parenDeepRow.holds Try.pinned (OpenSpec.ofChange parenDeepWrong)

/-- 'brackenlaw5.ParenWide': WHATEVER THE INPUT: true; the input reads as it did. -/
def parenWideSpec : ChangeSpec := { name := "parenWide", fn := fun _ => fun
  | [d1, d2] => { results := [.lit (.bool true)], args := [d1, d2] }
  | _ => none }
def parenWideRow : OpenClaim := { program := "yteecanaibkpmfaa", sum := "94bc75858c5c92b10e0c8a05614ca02a355afa22c90ad5b315df3658bfba77a1", func := "bracken/brackenlaw5.ParenWide", spec := "parenWide", unfollowed := true, recurses := true, apart := false }
def ParenWideSaid : Prop := parenWideRow.holds Try.pinned (OpenSpec.ofChange parenWideSpec)

/-- ITS FALSE NEIGHBOUR: 'it returns false'. Refute it at one input. -/
def parenWideWrong : ChangeSpec := { name := "parenWide", fn := fun _ => fun
  | [d1, d2] => { results := [.lit (.bool false)], args := [d1, d2] }
  | _ => none }
def ParenWideWrongFalsely : Prop := parenWideRow.holds Try.pinned (OpenSpec.ofChange parenWideWrong)

/-- 'brackenlaw5.ParenUp': WHATEVER THE INPUT: true; the input reads as it did. -/
def parenUpSpec : ChangeSpec := { name := "parenUp", fn := fun _ => fun
  | [d1, d2] => { results := [.lit (.bool true)], args := [d1, d2] }
  | _ => none }
def parenUpRow : OpenClaim := { program := "yteecanaibkpmfaa", sum := "94bc75858c5c92b10e0c8a05614ca02a355afa22c90ad5b315df3658bfba77a1", func := "bracken/brackenlaw5.ParenUp", spec := "parenUp", unfollowed := true, recurses := true, apart := false }
def ParenUpSaid : Prop := parenUpRow.holds Try.pinned (OpenSpec.ofChange parenUpSpec)

/-- ITS FALSE NEIGHBOUR: 'it returns false'. Refute it at one input. -/
def parenUpWrong : ChangeSpec := { name := "parenUp", fn := fun _ => fun
  | [d1, d2] => { results := [.lit (.bool false)], args := [d1, d2] }
  | _ => none }
def ParenUpWrongFalsely : Prop := parenUpRow.holds Try.pinned (OpenSpec.ofChange parenUpWrong)

/-- 'brackenlaw5.ParenSpans': WHATEVER THE INPUT: true; the input reads as it did. -/
def parenSpansSpec : ChangeSpec := { name := "parenSpans", fn := fun _ => fun
  | [d] => { results := [.lit (.bool true)], args := [d] }
  | _ => none }
def parenSpansRow : OpenClaim := { program := "yteecanaibkpmfaa", sum := "94bc75858c5c92b10e0c8a05614ca02a355afa22c90ad5b315df3658bfba77a1", func := "bracken/brackenlaw5.ParenSpans", spec := "parenSpans", unfollowed := true, recurses := true, apart := false }
def ParenSpansSaid : Prop := parenSpansRow.holds Try.pinned (OpenSpec.ofChange parenSpansSpec)

/-- ITS FALSE NEIGHBOUR: 'it returns false'. Refute it at one input. -/
def parenSpansWrong : ChangeSpec := { name := "parenSpans", fn := fun _ => fun
  | [d] => { results := [.lit (.bool false)], args := [d] }
  | _ => none }
def ParenSpansWrongFalsely : Prop := parenSpansRow.holds Try.pinned (OpenSpec.ofChange parenSpansWrong)

/- THE SECOND FORM. 'bulk': how many values and letters a reading holds, each counted each time it is reached (what is shared counts as often as it is met; a slice's spare places count too). A statement '..UptoSaid' is the law's where the arguments, and the package variables that the reading takes, are together of bulk at most 1048576: NARROWER than '..Said'. Prove '..Said' where nothing that the law and all that it calls make is longer than what came in: it says more and counts as full. Else prove '..UptoSaid'. A law counts once. -/
mutual
def uptoBulk {H : Type} : DataW H → Nat
  | .lit (.string bytes) => bytes.length + 1
  | .lit _ => 1
  | .nil => 1
  | .ptr d => uptoBulk d + 1
  | .slice elems spare => uptoBulkAll elems + uptoBulkAll spare + 1
  | .agg parts => uptoBulkAll parts + 1
  | .iface _ d => uptoBulk d + 1
  | .map entries => uptoBulkEntries entries + 1
  | .held _ => 1
def uptoBulkAll {H : Type} : List (DataW H) → Nat
  | [] => 0
  | d :: r => uptoBulk d + uptoBulkAll r
def uptoBulkEntries {H : Type} : List (Lit × DataW H) → Nat
  | [] => 0
  | x :: r => uptoBulkEntry x + uptoBulkEntries r
def uptoBulkEntry {H : Type} : Lit × DataW H → Nat
  | (.string bytes, d) => bytes.length + uptoBulk d + 1
  | (_, d) => uptoBulk d + 1
 end
def uptoSmall : (H : Type) → List (DataW H) → Bool := fun _ ds => decide (uptoBulkAll ds ≤ 1048576)
def OpenSpec.upto (s : _root_.Go.ChangeSpec) : _root_.Go.OpenSpec := { _root_.Go.OpenSpec.ofChange s with cond := some uptoSmall }

/-- 'brackenlaw5.ParenNone', WHERE WHAT IT READS IS OF BULK AT MOST 1048576: true; the input reads as it did. -/
def parenNoneUptoRow : OpenClaim := { program := "yteecanaibkpmfaa", sum := "94bc75858c5c92b10e0c8a05614ca02a355afa22c90ad5b315df3658bfba77a1", func := "bracken/brackenlaw5.ParenNone", spec := "parenNone", unfollowed := true, recurses := true, apart := false, narrowed := true }
def ParenNoneUptoSaid : Prop := parenNoneUptoRow.holds Try.pinned (OpenSpec.upto parenNoneSpec)

/-- 'brackenlaw5.ParenAsks', WHERE WHAT IT READS IS OF BULK AT MOST 1048576: true; the input reads as it did. -/
def parenAsksUptoRow : OpenClaim := { program := "yteecanaibkpmfaa", sum := "94bc75858c5c92b10e0c8a05614ca02a355afa22c90ad5b315df3658bfba77a1", func := "bracken/brackenlaw5.ParenAsks", spec := "parenAsks", unfollowed := true, recurses := true, apart := false, narrowed := true }
def ParenAsksUptoSaid : Prop := parenAsksUptoRow.holds Try.pinned (OpenSpec.upto parenAsksSpec)

/-- 'brackenlaw5.ParenRaw', WHERE WHAT IT READS IS OF BULK AT MOST 1048576: true; the input reads as it did. -/
def parenRawUptoRow : OpenClaim := { program := "yteecanaibkpmfaa", sum := "94bc75858c5c92b10e0c8a05614ca02a355afa22c90ad5b315df3658bfba77a1", func := "bracken/brackenlaw5.ParenRaw", spec := "parenRaw", unfollowed := true, recurses := true, apart := false, narrowed := true }
def ParenRawUptoSaid : Prop := parenRawUptoRow.holds Try.pinned (OpenSpec.upto parenRawSpec)

/-- 'brackenlaw5.ParenPairs', WHERE WHAT IT READS IS OF BULK AT MOST 1048576: true; the input reads as it did. -/
def parenPairsUptoRow : OpenClaim := { program := "yteecanaibkpmfaa", sum := "94bc75858c5c92b10e0c8a05614ca02a355afa22c90ad5b315df3658bfba77a1", func := "bracken/brackenlaw5.ParenPairs", spec := "parenPairs", unfollowed := true, recurses := true, apart := false, narrowed := true }
def ParenPairsUptoSaid : Prop := parenPairsUptoRow.holds Try.pinned (OpenSpec.upto parenPairsSpec)

/-- 'brackenlaw5.ParenDeep', WHERE WHAT IT READS IS OF BULK AT MOST 1048576: true; the input reads as it did. -/
def parenDeepUptoRow : OpenClaim := { program := "yteecanaibkpmfaa", sum := "94bc75858c5c92b10e0c8a05614ca02a355afa22c90ad5b315df3658bfba77a1", func := "bracken/brackenlaw5.ParenDeep", spec := "parenDeep", unfollowed := true, recurses := true, apart := false, narrowed := true }
def ParenDeepUptoSaid : Prop := parenDeepUptoRow.holds Try.pinned (OpenSpec.upto parenDeepSpec)

/-- 'brackenlaw5.ParenWide', WHERE WHAT IT READS IS OF BULK AT MOST 1048576: true; the input reads as it did. -/
def parenWideUptoRow : OpenClaim := { program := "yteecanaibkpmfaa", sum := "94bc75858c5c92b10e0c8a05614ca02a355afa22c90ad5b315df3658bfba77a1", func := "bracken/brackenlaw5.ParenWide", spec := "parenWide", unfollowed := true, recurses := true, apart := false, narrowed := true }
def ParenWideUptoSaid : Prop := parenWideUptoRow.holds Try.pinned (OpenSpec.upto parenWideSpec)

/-- 'brackenlaw5.ParenUp', WHERE WHAT IT READS IS OF BULK AT MOST 1048576: true; the input reads as it did. -/
def parenUpUptoRow : OpenClaim := { program := "yteecanaibkpmfaa", sum := "94bc75858c5c92b10e0c8a05614ca02a355afa22c90ad5b315df3658bfba77a1", func := "bracken/brackenlaw5.ParenUp", spec := "parenUp", unfollowed := true, recurses := true, apart := false, narrowed := true }
def ParenUpUptoSaid : Prop := parenUpUptoRow.holds Try.pinned (OpenSpec.upto parenUpSpec)

/-- 'brackenlaw5.ParenSpans', WHERE WHAT IT READS IS OF BULK AT MOST 1048576: true; the input reads as it did. -/
def parenSpansUptoRow : OpenClaim := { program := "yteecanaibkpmfaa", sum := "94bc75858c5c92b10e0c8a05614ca02a355afa22c90ad5b315df3658bfba77a1", func := "bracken/brackenlaw5.ParenSpans", spec := "parenSpans", unfollowed := true, recurses := true, apart := false, narrowed := true }
def ParenSpansUptoSaid : Prop := parenSpansUptoRow.holds Try.pinned (OpenSpec.upto parenSpansSpec)

end Rows
end Go.Proofs.Yteecanaibkpmfaa
