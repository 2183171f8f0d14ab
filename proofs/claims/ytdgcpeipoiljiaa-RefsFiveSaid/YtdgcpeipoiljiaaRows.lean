/-
  No cell of these rows narrows 'for every input' (looked for: loops, veiled, ifaces, maps, wideKeys, modest, calm, conditions, laid).
  DERIVED. THE GIVEN ROWS OF THIS SEAT. 3 by the template 'for every input the law returns true; each argument reads behind the call as it read before'; 0 by the template 'total and deterministic' (their statements: YtdgcpeipoiljiaaTotals.lean).
  GIVEN WITH THE SEED: the statements are not yours to turn. If you find one false, say at which input.
  Laid BY PROGRAM, IN A SANDBOX (cutbox-rows.mjs): the forced cells as the released guide's own fill.sh prints them over the translation b3df818a3d0ea9ba… (all of the seat's roots in one cut). By AI agents, Wed Nov 11 2026. No macro, syntax, notation, axiom, sorry.
-/
import Derived.Test.YtdgcpeipoiljiaaChecked
import GoSem.Claim
import GoSem.ClaimJoined
import GoSem.ClaimMapViews
import Derived.JoinedTies
import Derived.KernelRfl
namespace Go.Proofs.Ytdgcpeipoiljiaa
/- THE CELL 'sum', in the pinned program and in every row, IS THE sha256 OF THE DUMP (.gsa) THAT YtdgcpeipoiljiaaProg.lean LOADS. Nothing in Lean hashes anything: it is a label: what it is worth is what the hold of that sum in a sandbox is worth. -/
noncomputable def Try.pinned : Pinned := { name := "ytdgcpeipoiljiaa", sum := "b3df818a3d0ea9bafcfde2d4c8d9b82341a0246b7c73c86c84dcaa06057b6cf3", checked := Try.checked }
namespace Rows
def none {H : Type} : Left H := { results := [], args := [] }

/-- 'brackenlaw12.RefsOpen': WHATEVER THE INPUT: true; the input reads as it did. -/
def refsOpenSpec : ChangeSpec := { name := "refsOpen", fn := fun _ => fun
  | [d] => { results := [.lit (.bool true)], args := [d] }
  | _ => none }
def refsOpenRow : OpenClaim := { program := "ytdgcpeipoiljiaa", sum := "b3df818a3d0ea9bafcfde2d4c8d9b82341a0246b7c73c86c84dcaa06057b6cf3", func := "bracken/brackenlaw12.RefsOpen", spec := "refsOpen", unfollowed := true, recurses := true, apart := false }
def RefsOpenSaid : Prop := refsOpenRow.holds Try.pinned (OpenSpec.ofChange refsOpenSpec)

/-- ITS FALSE NEIGHBOUR: 'it returns false'. Refute it at one input. -/
def refsOpenWrong : ChangeSpec := { name := "refsOpen", fn := fun _ => fun
  | [d] => { results := [.lit (.bool false)], args := [d] }
  | _ => none }
def RefsOpenWrongFalsely : Prop := refsOpenRow.holds Try.pinned (OpenSpec.ofChange refsOpenWrong)

/-- 'brackenlaw12.RefsFive': WHATEVER THE INPUT: true; the input reads as it did. -/
def refsFiveSpec : ChangeSpec := { name := "refsFive", fn := fun _ => fun
  | [d1, d2] => { results := [.lit (.bool true)], args := [d1, d2] }
  | _ => none }
def refsFiveRow : OpenClaim := { program := "ytdgcpeipoiljiaa", sum := "b3df818a3d0ea9bafcfde2d4c8d9b82341a0246b7c73c86c84dcaa06057b6cf3", func := "bracken/brackenlaw12.RefsFive", spec := "refsFive", unfollowed := true, recurses := true, apart := false }
def RefsFiveSaid : Prop := refsFiveRow.holds Try.pinned (OpenSpec.ofChange refsFiveSpec)

/-- ITS FALSE NEIGHBOUR: 'it returns false'. Refute it at one input. -/
def refsFiveWrong : ChangeSpec := { name := "refsFive", fn := fun _ => fun
  | [d1, d2] => { results := [.lit (.bool false)], args := [d1, d2] }
  | _ => none }
def RefsFiveWrongFalsely : Prop := refsFiveRow.holds Try.pinned (OpenSpec.ofChange refsFiveWrong)

/-- 'brackenlaw12.RefsRoom': WHATEVER THE INPUT: true; the input reads as it did. -/
def refsRoomSpec : ChangeSpec := { name := "refsRoom", fn := fun _ => fun
  | [d1, d2] => { results := [.lit (.bool true)], args := [d1, d2] }
  | _ => none }
def refsRoomRow : OpenClaim := { program := "ytdgcpeipoiljiaa", sum := "b3df818a3d0ea9bafcfde2d4c8d9b82341a0246b7c73c86c84dcaa06057b6cf3", func := "bracken/brackenlaw12.RefsRoom", spec := "refsRoom", unfollowed := true, recurses := true, apart := false }
def RefsRoomSaid : Prop := refsRoomRow.holds Try.pinned (OpenSpec.ofChange refsRoomSpec)

/-- ITS FALSE NEIGHBOUR: 'it returns false'. Refute it at one input. -/
def refsRoomWrong : ChangeSpec := { name := "refsRoom", fn := fun _ => fun
  | [d1, d2] => { results := [.lit (.bool false)], args := [d1, d2] }
  | _ => none }
def RefsRoomWrongFalsely : Prop := refsRoomRow.holds Try.pinned (OpenSpec.ofChange refsRoomWrong)

/- THE SECOND FORM. 'bulk': how many values and letters a reading holds, each counted each time it is reached (what is shared counts as often as it is met; a slice's spare places count too). A statement '..UptoSaid' is the law's where the arguments, and the package variables that the reading takes, are together of bulk at most 1048576: NARROWER than '..Said'. Prove '..Said' where nothing that the law and all that it calls make is longer than what came in: it says more and counts as full. Else prove '..UptoSaid'. A law counts once. -/
mutual
def uptoBulk {H : Type} : DataW H → Nat
  | .lit (.string bytes) => bytes.length + 1
  | .lit _ => 1
  | .nil => 1
  | .ptr d => uptoBulk d + 1
  | .slice elems spare => uptoBulkAll elems + uptoBulkAll spare + 1
  | .agg parts => uptoBulkAll parts + 1
  | .iface _ d => uptoBulk d + 1
  | .map entries => uptoBulkEntries entries + 1
  | .held _ => 1
def uptoBulkAll {H : Type} : List (DataW H) → Nat
  | [] => 0
  | d :: r => uptoBulk d + uptoBulkAll r
def uptoBulkEntries {H : Type} : List (Lit × DataW H) → Nat
  | [] => 0
  | x :: r => uptoBulkEntry x + uptoBulkEntries r
def uptoBulkEntry {H : Type} : Lit × DataW H → Nat
  | (.string bytes, d) => bytes.length + uptoBulk d + 1
  | (_, d) => uptoBulk d + 1
 end
def uptoSmall : (H : Type) → List (DataW H) → Bool := fun _ ds => decide (uptoBulkAll ds ≤ 1048576)
def OpenSpec.upto (s : _root_.Go.ChangeSpec) : _root_.Go.OpenSpec := { _root_.Go.OpenSpec.ofChange s with cond := some uptoSmall }

/-- 'brackenlaw12.RefsOpen', WHERE WHAT IT READS IS OF BULK AT MOST 1048576: true; the input reads as it did. -/
def refsOpenUptoRow : OpenClaim := { program := "ytdgcpeipoiljiaa", sum := "b3df818a3d0ea9bafcfde2d4c8d9b82341a0246b7c73c86c84dcaa06057b6cf3", func := "bracken/brackenlaw12.RefsOpen", spec := "refsOpen", unfollowed := true, recurses := true, apart := false, narrowed := true }
def RefsOpenUptoSaid : Prop := refsOpenUptoRow.holds Try.pinned (OpenSpec.upto refsOpenSpec)

/-- 'brackenlaw12.RefsFive', WHERE WHAT IT READS IS OF BULK AT MOST 1048576: true; the input reads as it did. -/
def refsFiveUptoRow : OpenClaim := { program := "ytdgcpeipoiljiaa", sum := "b3df818a3d0ea9bafcfde2d4c8d9b82341a0246b7c73c86c84dcaa06057b6cf3", func := "bracken/brackenlaw12.RefsFive", spec := "refsFive", unfollowed := true, recurses := true, apart := false, narrowed := true }
def RefsFiveUptoSaid : Prop := refsFiveUptoRow.holds Try.pinned (OpenSpec.upto refsFiveSpec)

/-- 'brackenlaw12.RefsRoom', WHERE WHAT IT READS IS OF BULK AT MOST 1048576: true; the input reads as it did. -/
def refsRoomUptoRow : OpenClaim := { program := "ytdgcpeipoiljiaa", sum := "b3df818a3d0ea9bafcfde2d4c8d9b82341a0246b7c73c86c84dcaa06057b6cf3", func := "bracken/brackenlaw12.RefsRoom", spec := "refsRoom", unfollowed := true, recurses := true, apart := false, narrowed := true }
def RefsRoomUptoSaid : Prop := refsRoomUptoRow.holds Try.pinned (OpenSpec.upto refsRoomSpec)

end Rows
end Go.Proofs.Ytdgcpeipoiljiaa
