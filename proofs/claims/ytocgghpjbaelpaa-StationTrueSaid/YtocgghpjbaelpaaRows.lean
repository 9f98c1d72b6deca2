/-
  No cell of these rows narrows 'for every input' (looked for: loops, veiled, ifaces, maps, wideKeys, modest, calm, conditions, laid).
  DERIVED. THE GIVEN ROWS OF THIS SEAT. 7 by the template 'for every input the law returns true; each argument reads behind the call as it read before'; 0 by the template 'total and deterministic' (their statements: YtocgghpjbaelpaaTotals.lean).
  GIVEN WITH THE SEED: the statements are not yours to turn. If you find one false, say at which input.
  Laid BY PROGRAM, IN A SANDBOX (cutbox-rows.mjs): the forced cells as the released guide's own fill.sh prints them over the translation 5da8819158f23ca1… (all of the seat's roots in one cut). By AI agents, Wed Nov 11 2026. No macro, syntax, notation, axiom, sorry.
-/
import Derived.Test.YtocgghpjbaelpaaChecked
import GoSem.Claim
import GoSem.ClaimJoined
import GoSem.ClaimMapViews
import Derived.JoinedTies
import Derived.KernelRfl
namespace Go.Proofs.Ytocgghpjbaelpaa
/- THE CELL 'sum', in the pinned program and in every row, IS THE sha256 OF THE DUMP (.gsa) THAT YtocgghpjbaelpaaProg.lean LOADS. Nothing in Lean hashes anything: it is a label: what it is worth is what the hold of that sum in a sandbox is worth. -/
noncomputable def Try.pinned : Pinned := { name := "ytocgghpjbaelpaa", sum := "5da8819158f23ca1dba541663249b32f48541d398d9362f23143d3ec586a0dfa", checked := Try.checked }
namespace Rows
def none {H : Type} : Left H := { results := [], args := [] }

/-- 'fenberrylaw08.StationQueues': WHATEVER THE INPUT: true; the input reads as it did. -/
def stationQueuesSpec : ChangeSpec := { name := "stationQueues", fn := fun _ => fun
  | [d1, d2, d3] => { results := [.lit (.bool true)], args := [d1, d2, d3] }
  | _ => none }
def stationQueuesRow : OpenClaim := { program := "ytocgghpjbaelpaa", sum := "5da8819158f23ca1dba541663249b32f48541d398d9362f23143d3ec586a0dfa", func := "fenberry/fenberrylaw08.StationQueues", spec := "stationQueues", unfollowed := true, recurses := true, apart := false }
def StationQueuesSaid : Prop := stationQueuesRow.holds Try.pinned (OpenSpec.ofChange stationQueuesSpec)

/-- ITS FALSE NEIGHBOUR: 'it returns false'. Refute it at one input. -/
def stationQueuesWrong : ChangeSpec := { name := "stationQueues", fn := fun _ => fun
  | [d1, d2, d3] => { results := [.lit (.bool false)], args := [d1, d2, d3] }
  | _ => none }
def StationQueuesWrongFalsely : Prop := stationQueuesRow.holds Try.pinned (OpenSpec.ofChange stationQueuesWrong)

/-- 'fenberrylaw08.StationWeighs': WHATEVER THE INPUT: true; the input reads as it did. -/
def stationWeighsSpec : ChangeSpec := { name := "stationWeighs", fn := fun _ => fun
  | [d1, d2, d3, d4] => { results := [.lit (.bool true)], args := [d1, d2, d3, d4] }
  | _ => none }
def stationWeighsRow : OpenClaim := { program := "ytocgghpjbaelpaa", sum := "5da8819158f23ca1dba541663249b32f48541d398d9362f23143d3ec586a0dfa", func := "fenberry/fenberrylaw08.StationWeighs", spec := "stationWeighs", unfollowed := true, recurses := true, apart := false }
def StationWeighsSaid : Prop := stationWeighsRow.holds Try.pinned (OpenSpec.ofChange stationWeighsSpec)

/-- ITS FALSE NEIGHBOUR: 'it returns false'. Refute it at one input. -/
def stationWeighsWrong : ChangeSpec := { name := "stationWeighs", fn := fun _ => fun
  | [d1, d2, d3, d4] => { results := [.lit (.bool false)], args := [d1, d2, d3, d4] }
  | _ => none }
def StationWeighsWrongFalsely : Prop := stationWeighsRow.holds Try.pinned (OpenSpec.ofChange stationWeighsWrong)

/-- 'fenberrylaw08.StationTrue': WHATEVER THE INPUT: true; the input reads as it did. -/
def stationTrueSpec : ChangeSpec := { name := "stationTrue", fn := fun _ => fun
  | [d1, d2, d3] => { results := [.lit (.bool true)], args := [d1, d2, d3] }
  | _ => none }
def stationTrueRow : OpenClaim := { program := "ytocgghpjbaelpaa", sum := "5da8819158f23ca1dba541663249b32f48541d398d9362f23143d3ec586a0dfa", func := "fenberry/fenberrylaw08.StationTrue", spec := "stationTrue", unfollowed := true, recurses := true, apart := false }
def StationTrueSaid : Prop := stationTrueRow.holds Try.pinned (OpenSpec.ofChange stationTrueSpec)

/-- ITS FALSE NEIGHBOUR: 'it returns false'. Refute it at one input. -/
def stationTrueWrong : ChangeSpec := { name := "stationTrue", fn := fun _ => fun
  | [d1, d2, d3] => { results := [.lit (.bool false)], args := [d1, d2, d3] }
  | _ => none }
def StationTrueWrongFalsely : Prop := stationTrueRow.holds Try.pinned (OpenSpec.ofChange stationTrueWrong)

/-- 'fenberrylaw08.StationMore': WHATEVER THE INPUT: true; the input reads as it did. -/
def stationMoreSpec : ChangeSpec := { name := "stationMore", fn := fun _ => fun
  | [d1, d2, d3] => { results := [.lit (.bool true)], args := [d1, d2, d3] }
  | _ => none }
def stationMoreRow : OpenClaim := { program := "ytocgghpjbaelpaa", sum := "5da8819158f23ca1dba541663249b32f48541d398d9362f23143d3ec586a0dfa", func := "fenberry/fenberrylaw08.StationMore", spec := "stationMore", unfollowed := true, recurses := true, apart := false }
def StationMoreSaid : Prop := stationMoreRow.holds Try.pinned (OpenSpec.ofChange stationMoreSpec)

/-- ITS FALSE NEIGHBOUR: 'it returns false'. Refute it at one input. -/
def stationMoreWrong : ChangeSpec := { name := "stationMore", fn := fun _ => fun
  | [d1, d2, d3] => { results := [.lit (.bool false)], args := [d1, d2, d3] }
  | _ => none }
def StationMoreWrongFalsely : Prop := stationMoreRow.holds Try.pinned (OpenSpec.ofChange stationMoreWrong)

/-- 'fenberrylaw08.StationSplit': WHATEVER THE INPUT: true; the input reads as it did. -/
def stationSplitSpec : ChangeSpec := { name := "stationSplit", fn := fun _ => fun
  | [d1, d2] => { results := [.lit (.bool true)], args := [d1, d2] }
  | _ => none }
def stationSplitRow : OpenClaim := { program := "ytocgghpjbaelpaa", sum := "5da8819158f23ca1dba541663249b32f48541d398d9362f23143d3ec586a0dfa", func := "fenberry/fenberrylaw08.StationSplit", spec := "stationSplit", unfollowed := true, recurses := true, apart := false }
def StationSplitSaid : Prop := stationSplitRow.holds Try.pinned (OpenSpec.ofChange stationSplitSpec)

/-- ITS FALSE NEIGHBOUR: 'it returns false'. Refute it at one input. -/
def stationSplitWrong : ChangeSpec := { name := "stationSplit", fn := fun _ => fun
  | [d1, d2] => { results := [.lit (.bool false)], args := [d1, d2] }
  | _ => none }
def StationSplitWrongFalsely : Prop := stationSplitRow.holds Try.pinned (OpenSpec.ofChange stationSplitWrong)

/-- 'fenberrylaw08.StationSamples': WHATEVER THE INPUT: true; the input reads as it did. -/
def stationSamplesSpec : ChangeSpec := { name := "stationSamples", fn := fun _ => fun
  | [d1, d2, d3, d4, d5] => { results := [.lit (.bool true)], args := [d1, d2, d3, d4, d5] }
  | _ => none }
def stationSamplesRow : OpenClaim := { program := "ytocgghpjbaelpaa", sum := "5da8819158f23ca1dba541663249b32f48541d398d9362f23143d3ec586a0dfa", func := "fenberry/fenberrylaw08.StationSamples", spec := "stationSamples", unfollowed := true, recurses := true, apart := false }
def StationSamplesSaid : Prop := stationSamplesRow.holds Try.pinned (OpenSpec.ofChange stationSamplesSpec)

/-- ITS FALSE NEIGHBOUR: 'it returns false'. Refute it at one input. -/
def stationSamplesWrong : ChangeSpec := { name := "stationSamples", fn := fun _ => fun
  | [d1, d2, d3, d4, d5] => { results := [.lit (.bool false)], args := [d1, d2, d3, d4, d5] }
  | _ => none }
def StationSamplesWrongFalsely : Prop := stationSamplesRow.holds Try.pinned (OpenSpec.ofChange stationSamplesWrong)

/-- 'fenberrylaw08.StationBoards': WHATEVER THE INPUT: true; the input reads as it did. -/
def stationBoardsSpec : ChangeSpec := { name := "stationBoards", fn := fun _ => fun
  | [d1, d2, d3, d4, d5] => { results := [.lit (.bool true)], args := [d1, d2, d3, d4, d5] }
  | _ => none }
def stationBoardsRow : OpenClaim := { program := "ytocgghpjbaelpaa", sum := "5da8819158f23ca1dba541663249b32f48541d398d9362f23143d3ec586a0dfa", func := "fenberry/fenberrylaw08.StationBoards", spec := "stationBoards", unfollowed := true, recurses := true, apart := false }
def StationBoardsSaid : Prop := stationBoardsRow.holds Try.pinned (OpenSpec.ofChange stationBoardsSpec)

/-- ITS FALSE NEIGHBOUR: 'it returns false'. Refute it at one input. -/
def stationBoardsWrong : ChangeSpec := { name := "stationBoards", fn := fun _ => fun
  | [d1, d2, d3, d4, d5] => { results := [.lit (.bool false)], args := [d1, d2, d3, d4, d5] }
  | _ => none }
def StationBoardsWrongFalsely : Prop := stationBoardsRow.holds Try.pinned (OpenSpec.ofChange stationBoardsWrong)

/- THE SECOND FORM. 'bulk': how many values and letters a reading holds, each counted each time it is reached (what is shared counts as often as it is met; a slice's spare places count too). A statement '..UptoSaid' is the law's where the arguments, and the package variables that the reading takes, are together of bulk at most 1048576: NARROWER than '..Said'. Prove '..Said' where nothing that the law and all that it calls make is longer than what came in: it says more and counts as full. Else prove '..UptoSaid'. A law counts once. -/
mutual
def uptoBulk {H : Type} : DataW H → Nat
  | .lit (.string bytes) => bytes.length + 1
  | .lit _ => 1
  | .nil => 1
  | .ptr d => uptoBulk d + 1
  | .slice elems spare => uptoBulkAll elems + uptoBulkAll spare + 1
  | .agg parts => uptoBulkAll parts + 1
  | .iface _ d => uptoBulk d + 1
  | .map entries => uptoBulkEntries entries + 1
  | .held _ => 1
def uptoBulkAll {H : Type} : List (DataW H) → Nat
  | [] => 0
  | d :: r => uptoBulk d + uptoBulkAll r
def uptoBulkEntries {H : Type} : List (Lit × DataW H) → Nat
  | [] => 0
  | x :: r => uptoBulkEntry x + uptoBulkEntries r
def uptoBulkEntry {H : Type} : Lit × DataW H → Nat
  | (.string bytes, d) => bytes.length + uptoBulk d + 1
  | (_, d) => uptoBulk d + 1
 end
def uptoSmall : (H : Type) → List (DataW H) → Bool := fun _ ds => decide (uptoBulkAll ds ≤ 1048576)
def OpenSpec.upto (s : _root_.Go.ChangeSpec) : _root_.Go.OpenSpec := { _root_.Go.OpenSpec.ofChange s with cond := some uptoSmall }

/-- 'fenberrylaw08.StationQueues', WHERE WHAT IT READS IS OF BULK AT MOST 1048576: true; the input reads as it did. -/
def stationQueuesUptoRow : OpenClaim := { program := "ytocgghpjbaelpaa", sum := "5da8819158f23ca1dba541663249b32f48541d398d9362f23143d3ec586a0dfa", func := "fenberry/fenberrylaw08.StationQueues", spec := "stationQueues", unfollowed := true, recurses := true, apart := false, narrowed := true }
def StationQueuesUptoSaid : Prop := stationQueuesUptoRow.holds Try.pinned (OpenSpec.upto stationQueuesSpec)

/-- 'fenberrylaw08.StationWeighs', WHERE WHAT IT READS IS OF BULK AT MOST 1048576: true; the input reads as it did. -/
def stationWeighsUptoRow : OpenClaim := { program := "ytocgghpjbaelpaa", sum := "5da8819158f23ca1dba541663249b32f48541d398d9362f23143d3ec586a0dfa", func := "fenberry/fenberrylaw08.StationWeighs", spec := "stationWeighs", unfollowed := true, recurses := true, apart := false, narrowed := true }
def StationWeighsUptoSaid : Prop := stationWeighsUptoRow.holds Try.pinned (OpenSpec.upto stationWeighsSpec)

/-- 'fenberrylaw08.StationTrue', WHERE WHAT IT READS IS OF BULK AT MOST 1048576: true; the input reads as it did. -/
def stationTrueUptoRow : OpenClaim := { program := "ytocgghpjbaelpaa", sum := "5da8819158f23ca1dba541663249b32f48541d398d9362f23143d3ec586a0dfa", func := "fenberry/fenberrylaw08.StationTrue", spec := "stationTrue", unfollowed := true, recurses := true, apart := false, narrowed := true }
def StationTrueUptoSaid : Prop := stationTrueUptoRow.holds Try.pinned (OpenSpec.upto stationTrueSpec)

/-- 'fenberrylaw08.StationMore', WHERE WHAT IT READS IS OF BULK AT MOST 1048576: true; the input reads as it did. -/
def stationMoreUptoRow : OpenClaim := { program := "ytocgghpjbaelpaa", sum := "5da8819158f23ca1dba541663249b32f48541d398d9362f23143d3ec586a0dfa", func := "fenberry/fenberrylaw08.StationMore", spec := "stationMore", unfollowed := true, recurses := true, apart := false, narrowed := true }
def StationMoreUptoSaid : Prop := stationMoreUptoRow.holds Try.pinned (OpenSpec.upto stationMoreSpec)

/-- 'fenberrylaw08.StationSplit', WHERE WHAT IT READS IS OF BULK AT MOST 1048576: true; the input reads as it did. -/
def stationSplitUptoRow : OpenClaim := { program := "ytocgghpjbaelpaa", sum := "5da8819158f23ca1dba541663249b32f48541d398d9362f23143d3ec586a0dfa", func := "fenberry/fenberrylaw08.StationSplit", spec := "stationSplit", unfollowed := true, recurses := true, apart := false, narrowed := true }
def StationSplitUptoSaid : Prop := stationSplitUptoRow.holds Try.pinned (OpenSpec.upto stationSplitSpec)

/-- 'fenberrylaw08.StationSamples', WHERE WHAT IT READS IS OF BULK AT MOST 1048576: true; the input reads as it did. -/
def stationSamplesUptoRow : OpenClaim := { program := "ytocgghpjbaelpaa", sum := "5da8819158f23ca1dba541663249b32f48541d398d9362f23143d3ec586a0dfa", func := "fenberry/fenberrylaw08.StationSamples", spec := "stationSamples", unfollowed := true, recurses := true, apart := false, narrowed := true }
def StationSamplesUptoSaid : Prop := stationSamplesUptoRow.holds Try.pinned (OpenSpec.upto stationSamplesSpec)

/-- 'fenberrylaw08.StationBoards', WHERE WHAT IT READS IS OF BULK AT MOST 1048576: true; the input reads as it did. -/
def stationBoardsUptoRow : OpenClaim := { program := "ytocgghpjbaelpaa", sum := "5da8819158f23ca1dba541663249b32f48541d398d9362f23143d3ec586a0dfa", func := "fenberry/fenberrylaw08.StationBoards", spec := "stationBoards", unfollowed := true, recurses := true, apart := false, narrowed := true }
def StationBoardsUptoSaid : Prop := stationBoardsUptoRow.holds Try.pinned (OpenSpec.upto stationBoardsSpec)

end Rows
end Go.Proofs.Ytocgghpjbaelpaa
