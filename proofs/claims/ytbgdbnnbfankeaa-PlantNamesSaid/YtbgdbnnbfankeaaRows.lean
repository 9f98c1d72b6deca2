/-
  No cell of these rows narrows 'for every input' (looked for: loops, veiled, ifaces, maps, wideKeys, modest, calm, conditions, laid).
  DERIVED. THE GIVEN ROWS OF THIS SEAT. 12 by the template 'for every input the law returns true; each argument reads behind the call as it read before'; 0 by the template 'total and deterministic' (their statements: YtbgdbnnbfankeaaTotals.lean).
  GIVEN WITH THE SEED: the statements are not yours to turn. If you find one false, say at which input.
  Laid BY PROGRAM, IN A SANDBOX (cutbox-rows.mjs): the forced cells as the released guide's own fill.sh prints them over the translation e145ba363e5c6112… (all of the seat's roots in one cut). By AI agents, Wed Nov 11 2026. No macro, syntax, notation, axiom, sorry.
-/
import Derived.Test.YtbgdbnnbfankeaaChecked
import GoSem.Claim
import GoSem.ClaimJoined
import GoSem.ClaimMapViews
import Derived.JoinedTies
import Derived.KernelRfl
namespace Go.Proofs.Ytbgdbnnbfankeaa
/- THE CELL 'sum', in the pinned program and in every row, IS THE sha256 OF THE DUMP (.gsa) THAT YtbgdbnnbfankeaaProg.lean LOADS. Nothing in Lean hashes anything: it is a label: what it is worth is what the hold of that sum in a sandbox is worth. -/
noncomputable def Try.pinned : Pinned := { name := "ytbgdbnnbfankeaa", sum := "e145ba363e5c61121fcf51bf29c0fddcb53c09669ac2336325912d8db633f1c6", checked := Try.checked }
namespace Rows
def none {H : Type} : Left H := { results := [], args := [] }

/-- 'fenberrylaw09.PlantRuns': WHATEVER THE INPUT: true; the input reads as it did. -/
def plantRunsSpec : ChangeSpec := { name := "plantRuns", fn := fun _ => fun
  | [d1, d2, d3] => { results := [.lit (.bool true)], args := [d1, d2, d3] }
  | _ => none }
def plantRunsRow : OpenClaim := { program := "ytbgdbnnbfankeaa", sum := "e145ba363e5c61121fcf51bf29c0fddcb53c09669ac2336325912d8db633f1c6", func := "fenberry/fenberrylaw09.PlantRuns", spec := "plantRuns", unfollowed := true, recurses := true, apart := false }
def PlantRunsSaid : Prop := plantRunsRow.holds Try.pinned (OpenSpec.ofChange plantRunsSpec)

/-- ITS FALSE NEIGHBOUR: 'it returns false'. Refute it at one input. -/
def plantRunsWrong : ChangeSpec := { name := "plantRuns", fn := fun _ => fun
  | [d1, d2, d3] => { results := [.lit (.bool false)], args := [d1, d2, d3] }
  | _ => none }
def PlantRunsWrongFalsely : Prop := plantRunsRow.holds Try.pinned (OpenSpec.ofChange plantRunsWrong)

/-- 'fenberrylaw09.PlantBlends': WHATEVER THE INPUT: true; the input reads as it did. -/
def plantBlendsSpec : ChangeSpec := { name := "plantBlends", fn := fun _ => fun
  | [d1, d2] => { results := [.lit (.bool true)], args := [d1, d2] }
  | _ => none }
def plantBlendsRow : OpenClaim := { program := "ytbgdbnnbfankeaa", sum := "e145ba363e5c61121fcf51bf29c0fddcb53c09669ac2336325912d8db633f1c6", func := "fenberry/fenberrylaw09.PlantBlends", spec := "plantBlends", unfollowed := true, recurses := true, apart := false }
def PlantBlendsSaid : Prop := plantBlendsRow.holds Try.pinned (OpenSpec.ofChange plantBlendsSpec)

/-- ITS FALSE NEIGHBOUR: 'it returns false'. Refute it at one input. -/
def plantBlendsWrong : ChangeSpec := { name := "plantBlends", fn := fun _ => fun
  | [d1, d2] => { results := [.lit (.bool false)], args := [d1, d2] }
  | _ => none }
def PlantBlendsWrongFalsely : Prop := plantBlendsRow.holds Try.pinned (OpenSpec.ofChange plantBlendsWrong)

/-- 'fenberrylaw09.PlantFreezes': WHATEVER THE INPUT: true; the input reads as it did. -/
def plantFreezesSpec : ChangeSpec := { name := "plantFreezes", fn := fun _ => fun
  | [d1, d2] => { results := [.lit (.bool true)], args := [d1, d2] }
  | _ => none }
def plantFreezesRow : OpenClaim := { program := "ytbgdbnnbfankeaa", sum := "e145ba363e5c61121fcf51bf29c0fddcb53c09669ac2336325912d8db633f1c6", func := "fenberry/fenberrylaw09.PlantFreezes", spec := "plantFreezes", unfollowed := true, recurses := true, apart := false }
def PlantFreezesSaid : Prop := plantFreezesRow.holds Try.pinned (OpenSpec.ofChange plantFreezesSpec)

/-- ITS FALSE NEIGHBOUR: 'it returns false'. Refute it at one input. -/
def plantFreezesWrong : ChangeSpec := { name := "plantFreezes", fn := fun _ => fun
  | [d1, d2] => { results := [.lit (.bool false)], args := [d1, d2] }
  | _ => none }
def PlantFreezesWrongFalsely : Prop := plantFreezesRow.holds Try.pinned (OpenSpec.ofChange plantFreezesWrong)

/-- 'fenberrylaw09.PlantNames': WHATEVER THE INPUT: true; the input reads as it did. -/
def plantNamesSpec : ChangeSpec := { name := "plantNames", fn := fun _ => fun
  | [] => { results := [.lit (.bool true)], args := [] }
  | _ => none }
def plantNamesRow : OpenClaim := { program := "ytbgdbnnbfankeaa", sum := "e145ba363e5c61121fcf51bf29c0fddcb53c09669ac2336325912d8db633f1c6", func := "fenberry/fenberrylaw09.PlantNames", spec := "plantNames", unfollowed := true, recurses := true, apart := false }
def PlantNamesSaid : Prop := plantNamesRow.holds Try.pinned (OpenSpec.ofChange plantNamesSpec)

/-- ITS FALSE NEIGHBOUR: 'it returns false'. Refute it at one input. -/
def plantNamesWrong : ChangeSpec := { name := "plantNames", fn := fun _ => fun
  | [] => { results := [.lit (.bool false)], args := [] }
  | _ => none }
def PlantNamesWrongFalsely : Prop := plantNamesRow.holds Try.pinned (OpenSpec.ofChange plantNamesWrong)

/-- 'fenberrylaw09.PlantKeeps': WHATEVER THE INPUT: true; the input reads as it did. -/
def plantKeepsSpec : ChangeSpec := { name := "plantKeeps", fn := fun _ => fun
  | [d1, d2] => { results := [.lit (.bool true)], args := [d1, d2] }
  | _ => none }
def plantKeepsRow : OpenClaim := { program := "ytbgdbnnbfankeaa", sum := "e145ba363e5c61121fcf51bf29c0fddcb53c09669ac2336325912d8db633f1c6", func := "fenberry/fenberrylaw09.PlantKeeps", spec := "plantKeeps", unfollowed := true, recurses := true, apart := false }
def PlantKeepsSaid : Prop := plantKeepsRow.holds Try.pinned (OpenSpec.ofChange plantKeepsSpec)

/-- ITS FALSE NEIGHBOUR: 'it returns false'. Refute it at one input. -/
def plantKeepsWrong : ChangeSpec := { name := "plantKeeps", fn := fun _ => fun
  | [d1, d2] => { results := [.lit (.bool false)], args := [d1, d2] }
  | _ => none }
def PlantKeepsWrongFalsely : Prop := plantKeepsRow.holds Try.pinned (OpenSpec.ofChange plantKeepsWrong)

/-- 'fenberrylaw09.PlantSplits': WHATEVER THE INPUT: true; the input reads as it did. -/
def plantSplitsSpec : ChangeSpec := { name := "plantSplits", fn := fun _ => fun
  | [d1, d2, d3] => { results := [.lit (.bool true)], args := [d1, d2, d3] }
  | _ => none }
def plantSplitsRow : OpenClaim := { program := "ytbgdbnnbfankeaa", sum := "e145ba363e5c61121fcf51bf29c0fddcb53c09669ac2336325912d8db633f1c6", func := "fenberry/fenberrylaw09.PlantSplits", spec := "plantSplits", unfollowed := true, recurses := true, apart := false }
def PlantSplitsSaid : Prop := plantSplitsRow.holds Try.pinned (OpenSpec.ofChange plantSplitsSpec)

/-- ITS FALSE NEIGHBOUR: 'it returns false'. Refute it at one input. -/
def plantSplitsWrong : ChangeSpec := { name := "plantSplits", fn := fun _ => fun
  | [d1, d2, d3] => { results := [.lit (.bool false)], args := [d1, d2, d3] }
  | _ => none }
def PlantSplitsWrongFalsely : Prop := plantSplitsRow.holds Try.pinned (OpenSpec.ofChange plantSplitsWrong)

/-- 'fenberrylaw09.PlantStrong': WHATEVER THE INPUT: true; the input reads as it did. -/
def plantStrongSpec : ChangeSpec := { name := "plantStrong", fn := fun _ => fun
  | [d1, d2] => { results := [.lit (.bool true)], args := [d1, d2] }
  | _ => none }
def plantStrongRow : OpenClaim := { program := "ytbgdbnnbfankeaa", sum := "e145ba363e5c61121fcf51bf29c0fddcb53c09669ac2336325912d8db633f1c6", func := "fenberry/fenberrylaw09.PlantStrong", spec := "plantStrong", unfollowed := true, recurses := true, apart := false }
def PlantStrongSaid : Prop := plantStrongRow.holds Try.pinned (OpenSpec.ofChange plantStrongSpec)

/-- ITS FALSE NEIGHBOUR: 'it returns false'. Refute it at one input. -/
def plantStrongWrong : ChangeSpec := { name := "plantStrong", fn := fun _ => fun
  | [d1, d2] => { results := [.lit (.bool false)], args := [d1, d2] }
  | _ => none }
def PlantStrongWrongFalsely : Prop := plantStrongRow.holds Try.pinned (OpenSpec.ofChange plantStrongWrong)

/-- 'fenberrylaw09.PlantCheapest': WHATEVER THE INPUT: true; the input reads as it did. -/
def plantCheapestSpec : ChangeSpec := { name := "plantCheapest", fn := fun _ => fun
  | [d1, d2, d3] => { results := [.lit (.bool true)], args := [d1, d2, d3] }
  | _ => none }
def plantCheapestRow : OpenClaim := { program := "ytbgdbnnbfankeaa", sum := "e145ba363e5c61121fcf51bf29c0fddcb53c09669ac2336325912d8db633f1c6", func := "fenberry/fenberrylaw09.PlantCheapest", spec := "plantCheapest", unfollowed := true, recurses := true, apart := false }
def PlantCheapestSaid : Prop := plantCheapestRow.holds Try.pinned (OpenSpec.ofChange plantCheapestSpec)

/-- ITS FALSE NEIGHBOUR: 'it returns false'. Refute it at one input. -/
def plantCheapestWrong : ChangeSpec := { name := "plantCheapest", fn := fun _ => fun
  | [d1, d2, d3] => { results := [.lit (.bool false)], args := [d1, d2, d3] }
  | _ => none }
def PlantCheapestWrongFalsely : Prop := plantCheapestRow.holds Try.pinned (OpenSpec.ofChange plantCheapestWrong)

/-- 'fenberrylaw09.PlantMore': WHATEVER THE INPUT: true; the input reads as it did. -/
def plantMoreSpec : ChangeSpec := { name := "plantMore", fn := fun _ => fun
  | [d1, d2, d3, d4] => { results := [.lit (.bool true)], args := [d1, d2, d3, d4] }
  | _ => none }
def plantMoreRow : OpenClaim := { program := "ytbgdbnnbfankeaa", sum := "e145ba363e5c61121fcf51bf29c0fddcb53c09669ac2336325912d8db633f1c6", func := "fenberry/fenberrylaw09.PlantMore", spec := "plantMore", unfollowed := true, recurses := true, apart := false }
def PlantMoreSaid : Prop := plantMoreRow.holds Try.pinned (OpenSpec.ofChange plantMoreSpec)

/-- ITS FALSE NEIGHBOUR: 'it returns false'. Refute it at one input. -/
def plantMoreWrong : ChangeSpec := { name := "plantMore", fn := fun _ => fun
  | [d1, d2, d3, d4] => { results := [.lit (.bool false)], args := [d1, d2, d3, d4] }
  | _ => none }
def PlantMoreWrongFalsely : Prop := plantMoreRow.holds Try.pinned (OpenSpec.ofChange plantMoreWrong)

/-- 'fenberrylaw09.PlantInTime': WHATEVER THE INPUT: true; the input reads as it did. -/
def plantInTimeSpec : ChangeSpec := { name := "plantInTime", fn := fun _ => fun
  | [d1, d2] => { results := [.lit (.bool true)], args := [d1, d2] }
  | _ => none }
def plantInTimeRow : OpenClaim := { program := "ytbgdbnnbfankeaa", sum := "e145ba363e5c61121fcf51bf29c0fddcb53c09669ac2336325912d8db633f1c6", func := "fenberry/fenberrylaw09.PlantInTime", spec := "plantInTime", unfollowed := true, recurses := true, apart := false }
def PlantInTimeSaid : Prop := plantInTimeRow.holds Try.pinned (OpenSpec.ofChange plantInTimeSpec)

/-- ITS FALSE NEIGHBOUR: 'it returns false'. Refute it at one input. -/
def plantInTimeWrong : ChangeSpec := { name := "plantInTime", fn := fun _ => fun
  | [d1, d2] => { results := [.lit (.bool false)], args := [d1, d2] }
  | _ => none }
def PlantInTimeWrongFalsely : Prop := plantInTimeRow.holds Try.pinned (OpenSpec.ofChange plantInTimeWrong)

/-- 'fenberrylaw09.PlantFaster': WHATEVER THE INPUT: true; the input reads as it did. -/
def plantFasterSpec : ChangeSpec := { name := "plantFaster", fn := fun _ => fun
  | [d1, d2, d3] => { results := [.lit (.bool true)], args := [d1, d2, d3] }
  | _ => none }
def plantFasterRow : OpenClaim := { program := "ytbgdbnnbfankeaa", sum := "e145ba363e5c61121fcf51bf29c0fddcb53c09669ac2336325912d8db633f1c6", func := "fenberry/fenberrylaw09.PlantFaster", spec := "plantFaster", unfollowed := true, recurses := true, apart := false }
def PlantFasterSaid : Prop := plantFasterRow.holds Try.pinned (OpenSpec.ofChange plantFasterSpec)

/-- ITS FALSE NEIGHBOUR: 'it returns false'. Refute it at one input. -/
def plantFasterWrong : ChangeSpec := { name := "plantFaster", fn := fun _ => fun
  | [d1, d2, d3] => { results := [.lit (.bool false)], args := [d1, d2, d3] }
  | _ => none }
def PlantFasterWrongFalsely : Prop := plantFasterRow.holds Try.pinned (OpenSpec.ofChange plantFasterWrong)

/-- 'fenberrylaw09.PlantOwns': WHATEVER THE INPUT: true; the input reads as it did. -/
def plantOwnsSpec : ChangeSpec := { name := "plantOwns", fn := fun _ => fun
  | [d1, d2, d3, d4, d5] => { results := [.lit (.bool true)], args := [d1, d2, d3, d4, d5] }
  | _ => none }
def plantOwnsRow : OpenClaim := { program := "ytbgdbnnbfankeaa", sum := "e145ba363e5c61121fcf51bf29c0fddcb53c09669ac2336325912d8db633f1c6", func := "fenberry/fenberrylaw09.PlantOwns", spec := "plantOwns", unfollowed := true, recurses := true, apart := false }
def PlantOwnsSaid : Prop := plantOwnsRow.holds Try.pinned (OpenSpec.ofChange plantOwnsSpec)

/-- ITS FALSE NEIGHBOUR: 'it returns false'. Refute it at one input. -/
def plantOwnsWrong : ChangeSpec := { name := "plantOwns", fn := fun _ => fun
  | [d1, d2, d3, d4, d5] => { results := [.lit (.bool false)], args := [d1, d2, d3, d4, d5] }
  | _ => none }
def PlantOwnsWrongFalsely : Prop := plantOwnsRow.holds Try.pinned (OpenSpec.ofChange plantOwnsWrong)

/- THE SECOND FORM. 'bulk': how many values and letters a reading holds, each counted each time it is reached (what is shared counts as often as it is met; a slice's spare places count too). A statement '..UptoSaid' is the law's where the arguments, and the package variables that the reading takes, are together of bulk at most 1048576: NARROWER than '..Said'. Prove '..Said' where nothing that the law and all that it calls make is longer than what came in: it says more and counts as full. Else prove '..UptoSaid'. A law counts once. -/
mutual
def uptoBulk {H : Type} : DataW H → Nat
  | .lit (.string bytes) => bytes.length + 1
  | .lit _ => 1
  | .nil => 1
  | .ptr d => uptoBulk d + 1
  | .slice elems spare => uptoBulkAll elems + uptoBulkAll spare + 1
  | .agg parts => uptoBulkAll parts + 1
  | .iface _ d => uptoBulk d + 1
  | .map entries => uptoBulkEntries entries + 1
  | .held _ => 1
def uptoBulkAll {H : Type} : List (DataW H) → Nat
  | [] => 0
  | d :: r => uptoBulk d + uptoBulkAll r
def uptoBulkEntries {H : Type} : List (Lit × DataW H) → Nat
  | [] => 0
  | x :: r => uptoBulkEntry x + uptoBulkEntries r
def uptoBulkEntry {H : Type} : Lit × DataW H → Nat
  | (.string bytes, d) => bytes.length + uptoBulk d + 1
  | (_, d) => uptoBulk d + 1
 end
def uptoSmall : (H : Type) → List (DataW H) → Bool := fun _ ds => decide (uptoBulkAll ds ≤ 1048576)
def OpenSpec.upto (s : _root_.Go.ChangeSpec) : _root_.Go.OpenSpec := { _root_.Go.OpenSpec.ofChange s with cond := some uptoSmall }

/-- 'fenberrylaw09.PlantRuns', WHERE WHAT IT READS IS OF BULK AT MOST 1048576: true; the input reads as it did. -/
def plantRunsUptoRow : OpenClaim := { program := "ytbgdbnnbfankeaa", sum := "e145ba363e5c61121fcf51bf29c0fddcb53c09669ac2336325912d8db633f1c6", func := "fenberry/fenberrylaw09.PlantRuns", spec := "plantRuns", unfollowed := true, recurses := true, apart := false, narrowed := true }
def PlantRunsUptoSaid : Prop := plantRunsUptoRow.holds Try.pinned (OpenSpec.upto plantRunsSpec)

/-- 'fenberrylaw09.PlantBlends', WHERE WHAT IT READS IS OF BULK AT MOST 1048576: true; the input reads as it did. -/
def plantBlendsUptoRow : OpenClaim := { program := "ytbgdbnnbfankeaa", sum := "e145ba363e5c61121fcf51bf29c0fddcb53c09669ac2336325912d8db633f1c6", func := "fenberry/fenberrylaw09.PlantBlends", spec := "plantBlends", unfollowed := true, recurses := true, apart := false, narrowed := true }
def PlantBlendsUptoSaid : Prop := plantBlendsUptoRow.holds Try.pinned (OpenSpec.upto plantBlendsSpec)

/-- 'fenberrylaw09.PlantFreezes', WHERE WHAT IT READS IS OF BULK AT MOST 1048576: true; the input reads as it did. -/
def plantFreezesUptoRow : OpenClaim := { program := "ytbgdbnnbfankeaa", sum := "e145ba363e5c61121fcf51bf29c0fddcb53c09669ac2336325912d8db633f1c6", func := "fenberry/fenberrylaw09.PlantFreezes", spec := "plantFreezes", unfollowed := true, recurses := true, apart := false, narrowed := true }
def PlantFreezesUptoSaid : Prop := plantFreezesUptoRow.holds Try.pinned (OpenSpec.upto plantFreezesSpec)

/-- 'fenberrylaw09.PlantNames', WHERE WHAT IT READS IS OF BULK AT MOST 1048576: true; the input reads as it did. -/
def plantNamesUptoRow : OpenClaim := { program := "ytbgdbnnbfankeaa", sum := "e145ba363e5c61121fcf51bf29c0fddcb53c09669ac2336325912d8db633f1c6", func := "fenberry/fenberrylaw09.PlantNames", spec := "plantNames", unfollowed := true, recurses := true, apart := false, narrowed := true }
def PlantNamesUptoSaid : Prop := plantNamesUptoRow.holds Try.pinned (OpenSpec.upto plantNamesSpec)

/-- 'fenberrylaw09.PlantKeeps', WHERE WHAT IT READS IS OF BULK AT MOST 1048576: true; the input reads as it did. -/
def plantKeepsUptoRow : OpenClaim := { program := "ytbgdbnnbfankeaa", sum := "e145ba363e5c61121fcf51bf29c0fddcb53c09669ac2336325912d8db633f1c6", func := "fenberry/fenberrylaw09.PlantKeeps", spec := "plantKeeps", unfollowed := true, recurses := true, apart := false, narrowed := true }
def PlantKeepsUptoSaid : Prop := plantKeepsUptoRow.holds Try.pinned (OpenSpec.upto plantKeepsSpec)

/-- 'fenberrylaw09.PlantSplits', WHERE WHAT IT READS IS OF BULK AT MOST 1048576: true; the input reads as it did. -/
def plantSplitsUptoRow : OpenClaim := { program := "ytbgdbnnbfankeaa", sum := "e145ba363e5c61121fcf51bf29c0fddcb53c09669ac2336325912d8db633f1c6", func := "fenberry/fenberrylaw09.PlantSplits", spec := "plantSplits", unfollowed := true, recurses := true, apart := false, narrowed := true }
def PlantSplitsUptoSaid : Prop := plantSplitsUptoRow.holds Try.pinned (OpenSpec.upto plantSplitsSpec)

/-- 'fenberrylaw09.PlantStrong', WHERE WHAT IT READS IS OF BULK AT MOST 1048576: true; the input reads as it did. -/
def plantStrongUptoRow : OpenClaim := { program := "ytbgdbnnbfankeaa", sum := "e145ba363e5c61121fcf51bf29c0fddcb53c09669ac2336325912d8db633f1c6", func := "fenberry/fenberrylaw09.PlantStrong", spec := "plantStrong", unfollowed := true, recurses := true, apart := false, narrowed := true }
def PlantStrongUptoSaid : Prop := plantStrongUptoRow.holds Try.pinned (OpenSpec.upto plantStrongSpec)

/-- 'fenberrylaw09.PlantCheapest', WHERE WHAT IT READS IS OF BULK AT MOST 1048576: true; the input reads as it did. -/
def plantCheapestUptoRow : OpenClaim := { program := "ytbgdbnnbfankeaa", sum := "e145ba363e5c61121fcf51bf29c0fddcb53c09669ac2336325912d8db633f1c6", func := "fenberry/fenberrylaw09.PlantCheapest", spec := "plantCheapest", unfollowed := true, recurses := true, apart := false, narrowed := true }
def PlantCheapestUptoSaid : Prop := plantCheapestUptoRow.holds Try.pinned (OpenSpec.upto plantCheapestSpec)

/-- 'fenberrylaw09.PlantMore', WHERE WHAT IT READS IS OF BULK AT MOST 1048576: true; the input reads as it did. -/
def plantMoreUptoRow : OpenClaim := { program := "ytbgdbnnbfankeaa", sum := "e145ba363e5c61121fcf51bf29c0fddcb53c09669ac2336325912d8db633f1c6", func := "fenberry/fenberrylaw09.PlantMore", spec := "plantMore", unfollowed := true, recurses := true, apart := false, narrowed := true }
def PlantMoreUptoSaid : Prop := plantMoreUptoRow.holds Try.pinned (OpenSpec.upto plantMoreSpec)

/-- 'fenberrylaw09.PlantInTime', WHERE WHAT IT READS IS OF BULK AT MOST 1048576: true; the input reads as it did. -/
def plantInTimeUptoRow : OpenClaim := { program := "ytbgdbnnbfankeaa", sum := "e145ba363e5c61121fcf51bf29c0fddcb53c09669ac2336325912d8db633f1c6", func := "fenberry/fenberrylaw09.PlantInTime", spec := "plantInTime", unfollowed := true, recurses := true, apart := false, narrowed := true }
def PlantInTimeUptoSaid : Prop := plantInTimeUptoRow.holds Try.pinned (OpenSpec.upto plantInTimeSpec)

/-- 'fenberrylaw09.PlantFaster', WHERE WHAT IT READS IS OF BULK AT MOST 1048576: true; the input reads as it did. -/
def plantFasterUptoRow : OpenClaim := { program := "ytbgdbnnbfankeaa", sum := "e145ba363e5c61121fcf51bf29c0fddcb53c09669ac2336325912d8db633f1c6", func := "fenberry/fenberrylaw09.PlantFaster", spec := "plantFaster", unfollowed := true, recurses := true, apart := false, narrowed := true }
def PlantFasterUptoSaid : Prop := plantFasterUptoRow.holds Try.pinned (OpenSpec.upto plantFasterSpec)

/-- 'fenberrylaw09.PlantOwns', WHERE WHAT IT READS IS OF BULK AT MOST 1048576: true; the input reads as it did. -/
def plantOwnsUptoRow : OpenClaim := { program := "ytbgdbnnbfankeaa", sum := "e145ba363e5c61121fcf51bf29c0fddcb53c09669ac2336325912d8db633f1c6", func := "fenberry/fenberrylaw09.PlantOwns", spec := "plantOwns", unfollowed := true, recurses := true, apart := false, narrowed := true }
def PlantOwnsUptoSaid : Prop := plantOwnsUptoRow.holds Try.pinned (OpenSpec.upto plantOwnsSpec)

end Rows
end Go.Proofs.Ytbgdbnnbfankeaa
