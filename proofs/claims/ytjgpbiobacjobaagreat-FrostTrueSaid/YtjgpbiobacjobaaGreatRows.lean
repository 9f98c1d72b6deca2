/-
  No cell of these rows narrows 'for every input' (looked for: loops, veiled, ifaces, maps, wideKeys, modest, calm, conditions, laid).
  DERIVED. THE GIVEN ROWS OF THIS SEAT. 12 by the template 'for every input the law returns true; each argument reads behind the call as it read before'; 0 by the template 'total and deterministic' (their statements: YtjgpbiobacjobaaGreatTotals.lean).
  GIVEN WITH THE SEED: the statements are not yours to turn. If you find one false, say at which input.
  Laid BY PROGRAM, IN A SANDBOX (cutbox-rows.mjs): the forced cells as the released guide's own fill.sh prints them over the translation b8c3b4fb16548196… (all of the seat's roots in one cut). By AI agents, Wed Nov 11 2026. No macro, syntax, notation, axiom, sorry.
-/
import Derived.Test.YtjgpbiobacjobaaGreatChecked
import GoSem.Claim
import GoSem.ClaimJoined
import GoSem.ClaimMapViews
import Derived.JoinedTies
import Derived.KernelRfl
namespace Go.Proofs.YtjgpbiobacjobaaGreat
/- THE CELL 'sum', in the pinned program and in every row, IS THE sha256 OF THE DUMP (.gsa) THAT YtjgpbiobacjobaaGreatProg.lean LOADS. Nothing in Lean hashes anything: it is a label: what it is worth is what the hold of that sum in a sandbox is worth. -/
noncomputable def Tryz.pinned : Pinned := { name := "ytjgpbiobacjobaagreat", sum := "b8c3b4fb16548196f089d0650c9d4ab809fa1e6c192d8e931a47ae17667d638b", checked := Tryz.checked }
namespace Rows
def none {H : Type} : Left H := { results := [], args := [] }

/-- 'fenberrylaw03.FrostTemps': WHATEVER THE INPUT: true; the input reads as it did. -/
def frostTempsSpec : ChangeSpec := { name := "frostTemps", fn := fun _ => fun
  | [d1, d2, d3, d4, d5] => { results := [.lit (.bool true)], args := [d1, d2, d3, d4, d5] }
  | _ => none }
def frostTempsRow : OpenClaim := { program := "ytjgpbiobacjobaagreat", sum := "b8c3b4fb16548196f089d0650c9d4ab809fa1e6c192d8e931a47ae17667d638b", func := "fenberry/fenberrylaw03.FrostTemps", spec := "frostTemps", unfollowed := true, recurses := true, apart := false }
def FrostTempsSaid : Prop := frostTempsRow.holds Tryz.pinned (OpenSpec.ofChange frostTempsSpec)

/-- ITS FALSE NEIGHBOUR: 'it returns false'. Refute it at one input. -/
def frostTempsWrong : ChangeSpec := { name := "frostTemps", fn := fun _ => fun
  | [d1, d2, d3, d4, d5] => { results := [.lit (.bool false)], args := [d1, d2, d3, d4, d5] }
  | _ => none }
def FrostTempsWrongFalsely : Prop := frostTempsRow.holds Tryz.pinned (OpenSpec.ofChange frostTempsWrong)

/-- 'fenberrylaw03.FrostSaves': WHATEVER THE INPUT: true; the input reads as it did. -/
def frostSavesSpec : ChangeSpec := { name := "frostSaves", fn := fun _ => fun
  | [d1, d2, d3, d4] => { results := [.lit (.bool true)], args := [d1, d2, d3, d4] }
  | _ => none }
def frostSavesRow : OpenClaim := { program := "ytjgpbiobacjobaagreat", sum := "b8c3b4fb16548196f089d0650c9d4ab809fa1e6c192d8e931a47ae17667d638b", func := "fenberry/fenberrylaw03.FrostSaves", spec := "frostSaves", unfollowed := true, recurses := true, apart := false }
def FrostSavesSaid : Prop := frostSavesRow.holds Tryz.pinned (OpenSpec.ofChange frostSavesSpec)

/-- ITS FALSE NEIGHBOUR: 'it returns false'. Refute it at one input. -/
def frostSavesWrong : ChangeSpec := { name := "frostSaves", fn := fun _ => fun
  | [d1, d2, d3, d4] => { results := [.lit (.bool false)], args := [d1, d2, d3, d4] }
  | _ => none }
def FrostSavesWrongFalsely : Prop := frostSavesRow.holds Tryz.pinned (OpenSpec.ofChange frostSavesWrong)

/-- 'fenberrylaw03.FrostWaters': WHATEVER THE INPUT: true; the input reads as it did. -/
def frostWatersSpec : ChangeSpec := { name := "frostWaters", fn := fun _ => fun
  | [d1, d2, d3, d4, d5, d6, d7, d8] => { results := [.lit (.bool true)], args := [d1, d2, d3, d4, d5, d6, d7, d8] }
  | _ => none }
def frostWatersRow : OpenClaim := { program := "ytjgpbiobacjobaagreat", sum := "b8c3b4fb16548196f089d0650c9d4ab809fa1e6c192d8e931a47ae17667d638b", func := "fenberry/fenberrylaw03.FrostWaters", spec := "frostWaters", unfollowed := true, recurses := true, apart := false }
def FrostWatersSaid : Prop := frostWatersRow.holds Tryz.pinned (OpenSpec.ofChange frostWatersSpec)

/-- ITS FALSE NEIGHBOUR: 'it returns false'. Refute it at one input. -/
def frostWatersWrong : ChangeSpec := { name := "frostWaters", fn := fun _ => fun
  | [d1, d2, d3, d4, d5, d6, d7, d8] => { results := [.lit (.bool false)], args := [d1, d2, d3, d4, d5, d6, d7, d8] }
  | _ => none }
def FrostWatersWrongFalsely : Prop := frostWatersRow.holds Tryz.pinned (OpenSpec.ofChange frostWatersWrong)

/-- 'fenberrylaw03.FrostNames': WHATEVER THE INPUT: true; the input reads as it did. -/
def frostNamesSpec : ChangeSpec := { name := "frostNames", fn := fun _ => fun
  | [] => { results := [.lit (.bool true)], args := [] }
  | _ => none }
def frostNamesRow : OpenClaim := { program := "ytjgpbiobacjobaagreat", sum := "b8c3b4fb16548196f089d0650c9d4ab809fa1e6c192d8e931a47ae17667d638b", func := "fenberry/fenberrylaw03.FrostNames", spec := "frostNames", unfollowed := true, recurses := true, apart := false }
def FrostNamesSaid : Prop := frostNamesRow.holds Tryz.pinned (OpenSpec.ofChange frostNamesSpec)

/-- ITS FALSE NEIGHBOUR: 'it returns false'. Refute it at one input. -/
def frostNamesWrong : ChangeSpec := { name := "frostNames", fn := fun _ => fun
  | [] => { results := [.lit (.bool false)], args := [] }
  | _ => none }
def FrostNamesWrongFalsely : Prop := frostNamesRow.holds Tryz.pinned (OpenSpec.ofChange frostNamesWrong)

/-- 'fenberrylaw03.FrostTrue': WHATEVER THE INPUT: true; the input reads as it did. -/
def frostTrueSpec : ChangeSpec := { name := "frostTrue", fn := fun _ => fun
  | [d1, d2, d3, d4] => { results := [.lit (.bool true)], args := [d1, d2, d3, d4] }
  | _ => none }
def frostTrueRow : OpenClaim := { program := "ytjgpbiobacjobaagreat", sum := "b8c3b4fb16548196f089d0650c9d4ab809fa1e6c192d8e931a47ae17667d638b", func := "fenberry/fenberrylaw03.FrostTrue", spec := "frostTrue", unfollowed := true, recurses := true, apart := false }
def FrostTrueSaid : Prop := frostTrueRow.holds Tryz.pinned (OpenSpec.ofChange frostTrueSpec)

/-- ITS FALSE NEIGHBOUR: 'it returns false'. Refute it at one input. -/
def frostTrueWrong : ChangeSpec := { name := "frostTrue", fn := fun _ => fun
  | [d1, d2, d3, d4] => { results := [.lit (.bool false)], args := [d1, d2, d3, d4] }
  | _ => none }
def FrostTrueWrongFalsely : Prop := frostTrueRow.holds Tryz.pinned (OpenSpec.ofChange frostTrueWrong)

/-- 'fenberrylaw03.FrostEnds': WHATEVER THE INPUT: true; the input reads as it did. -/
def frostEndsSpec : ChangeSpec := { name := "frostEnds", fn := fun _ => fun
  | [d] => { results := [.lit (.bool true)], args := [d] }
  | _ => none }
def frostEndsRow : OpenClaim := { program := "ytjgpbiobacjobaagreat", sum := "b8c3b4fb16548196f089d0650c9d4ab809fa1e6c192d8e931a47ae17667d638b", func := "fenberry/fenberrylaw03.FrostEnds", spec := "frostEnds", unfollowed := true, recurses := true, apart := false }
def FrostEndsSaid : Prop := frostEndsRow.holds Tryz.pinned (OpenSpec.ofChange frostEndsSpec)

/-- ITS FALSE NEIGHBOUR: 'it returns false'. Refute it at one input. -/
def frostEndsWrong : ChangeSpec := { name := "frostEnds", fn := fun _ => fun
  | [d] => { results := [.lit (.bool false)], args := [d] }
  | _ => none }
def FrostEndsWrongFalsely : Prop := frostEndsRow.holds Tryz.pinned (OpenSpec.ofChange frostEndsWrong)

/-- 'fenberrylaw03.FrostSafe': WHATEVER THE INPUT: true; the input reads as it did. -/
def frostSafeSpec : ChangeSpec := { name := "frostSafe", fn := fun _ => fun
  | [d1, d2, d3, d4, d5, d6] => { results := [.lit (.bool true)], args := [d1, d2, d3, d4, d5, d6] }
  | _ => none }
def frostSafeRow : OpenClaim := { program := "ytjgpbiobacjobaagreat", sum := "b8c3b4fb16548196f089d0650c9d4ab809fa1e6c192d8e931a47ae17667d638b", func := "fenberry/fenberrylaw03.FrostSafe", spec := "frostSafe", unfollowed := true, recurses := true, apart := false }
def FrostSafeSaid : Prop := frostSafeRow.holds Tryz.pinned (OpenSpec.ofChange frostSafeSpec)

/-- ITS FALSE NEIGHBOUR: 'it returns false'. Refute it at one input. -/
def frostSafeWrong : ChangeSpec := { name := "frostSafe", fn := fun _ => fun
  | [d1, d2, d3, d4, d5, d6] => { results := [.lit (.bool false)], args := [d1, d2, d3, d4, d5, d6] }
  | _ => none }
def FrostSafeWrongFalsely : Prop := frostSafeRow.holds Tryz.pinned (OpenSpec.ofChange frostSafeWrong)

/-- 'fenberrylaw03.FrostFewest': WHATEVER THE INPUT: true; the input reads as it did. -/
def frostFewestSpec : ChangeSpec := { name := "frostFewest", fn := fun _ => fun
  | [d1, d2, d3, d4] => { results := [.lit (.bool true)], args := [d1, d2, d3, d4] }
  | _ => none }
def frostFewestRow : OpenClaim := { program := "ytjgpbiobacjobaagreat", sum := "b8c3b4fb16548196f089d0650c9d4ab809fa1e6c192d8e931a47ae17667d638b", func := "fenberry/fenberrylaw03.FrostFewest", spec := "frostFewest", unfollowed := true, recurses := true, apart := false }
def FrostFewestSaid : Prop := frostFewestRow.holds Tryz.pinned (OpenSpec.ofChange frostFewestSpec)

/-- ITS FALSE NEIGHBOUR: 'it returns false'. Refute it at one input. -/
def frostFewestWrong : ChangeSpec := { name := "frostFewest", fn := fun _ => fun
  | [d1, d2, d3, d4] => { results := [.lit (.bool false)], args := [d1, d2, d3, d4] }
  | _ => none }
def FrostFewestWrongFalsely : Prop := frostFewestRow.holds Tryz.pinned (OpenSpec.ofChange frostFewestWrong)

/-- 'fenberrylaw03.FrostMore': WHATEVER THE INPUT: true; the input reads as it did. -/
def frostMoreSpec : ChangeSpec := { name := "frostMore", fn := fun _ => fun
  | [d1, d2, d3, d4, d5] => { results := [.lit (.bool true)], args := [d1, d2, d3, d4, d5] }
  | _ => none }
def frostMoreRow : OpenClaim := { program := "ytjgpbiobacjobaagreat", sum := "b8c3b4fb16548196f089d0650c9d4ab809fa1e6c192d8e931a47ae17667d638b", func := "fenberry/fenberrylaw03.FrostMore", spec := "frostMore", unfollowed := true, recurses := true, apart := false }
def FrostMoreSaid : Prop := frostMoreRow.holds Tryz.pinned (OpenSpec.ofChange frostMoreSpec)

/-- ITS FALSE NEIGHBOUR: 'it returns false'. Refute it at one input. -/
def frostMoreWrong : ChangeSpec := { name := "frostMore", fn := fun _ => fun
  | [d1, d2, d3, d4, d5] => { results := [.lit (.bool false)], args := [d1, d2, d3, d4, d5] }
  | _ => none }
def FrostMoreWrongFalsely : Prop := frostMoreRow.holds Tryz.pinned (OpenSpec.ofChange frostMoreWrong)

/-- 'fenberrylaw03.FrostBetween': WHATEVER THE INPUT: true; the input reads as it did. -/
def frostBetweenSpec : ChangeSpec := { name := "frostBetween", fn := fun _ => fun
  | [d1, d2, d3, d4, d5] => { results := [.lit (.bool true)], args := [d1, d2, d3, d4, d5] }
  | _ => none }
def frostBetweenRow : OpenClaim := { program := "ytjgpbiobacjobaagreat", sum := "b8c3b4fb16548196f089d0650c9d4ab809fa1e6c192d8e931a47ae17667d638b", func := "fenberry/fenberrylaw03.FrostBetween", spec := "frostBetween", unfollowed := true, recurses := true, apart := false }
def FrostBetweenSaid : Prop := frostBetweenRow.holds Tryz.pinned (OpenSpec.ofChange frostBetweenSpec)

/-- ITS FALSE NEIGHBOUR: 'it returns false'. Refute it at one input. -/
def frostBetweenWrong : ChangeSpec := { name := "frostBetween", fn := fun _ => fun
  | [d1, d2, d3, d4, d5] => { results := [.lit (.bool false)], args := [d1, d2, d3, d4, d5] }
  | _ => none }
def FrostBetweenWrongFalsely : Prop := frostBetweenRow.holds Tryz.pinned (OpenSpec.ofChange frostBetweenWrong)

/-- 'fenberrylaw03.FrostRow': WHATEVER THE INPUT: true; the input reads as it did. -/
def frostRowSpec : ChangeSpec := { name := "frostRow", fn := fun _ => fun
  | [d1, d2, d3, d4, d5, d6] => { results := [.lit (.bool true)], args := [d1, d2, d3, d4, d5, d6] }
  | _ => none }
def frostRowRow : OpenClaim := { program := "ytjgpbiobacjobaagreat", sum := "b8c3b4fb16548196f089d0650c9d4ab809fa1e6c192d8e931a47ae17667d638b", func := "fenberry/fenberrylaw03.FrostRow", spec := "frostRow", unfollowed := true, recurses := true, apart := false }
def FrostRowSaid : Prop := frostRowRow.holds Tryz.pinned (OpenSpec.ofChange frostRowSpec)

/-- ITS FALSE NEIGHBOUR: 'it returns false'. Refute it at one input. -/
def frostRowWrong : ChangeSpec := { name := "frostRow", fn := fun _ => fun
  | [d1, d2, d3, d4, d5, d6] => { results := [.lit (.bool false)], args := [d1, d2, d3, d4, d5, d6] }
  | _ => none }
def FrostRowWrongFalsely : Prop := frostRowRow.holds Tryz.pinned (OpenSpec.ofChange frostRowWrong)

/-- 'fenberrylaw03.FrostOwns': WHATEVER THE INPUT: true; the input reads as it did. -/
def frostOwnsSpec : ChangeSpec := { name := "frostOwns", fn := fun _ => fun
  | [d1, d2, d3, d4] => { results := [.lit (.bool true)], args := [d1, d2, d3, d4] }
  | _ => none }
def frostOwnsRow : OpenClaim := { program := "ytjgpbiobacjobaagreat", sum := "b8c3b4fb16548196f089d0650c9d4ab809fa1e6c192d8e931a47ae17667d638b", func := "fenberry/fenberrylaw03.FrostOwns", spec := "frostOwns", unfollowed := true, recurses := true, apart := false }
def FrostOwnsSaid : Prop := frostOwnsRow.holds Tryz.pinned (OpenSpec.ofChange frostOwnsSpec)

/-- ITS FALSE NEIGHBOUR: 'it returns false'. Refute it at one input. -/
def frostOwnsWrong : ChangeSpec := { name := "frostOwns", fn := fun _ => fun
  | [d1, d2, d3, d4] => { results := [.lit (.bool false)], args := [d1, d2, d3, d4] }
  | _ => none }
def FrostOwnsWrongFalsely : Prop := frostOwnsRow.holds Tryz.pinned (OpenSpec.ofChange frostOwnsWrong)

/- THE SECOND FORM. 'bulk': how many values and letters a reading holds, each counted each time it is reached (what is shared counts as often as it is met; a slice's spare places count too). A statement '..UptoSaid' is the law's where the arguments, and the package variables that the reading takes, are together of bulk at most 1048576: NARROWER than '..Said'. Prove '..Said' where nothing that the law and all that it calls make is longer than what came in: it says more and counts as full. Else prove '..UptoSaid'. A law counts once. -/
mutual
def uptoBulk {H : Type} : DataW H → Nat
  | .lit (.string bytes) => bytes.length + 1
  | .lit _ => 1
  | .nil => 1
  | .ptr d => uptoBulk d + 1
  | .slice elems spare => uptoBulkAll elems + uptoBulkAll spare + 1
  | .agg parts => uptoBulkAll parts + 1
  | .iface _ d => uptoBulk d + 1
  | .map entries => uptoBulkEntries entries + 1
  | .held _ => 1
def uptoBulkAll {H : Type} : List (DataW H) → Nat
  | [] => 0
  | d :: r => uptoBulk d + uptoBulkAll r
def uptoBulkEntries {H : Type} : List (Lit × DataW H) → Nat
  | [] => 0
  | x :: r => uptoBulkEntry x + uptoBulkEntries r
def uptoBulkEntry {H : Type} : Lit × DataW H → Nat
  | (.string bytes, d) => bytes.length + uptoBulk d + 1
  | (_, d) => uptoBulk d + 1
 end
def uptoSmall : (H : Type) → List (DataW H) → Bool := fun _ ds => decide (uptoBulkAll ds ≤ 1048576)
def OpenSpec.upto (s : _root_.Go.ChangeSpec) : _root_.Go.OpenSpec := { _root_.Go.OpenSpec.ofChange s with cond := some uptoSmall }

/-- 'fenberrylaw03.FrostTemps', WHERE WHAT IT READS IS OF BULK AT MOST 1048576: true; the input reads as it did. -/
def frostTempsUptoRow : OpenClaim := { program := "ytjgpbiobacjobaagreat", sum := "b8c3b4fb16548196f089d0650c9d4ab809fa1e6c192d8e931a47ae17667d638b", func := "fenberry/fenberrylaw03.FrostTemps", spec := "frostTemps", unfollowed := true, recurses := true, apart := false, narrowed := true }
def FrostTempsUptoSaid : Prop := frostTempsUptoRow.holds Tryz.pinned (OpenSpec.upto frostTempsSpec)

/-- 'fenberrylaw03.FrostSaves', WHERE WHAT IT READS IS OF BULK AT MOST 1048576: true; the input reads as it did. -/
def frostSavesUptoRow : OpenClaim := { program := "ytjgpbiobacjobaagreat", sum := "b8c3b4fb16548196f089d0650c9d4ab809fa1e6c192d8e931a47ae17667d638b", func := "fenberry/fenberrylaw03.FrostSaves", spec := "frostSaves", unfollowed := true, recurses := true, apart := false, narrowed := true }
def FrostSavesUptoSaid : Prop := frostSavesUptoRow.holds Tryz.pinned (OpenSpec.upto frostSavesSpec)

/-- 'fenberrylaw03.FrostWaters', WHERE WHAT IT READS IS OF BULK AT MOST 1048576: true; the input reads as it did. -/
def frostWatersUptoRow : OpenClaim := { program := "ytjgpbiobacjobaagreat", sum := "b8c3b4fb16548196f089d0650c9d4ab809fa1e6c192d8e931a47ae17667d638b", func := "fenberry/fenberrylaw03.FrostWaters", spec := "frostWaters", unfollowed := true, recurses := true, apart := false, narrowed := true }
def FrostWatersUptoSaid : Prop := frostWatersUptoRow.holds Tryz.pinned (OpenSpec.upto frostWatersSpec)

/-- 'fenberrylaw03.FrostNames', WHERE WHAT IT READS IS OF BULK AT MOST 1048576: true; the input reads as it did. -/
def frostNamesUptoRow : OpenClaim := { program := "ytjgpbiobacjobaagreat", sum := "b8c3b4fb16548196f089d0650c9d4ab809fa1e6c192d8e931a47ae17667d638b", func := "fenberry/fenberrylaw03.FrostNames", spec := "frostNames", unfollowed := true, recurses := true, apart := false, narrowed := true }
def FrostNamesUptoSaid : Prop := frostNamesUptoRow.holds Tryz.pinned (OpenSpec.upto frostNamesSpec)

/-- 'fenberrylaw03.FrostTrue', WHERE WHAT IT READS IS OF BULK AT MOST 1048576: true; the input reads as it did. -/
def frostTrueUptoRow : OpenClaim := { program := "ytjgpbiobacjobaagreat", sum := "b8c3b4fb16548196f089d0650c9d4ab809fa1e6c192d8e931a47ae17667d638b", func := "fenberry/fenberrylaw03.FrostTrue", spec := "frostTrue", unfollowed := true, recurses := true, apart := false, narrowed := true }
def FrostTrueUptoSaid : Prop := frostTrueUptoRow.holds Tryz.pinned (OpenSpec.upto frostTrueSpec)

/-- 'fenberrylaw03.FrostEnds', WHERE WHAT IT READS IS OF BULK AT MOST 1048576: true; the input reads as it did. -/
def frostEndsUptoRow : OpenClaim := { program := "ytjgpbiobacjobaagreat", sum := "b8c3b4fb16548196f089d0650c9d4ab809fa1e6c192d8e931a47ae17667d638b", func := "fenberry/fenberrylaw03.FrostEnds", spec := "frostEnds", unfollowed := true, recurses := true, apart := false, narrowed := true }
def FrostEndsUptoSaid : Prop := frostEndsUptoRow.holds Tryz.pinned (OpenSpec.upto frostEndsSpec)

/-- 'fenberrylaw03.FrostSafe', WHERE WHAT IT READS IS OF BULK AT MOST 1048576: true; the input reads as it did. -/
def frostSafeUptoRow : OpenClaim := { program := "ytjgpbiobacjobaagreat", sum := "b8c3b4fb16548196f089d0650c9d4ab809fa1e6c192d8e931a47ae17667d638b", func := "fenberry/fenberrylaw03.FrostSafe", spec := "frostSafe", unfollowed := true, recurses := true, apart := false, narrowed := true }
def FrostSafeUptoSaid : Prop := frostSafeUptoRow.holds Tryz.pinned (OpenSpec.upto frostSafeSpec)

/-- 'fenberrylaw03.FrostFewest', WHERE WHAT IT READS IS OF BULK AT MOST 1048576: true; the input reads as it did. -/
def frostFewestUptoRow : OpenClaim := { program := "ytjgpbiobacjobaagreat", sum := "b8c3b4fb16548196f089d0650c9d4ab809fa1e6c192d8e931a47ae17667d638b", func := "fenberry/fenberrylaw03.FrostFewest", spec := "frostFewest", unfollowed := true, recurses := true, apart := false, narrowed := true }
def FrostFewestUptoSaid : Prop := frostFewestUptoRow.holds Tryz.pinned (OpenSpec.upto frostFewestSpec)

/-- 'fenberrylaw03.FrostMore', WHERE WHAT IT READS IS OF BULK AT MOST 1048576: true; the input reads as it did. -/
def frostMoreUptoRow : OpenClaim := { program := "ytjgpbiobacjobaagreat", sum := "b8c3b4fb16548196f089d0650c9d4ab809fa1e6c192d8e931a47ae17667d638b", func := "fenberry/fenberrylaw03.FrostMore", spec := "frostMore", unfollowed := true, recurses := true, apart := false, narrowed := true }
def FrostMoreUptoSaid : Prop := frostMoreUptoRow.holds Tryz.pinned (OpenSpec.upto frostMoreSpec)

/-- 'fenberrylaw03.FrostBetween', WHERE WHAT IT READS IS OF BULK AT MOST 1048576: true; the input reads as it did. -/
def frostBetweenUptoRow : OpenClaim := { program := "ytjgpbiobacjobaagreat", sum := "b8c3b4fb16548196f089d0650c9d4ab809fa1e6c192d8e931a47ae17667d638b", func := "fenberry/fenberrylaw03.FrostBetween", spec := "frostBetween", unfollowed := true, recurses := true, apart := false, narrowed := true }
def FrostBetweenUptoSaid : Prop := frostBetweenUptoRow.holds Tryz.pinned (OpenSpec.upto frostBetweenSpec)

/-- 'fenberrylaw03.FrostRow', WHERE WHAT IT READS IS OF BULK AT MOST 1048576: true; the input reads as it did. -/
def frostRowUptoRow : OpenClaim := { program := "ytjgpbiobacjobaagreat", sum := "b8c3b4fb16548196f089d0650c9d4ab809fa1e6c192d8e931a47ae17667d638b", func := "fenberry/fenberrylaw03.FrostRow", spec := "frostRow", unfollowed := true, recurses := true, apart := false, narrowed := true }
def FrostRowUptoSaid : Prop := frostRowUptoRow.holds Tryz.pinned (OpenSpec.upto frostRowSpec)

/-- 'fenberrylaw03.FrostOwns', WHERE WHAT IT READS IS OF BULK AT MOST 1048576: true; the input reads as it did. -/
def frostOwnsUptoRow : OpenClaim := { program := "ytjgpbiobacjobaagreat", sum := "b8c3b4fb16548196f089d0650c9d4ab809fa1e6c192d8e931a47ae17667d638b", func := "fenberry/fenberrylaw03.FrostOwns", spec := "frostOwns", unfollowed := true, recurses := true, apart := false, narrowed := true }
def FrostOwnsUptoSaid : Prop := frostOwnsUptoRow.holds Tryz.pinned (OpenSpec.upto frostOwnsSpec)

end Rows
end Go.Proofs.YtjgpbiobacjobaaGreat
