/-
  No cell of these rows narrows 'for every input' (looked for: loops, veiled, ifaces, maps, wideKeys, modest, calm, conditions, laid).
  DERIVED. THE GIVEN ROWS OF THIS SEAT. 10 by the template 'for every input the law returns true; each argument reads behind the call as it read before'; 0 by the template 'total and deterministic' (their statements: YtpdoogfafjjdkaaTotals.lean).
  GIVEN WITH THE SEED: the statements are not yours to turn. If you find one false, say at which input.
  Laid BY PROGRAM, IN A SANDBOX (cutbox-rows.mjs): the forced cells as the released guide's own fill.sh prints them over the translation 6677a19cf53b53ba… (all of the seat's roots in one cut). By AI agents, Wed Nov 11 2026. No macro, syntax, notation, axiom, sorry.
-/
import Derived.Test.YtpdoogfafjjdkaaChecked
import GoSem.Claim
import GoSem.ClaimJoined
import GoSem.ClaimMapViews
import Derived.JoinedTies
import Derived.KernelRfl
namespace Go.Proofs.Ytpdoogfafjjdkaa
/- THE CELL 'sum', in the pinned program and in every row, IS THE sha256 OF THE DUMP (.gsa) THAT YtpdoogfafjjdkaaProg.lean LOADS. Nothing in Lean hashes anything: it is a label: what it is worth is what the hold of that sum in a sandbox is worth. -/
noncomputable def Try.pinned : Pinned := { name := "ytpdoogfafjjdkaa", sum := "6677a19cf53b53ba85ddada7584367fbadb92ef0cab35550224cff549e16d645", checked := Try.checked }
namespace Rows
def none {H : Type} : Left H := { results := [], args := [] }

/-- 'fenberrylaw06.LateFloods': WHATEVER THE INPUT: true; the input reads as it did. -/
def lateFloodsSpec : ChangeSpec := { name := "lateFloods", fn := fun _ => fun
  | [d1, d2, d3, d4] => { results := [.lit (.bool true)], args := [d1, d2, d3, d4] }
  | _ => none }
def lateFloodsRow : OpenClaim := { program := "ytpdoogfafjjdkaa", sum := "6677a19cf53b53ba85ddada7584367fbadb92ef0cab35550224cff549e16d645", func := "fenberry/fenberrylaw06.LateFloods", spec := "lateFloods", unfollowed := true, recurses := true, apart := false }
def LateFloodsSaid : Prop := lateFloodsRow.holds Try.pinned (OpenSpec.ofChange lateFloodsSpec)

/-- ITS FALSE NEIGHBOUR: 'it returns false'. Refute it at one input. -/
def lateFloodsWrong : ChangeSpec := { name := "lateFloods", fn := fun _ => fun
  | [d1, d2, d3, d4] => { results := [.lit (.bool false)], args := [d1, d2, d3, d4] }
  | _ => none }
def LateFloodsWrongFalsely : Prop := lateFloodsRow.holds Try.pinned (OpenSpec.ofChange lateFloodsWrong)

/-- 'fenberrylaw06.LateBests': WHATEVER THE INPUT: true; the input reads as it did. -/
def lateBestsSpec : ChangeSpec := { name := "lateBests", fn := fun _ => fun
  | [d1, d2] => { results := [.lit (.bool true)], args := [d1, d2] }
  | _ => none }
def lateBestsRow : OpenClaim := { program := "ytpdoogfafjjdkaa", sum := "6677a19cf53b53ba85ddada7584367fbadb92ef0cab35550224cff549e16d645", func := "fenberry/fenberrylaw06.LateBests", spec := "lateBests", unfollowed := true, recurses := true, apart := false }
def LateBestsSaid : Prop := lateBestsRow.holds Try.pinned (OpenSpec.ofChange lateBestsSpec)

/-- ITS FALSE NEIGHBOUR: 'it returns false'. Refute it at one input. -/
def lateBestsWrong : ChangeSpec := { name := "lateBests", fn := fun _ => fun
  | [d1, d2] => { results := [.lit (.bool false)], args := [d1, d2] }
  | _ => none }
def LateBestsWrongFalsely : Prop := lateBestsRow.holds Try.pinned (OpenSpec.ofChange lateBestsWrong)

/-- 'fenberrylaw06.LateFreshens': WHATEVER THE INPUT: true; the input reads as it did. -/
def lateFreshensSpec : ChangeSpec := { name := "lateFreshens", fn := fun _ => fun
  | [d1, d2, d3] => { results := [.lit (.bool true)], args := [d1, d2, d3] }
  | _ => none }
def lateFreshensRow : OpenClaim := { program := "ytpdoogfafjjdkaa", sum := "6677a19cf53b53ba85ddada7584367fbadb92ef0cab35550224cff549e16d645", func := "fenberry/fenberrylaw06.LateFreshens", spec := "lateFreshens", unfollowed := true, recurses := true, apart := false }
def LateFreshensSaid : Prop := lateFreshensRow.holds Try.pinned (OpenSpec.ofChange lateFreshensSpec)

/-- ITS FALSE NEIGHBOUR: 'it returns false'. Refute it at one input. -/
def lateFreshensWrong : ChangeSpec := { name := "lateFreshens", fn := fun _ => fun
  | [d1, d2, d3] => { results := [.lit (.bool false)], args := [d1, d2, d3] }
  | _ => none }
def LateFreshensWrongFalsely : Prop := lateFreshensRow.holds Try.pinned (OpenSpec.ofChange lateFreshensWrong)

/-- 'fenberrylaw06.LateNames': WHATEVER THE INPUT: true; the input reads as it did. -/
def lateNamesSpec : ChangeSpec := { name := "lateNames", fn := fun _ => fun
  | [] => { results := [.lit (.bool true)], args := [] }
  | _ => none }
def lateNamesRow : OpenClaim := { program := "ytpdoogfafjjdkaa", sum := "6677a19cf53b53ba85ddada7584367fbadb92ef0cab35550224cff549e16d645", func := "fenberry/fenberrylaw06.LateNames", spec := "lateNames", unfollowed := true, recurses := true, apart := false }
def LateNamesSaid : Prop := lateNamesRow.holds Try.pinned (OpenSpec.ofChange lateNamesSpec)

/-- ITS FALSE NEIGHBOUR: 'it returns false'. Refute it at one input. -/
def lateNamesWrong : ChangeSpec := { name := "lateNames", fn := fun _ => fun
  | [] => { results := [.lit (.bool false)], args := [] }
  | _ => none }
def LateNamesWrongFalsely : Prop := lateNamesRow.holds Try.pinned (OpenSpec.ofChange lateNamesWrong)

/-- 'fenberrylaw06.LateTrue': WHATEVER THE INPUT: true; the input reads as it did. -/
def lateTrueSpec : ChangeSpec := { name := "lateTrue", fn := fun _ => fun
  | [d1, d2, d3, d4, d5] => { results := [.lit (.bool true)], args := [d1, d2, d3, d4, d5] }
  | _ => none }
def lateTrueRow : OpenClaim := { program := "ytpdoogfafjjdkaa", sum := "6677a19cf53b53ba85ddada7584367fbadb92ef0cab35550224cff549e16d645", func := "fenberry/fenberrylaw06.LateTrue", spec := "lateTrue", unfollowed := true, recurses := true, apart := false }
def LateTrueSaid : Prop := lateTrueRow.holds Try.pinned (OpenSpec.ofChange lateTrueSpec)

/-- ITS FALSE NEIGHBOUR: 'it returns false'. Refute it at one input. -/
def lateTrueWrong : ChangeSpec := { name := "lateTrue", fn := fun _ => fun
  | [d1, d2, d3, d4, d5] => { results := [.lit (.bool false)], args := [d1, d2, d3, d4, d5] }
  | _ => none }
def LateTrueWrongFalsely : Prop := lateTrueRow.holds Try.pinned (OpenSpec.ofChange lateTrueWrong)

/-- 'fenberrylaw06.LateEnds': WHATEVER THE INPUT: true; the input reads as it did. -/
def lateEndsSpec : ChangeSpec := { name := "lateEnds", fn := fun _ => fun
  | [d1, d2, d3, d4] => { results := [.lit (.bool true)], args := [d1, d2, d3, d4] }
  | _ => none }
def lateEndsRow : OpenClaim := { program := "ytpdoogfafjjdkaa", sum := "6677a19cf53b53ba85ddada7584367fbadb92ef0cab35550224cff549e16d645", func := "fenberry/fenberrylaw06.LateEnds", spec := "lateEnds", unfollowed := true, recurses := true, apart := false }
def LateEndsSaid : Prop := lateEndsRow.holds Try.pinned (OpenSpec.ofChange lateEndsSpec)

/-- ITS FALSE NEIGHBOUR: 'it returns false'. Refute it at one input. -/
def lateEndsWrong : ChangeSpec := { name := "lateEnds", fn := fun _ => fun
  | [d1, d2, d3, d4] => { results := [.lit (.bool false)], args := [d1, d2, d3, d4] }
  | _ => none }
def LateEndsWrongFalsely : Prop := lateEndsRow.holds Try.pinned (OpenSpec.ofChange lateEndsWrong)

/-- 'fenberrylaw06.LateFewest': WHATEVER THE INPUT: true; the input reads as it did. -/
def lateFewestSpec : ChangeSpec := { name := "lateFewest", fn := fun _ => fun
  | [d1, d2, d3, d4] => { results := [.lit (.bool true)], args := [d1, d2, d3, d4] }
  | _ => none }
def lateFewestRow : OpenClaim := { program := "ytpdoogfafjjdkaa", sum := "6677a19cf53b53ba85ddada7584367fbadb92ef0cab35550224cff549e16d645", func := "fenberry/fenberrylaw06.LateFewest", spec := "lateFewest", unfollowed := true, recurses := true, apart := false }
def LateFewestSaid : Prop := lateFewestRow.holds Try.pinned (OpenSpec.ofChange lateFewestSpec)

/-- ITS FALSE NEIGHBOUR: 'it returns false'. Refute it at one input. -/
def lateFewestWrong : ChangeSpec := { name := "lateFewest", fn := fun _ => fun
  | [d1, d2, d3, d4] => { results := [.lit (.bool false)], args := [d1, d2, d3, d4] }
  | _ => none }
def LateFewestWrongFalsely : Prop := lateFewestRow.holds Try.pinned (OpenSpec.ofChange lateFewestWrong)

/-- 'fenberrylaw06.LateFreshest': WHATEVER THE INPUT: true; the input reads as it did. -/
def lateFreshestSpec : ChangeSpec := { name := "lateFreshest", fn := fun _ => fun
  | [d1, d2, d3, d4] => { results := [.lit (.bool true)], args := [d1, d2, d3, d4] }
  | _ => none }
def lateFreshestRow : OpenClaim := { program := "ytpdoogfafjjdkaa", sum := "6677a19cf53b53ba85ddada7584367fbadb92ef0cab35550224cff549e16d645", func := "fenberry/fenberrylaw06.LateFreshest", spec := "lateFreshest", unfollowed := true, recurses := true, apart := false }
def LateFreshestSaid : Prop := lateFreshestRow.holds Try.pinned (OpenSpec.ofChange lateFreshestSpec)

/-- ITS FALSE NEIGHBOUR: 'it returns false'. Refute it at one input. -/
def lateFreshestWrong : ChangeSpec := { name := "lateFreshest", fn := fun _ => fun
  | [d1, d2, d3, d4] => { results := [.lit (.bool false)], args := [d1, d2, d3, d4] }
  | _ => none }
def LateFreshestWrongFalsely : Prop := lateFreshestRow.holds Try.pinned (OpenSpec.ofChange lateFreshestWrong)

/-- 'fenberrylaw06.LateMore': WHATEVER THE INPUT: true; the input reads as it did. -/
def lateMoreSpec : ChangeSpec := { name := "lateMore", fn := fun _ => fun
  | [d1, d2, d3, d4, d5] => { results := [.lit (.bool true)], args := [d1, d2, d3, d4, d5] }
  | _ => none }
def lateMoreRow : OpenClaim := { program := "ytpdoogfafjjdkaa", sum := "6677a19cf53b53ba85ddada7584367fbadb92ef0cab35550224cff549e16d645", func := "fenberry/fenberrylaw06.LateMore", spec := "lateMore", unfollowed := true, recurses := true, apart := false }
def LateMoreSaid : Prop := lateMoreRow.holds Try.pinned (OpenSpec.ofChange lateMoreSpec)

/-- ITS FALSE NEIGHBOUR: 'it returns false'. Refute it at one input. -/
def lateMoreWrong : ChangeSpec := { name := "lateMore", fn := fun _ => fun
  | [d1, d2, d3, d4, d5] => { results := [.lit (.bool false)], args := [d1, d2, d3, d4, d5] }
  | _ => none }
def LateMoreWrongFalsely : Prop := lateMoreRow.holds Try.pinned (OpenSpec.ofChange lateMoreWrong)

/-- 'fenberrylaw06.LateOwns': WHATEVER THE INPUT: true; the input reads as it did. -/
def lateOwnsSpec : ChangeSpec := { name := "lateOwns", fn := fun _ => fun
  | [d1, d2, d3, d4] => { results := [.lit (.bool true)], args := [d1, d2, d3, d4] }
  | _ => none }
def lateOwnsRow : OpenClaim := { program := "ytpdoogfafjjdkaa", sum := "6677a19cf53b53ba85ddada7584367fbadb92ef0cab35550224cff549e16d645", func := "fenberry/fenberrylaw06.LateOwns", spec := "lateOwns", unfollowed := true, recurses := true, apart := false }
def LateOwnsSaid : Prop := lateOwnsRow.holds Try.pinned (OpenSpec.ofChange lateOwnsSpec)

/-- ITS FALSE NEIGHBOUR: 'it returns false'. Refute it at one input. -/
def lateOwnsWrong : ChangeSpec := { name := "lateOwns", fn := fun _ => fun
  | [d1, d2, d3, d4] => { results := [.lit (.bool false)], args := [d1, d2, d3, d4] }
  | _ => none }
def LateOwnsWrongFalsely : Prop := lateOwnsRow.holds Try.pinned (OpenSpec.ofChange lateOwnsWrong)

/- THE SECOND FORM. 'bulk': how many values and letters a reading holds, each counted each time it is reached (what is shared counts as often as it is met; a slice's spare places count too). A statement '..UptoSaid' is the law's where the arguments, and the package variables that the reading takes, are together of bulk at most 1048576: NARROWER than '..Said'. Prove '..Said' where nothing that the law and all that it calls make is longer than what came in: it says more and counts as full. Else prove '..UptoSaid'. A law counts once. -/
mutual
def uptoBulk {H : Type} : DataW H → Nat
  | .lit (.string bytes) => bytes.length + 1
  | .lit _ => 1
  | .nil => 1
  | .ptr d => uptoBulk d + 1
  | .slice elems spare => uptoBulkAll elems + uptoBulkAll spare + 1
  | .agg parts => uptoBulkAll parts + 1
  | .iface _ d => uptoBulk d + 1
  | .map entries => uptoBulkEntries entries + 1
  | .held _ => 1
def uptoBulkAll {H : Type} : List (DataW H) → Nat
  | [] => 0
  | d :: r => uptoBulk d + uptoBulkAll r
def uptoBulkEntries {H : Type} : List (Lit × DataW H) → Nat
  | [] => 0
  | x :: r => uptoBulkEntry x + uptoBulkEntries r
def uptoBulkEntry {H : Type} : Lit × DataW H → Nat
  | (.string bytes, d) => bytes.length + uptoBulk d + 1
  | (_, d) => uptoBulk d + 1
 end
def uptoSmall : (H : Type) → List (DataW H) → Bool := fun _ ds => decide (uptoBulkAll ds ≤ 1048576)
def OpenSpec.upto (s : _root_.Go.ChangeSpec) : _root_.Go.OpenSpec := { _root_.Go.OpenSpec.ofChange s with cond := some uptoSmall }

/-- 'fenberrylaw06.LateFloods', WHERE WHAT IT READS IS OF BULK AT MOST 1048576: true; the input reads as it did. -/
def lateFloodsUptoRow : OpenClaim := { program := "ytpdoogfafjjdkaa", sum := "6677a19cf53b53ba85ddada7584367fbadb92ef0cab35550224cff549e16d645", func := "fenberry/fenberrylaw06.LateFloods", spec := "lateFloods", unfollowed := true, recurses := true, apart := false, narrowed := true }
def LateFloodsUptoSaid : Prop := lateFloodsUptoRow.holds Try.pinned (OpenSpec.upto lateFloodsSpec)

/-- 'fenberrylaw06.LateBests', WHERE WHAT IT READS IS OF BULK AT MOST 1048576: true; the input reads as it did. -/
def lateBestsUptoRow : OpenClaim := { program := "ytpdoogfafjjdkaa", sum := "6677a19cf53b53ba85ddada7584367fbadb92ef0cab35550224cff549e16d645", func := "fenberry/fenberrylaw06.LateBests", spec := "lateBests", unfollowed := true, recurses := true, apart := false, narrowed := true }
def LateBestsUptoSaid : Prop := lateBestsUptoRow.holds Try.pinned (OpenSpec.upto lateBestsSpec)

/-- 'fenberrylaw06.LateFreshens', WHERE WHAT IT READS IS OF BULK AT MOST 1048576: true; the input reads as it did. -/
def lateFreshensUptoRow : OpenClaim := { program := "ytpdoogfafjjdkaa", sum := "6677a19cf53b53ba85ddada7584367fbadb92ef0cab35550224cff549e16d645", func := "fenberry/fenberrylaw06.LateFreshens", spec := "lateFreshens", unfollowed := true, recurses := true, apart := false, narrowed := true }
def LateFreshensUptoSaid : Prop := lateFreshensUptoRow.holds Try.pinned (OpenSpec.upto lateFreshensSpec)

/-- 'fenberrylaw06.LateNames', WHERE WHAT IT READS IS OF BULK AT MOST 1048576: true; the input reads as it did. -/
def lateNamesUptoRow : OpenClaim := { program := "ytpdoogfafjjdkaa", sum := "6677a19cf53b53ba85ddada7584367fbadb92ef0cab35550224cff549e16d645", func := "fenberry/fenberrylaw06.LateNames", spec := "lateNames", unfollowed := true, recurses := true, apart := false, narrowed := true }
def LateNamesUptoSaid : Prop := lateNamesUptoRow.holds Try.pinned (OpenSpec.upto lateNamesSpec)

/-- 'fenberrylaw06.LateTrue', WHERE WHAT IT READS IS OF BULK AT MOST 1048576: true; the input reads as it did. -/
def lateTrueUptoRow : OpenClaim := { program := "ytpdoogfafjjdkaa", sum := "6677a19cf53b53ba85ddada7584367fbadb92ef0cab35550224cff549e16d645", func := "fenberry/fenberrylaw06.LateTrue", spec := "lateTrue", unfollowed := true, recurses := true, apart := false, narrowed := true }
def LateTrueUptoSaid : Prop := lateTrueUptoRow.holds Try.pinned (OpenSpec.upto lateTrueSpec)

/-- 'fenberrylaw06.LateEnds', WHERE WHAT IT READS IS OF BULK AT MOST 1048576: true; the input reads as it did. -/
def lateEndsUptoRow : OpenClaim := { program := "ytpdoogfafjjdkaa", sum := "6677a19cf53b53ba85ddada7584367fbadb92ef0cab35550224cff549e16d645", func := "fenberry/fenberrylaw06.LateEnds", spec := "lateEnds", unfollowed := true, recurses := true, apart := false, narrowed := true }
def LateEndsUptoSaid : Prop := lateEndsUptoRow.holds Try.pinned (OpenSpec.upto lateEndsSpec)

/-- 'fenberrylaw06.LateFewest', WHERE WHAT IT READS IS OF BULK AT MOST 1048576: true; the input reads as it did. -/
def lateFewestUptoRow : OpenClaim := { program := "ytpdoogfafjjdkaa", sum := "6677a19cf53b53ba85ddada7584367fbadb92ef0cab35550224cff549e16d645", func := "fenberry/fenberrylaw06.LateFewest", spec := "lateFewest", unfollowed := true, recurses := true, apart := false, narrowed := true }
def LateFewestUptoSaid : Prop := lateFewestUptoRow.holds Try.pinned (OpenSpec.upto lateFewestSpec)

/-- 'fenberrylaw06.LateFreshest', WHERE WHAT IT READS IS OF BULK AT MOST 1048576: true; the input reads as it did. -/
def lateFreshestUptoRow : OpenClaim := { program := "ytpdoogfafjjdkaa", sum := "6677a19cf53b53ba85ddada7584367fbadb92ef0cab35550224cff549e16d645", func := "fenberry/fenberrylaw06.LateFreshest", spec := "lateFreshest", unfollowed := true, recurses := true, apart := false, narrowed := true }
def LateFreshestUptoSaid : Prop := lateFreshestUptoRow.holds Try.pinned (OpenSpec.upto lateFreshestSpec)

/-- 'fenberrylaw06.LateMore', WHERE WHAT IT READS IS OF BULK AT MOST 1048576: true; the input reads as it did. -/
def lateMoreUptoRow : OpenClaim := { program := "ytpdoogfafjjdkaa", sum := "6677a19cf53b53ba85ddada7584367fbadb92ef0cab35550224cff549e16d645", func := "fenberry/fenberrylaw06.LateMore", spec := "lateMore", unfollowed := true, recurses := true, apart := false, narrowed := true }
def LateMoreUptoSaid : Prop := lateMoreUptoRow.holds Try.pinned (OpenSpec.upto lateMoreSpec)

/-- 'fenberrylaw06.LateOwns', WHERE WHAT IT READS IS OF BULK AT MOST 1048576: true; the input reads as it did. -/
def lateOwnsUptoRow : OpenClaim := { program := "ytpdoogfafjjdkaa", sum := "6677a19cf53b53ba85ddada7584367fbadb92ef0cab35550224cff549e16d645", func := "fenberry/fenberrylaw06.LateOwns", spec := "lateOwns", unfollowed := true, recurses := true, apart := false, narrowed := true }
def LateOwnsUptoSaid : Prop := lateOwnsUptoRow.holds Try.pinned (OpenSpec.upto lateOwnsSpec)

end Rows
end Go.Proofs.Ytpdoogfafjjdkaa
