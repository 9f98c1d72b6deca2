/-
  No cell of these rows narrows 'for every input' (looked for: loops, veiled, ifaces, maps, wideKeys, modest, calm, conditions, laid).
  DERIVED. THE GIVEN ROWS OF THIS SEAT. 7 by the template 'for every input the law returns true; each argument reads behind the call as it read before'; 0 by the template 'total and deterministic' (their statements: YtabiecloimmjdaaTotals.lean).
  GIVEN WITH THE SEED: the statements are not yours to turn. If you find one false, say at which input.
  Laid BY PROGRAM, IN A SANDBOX (cutbox-rows.mjs): the forced cells as the released guide's own fill.sh prints them over the translation 3142bf58ca66761b… (all of the seat's roots in one cut). By AI agents, Wed Nov 11 2026. No macro, syntax, notation, axiom, sorry.
-/
import Derived.Test.YtabiecloimmjdaaChecked
import GoSem.Claim
import GoSem.ClaimJoined
import GoSem.ClaimMapViews
import Derived.JoinedTies
import Derived.KernelRfl
namespace Go.Proofs.Ytabiecloimmjdaa
/- THE CELL 'sum', in the pinned program and in every row, IS THE sha256 OF THE DUMP (.gsa) THAT YtabiecloimmjdaaProg.lean LOADS. Nothing in Lean hashes anything: it is a label: what it is worth is what the hold of that sum in a sandbox is worth. -/
noncomputable def Try.pinned : Pinned := { name := "ytabiecloimmjdaa", sum := "3142bf58ca66761b9434ee68b40c292de60f13d62dcc88e759e00f1c39c7e766", checked := Try.checked }
namespace Rows
def none {H : Type} : Left H := { results := [], args := [] }

/-- 'fenberrylaw11.PoolWorths': WHATEVER THE INPUT: true; the input reads as it did. -/
def poolWorthsSpec : ChangeSpec := { name := "poolWorths", fn := fun _ => fun
  | [d1, d2, d3] => { results := [.lit (.bool true)], args := [d1, d2, d3] }
  | _ => none }
def poolWorthsRow : OpenClaim := { program := "ytabiecloimmjdaa", sum := "3142bf58ca66761b9434ee68b40c292de60f13d62dcc88e759e00f1c39c7e766", func := "fenberry/fenberrylaw11.PoolWorths", spec := "poolWorths", unfollowed := true, recurses := true, apart := false }
def PoolWorthsSaid : Prop := poolWorthsRow.holds Try.pinned (OpenSpec.ofChange poolWorthsSpec)

/-- ITS FALSE NEIGHBOUR: 'it returns false'. Refute it at one input. -/
def poolWorthsWrong : ChangeSpec := { name := "poolWorths", fn := fun _ => fun
  | [d1, d2, d3] => { results := [.lit (.bool false)], args := [d1, d2, d3] }
  | _ => none }
def PoolWorthsWrongFalsely : Prop := poolWorthsRow.holds Try.pinned (OpenSpec.ofChange poolWorthsWrong)

/-- 'fenberrylaw11.PoolSettles': WHATEVER THE INPUT: true; the input reads as it did. -/
def poolSettlesSpec : ChangeSpec := { name := "poolSettles", fn := fun _ => fun
  | [d1, d2, d3, d4, d5] => { results := [.lit (.bool true)], args := [d1, d2, d3, d4, d5] }
  | _ => none }
def poolSettlesRow : OpenClaim := { program := "ytabiecloimmjdaa", sum := "3142bf58ca66761b9434ee68b40c292de60f13d62dcc88e759e00f1c39c7e766", func := "fenberry/fenberrylaw11.PoolSettles", spec := "poolSettles", unfollowed := true, recurses := true, apart := false }
def PoolSettlesSaid : Prop := poolSettlesRow.holds Try.pinned (OpenSpec.ofChange poolSettlesSpec)

/-- ITS FALSE NEIGHBOUR: 'it returns false'. Refute it at one input. -/
def poolSettlesWrong : ChangeSpec := { name := "poolSettles", fn := fun _ => fun
  | [d1, d2, d3, d4, d5] => { results := [.lit (.bool false)], args := [d1, d2, d3, d4, d5] }
  | _ => none }
def PoolSettlesWrongFalsely : Prop := poolSettlesRow.holds Try.pinned (OpenSpec.ofChange poolSettlesWrong)

/-- 'fenberrylaw11.PoolSplit': WHATEVER THE INPUT: true; the input reads as it did. -/
def poolSplitSpec : ChangeSpec := { name := "poolSplit", fn := fun _ => fun
  | [d1, d2, d3, d4, d5] => { results := [.lit (.bool true)], args := [d1, d2, d3, d4, d5] }
  | _ => none }
def poolSplitRow : OpenClaim := { program := "ytabiecloimmjdaa", sum := "3142bf58ca66761b9434ee68b40c292de60f13d62dcc88e759e00f1c39c7e766", func := "fenberry/fenberrylaw11.PoolSplit", spec := "poolSplit", unfollowed := true, recurses := true, apart := false }
def PoolSplitSaid : Prop := poolSplitRow.holds Try.pinned (OpenSpec.ofChange poolSplitSpec)

/-- ITS FALSE NEIGHBOUR: 'it returns false'. Refute it at one input. -/
def poolSplitWrong : ChangeSpec := { name := "poolSplit", fn := fun _ => fun
  | [d1, d2, d3, d4, d5] => { results := [.lit (.bool false)], args := [d1, d2, d3, d4, d5] }
  | _ => none }
def PoolSplitWrongFalsely : Prop := poolSplitRow.holds Try.pinned (OpenSpec.ofChange poolSplitWrong)

/-- 'fenberrylaw11.PoolCents': WHATEVER THE INPUT: true; the input reads as it did. -/
def poolCentsSpec : ChangeSpec := { name := "poolCents", fn := fun _ => fun
  | [d1, d2, d3, d4] => { results := [.lit (.bool true)], args := [d1, d2, d3, d4] }
  | _ => none }
def poolCentsRow : OpenClaim := { program := "ytabiecloimmjdaa", sum := "3142bf58ca66761b9434ee68b40c292de60f13d62dcc88e759e00f1c39c7e766", func := "fenberry/fenberrylaw11.PoolCents", spec := "poolCents", unfollowed := true, recurses := true, apart := false }
def PoolCentsSaid : Prop := poolCentsRow.holds Try.pinned (OpenSpec.ofChange poolCentsSpec)

/-- ITS FALSE NEIGHBOUR: 'it returns false'. Refute it at one input. -/
def poolCentsWrong : ChangeSpec := { name := "poolCents", fn := fun _ => fun
  | [d1, d2, d3, d4] => { results := [.lit (.bool false)], args := [d1, d2, d3, d4] }
  | _ => none }
def PoolCentsWrongFalsely : Prop := poolCentsRow.holds Try.pinned (OpenSpec.ofChange poolCentsWrong)

/-- 'fenberrylaw11.PoolSplitter': WHATEVER THE INPUT: true; the input reads as it did. -/
def poolSplitterSpec : ChangeSpec := { name := "poolSplitter", fn := fun _ => fun
  | [d1, d2, d3, d4, d5, d6, d7] => { results := [.lit (.bool true)], args := [d1, d2, d3, d4, d5, d6, d7] }
  | _ => none }
def poolSplitterRow : OpenClaim := { program := "ytabiecloimmjdaa", sum := "3142bf58ca66761b9434ee68b40c292de60f13d62dcc88e759e00f1c39c7e766", func := "fenberry/fenberrylaw11.PoolSplitter", spec := "poolSplitter", unfollowed := true, recurses := true, apart := false }
def PoolSplitterSaid : Prop := poolSplitterRow.holds Try.pinned (OpenSpec.ofChange poolSplitterSpec)

/-- ITS FALSE NEIGHBOUR: 'it returns false'. Refute it at one input. -/
def poolSplitterWrong : ChangeSpec := { name := "poolSplitter", fn := fun _ => fun
  | [d1, d2, d3, d4, d5, d6, d7] => { results := [.lit (.bool false)], args := [d1, d2, d3, d4, d5, d6, d7] }
  | _ => none }
def PoolSplitterWrongFalsely : Prop := poolSplitterRow.holds Try.pinned (OpenSpec.ofChange poolSplitterWrong)

/-- 'fenberrylaw11.PoolEnough': WHATEVER THE INPUT: true; the input reads as it did. -/
def poolEnoughSpec : ChangeSpec := { name := "poolEnough", fn := fun _ => fun
  | [d1, d2, d3, d4] => { results := [.lit (.bool true)], args := [d1, d2, d3, d4] }
  | _ => none }
def poolEnoughRow : OpenClaim := { program := "ytabiecloimmjdaa", sum := "3142bf58ca66761b9434ee68b40c292de60f13d62dcc88e759e00f1c39c7e766", func := "fenberry/fenberrylaw11.PoolEnough", spec := "poolEnough", unfollowed := true, recurses := true, apart := false }
def PoolEnoughSaid : Prop := poolEnoughRow.holds Try.pinned (OpenSpec.ofChange poolEnoughSpec)

/-- ITS FALSE NEIGHBOUR: 'it returns false'. Refute it at one input. -/
def poolEnoughWrong : ChangeSpec := { name := "poolEnough", fn := fun _ => fun
  | [d1, d2, d3, d4] => { results := [.lit (.bool false)], args := [d1, d2, d3, d4] }
  | _ => none }
def PoolEnoughWrongFalsely : Prop := poolEnoughRow.holds Try.pinned (OpenSpec.ofChange poolEnoughWrong)

/-- 'fenberrylaw11.PoolRed': WHATEVER THE INPUT: true; the input reads as it did. -/
def poolRedSpec : ChangeSpec := { name := "poolRed", fn := fun _ => fun
  | [d1, d2, d3] => { results := [.lit (.bool true)], args := [d1, d2, d3] }
  | _ => none }
def poolRedRow : OpenClaim := { program := "ytabiecloimmjdaa", sum := "3142bf58ca66761b9434ee68b40c292de60f13d62dcc88e759e00f1c39c7e766", func := "fenberry/fenberrylaw11.PoolRed", spec := "poolRed", unfollowed := true, recurses := true, apart := false }
def PoolRedSaid : Prop := poolRedRow.holds Try.pinned (OpenSpec.ofChange poolRedSpec)

/-- ITS FALSE NEIGHBOUR: 'it returns false'. Refute it at one input. -/
def poolRedWrong : ChangeSpec := { name := "poolRed", fn := fun _ => fun
  | [d1, d2, d3] => { results := [.lit (.bool false)], args := [d1, d2, d3] }
  | _ => none }
def PoolRedWrongFalsely : Prop := poolRedRow.holds Try.pinned (OpenSpec.ofChange poolRedWrong)

/- THE SECOND FORM. 'bulk': how many values and letters a reading holds, each counted each time it is reached (what is shared counts as often as it is met; a slice's spare places count too). A statement '..UptoSaid' is the law's where the arguments, and the package variables that the reading takes, are together of bulk at most 1048576: NARROWER than '..Said'. Prove '..Said' where nothing that the law and all that it calls make is longer than what came in: it says more and counts as full. Else prove '..UptoSaid'. A law counts once. -/
mutual
def uptoBulk {H : Type} : DataW H → Nat
  | .lit (.string bytes) => bytes.length + 1
  | .lit _ => 1
  | .nil => 1
  | .ptr d => uptoBulk d + 1
  | .slice elems spare => uptoBulkAll elems + uptoBulkAll spare + 1
  | .agg parts => uptoBulkAll parts + 1
  | .iface _ d => uptoBulk d + 1
  | .map entries => uptoBulkEntries entries + 1
  | .held _ => 1
def uptoBulkAll {H : Type} : List (DataW H) → Nat
  | [] => 0
  | d :: r => uptoBulk d + uptoBulkAll r
def uptoBulkEntries {H : Type} : List (Lit × DataW H) → Nat
  | [] => 0
  | x :: r => uptoBulkEntry x + uptoBulkEntries r
def uptoBulkEntry {H : Type} : Lit × DataW H → Nat
  | (.string bytes, d) => bytes.length + uptoBulk d + 1
  | (_, d) => uptoBulk d + 1
 end
def uptoSmall : (H : Type) → List (DataW H) → Bool := fun _ ds => decide (uptoBulkAll ds ≤ 1048576)
def OpenSpec.upto (s : _root_.Go.ChangeSpec) : _root_.Go.OpenSpec := { _root_.Go.OpenSpec.ofChange s with cond := some uptoSmall }

/-- 'fenberrylaw11.PoolWorths', WHERE WHAT IT READS IS OF BULK AT MOST 1048576: true; the input reads as it did. -/
def poolWorthsUptoRow : OpenClaim := { program := "ytabiecloimmjdaa", sum := "3142bf58ca66761b9434ee68b40c292de60f13d62dcc88e759e00f1c39c7e766", func := "fenberry/fenberrylaw11.PoolWorths", spec := "poolWorths", unfollowed := true, recurses := true, apart := false, narrowed := true }
def PoolWorthsUptoSaid : Prop := poolWorthsUptoRow.holds Try.pinned (OpenSpec.upto poolWorthsSpec)

/-- 'fenberrylaw11.PoolSettles', WHERE WHAT IT READS IS OF BULK AT MOST 1048576: true; the input reads as it did. -/
def poolSettlesUptoRow : OpenClaim := { program := "ytabiecloimmjdaa", sum := "3142bf58ca66761b9434ee68b40c292de60f13d62dcc88e759e00f1c39c7e766", func := "fenberry/fenberrylaw11.PoolSettles", spec := "poolSettles", unfollowed := true, recurses := true, apart := false, narrowed := true }
def PoolSettlesUptoSaid : Prop := poolSettlesUptoRow.holds Try.pinned (OpenSpec.upto poolSettlesSpec)

/-- 'fenberrylaw11.PoolSplit', WHERE WHAT IT READS IS OF BULK AT MOST 1048576: true; the input reads as it did. -/
def poolSplitUptoRow : OpenClaim := { program := "ytabiecloimmjdaa", sum := "3142bf58ca66761b9434ee68b40c292de60f13d62dcc88e759e00f1c39c7e766", func := "fenberry/fenberrylaw11.PoolSplit", spec := "poolSplit", unfollowed := true, recurses := true, apart := false, narrowed := true }
def PoolSplitUptoSaid : Prop := poolSplitUptoRow.holds Try.pinned (OpenSpec.upto poolSplitSpec)

/-- 'fenberrylaw11.PoolCents', WHERE WHAT IT READS IS OF BULK AT MOST 1048576: true; the input reads as it did. -/
def poolCentsUptoRow : OpenClaim := { program := "ytabiecloimmjdaa", sum := "3142bf58ca66761b9434ee68b40c292de60f13d62dcc88e759e00f1c39c7e766", func := "fenberry/fenberrylaw11.PoolCents", spec := "poolCents", unfollowed := true, recurses := true, apart := false, narrowed := true }
def PoolCentsUptoSaid : Prop := poolCentsUptoRow.holds Try.pinned (OpenSpec.upto poolCentsSpec)

/-- 'fenberrylaw11.PoolSplitter', WHERE WHAT IT READS IS OF BULK AT MOST 1048576: true; the input reads as it did. -/
def poolSplitterUptoRow : OpenClaim := { program := "ytabiecloimmjdaa", sum := "3142bf58ca66761b9434ee68b40c292de60f13d62dcc88e759e00f1c39c7e766", func := "fenberry/fenberrylaw11.PoolSplitter", spec := "poolSplitter", unfollowed := true, recurses := true, apart := false, narrowed := true }
def PoolSplitterUptoSaid : Prop := poolSplitterUptoRow.holds Try.pinned (OpenSpec.upto poolSplitterSpec)

/-- 'fenberrylaw11.PoolEnough', WHERE WHAT IT READS IS OF BULK AT MOST 1048576: true; the input reads as it did. -/
def poolEnoughUptoRow : OpenClaim := { program := "ytabiecloimmjdaa", sum := "3142bf58ca66761b9434ee68b40c292de60f13d62dcc88e759e00f1c39c7e766", func := "fenberry/fenberrylaw11.PoolEnough", spec := "poolEnough", unfollowed := true, recurses := true, apart := false, narrowed := true }
def PoolEnoughUptoSaid : Prop := poolEnoughUptoRow.holds Try.pinned (OpenSpec.upto poolEnoughSpec)

/-- 'fenberrylaw11.PoolRed', WHERE WHAT IT READS IS OF BULK AT MOST 1048576: true; the input reads as it did. -/
def poolRedUptoRow : OpenClaim := { program := "ytabiecloimmjdaa", sum := "3142bf58ca66761b9434ee68b40c292de60f13d62dcc88e759e00f1c39c7e766", func := "fenberry/fenberrylaw11.PoolRed", spec := "poolRed", unfollowed := true, recurses := true, apart := false, narrowed := true }
def PoolRedUptoSaid : Prop := poolRedUptoRow.holds Try.pinned (OpenSpec.upto poolRedSpec)

end Rows
end Go.Proofs.Ytabiecloimmjdaa
