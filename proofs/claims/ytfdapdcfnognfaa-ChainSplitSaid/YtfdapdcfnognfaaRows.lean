/-
  No cell of these rows narrows 'for every input' (looked for: loops, veiled, ifaces, maps, wideKeys, modest, calm, conditions, laid).
  DERIVED. THE GIVEN ROWS OF THIS SEAT. 11 by the template 'for every input the law returns true; each argument reads behind the call as it read before'; 0 by the template 'total and deterministic' (their statements: YtfdapdcfnognfaaTotals.lean).
  GIVEN WITH THE SEED: the statements are not yours to turn. If you find one false, say at which input.
  Laid BY PROGRAM, IN A SANDBOX (cutbox-rows.mjs): the forced cells as the released guide's own fill.sh prints them over the translation 7a26bb46de40d212… (all of the seat's roots in one cut). By AI agents, Wed Nov 11 2026. No macro, syntax, notation, axiom, sorry.
-/
import Derived.Test.YtfdapdcfnognfaaChecked
import GoSem.Claim
import GoSem.ClaimJoined
import GoSem.ClaimMapViews
import Derived.JoinedTies
import Derived.KernelRfl
namespace Go.Proofs.Ytfdapdcfnognfaa
/- THE CELL 'sum', in the pinned program and in every row, IS THE sha256 OF THE DUMP (.gsa) THAT YtfdapdcfnognfaaProg.lean LOADS. Nothing in Lean hashes anything: it is a label: what it is worth is what the hold of that sum in a sandbox is worth. -/
noncomputable def Try.pinned : Pinned := { name := "ytfdapdcfnognfaa", sum := "7a26bb46de40d21213c0406cfe64e0fe148c12ef2ea5e7b18a2d43f9c231e72b", checked := Try.checked }
namespace Rows
def none {H : Type} : Left H := { results := [], args := [] }

/-- 'fenberrylaw01.ChainPasses': WHATEVER THE INPUT: true; the input reads as it did. -/
def chainPassesSpec : ChangeSpec := { name := "chainPasses", fn := fun _ => fun
  | [d1, d2, d3] => { results := [.lit (.bool true)], args := [d1, d2, d3] }
  | _ => none }
def chainPassesRow : OpenClaim := { program := "ytfdapdcfnognfaa", sum := "7a26bb46de40d21213c0406cfe64e0fe148c12ef2ea5e7b18a2d43f9c231e72b", func := "fenberry/fenberrylaw01.ChainPasses", spec := "chainPasses", unfollowed := true, recurses := true, apart := false }
def ChainPassesSaid : Prop := chainPassesRow.holds Try.pinned (OpenSpec.ofChange chainPassesSpec)

/-- ITS FALSE NEIGHBOUR: 'it returns false'. Refute it at one input. -/
def chainPassesWrong : ChangeSpec := { name := "chainPasses", fn := fun _ => fun
  | [d1, d2, d3] => { results := [.lit (.bool false)], args := [d1, d2, d3] }
  | _ => none }
def ChainPassesWrongFalsely : Prop := chainPassesRow.holds Try.pinned (OpenSpec.ofChange chainPassesWrong)

/-- 'fenberrylaw01.ChainRuns': WHATEVER THE INPUT: true; the input reads as it did. -/
def chainRunsSpec : ChangeSpec := { name := "chainRuns", fn := fun _ => fun
  | [d1, d2, d3, d4] => { results := [.lit (.bool true)], args := [d1, d2, d3, d4] }
  | _ => none }
def chainRunsRow : OpenClaim := { program := "ytfdapdcfnognfaa", sum := "7a26bb46de40d21213c0406cfe64e0fe148c12ef2ea5e7b18a2d43f9c231e72b", func := "fenberry/fenberrylaw01.ChainRuns", spec := "chainRuns", unfollowed := true, recurses := true, apart := false }
def ChainRunsSaid : Prop := chainRunsRow.holds Try.pinned (OpenSpec.ofChange chainRunsSpec)

/-- ITS FALSE NEIGHBOUR: 'it returns false'. Refute it at one input. -/
def chainRunsWrong : ChangeSpec := { name := "chainRuns", fn := fun _ => fun
  | [d1, d2, d3, d4] => { results := [.lit (.bool false)], args := [d1, d2, d3, d4] }
  | _ => none }
def ChainRunsWrongFalsely : Prop := chainRunsRow.holds Try.pinned (OpenSpec.ofChange chainRunsWrong)

/-- 'fenberrylaw01.ChainMosts': WHATEVER THE INPUT: true; the input reads as it did. -/
def chainMostsSpec : ChangeSpec := { name := "chainMosts", fn := fun _ => fun
  | [d1, d2, d3, d4, d5] => { results := [.lit (.bool true)], args := [d1, d2, d3, d4, d5] }
  | _ => none }
def chainMostsRow : OpenClaim := { program := "ytfdapdcfnognfaa", sum := "7a26bb46de40d21213c0406cfe64e0fe148c12ef2ea5e7b18a2d43f9c231e72b", func := "fenberry/fenberrylaw01.ChainMosts", spec := "chainMosts", unfollowed := true, recurses := true, apart := false }
def ChainMostsSaid : Prop := chainMostsRow.holds Try.pinned (OpenSpec.ofChange chainMostsSpec)

/-- ITS FALSE NEIGHBOUR: 'it returns false'. Refute it at one input. -/
def chainMostsWrong : ChangeSpec := { name := "chainMosts", fn := fun _ => fun
  | [d1, d2, d3, d4, d5] => { results := [.lit (.bool false)], args := [d1, d2, d3, d4, d5] }
  | _ => none }
def ChainMostsWrongFalsely : Prop := chainMostsRow.holds Try.pinned (OpenSpec.ofChange chainMostsWrong)

/-- 'fenberrylaw01.ChainNames': WHATEVER THE INPUT: true; the input reads as it did. -/
def chainNamesSpec : ChangeSpec := { name := "chainNames", fn := fun _ => fun
  | [] => { results := [.lit (.bool true)], args := [] }
  | _ => none }
def chainNamesRow : OpenClaim := { program := "ytfdapdcfnognfaa", sum := "7a26bb46de40d21213c0406cfe64e0fe148c12ef2ea5e7b18a2d43f9c231e72b", func := "fenberry/fenberrylaw01.ChainNames", spec := "chainNames", unfollowed := true, recurses := true, apart := false }
def ChainNamesSaid : Prop := chainNamesRow.holds Try.pinned (OpenSpec.ofChange chainNamesSpec)

/-- ITS FALSE NEIGHBOUR: 'it returns false'. Refute it at one input. -/
def chainNamesWrong : ChangeSpec := { name := "chainNames", fn := fun _ => fun
  | [] => { results := [.lit (.bool false)], args := [] }
  | _ => none }
def ChainNamesWrongFalsely : Prop := chainNamesRow.holds Try.pinned (OpenSpec.ofChange chainNamesWrong)

/-- 'fenberrylaw01.ChainTrue': WHATEVER THE INPUT: true; the input reads as it did. -/
def chainTrueSpec : ChangeSpec := { name := "chainTrue", fn := fun _ => fun
  | [d1, d2, d3, d4] => { results := [.lit (.bool true)], args := [d1, d2, d3, d4] }
  | _ => none }
def chainTrueRow : OpenClaim := { program := "ytfdapdcfnognfaa", sum := "7a26bb46de40d21213c0406cfe64e0fe148c12ef2ea5e7b18a2d43f9c231e72b", func := "fenberry/fenberrylaw01.ChainTrue", spec := "chainTrue", unfollowed := true, recurses := true, apart := false }
def ChainTrueSaid : Prop := chainTrueRow.holds Try.pinned (OpenSpec.ofChange chainTrueSpec)

/-- ITS FALSE NEIGHBOUR: 'it returns false'. Refute it at one input. -/
def chainTrueWrong : ChangeSpec := { name := "chainTrue", fn := fun _ => fun
  | [d1, d2, d3, d4] => { results := [.lit (.bool false)], args := [d1, d2, d3, d4] }
  | _ => none }
def ChainTrueWrongFalsely : Prop := chainTrueRow.holds Try.pinned (OpenSpec.ofChange chainTrueWrong)

/-- 'fenberrylaw01.ChainMore': WHATEVER THE INPUT: true; the input reads as it did. -/
def chainMoreSpec : ChangeSpec := { name := "chainMore", fn := fun _ => fun
  | [d1, d2, d3, d4] => { results := [.lit (.bool true)], args := [d1, d2, d3, d4] }
  | _ => none }
def chainMoreRow : OpenClaim := { program := "ytfdapdcfnognfaa", sum := "7a26bb46de40d21213c0406cfe64e0fe148c12ef2ea5e7b18a2d43f9c231e72b", func := "fenberry/fenberrylaw01.ChainMore", spec := "chainMore", unfollowed := true, recurses := true, apart := false }
def ChainMoreSaid : Prop := chainMoreRow.holds Try.pinned (OpenSpec.ofChange chainMoreSpec)

/-- ITS FALSE NEIGHBOUR: 'it returns false'. Refute it at one input. -/
def chainMoreWrong : ChangeSpec := { name := "chainMore", fn := fun _ => fun
  | [d1, d2, d3, d4] => { results := [.lit (.bool false)], args := [d1, d2, d3, d4] }
  | _ => none }
def ChainMoreWrongFalsely : Prop := chainMoreRow.holds Try.pinned (OpenSpec.ofChange chainMoreWrong)

/-- 'fenberrylaw01.ChainSplit': WHATEVER THE INPUT: true; the input reads as it did. -/
def chainSplitSpec : ChangeSpec := { name := "chainSplit", fn := fun _ => fun
  | [d1, d2, d3, d4] => { results := [.lit (.bool true)], args := [d1, d2, d3, d4] }
  | _ => none }
def chainSplitRow : OpenClaim := { program := "ytfdapdcfnognfaa", sum := "7a26bb46de40d21213c0406cfe64e0fe148c12ef2ea5e7b18a2d43f9c231e72b", func := "fenberry/fenberrylaw01.ChainSplit", spec := "chainSplit", unfollowed := true, recurses := true, apart := false }
def ChainSplitSaid : Prop := chainSplitRow.holds Try.pinned (OpenSpec.ofChange chainSplitSpec)

/-- ITS FALSE NEIGHBOUR: 'it returns false'. Refute it at one input. -/
def chainSplitWrong : ChangeSpec := { name := "chainSplit", fn := fun _ => fun
  | [d1, d2, d3, d4] => { results := [.lit (.bool false)], args := [d1, d2, d3, d4] }
  | _ => none }
def ChainSplitWrongFalsely : Prop := chainSplitRow.holds Try.pinned (OpenSpec.ofChange chainSplitWrong)

/-- 'fenberrylaw01.ChainNarrow': WHATEVER THE INPUT: true; the input reads as it did. -/
def chainNarrowSpec : ChangeSpec := { name := "chainNarrow", fn := fun _ => fun
  | [d1, d2, d3, d4] => { results := [.lit (.bool true)], args := [d1, d2, d3, d4] }
  | _ => none }
def chainNarrowRow : OpenClaim := { program := "ytfdapdcfnognfaa", sum := "7a26bb46de40d21213c0406cfe64e0fe148c12ef2ea5e7b18a2d43f9c231e72b", func := "fenberry/fenberrylaw01.ChainNarrow", spec := "chainNarrow", unfollowed := true, recurses := true, apart := false }
def ChainNarrowSaid : Prop := chainNarrowRow.holds Try.pinned (OpenSpec.ofChange chainNarrowSpec)

/-- ITS FALSE NEIGHBOUR: 'it returns false'. Refute it at one input. -/
def chainNarrowWrong : ChangeSpec := { name := "chainNarrow", fn := fun _ => fun
  | [d1, d2, d3, d4] => { results := [.lit (.bool false)], args := [d1, d2, d3, d4] }
  | _ => none }
def ChainNarrowWrongFalsely : Prop := chainNarrowRow.holds Try.pinned (OpenSpec.ofChange chainNarrowWrong)

/-- 'fenberrylaw01.ChainEver': WHATEVER THE INPUT: true; the input reads as it did. -/
def chainEverSpec : ChangeSpec := { name := "chainEver", fn := fun _ => fun
  | [d1, d2, d3, d4] => { results := [.lit (.bool true)], args := [d1, d2, d3, d4] }
  | _ => none }
def chainEverRow : OpenClaim := { program := "ytfdapdcfnognfaa", sum := "7a26bb46de40d21213c0406cfe64e0fe148c12ef2ea5e7b18a2d43f9c231e72b", func := "fenberry/fenberrylaw01.ChainEver", spec := "chainEver", unfollowed := true, recurses := true, apart := false }
def ChainEverSaid : Prop := chainEverRow.holds Try.pinned (OpenSpec.ofChange chainEverSpec)

/-- ITS FALSE NEIGHBOUR: 'it returns false'. Refute it at one input. -/
def chainEverWrong : ChangeSpec := { name := "chainEver", fn := fun _ => fun
  | [d1, d2, d3, d4] => { results := [.lit (.bool false)], args := [d1, d2, d3, d4] }
  | _ => none }
def ChainEverWrongFalsely : Prop := chainEverRow.holds Try.pinned (OpenSpec.ofChange chainEverWrong)

/-- 'fenberrylaw01.ChainAll': WHATEVER THE INPUT: true; the input reads as it did. -/
def chainAllSpec : ChangeSpec := { name := "chainAll", fn := fun _ => fun
  | [d1, d2, d3, d4, d5] => { results := [.lit (.bool true)], args := [d1, d2, d3, d4, d5] }
  | _ => none }
def chainAllRow : OpenClaim := { program := "ytfdapdcfnognfaa", sum := "7a26bb46de40d21213c0406cfe64e0fe148c12ef2ea5e7b18a2d43f9c231e72b", func := "fenberry/fenberrylaw01.ChainAll", spec := "chainAll", unfollowed := true, recurses := true, apart := false }
def ChainAllSaid : Prop := chainAllRow.holds Try.pinned (OpenSpec.ofChange chainAllSpec)

/-- ITS FALSE NEIGHBOUR: 'it returns false'. Refute it at one input. -/
def chainAllWrong : ChangeSpec := { name := "chainAll", fn := fun _ => fun
  | [d1, d2, d3, d4, d5] => { results := [.lit (.bool false)], args := [d1, d2, d3, d4, d5] }
  | _ => none }
def ChainAllWrongFalsely : Prop := chainAllRow.holds Try.pinned (OpenSpec.ofChange chainAllWrong)

/-- 'fenberrylaw01.ChainOwns': WHATEVER THE INPUT: true; the input reads as it did. -/
def chainOwnsSpec : ChangeSpec := { name := "chainOwns", fn := fun _ => fun
  | [d1, d2, d3, d4] => { results := [.lit (.bool true)], args := [d1, d2, d3, d4] }
  | _ => none }
def chainOwnsRow : OpenClaim := { program := "ytfdapdcfnognfaa", sum := "7a26bb46de40d21213c0406cfe64e0fe148c12ef2ea5e7b18a2d43f9c231e72b", func := "fenberry/fenberrylaw01.ChainOwns", spec := "chainOwns", unfollowed := true, recurses := true, apart := false }
def ChainOwnsSaid : Prop := chainOwnsRow.holds Try.pinned (OpenSpec.ofChange chainOwnsSpec)

/-- ITS FALSE NEIGHBOUR: 'it returns false'. Refute it at one input. -/
def chainOwnsWrong : ChangeSpec := { name := "chainOwns", fn := fun _ => fun
  | [d1, d2, d3, d4] => { results := [.lit (.bool false)], args := [d1, d2, d3, d4] }
  | _ => none }
def ChainOwnsWrongFalsely : Prop := chainOwnsRow.holds Try.pinned (OpenSpec.ofChange chainOwnsWrong)

/- THE SECOND FORM. 'bulk': how many values and letters a reading holds, each counted each time it is reached (what is shared counts as often as it is met; a slice's spare places count too). A statement '..UptoSaid' is the law's where the arguments, and the package variables that the reading takes, are together of bulk at most 1048576: NARROWER than '..Said'. Prove '..Said' where nothing that the law and all that it calls make is longer than what came in: it says more and counts as full. Else prove '..UptoSaid'. A law counts once. -/
mutual
def uptoBulk {H : Type} : DataW H → Nat
  | .lit (.string bytes) => bytes.length + 1
  | .lit _ => 1
  | .nil => 1
  | .ptr d => uptoBulk d + 1
  | .slice elems spare => uptoBulkAll elems + uptoBulkAll spare + 1
  | .agg parts => uptoBulkAll parts + 1
  | .iface _ d => uptoBulk d + 1
  | .map entries => uptoBulkEntries entries + 1
  | .held _ => 1
def uptoBulkAll {H : Type} : List (DataW H) → Nat
  | [] => 0
  | d :: r => uptoBulk d + uptoBulkAll r
def uptoBulkEntries {H : Type} : List (Lit × DataW H) → Nat
  | [] => 0
  | x :: r => uptoBulkEntry x + uptoBulkEntries r
def uptoBulkEntry {H : Type} : Lit × DataW H → Nat
  | (.string bytes, d) => bytes.length + uptoBulk d + 1
  | (_, d) => uptoBulk d + 1
 end
def uptoSmall : (H : Type) → List (DataW H) → Bool := fun _ ds => decide (uptoBulkAll ds ≤ 1048576)
def OpenSpec.upto (s : _root_.Go.ChangeSpec) : _root_.Go.OpenSpec := { _root_.Go.OpenSpec.ofChange s with cond := some uptoSmall }

/-- 'fenberrylaw01.ChainPasses', WHERE WHAT IT READS IS OF BULK AT MOST 1048576: true; the input reads as it did. -/
def chainPassesUptoRow : OpenClaim := { program := "ytfdapdcfnognfaa", sum := "7a26bb46de40d21213c0406cfe64e0fe148c12ef2ea5e7b18a2d43f9c231e72b", func := "fenberry/fenberrylaw01.ChainPasses", spec := "chainPasses", unfollowed := true, recurses := true, apart := false, narrowed := true }
def ChainPassesUptoSaid : Prop := chainPassesUptoRow.holds Try.pinned (OpenSpec.upto chainPassesSpec)

/-- 'fenberrylaw01.ChainRuns', WHERE WHAT IT READS IS OF BULK AT MOST 1048576: true; the input reads as it did. -/
def chainRunsUptoRow : OpenClaim := { program := "ytfdapdcfnognfaa", sum := "7a26bb46de40d21213c0406cfe64e0fe148c12ef2ea5e7b18a2d43f9c231e72b", func := "fenberry/fenberrylaw01.ChainRuns", spec := "chainRuns", unfollowed := true, recurses := true, apart := false, narrowed := true }
def ChainRunsUptoSaid : Prop := chainRunsUptoRow.holds Try.pinned (OpenSpec.upto chainRunsSpec)

/-- 'fenberrylaw01.ChainMosts', WHERE WHAT IT READS IS OF BULK AT MOST 1048576: true; the input reads as it did. -/
def chainMostsUptoRow : OpenClaim := { program := "ytfdapdcfnognfaa", sum := "7a26bb46de40d21213c0406cfe64e0fe148c12ef2ea5e7b18a2d43f9c231e72b", func := "fenberry/fenberrylaw01.ChainMosts", spec := "chainMosts", unfollowed := true, recurses := true, apart := false, narrowed := true }
def ChainMostsUptoSaid : Prop := chainMostsUptoRow.holds Try.pinned (OpenSpec.upto chainMostsSpec)

/-- 'fenberrylaw01.ChainNames', WHERE WHAT IT READS IS OF BULK AT MOST 1048576: true; the input reads as it did. -/
def chainNamesUptoRow : OpenClaim := { program := "ytfdapdcfnognfaa", sum := "7a26bb46de40d21213c0406cfe64e0fe148c12ef2ea5e7b18a2d43f9c231e72b", func := "fenberry/fenberrylaw01.ChainNames", spec := "chainNames", unfollowed := true, recurses := true, apart := false, narrowed := true }
def ChainNamesUptoSaid : Prop := chainNamesUptoRow.holds Try.pinned (OpenSpec.upto chainNamesSpec)

/-- 'fenberrylaw01.ChainTrue', WHERE WHAT IT READS IS OF BULK AT MOST 1048576: true; the input reads as it did. -/
def chainTrueUptoRow : OpenClaim := { program := "ytfdapdcfnognfaa", sum := "7a26bb46de40d21213c0406cfe64e0fe148c12ef2ea5e7b18a2d43f9c231e72b", func := "fenberry/fenberrylaw01.ChainTrue", spec := "chainTrue", unfollowed := true, recurses := true, apart := false, narrowed := true }
def ChainTrueUptoSaid : Prop := chainTrueUptoRow.holds Try.pinned (OpenSpec.upto chainTrueSpec)

/-- 'fenberrylaw01.ChainMore', WHERE WHAT IT READS IS OF BULK AT MOST 1048576: true; the input reads as it did. -/
def chainMoreUptoRow : OpenClaim := { program := "ytfdapdcfnognfaa", sum := "7a26bb46de40d21213c0406cfe64e0fe148c12ef2ea5e7b18a2d43f9c231e72b", func := "fenberry/fenberrylaw01.ChainMore", spec := "chainMore", unfollowed := true, recurses := true, apart := false, narrowed := true }
def ChainMoreUptoSaid : Prop := chainMoreUptoRow.holds Try.pinned (OpenSpec.upto chainMoreSpec)

/-- 'fenberrylaw01.ChainSplit', WHERE WHAT IT READS IS OF BULK AT MOST 1048576: true; the input reads as it did. -/
def chainSplitUptoRow : OpenClaim := { program := "ytfdapdcfnognfaa", sum := "7a26bb46de40d21213c0406cfe64e0fe148c12ef2ea5e7b18a2d43f9c231e72b", func := "fenberry/fenberrylaw01.ChainSplit", spec := "chainSplit", unfollowed := true, recurses := true, apart := false, narrowed := true }
def ChainSplitUptoSaid : Prop := chainSplitUptoRow.holds Try.pinned (OpenSpec.upto chainSplitSpec)

/-- 'fenberrylaw01.ChainNarrow', WHERE WHAT IT READS IS OF BULK AT MOST 1048576: true; the input reads as it did. -/
def chainNarrowUptoRow : OpenClaim := { program := "ytfdapdcfnognfaa", sum := "7a26bb46de40d21213c0406cfe64e0fe148c12ef2ea5e7b18a2d43f9c231e72b", func := "fenberry/fenberrylaw01.ChainNarrow", spec := "chainNarrow", unfollowed := true, recurses := true, apart := false, narrowed := true }
def ChainNarrowUptoSaid : Prop := chainNarrowUptoRow.holds Try.pinned (OpenSpec.upto chainNarrowSpec)

/-- 'fenberrylaw01.ChainEver', WHERE WHAT IT READS IS OF BULK AT MOST 1048576: true; the input reads as it did. -/
def chainEverUptoRow : OpenClaim := { program := "ytfdapdcfnognfaa", sum := "7a26bb46de40d21213c0406cfe64e0fe148c12ef2ea5e7b18a2d43f9c231e72b", func := "fenberry/fenberrylaw01.ChainEver", spec := "chainEver", unfollowed := true, recurses := true, apart := false, narrowed := true }
def ChainEverUptoSaid : Prop := chainEverUptoRow.holds Try.pinned (OpenSpec.upto chainEverSpec)

/-- 'fenberrylaw01.ChainAll', WHERE WHAT IT READS IS OF BULK AT MOST 1048576: true; the input reads as it did. -/
def chainAllUptoRow : OpenClaim := { program := "ytfdapdcfnognfaa", sum := "7a26bb46de40d21213c0406cfe64e0fe148c12ef2ea5e7b18a2d43f9c231e72b", func := "fenberry/fenberrylaw01.ChainAll", spec := "chainAll", unfollowed := true, recurses := true, apart := false, narrowed := true }
def ChainAllUptoSaid : Prop := chainAllUptoRow.holds Try.pinned (OpenSpec.upto chainAllSpec)

/-- 'fenberrylaw01.ChainOwns', WHERE WHAT IT READS IS OF BULK AT MOST 1048576: true; the input reads as it did. -/
def chainOwnsUptoRow : OpenClaim := { program := "ytfdapdcfnognfaa", sum := "7a26bb46de40d21213c0406cfe64e0fe148c12ef2ea5e7b18a2d43f9c231e72b", func := "fenberry/fenberrylaw01.ChainOwns", spec := "chainOwns", unfollowed := true, recurses := true, apart := false, narrowed := true }
def ChainOwnsUptoSaid : Prop := chainOwnsUptoRow.holds Try.pinned (OpenSpec.upto chainOwnsSpec)

end Rows
end Go.Proofs.Ytfdapdcfnognfaa
