/-
  No cell of these rows narrows 'for every input' (looked for: loops, veiled, ifaces, maps, wideKeys, modest, calm, conditions, laid).
  DERIVED. THE GIVEN ROWS OF THIS SEAT. 8 by the template 'for every input the law returns true; each argument reads behind the call as it read before'; 0 by the template 'total and deterministic' (their statements: YtngkkiijcpdffaaTotals.lean).
  GIVEN WITH THE SEED: the statements are not yours to turn. If you find one false, say at which input.
  Laid BY PROGRAM, IN A SANDBOX (cutbox-rows.mjs): the forced cells as the released guide's own fill.sh prints them over the translation ec343ee7aa690e82… (all of the seat's roots in one cut). By AI agents, Wed Nov 11 2026. No macro, syntax, notation, axiom, sorry.
-/
import Derived.Test.YtngkkiijcpdffaaChecked
import GoSem.Claim
import GoSem.ClaimJoined
import GoSem.ClaimMapViews
import Derived.JoinedTies
import Derived.KernelRfl
namespace Go.Proofs.Ytngkkiijcpdffaa
/- THE CELL 'sum', in the pinned program and in every row, IS THE sha256 OF THE DUMP (.gsa) THAT YtngkkiijcpdffaaProg.lean LOADS. Nothing in Lean hashes anything: it is a label: what it is worth is what the hold of that sum in a sandbox is worth. -/
noncomputable def Try.pinned : Pinned := { name := "ytngkkiijcpdffaa", sum := "ec343ee7aa690e82427c3f71bcc1bbf21cb868d036bafa579d80090a2f17edf1", checked := Try.checked }
namespace Rows
def none {H : Type} : Left H := { results := [], args := [] }

/-- 'fenberrylaw13.PermitWindows': WHATEVER THE INPUT: true; the input reads as it did. -/
def permitWindowsSpec : ChangeSpec := { name := "permitWindows", fn := fun _ => fun
  | [d1, d2, d3, d4] => { results := [.lit (.bool true)], args := [d1, d2, d3, d4] }
  | _ => none }
def permitWindowsRow : OpenClaim := { program := "ytngkkiijcpdffaa", sum := "ec343ee7aa690e82427c3f71bcc1bbf21cb868d036bafa579d80090a2f17edf1", func := "fenberry/fenberrylaw13.PermitWindows", spec := "permitWindows", unfollowed := true, recurses := true, apart := false }
def PermitWindowsSaid : Prop := permitWindowsRow.holds Try.pinned (OpenSpec.ofChange permitWindowsSpec)

/-- ITS FALSE NEIGHBOUR: 'it returns false'. Refute it at one input. -/
def permitWindowsWrong : ChangeSpec := { name := "permitWindows", fn := fun _ => fun
  | [d1, d2, d3, d4] => { results := [.lit (.bool false)], args := [d1, d2, d3, d4] }
  | _ => none }
def PermitWindowsWrongFalsely : Prop := permitWindowsRow.holds Try.pinned (OpenSpec.ofChange permitWindowsWrong)

/-- 'fenberrylaw13.PermitRivers': WHATEVER THE INPUT: true; the input reads as it did. -/
def permitRiversSpec : ChangeSpec := { name := "permitRivers", fn := fun _ => fun
  | [d1, d2, d3, d4] => { results := [.lit (.bool true)], args := [d1, d2, d3, d4] }
  | _ => none }
def permitRiversRow : OpenClaim := { program := "ytngkkiijcpdffaa", sum := "ec343ee7aa690e82427c3f71bcc1bbf21cb868d036bafa579d80090a2f17edf1", func := "fenberry/fenberrylaw13.PermitRivers", spec := "permitRivers", unfollowed := true, recurses := true, apart := false }
def PermitRiversSaid : Prop := permitRiversRow.holds Try.pinned (OpenSpec.ofChange permitRiversSpec)

/-- ITS FALSE NEIGHBOUR: 'it returns false'. Refute it at one input. -/
def permitRiversWrong : ChangeSpec := { name := "permitRivers", fn := fun _ => fun
  | [d1, d2, d3, d4] => { results := [.lit (.bool false)], args := [d1, d2, d3, d4] }
  | _ => none }
def PermitRiversWrongFalsely : Prop := permitRiversRow.holds Try.pinned (OpenSpec.ofChange permitRiversWrong)

/-- 'fenberrylaw13.PermitWaits': WHATEVER THE INPUT: true; the input reads as it did. -/
def permitWaitsSpec : ChangeSpec := { name := "permitWaits", fn := fun _ => fun
  | [d1, d2, d3, d4, d5, d6, d7] => { results := [.lit (.bool true)], args := [d1, d2, d3, d4, d5, d6, d7] }
  | _ => none }
def permitWaitsRow : OpenClaim := { program := "ytngkkiijcpdffaa", sum := "ec343ee7aa690e82427c3f71bcc1bbf21cb868d036bafa579d80090a2f17edf1", func := "fenberry/fenberrylaw13.PermitWaits", spec := "permitWaits", unfollowed := true, recurses := true, apart := false }
def PermitWaitsSaid : Prop := permitWaitsRow.holds Try.pinned (OpenSpec.ofChange permitWaitsSpec)

/-- ITS FALSE NEIGHBOUR: 'it returns false'. Refute it at one input. -/
def permitWaitsWrong : ChangeSpec := { name := "permitWaits", fn := fun _ => fun
  | [d1, d2, d3, d4, d5, d6, d7] => { results := [.lit (.bool false)], args := [d1, d2, d3, d4, d5, d6, d7] }
  | _ => none }
def PermitWaitsWrongFalsely : Prop := permitWaitsRow.holds Try.pinned (OpenSpec.ofChange permitWaitsWrong)

/-- 'fenberrylaw13.PermitTrue': WHATEVER THE INPUT: true; the input reads as it did. -/
def permitTrueSpec : ChangeSpec := { name := "permitTrue", fn := fun _ => fun
  | [d1, d2, d3, d4, d5] => { results := [.lit (.bool true)], args := [d1, d2, d3, d4, d5] }
  | _ => none }
def permitTrueRow : OpenClaim := { program := "ytngkkiijcpdffaa", sum := "ec343ee7aa690e82427c3f71bcc1bbf21cb868d036bafa579d80090a2f17edf1", func := "fenberry/fenberrylaw13.PermitTrue", spec := "permitTrue", unfollowed := true, recurses := true, apart := false }
def PermitTrueSaid : Prop := permitTrueRow.holds Try.pinned (OpenSpec.ofChange permitTrueSpec)

/-- ITS FALSE NEIGHBOUR: 'it returns false'. Refute it at one input. -/
def permitTrueWrong : ChangeSpec := { name := "permitTrue", fn := fun _ => fun
  | [d1, d2, d3, d4, d5] => { results := [.lit (.bool false)], args := [d1, d2, d3, d4, d5] }
  | _ => none }
def PermitTrueWrongFalsely : Prop := permitTrueRow.holds Try.pinned (OpenSpec.ofChange permitTrueWrong)

/-- 'fenberrylaw13.PermitAdds': WHATEVER THE INPUT: true; the input reads as it did. -/
def permitAddsSpec : ChangeSpec := { name := "permitAdds", fn := fun _ => fun
  | [d1, d2, d3, d4] => { results := [.lit (.bool true)], args := [d1, d2, d3, d4] }
  | _ => none }
def permitAddsRow : OpenClaim := { program := "ytngkkiijcpdffaa", sum := "ec343ee7aa690e82427c3f71bcc1bbf21cb868d036bafa579d80090a2f17edf1", func := "fenberry/fenberrylaw13.PermitAdds", spec := "permitAdds", unfollowed := true, recurses := true, apart := false }
def PermitAddsSaid : Prop := permitAddsRow.holds Try.pinned (OpenSpec.ofChange permitAddsSpec)

/-- ITS FALSE NEIGHBOUR: 'it returns false'. Refute it at one input. -/
def permitAddsWrong : ChangeSpec := { name := "permitAdds", fn := fun _ => fun
  | [d1, d2, d3, d4] => { results := [.lit (.bool false)], args := [d1, d2, d3, d4] }
  | _ => none }
def PermitAddsWrongFalsely : Prop := permitAddsRow.holds Try.pinned (OpenSpec.ofChange permitAddsWrong)

/-- 'fenberrylaw13.PermitCool': WHATEVER THE INPUT: true; the input reads as it did. -/
def permitCoolSpec : ChangeSpec := { name := "permitCool", fn := fun _ => fun
  | [d1, d2, d3, d4] => { results := [.lit (.bool true)], args := [d1, d2, d3, d4] }
  | _ => none }
def permitCoolRow : OpenClaim := { program := "ytngkkiijcpdffaa", sum := "ec343ee7aa690e82427c3f71bcc1bbf21cb868d036bafa579d80090a2f17edf1", func := "fenberry/fenberrylaw13.PermitCool", spec := "permitCool", unfollowed := true, recurses := true, apart := false }
def PermitCoolSaid : Prop := permitCoolRow.holds Try.pinned (OpenSpec.ofChange permitCoolSpec)

/-- ITS FALSE NEIGHBOUR: 'it returns false'. Refute it at one input. -/
def permitCoolWrong : ChangeSpec := { name := "permitCool", fn := fun _ => fun
  | [d1, d2, d3, d4] => { results := [.lit (.bool false)], args := [d1, d2, d3, d4] }
  | _ => none }
def PermitCoolWrongFalsely : Prop := permitCoolRow.holds Try.pinned (OpenSpec.ofChange permitCoolWrong)

/-- 'fenberrylaw13.PermitEarliest': WHATEVER THE INPUT: true; the input reads as it did. -/
def permitEarliestSpec : ChangeSpec := { name := "permitEarliest", fn := fun _ => fun
  | [d1, d2, d3, d4, d5, d6, d7, d8, d9] => { results := [.lit (.bool true)], args := [d1, d2, d3, d4, d5, d6, d7, d8, d9] }
  | _ => none }
def permitEarliestRow : OpenClaim := { program := "ytngkkiijcpdffaa", sum := "ec343ee7aa690e82427c3f71bcc1bbf21cb868d036bafa579d80090a2f17edf1", func := "fenberry/fenberrylaw13.PermitEarliest", spec := "permitEarliest", unfollowed := true, recurses := true, apart := false }
def PermitEarliestSaid : Prop := permitEarliestRow.holds Try.pinned (OpenSpec.ofChange permitEarliestSpec)

/-- ITS FALSE NEIGHBOUR: 'it returns false'. Refute it at one input. -/
def permitEarliestWrong : ChangeSpec := { name := "permitEarliest", fn := fun _ => fun
  | [d1, d2, d3, d4, d5, d6, d7, d8, d9] => { results := [.lit (.bool false)], args := [d1, d2, d3, d4, d5, d6, d7, d8, d9] }
  | _ => none }
def PermitEarliestWrongFalsely : Prop := permitEarliestRow.holds Try.pinned (OpenSpec.ofChange permitEarliestWrong)

/-- 'fenberrylaw13.PermitBalance': WHATEVER THE INPUT: true; the input reads as it did. -/
def permitBalanceSpec : ChangeSpec := { name := "permitBalance", fn := fun _ => fun
  | [d1, d2] => { results := [.lit (.bool true)], args := [d1, d2] }
  | _ => none }
def permitBalanceRow : OpenClaim := { program := "ytngkkiijcpdffaa", sum := "ec343ee7aa690e82427c3f71bcc1bbf21cb868d036bafa579d80090a2f17edf1", func := "fenberry/fenberrylaw13.PermitBalance", spec := "permitBalance", unfollowed := true, recurses := true, apart := false }
def PermitBalanceSaid : Prop := permitBalanceRow.holds Try.pinned (OpenSpec.ofChange permitBalanceSpec)

/-- ITS FALSE NEIGHBOUR: 'it returns false'. Refute it at one input. -/
def permitBalanceWrong : ChangeSpec := { name := "permitBalance", fn := fun _ => fun
  | [d1, d2] => { results := [.lit (.bool false)], args := [d1, d2] }
  | _ => none }
def PermitBalanceWrongFalsely : Prop := permitBalanceRow.holds Try.pinned (OpenSpec.ofChange permitBalanceWrong)

/- THE SECOND FORM. 'bulk': how many values and letters a reading holds, each counted each time it is reached (what is shared counts as often as it is met; a slice's spare places count too). A statement '..UptoSaid' is the law's where the arguments, and the package variables that the reading takes, are together of bulk at most 1048576: NARROWER than '..Said'. Prove '..Said' where nothing that the law and all that it calls make is longer than what came in: it says more and counts as full. Else prove '..UptoSaid'. A law counts once. -/
mutual
def uptoBulk {H : Type} : DataW H → Nat
  | .lit (.string bytes) => bytes.length + 1
  | .lit _ => 1
  | .nil => 1
  | .ptr d => uptoBulk d + 1
  | .slice elems spare => uptoBulkAll elems + uptoBulkAll spare + 1
  | .agg parts => uptoBulkAll parts + 1
  | .iface _ d => uptoBulk d + 1
  | .map entries => uptoBulkEntries entries + 1
  | .held _ => 1
def uptoBulkAll {H : Type} : List (DataW H) → Nat
  | [] => 0
  | d :: r => uptoBulk d + uptoBulkAll r
def uptoBulkEntries {H : Type} : List (Lit × DataW H) → Nat
  | [] => 0
  | x :: r => uptoBulkEntry x + uptoBulkEntries r
def uptoBulkEntry {H : Type} : Lit × DataW H → Nat
  | (.string bytes, d) => bytes.length + uptoBulk d + 1
  | (_, d) => uptoBulk d + 1
 end
def uptoSmall : (H : Type) → List (DataW H) → Bool := fun _ ds => decide (uptoBulkAll ds ≤ 1048576)
def OpenSpec.upto (s : _root_.Go.ChangeSpec) : _root_.Go.OpenSpec := { _root_.Go.OpenSpec.ofChange s with cond := some uptoSmall }

/-- 'fenberrylaw13.PermitWindows', WHERE WHAT IT READS IS OF BULK AT MOST 1048576: true; the input reads as it did. -/
def permitWindowsUptoRow : OpenClaim := { program := "ytngkkiijcpdffaa", sum := "ec343ee7aa690e82427c3f71bcc1bbf21cb868d036bafa579d80090a2f17edf1", func := "fenberry/fenberrylaw13.PermitWindows", spec := "permitWindows", unfollowed := true, recurses := true, apart := false, narrowed := true }
def PermitWindowsUptoSaid : Prop := permitWindowsUptoRow.holds Try.pinned (OpenSpec.upto permitWindowsSpec)

/-- 'fenberrylaw13.PermitRivers', WHERE WHAT IT READS IS OF BULK AT MOST 1048576: true; the input reads as it did. -/
def permitRiversUptoRow : OpenClaim := { program := "ytngkkiijcpdffaa", sum := "ec343ee7aa690e82427c3f71bcc1bbf21cb868d036bafa579d80090a2f17edf1", func := "fenberry/fenberrylaw13.PermitRivers", spec := "permitRivers", unfollowed := true, recurses := true, apart := false, narrowed := true }
def PermitRiversUptoSaid : Prop := permitRiversUptoRow.holds Try.pinned (OpenSpec.upto permitRiversSpec)

/-- 'fenberrylaw13.PermitWaits', WHERE WHAT IT READS IS OF BULK AT MOST 1048576: true; the input reads as it did. -/
def permitWaitsUptoRow : OpenClaim := { program := "ytngkkiijcpdffaa", sum := "ec343ee7aa690e82427c3f71bcc1bbf21cb868d036bafa579d80090a2f17edf1", func := "fenberry/fenberrylaw13.PermitWaits", spec := "permitWaits", unfollowed := true, recurses := true, apart := false, narrowed := true }
def PermitWaitsUptoSaid : Prop := permitWaitsUptoRow.holds Try.pinned (OpenSpec.upto permitWaitsSpec)

/-- 'fenberrylaw13.PermitTrue', WHERE WHAT IT READS IS OF BULK AT MOST 1048576: true; the input reads as it did. -/
def permitTrueUptoRow : OpenClaim := { program := "ytngkkiijcpdffaa", sum := "ec343ee7aa690e82427c3f71bcc1bbf21cb868d036bafa579d80090a2f17edf1", func := "fenberry/fenberrylaw13.PermitTrue", spec := "permitTrue", unfollowed := true, recurses := true, apart := false, narrowed := true }
def PermitTrueUptoSaid : Prop := permitTrueUptoRow.holds Try.pinned (OpenSpec.upto permitTrueSpec)

/-- 'fenberrylaw13.PermitAdds', WHERE WHAT IT READS IS OF BULK AT MOST 1048576: true; the input reads as it did. -/
def permitAddsUptoRow : OpenClaim := { program := "ytngkkiijcpdffaa", sum := "ec343ee7aa690e82427c3f71bcc1bbf21cb868d036bafa579d80090a2f17edf1", func := "fenberry/fenberrylaw13.PermitAdds", spec := "permitAdds", unfollowed := true, recurses := true, apart := false, narrowed := true }
def PermitAddsUptoSaid : Prop := permitAddsUptoRow.holds Try.pinned (OpenSpec.upto permitAddsSpec)

/-- 'fenberrylaw13.PermitCool', WHERE WHAT IT READS IS OF BULK AT MOST 1048576: true; the input reads as it did. -/
def permitCoolUptoRow : OpenClaim := { program := "ytngkkiijcpdffaa", sum := "ec343ee7aa690e82427c3f71bcc1bbf21cb868d036bafa579d80090a2f17edf1", func := "fenberry/fenberrylaw13.PermitCool", spec := "permitCool", unfollowed := true, recurses := true, apart := false, narrowed := true }
def PermitCoolUptoSaid : Prop := permitCoolUptoRow.holds Try.pinned (OpenSpec.upto permitCoolSpec)

/-- 'fenberrylaw13.PermitEarliest', WHERE WHAT IT READS IS OF BULK AT MOST 1048576: true; the input reads as it did. -/
def permitEarliestUptoRow : OpenClaim := { program := "ytngkkiijcpdffaa", sum := "ec343ee7aa690e82427c3f71bcc1bbf21cb868d036bafa579d80090a2f17edf1", func := "fenberry/fenberrylaw13.PermitEarliest", spec := "permitEarliest", unfollowed := true, recurses := true, apart := false, narrowed := true }
def PermitEarliestUptoSaid : Prop := permitEarliestUptoRow.holds Try.pinned (OpenSpec.upto permitEarliestSpec)

/-- 'fenberrylaw13.PermitBalance', WHERE WHAT IT READS IS OF BULK AT MOST 1048576: true; the input reads as it did. -/
def permitBalanceUptoRow : OpenClaim := { program := "ytngkkiijcpdffaa", sum := "ec343ee7aa690e82427c3f71bcc1bbf21cb868d036bafa579d80090a2f17edf1", func := "fenberry/fenberrylaw13.PermitBalance", spec := "permitBalance", unfollowed := true, recurses := true, apart := false, narrowed := true }
def PermitBalanceUptoSaid : Prop := permitBalanceUptoRow.holds Try.pinned (OpenSpec.upto permitBalanceSpec)

end Rows
end Go.Proofs.Ytngkkiijcpdffaa
