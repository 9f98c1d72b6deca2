/-
  No cell of these rows narrows 'for every input' (looked for: loops, veiled, ifaces, maps, wideKeys, modest, calm, conditions, laid).
  DERIVED. THE GIVEN ROWS OF THIS SEAT. 11 by the template 'for every input the law returns true; each argument reads behind the call as it read before'; 0 by the template 'total and deterministic' (their statements: YtlgfejokafimaaaTotals.lean).
  GIVEN WITH THE SEED: the statements are not yours to turn. If you find one false, say at which input.
  Laid BY PROGRAM, IN A SANDBOX (cutbox-rows.mjs): the forced cells as the released guide's own fill.sh prints them over the translation c6ddc47671f627fb… (all of the seat's roots in one cut). By AI agents, Wed Nov 11 2026. No macro, syntax, notation, axiom, sorry.
-/
import Derived.Test.YtlgfejokafimaaaChecked
import GoSem.Claim
import GoSem.ClaimJoined
import GoSem.ClaimMapViews
import Derived.JoinedTies
import Derived.KernelRfl
namespace Go.Proofs.Ytlgfejokafimaaa
/- THE CELL 'sum', in the pinned program and in every row, IS THE sha256 OF THE DUMP (.gsa) THAT YtlgfejokafimaaaProg.lean LOADS. Nothing in Lean hashes anything: it is a label: what it is worth is what the hold of that sum in a sandbox is worth. -/
noncomputable def Try.pinned : Pinned := { name := "ytlgfejokafimaaa", sum := "c6ddc47671f627fbc0d46e0d73395b72d26480c2f7280aa77c8166ae5b2bbd7e", checked := Try.checked }
namespace Rows
def none {H : Type} : Left H := { results := [], args := [] }

/-- 'fenberrylaw05.SprayDays': WHATEVER THE INPUT: true; the input reads as it did. -/
def sprayDaysSpec : ChangeSpec := { name := "sprayDays", fn := fun _ => fun
  | [d1, d2, d3, d4] => { results := [.lit (.bool true)], args := [d1, d2, d3, d4] }
  | _ => none }
def sprayDaysRow : OpenClaim := { program := "ytlgfejokafimaaa", sum := "c6ddc47671f627fbc0d46e0d73395b72d26480c2f7280aa77c8166ae5b2bbd7e", func := "fenberry/fenberrylaw05.SprayDays", spec := "sprayDays", unfollowed := true, recurses := true, plainKeys := false, apart := false }
def SprayDaysSaid : Prop := sprayDaysRow.holds Try.pinned (OpenSpec.ofChange sprayDaysSpec)

/-- ITS FALSE NEIGHBOUR: 'it returns false'. Refute it at one input. -/
def sprayDaysWrong : ChangeSpec := { name := "sprayDays", fn := fun _ => fun
  | [d1, d2, d3, d4] => { results := [.lit (.bool false)], args := [d1, d2, d3, d4] }
  | _ => none }
def SprayDaysWrongFalsely : Prop := sprayDaysRow.holds Try.pinned (OpenSpec.ofChange sprayDaysWrong)

/-- 'fenberrylaw05.SprayPlans': WHATEVER THE INPUT: true; the input reads as it did. -/
def sprayPlansSpec : ChangeSpec := { name := "sprayPlans", fn := fun _ => fun
  | [d1, d2] => { results := [.lit (.bool true)], args := [d1, d2] }
  | _ => none }
def sprayPlansRow : OpenClaim := { program := "ytlgfejokafimaaa", sum := "c6ddc47671f627fbc0d46e0d73395b72d26480c2f7280aa77c8166ae5b2bbd7e", func := "fenberry/fenberrylaw05.SprayPlans", spec := "sprayPlans", unfollowed := true, recurses := true, plainKeys := false, apart := false }
def SprayPlansSaid : Prop := sprayPlansRow.holds Try.pinned (OpenSpec.ofChange sprayPlansSpec)

/-- ITS FALSE NEIGHBOUR: 'it returns false'. Refute it at one input. -/
def sprayPlansWrong : ChangeSpec := { name := "sprayPlans", fn := fun _ => fun
  | [d1, d2] => { results := [.lit (.bool false)], args := [d1, d2] }
  | _ => none }
def SprayPlansWrongFalsely : Prop := sprayPlansRow.holds Try.pinned (OpenSpec.ofChange sprayPlansWrong)

/-- 'fenberrylaw05.SprayPests': WHATEVER THE INPUT: true; the input reads as it did. -/
def sprayPestsSpec : ChangeSpec := { name := "sprayPests", fn := fun _ => fun
  | [d1, d2] => { results := [.lit (.bool true)], args := [d1, d2] }
  | _ => none }
def sprayPestsRow : OpenClaim := { program := "ytlgfejokafimaaa", sum := "c6ddc47671f627fbc0d46e0d73395b72d26480c2f7280aa77c8166ae5b2bbd7e", func := "fenberry/fenberrylaw05.SprayPests", spec := "sprayPests", unfollowed := true, recurses := true, plainKeys := false, apart := false }
def SprayPestsSaid : Prop := sprayPestsRow.holds Try.pinned (OpenSpec.ofChange sprayPestsSpec)

/-- ITS FALSE NEIGHBOUR: 'it returns false'. Refute it at one input. -/
def sprayPestsWrong : ChangeSpec := { name := "sprayPests", fn := fun _ => fun
  | [d1, d2] => { results := [.lit (.bool false)], args := [d1, d2] }
  | _ => none }
def SprayPestsWrongFalsely : Prop := sprayPestsRow.holds Try.pinned (OpenSpec.ofChange sprayPestsWrong)

/-- 'fenberrylaw05.SprayNames': WHATEVER THE INPUT: true; the input reads as it did. -/
def sprayNamesSpec : ChangeSpec := { name := "sprayNames", fn := fun _ => fun
  | [] => { results := [.lit (.bool true)], args := [] }
  | _ => none }
def sprayNamesRow : OpenClaim := { program := "ytlgfejokafimaaa", sum := "c6ddc47671f627fbc0d46e0d73395b72d26480c2f7280aa77c8166ae5b2bbd7e", func := "fenberry/fenberrylaw05.SprayNames", spec := "sprayNames", unfollowed := true, recurses := true, plainKeys := false, apart := false }
def SprayNamesSaid : Prop := sprayNamesRow.holds Try.pinned (OpenSpec.ofChange sprayNamesSpec)

/-- ITS FALSE NEIGHBOUR: 'it returns false'. Refute it at one input. -/
def sprayNamesWrong : ChangeSpec := { name := "sprayNames", fn := fun _ => fun
  | [] => { results := [.lit (.bool false)], args := [] }
  | _ => none }
def SprayNamesWrongFalsely : Prop := sprayNamesRow.holds Try.pinned (OpenSpec.ofChange sprayNamesWrong)

/-- 'fenberrylaw05.SpraySafe': WHATEVER THE INPUT: true; the input reads as it did. -/
def spraySafeSpec : ChangeSpec := { name := "spraySafe", fn := fun _ => fun
  | [d1, d2] => { results := [.lit (.bool true)], args := [d1, d2] }
  | _ => none }
def spraySafeRow : OpenClaim := { program := "ytlgfejokafimaaa", sum := "c6ddc47671f627fbc0d46e0d73395b72d26480c2f7280aa77c8166ae5b2bbd7e", func := "fenberry/fenberrylaw05.SpraySafe", spec := "spraySafe", unfollowed := true, recurses := true, plainKeys := false, apart := false }
def SpraySafeSaid : Prop := spraySafeRow.holds Try.pinned (OpenSpec.ofChange spraySafeSpec)

/-- ITS FALSE NEIGHBOUR: 'it returns false'. Refute it at one input. -/
def spraySafeWrong : ChangeSpec := { name := "spraySafe", fn := fun _ => fun
  | [d1, d2] => { results := [.lit (.bool false)], args := [d1, d2] }
  | _ => none }
def SpraySafeWrongFalsely : Prop := spraySafeRow.holds Try.pinned (OpenSpec.ofChange spraySafeWrong)

/-- 'fenberrylaw05.SprayBest': WHATEVER THE INPUT: true; the input reads as it did. -/
def sprayBestSpec : ChangeSpec := { name := "sprayBest", fn := fun _ => fun
  | [d1, d2, d3] => { results := [.lit (.bool true)], args := [d1, d2, d3] }
  | _ => none }
def sprayBestRow : OpenClaim := { program := "ytlgfejokafimaaa", sum := "c6ddc47671f627fbc0d46e0d73395b72d26480c2f7280aa77c8166ae5b2bbd7e", func := "fenberry/fenberrylaw05.SprayBest", spec := "sprayBest", unfollowed := true, recurses := true, plainKeys := false, apart := false }
def SprayBestSaid : Prop := sprayBestRow.holds Try.pinned (OpenSpec.ofChange sprayBestSpec)

/-- ITS FALSE NEIGHBOUR: 'it returns false'. Refute it at one input. -/
def sprayBestWrong : ChangeSpec := { name := "sprayBest", fn := fun _ => fun
  | [d1, d2, d3] => { results := [.lit (.bool false)], args := [d1, d2, d3] }
  | _ => none }
def SprayBestWrongFalsely : Prop := sprayBestRow.holds Try.pinned (OpenSpec.ofChange sprayBestWrong)

/-- 'fenberrylaw05.SprayMore': WHATEVER THE INPUT: true; the input reads as it did. -/
def sprayMoreSpec : ChangeSpec := { name := "sprayMore", fn := fun _ => fun
  | [d1, d2, d3, d4] => { results := [.lit (.bool true)], args := [d1, d2, d3, d4] }
  | _ => none }
def sprayMoreRow : OpenClaim := { program := "ytlgfejokafimaaa", sum := "c6ddc47671f627fbc0d46e0d73395b72d26480c2f7280aa77c8166ae5b2bbd7e", func := "fenberry/fenberrylaw05.SprayMore", spec := "sprayMore", unfollowed := true, recurses := true, plainKeys := false, apart := false }
def SprayMoreSaid : Prop := sprayMoreRow.holds Try.pinned (OpenSpec.ofChange sprayMoreSpec)

/-- ITS FALSE NEIGHBOUR: 'it returns false'. Refute it at one input. -/
def sprayMoreWrong : ChangeSpec := { name := "sprayMore", fn := fun _ => fun
  | [d1, d2, d3, d4] => { results := [.lit (.bool false)], args := [d1, d2, d3, d4] }
  | _ => none }
def SprayMoreWrongFalsely : Prop := sprayMoreRow.holds Try.pinned (OpenSpec.ofChange sprayMoreWrong)

/-- 'fenberrylaw05.SprayClear': WHATEVER THE INPUT: true; the input reads as it did. -/
def sprayClearSpec : ChangeSpec := { name := "sprayClear", fn := fun _ => fun
  | [d1, d2, d3] => { results := [.lit (.bool true)], args := [d1, d2, d3] }
  | _ => none }
def sprayClearRow : OpenClaim := { program := "ytlgfejokafimaaa", sum := "c6ddc47671f627fbc0d46e0d73395b72d26480c2f7280aa77c8166ae5b2bbd7e", func := "fenberry/fenberrylaw05.SprayClear", spec := "sprayClear", unfollowed := true, recurses := true, plainKeys := false, apart := false }
def SprayClearSaid : Prop := sprayClearRow.holds Try.pinned (OpenSpec.ofChange sprayClearSpec)

/-- ITS FALSE NEIGHBOUR: 'it returns false'. Refute it at one input. -/
def sprayClearWrong : ChangeSpec := { name := "sprayClear", fn := fun _ => fun
  | [d1, d2, d3] => { results := [.lit (.bool false)], args := [d1, d2, d3] }
  | _ => none }
def SprayClearWrongFalsely : Prop := sprayClearRow.holds Try.pinned (OpenSpec.ofChange sprayClearWrong)

/-- 'fenberrylaw05.SprayTrue': WHATEVER THE INPUT: true; the input reads as it did. -/
def sprayTrueSpec : ChangeSpec := { name := "sprayTrue", fn := fun _ => fun
  | [d1, d2, d3] => { results := [.lit (.bool true)], args := [d1, d2, d3] }
  | _ => none }
def sprayTrueRow : OpenClaim := { program := "ytlgfejokafimaaa", sum := "c6ddc47671f627fbc0d46e0d73395b72d26480c2f7280aa77c8166ae5b2bbd7e", func := "fenberry/fenberrylaw05.SprayTrue", spec := "sprayTrue", unfollowed := true, recurses := true, plainKeys := false, apart := false }
def SprayTrueSaid : Prop := sprayTrueRow.holds Try.pinned (OpenSpec.ofChange sprayTrueSpec)

/-- ITS FALSE NEIGHBOUR: 'it returns false'. Refute it at one input. -/
def sprayTrueWrong : ChangeSpec := { name := "sprayTrue", fn := fun _ => fun
  | [d1, d2, d3] => { results := [.lit (.bool false)], args := [d1, d2, d3] }
  | _ => none }
def SprayTrueWrongFalsely : Prop := sprayTrueRow.holds Try.pinned (OpenSpec.ofChange sprayTrueWrong)

/-- 'fenberrylaw05.SprayEnds': WHATEVER THE INPUT: true; the input reads as it did. -/
def sprayEndsSpec : ChangeSpec := { name := "sprayEnds", fn := fun _ => fun
  | [d] => { results := [.lit (.bool true)], args := [d] }
  | _ => none }
def sprayEndsRow : OpenClaim := { program := "ytlgfejokafimaaa", sum := "c6ddc47671f627fbc0d46e0d73395b72d26480c2f7280aa77c8166ae5b2bbd7e", func := "fenberry/fenberrylaw05.SprayEnds", spec := "sprayEnds", unfollowed := true, recurses := true, plainKeys := false, apart := false }
def SprayEndsSaid : Prop := sprayEndsRow.holds Try.pinned (OpenSpec.ofChange sprayEndsSpec)

/-- ITS FALSE NEIGHBOUR: 'it returns false'. Refute it at one input. -/
def sprayEndsWrong : ChangeSpec := { name := "sprayEnds", fn := fun _ => fun
  | [d] => { results := [.lit (.bool false)], args := [d] }
  | _ => none }
def SprayEndsWrongFalsely : Prop := sprayEndsRow.holds Try.pinned (OpenSpec.ofChange sprayEndsWrong)

/-- 'fenberrylaw05.SprayOwns': WHATEVER THE INPUT: true; the input reads as it did. -/
def sprayOwnsSpec : ChangeSpec := { name := "sprayOwns", fn := fun _ => fun
  | [d1, d2] => { results := [.lit (.bool true)], args := [d1, d2] }
  | _ => none }
def sprayOwnsRow : OpenClaim := { program := "ytlgfejokafimaaa", sum := "c6ddc47671f627fbc0d46e0d73395b72d26480c2f7280aa77c8166ae5b2bbd7e", func := "fenberry/fenberrylaw05.SprayOwns", spec := "sprayOwns", unfollowed := true, recurses := true, plainKeys := false, apart := false }
def SprayOwnsSaid : Prop := sprayOwnsRow.holds Try.pinned (OpenSpec.ofChange sprayOwnsSpec)

/-- ITS FALSE NEIGHBOUR: 'it returns false'. Refute it at one input. -/
def sprayOwnsWrong : ChangeSpec := { name := "sprayOwns", fn := fun _ => fun
  | [d1, d2] => { results := [.lit (.bool false)], args := [d1, d2] }
  | _ => none }
def SprayOwnsWrongFalsely : Prop := sprayOwnsRow.holds Try.pinned (OpenSpec.ofChange sprayOwnsWrong)

/- THE SECOND FORM. 'bulk': how many values and letters a reading holds, each counted each time it is reached (what is shared counts as often as it is met; a slice's spare places count too). A statement '..UptoSaid' is the law's where the arguments, and the package variables that the reading takes, are together of bulk at most 1048576: NARROWER than '..Said'. Prove '..Said' where nothing that the law and all that it calls make is longer than what came in: it says more and counts as full. Else prove '..UptoSaid'. A law counts once. -/
mutual
def uptoBulk {H : Type} : DataW H → Nat
  | .lit (.string bytes) => bytes.length + 1
  | .lit _ => 1
  | .nil => 1
  | .ptr d => uptoBulk d + 1
  | .slice elems spare => uptoBulkAll elems + uptoBulkAll spare + 1
  | .agg parts => uptoBulkAll parts + 1
  | .iface _ d => uptoBulk d + 1
  | .map entries => uptoBulkEntries entries + 1
  | .held _ => 1
def uptoBulkAll {H : Type} : List (DataW H) → Nat
  | [] => 0
  | d :: r => uptoBulk d + uptoBulkAll r
def uptoBulkEntries {H : Type} : List (Lit × DataW H) → Nat
  | [] => 0
  | x :: r => uptoBulkEntry x + uptoBulkEntries r
def uptoBulkEntry {H : Type} : Lit × DataW H → Nat
  | (.string bytes, d) => bytes.length + uptoBulk d + 1
  | (_, d) => uptoBulk d + 1
 end
def uptoSmall : (H : Type) → List (DataW H) → Bool := fun _ ds => decide (uptoBulkAll ds ≤ 1048576)
def OpenSpec.upto (s : _root_.Go.ChangeSpec) : _root_.Go.OpenSpec := { _root_.Go.OpenSpec.ofChange s with cond := some uptoSmall }

/-- 'fenberrylaw05.SprayDays', WHERE WHAT IT READS IS OF BULK AT MOST 1048576: true; the input reads as it did. -/
def sprayDaysUptoRow : OpenClaim := { program := "ytlgfejokafimaaa", sum := "c6ddc47671f627fbc0d46e0d73395b72d26480c2f7280aa77c8166ae5b2bbd7e", func := "fenberry/fenberrylaw05.SprayDays", spec := "sprayDays", unfollowed := true, recurses := true, plainKeys := false, apart := false, narrowed := true }
def SprayDaysUptoSaid : Prop := sprayDaysUptoRow.holds Try.pinned (OpenSpec.upto sprayDaysSpec)

/-- 'fenberrylaw05.SprayPlans', WHERE WHAT IT READS IS OF BULK AT MOST 1048576: true; the input reads as it did. -/
def sprayPlansUptoRow : OpenClaim := { program := "ytlgfejokafimaaa", sum := "c6ddc47671f627fbc0d46e0d73395b72d26480c2f7280aa77c8166ae5b2bbd7e", func := "fenberry/fenberrylaw05.SprayPlans", spec := "sprayPlans", unfollowed := true, recurses := true, plainKeys := false, apart := false, narrowed := true }
def SprayPlansUptoSaid : Prop := sprayPlansUptoRow.holds Try.pinned (OpenSpec.upto sprayPlansSpec)

/-- 'fenberrylaw05.SprayPests', WHERE WHAT IT READS IS OF BULK AT MOST 1048576: true; the input reads as it did. -/
def sprayPestsUptoRow : OpenClaim := { program := "ytlgfejokafimaaa", sum := "c6ddc47671f627fbc0d46e0d73395b72d26480c2f7280aa77c8166ae5b2bbd7e", func := "fenberry/fenberrylaw05.SprayPests", spec := "sprayPests", unfollowed := true, recurses := true, plainKeys := false, apart := false, narrowed := true }
def SprayPestsUptoSaid : Prop := sprayPestsUptoRow.holds Try.pinned (OpenSpec.upto sprayPestsSpec)

/-- 'fenberrylaw05.SprayNames', WHERE WHAT IT READS IS OF BULK AT MOST 1048576: true; the input reads as it did. -/
def sprayNamesUptoRow : OpenClaim := { program := "ytlgfejokafimaaa", sum := "c6ddc47671f627fbc0d46e0d73395b72d26480c2f7280aa77c8166ae5b2bbd7e", func := "fenberry/fenberrylaw05.SprayNames", spec := "sprayNames", unfollowed := true, recurses := true, plainKeys := false, apart := false, narrowed := true }
def SprayNamesUptoSaid : Prop := sprayNamesUptoRow.holds Try.pinned (OpenSpec.upto sprayNamesSpec)

/-- 'fenberrylaw05.SpraySafe', WHERE WHAT IT READS IS OF BULK AT MOST 1048576: true; the input reads as it did. -/
def spraySafeUptoRow : OpenClaim := { program := "ytlgfejokafimaaa", sum := "c6ddc47671f627fbc0d46e0d73395b72d26480c2f7280aa77c8166ae5b2bbd7e", func := "fenberry/fenberrylaw05.SpraySafe", spec := "spraySafe", unfollowed := true, recurses := true, plainKeys := false, apart := false, narrowed := true }
def SpraySafeUptoSaid : Prop := spraySafeUptoRow.holds Try.pinned (OpenSpec.upto spraySafeSpec)

/-- 'fenberrylaw05.SprayBest', WHERE WHAT IT READS IS OF BULK AT MOST 1048576: true; the input reads as it did. -/
def sprayBestUptoRow : OpenClaim := { program := "ytlgfejokafimaaa", sum := "c6ddc47671f627fbc0d46e0d73395b72d26480c2f7280aa77c8166ae5b2bbd7e", func := "fenberry/fenberrylaw05.SprayBest", spec := "sprayBest", unfollowed := true, recurses := true, plainKeys := false, apart := false, narrowed := true }
def SprayBestUptoSaid : Prop := sprayBestUptoRow.holds Try.pinned (OpenSpec.upto sprayBestSpec)

/-- 'fenberrylaw05.SprayMore', WHERE WHAT IT READS IS OF BULK AT MOST 1048576: true; the input reads as it did. -/
def sprayMoreUptoRow : OpenClaim := { program := "ytlgfejokafimaaa", sum := "c6ddc47671f627fbc0d46e0d73395b72d26480c2f7280aa77c8166ae5b2bbd7e", func := "fenberry/fenberrylaw05.SprayMore", spec := "sprayMore", unfollowed := true, recurses := true, plainKeys := false, apart := false, narrowed := true }
def SprayMoreUptoSaid : Prop := sprayMoreUptoRow.holds Try.pinned (OpenSpec.upto sprayMoreSpec)

/-- 'fenberrylaw05.SprayClear', WHERE WHAT IT READS IS OF BULK AT MOST 1048576: true; the input reads as it did. -/
def sprayClearUptoRow : OpenClaim := { program := "ytlgfejokafimaaa", sum := "c6ddc47671f627fbc0d46e0d73395b72d26480c2f7280aa77c8166ae5b2bbd7e", func := "fenberry/fenberrylaw05.SprayClear", spec := "sprayClear", unfollowed := true, recurses := true, plainKeys := false, apart := false, narrowed := true }
def SprayClearUptoSaid : Prop := sprayClearUptoRow.holds Try.pinned (OpenSpec.upto sprayClearSpec)

/-- 'fenberrylaw05.SprayTrue', WHERE WHAT IT READS IS OF BULK AT MOST 1048576: true; the input reads as it did. -/
def sprayTrueUptoRow : OpenClaim := { program := "ytlgfejokafimaaa", sum := "c6ddc47671f627fbc0d46e0d73395b72d26480c2f7280aa77c8166ae5b2bbd7e", func := "fenberry/fenberrylaw05.SprayTrue", spec := "sprayTrue", unfollowed := true, recurses := true, plainKeys := false, apart := false, narrowed := true }
def SprayTrueUptoSaid : Prop := sprayTrueUptoRow.holds Try.pinned (OpenSpec.upto sprayTrueSpec)

/-- 'fenberrylaw05.SprayEnds', WHERE WHAT IT READS IS OF BULK AT MOST 1048576: true; the input reads as it did. -/
def sprayEndsUptoRow : OpenClaim := { program := "ytlgfejokafimaaa", sum := "c6ddc47671f627fbc0d46e0d73395b72d26480c2f7280aa77c8166ae5b2bbd7e", func := "fenberry/fenberrylaw05.SprayEnds", spec := "sprayEnds", unfollowed := true, recurses := true, plainKeys := false, apart := false, narrowed := true }
def SprayEndsUptoSaid : Prop := sprayEndsUptoRow.holds Try.pinned (OpenSpec.upto sprayEndsSpec)

/-- 'fenberrylaw05.SprayOwns', WHERE WHAT IT READS IS OF BULK AT MOST 1048576: true; the input reads as it did. -/
def sprayOwnsUptoRow : OpenClaim := { program := "ytlgfejokafimaaa", sum := "c6ddc47671f627fbc0d46e0d73395b72d26480c2f7280aa77c8166ae5b2bbd7e", func := "fenberry/fenberrylaw05.SprayOwns", spec := "sprayOwns", unfollowed := true, recurses := true, plainKeys := false, apart := false, narrowed := true }
def SprayOwnsUptoSaid : Prop := sprayOwnsUptoRow.holds Try.pinned (OpenSpec.upto sprayOwnsSpec)

end Rows
end Go.Proofs.Ytlgfejokafimaaa
