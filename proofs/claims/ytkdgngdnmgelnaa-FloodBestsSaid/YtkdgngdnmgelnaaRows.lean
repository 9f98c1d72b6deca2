/-
  No cell of these rows narrows 'for every input' (looked for: loops, veiled, ifaces, maps, wideKeys, modest, calm, conditions, laid).
  DERIVED. THE GIVEN ROWS OF THIS SEAT. 9 by the template 'for every input the law returns true; each argument reads behind the call as it read before'; 0 by the template 'total and deterministic' (their statements: YtkdgngdnmgelnaaTotals.lean).
  GIVEN WITH THE SEED: the statements are not yours to turn. If you find one false, say at which input.
  Laid BY PROGRAM, IN A SANDBOX (cutbox-rows.mjs): the forced cells as the released guide's own fill.sh prints them over the translation 4201e11bcfb0c66f… (all of the seat's roots in one cut). By AI agents, Wed Nov 11 2026. No macro, syntax, notation, axiom, sorry.
-/
import Derived.Test.YtkdgngdnmgelnaaChecked
import GoSem.Claim
import GoSem.ClaimJoined
import GoSem.ClaimMapViews
import Derived.JoinedTies
import Derived.KernelRfl
namespace Go.Proofs.Ytkdgngdnmgelnaa
/- THE CELL 'sum', in the pinned program and in every row, IS THE sha256 OF THE DUMP (.gsa) THAT YtkdgngdnmgelnaaProg.lean LOADS. Nothing in Lean hashes anything: it is a label: what it is worth is what the hold of that sum in a sandbox is worth. -/
noncomputable def Try.pinned : Pinned := { name := "ytkdgngdnmgelnaa", sum := "4201e11bcfb0c66f36be9f01e0ab36d39c47db5a27224d8f409e254eb7a07f40", checked := Try.checked }
namespace Rows
def none {H : Type} : Left H := { results := [], args := [] }

/-- 'fenberrylaw07.FloodTimes': WHATEVER THE INPUT: true; the input reads as it did. -/
def floodTimesSpec : ChangeSpec := { name := "floodTimes", fn := fun _ => fun
  | [d1, d2, d3, d4] => { results := [.lit (.bool true)], args := [d1, d2, d3, d4] }
  | _ => none }
def floodTimesRow : OpenClaim := { program := "ytkdgngdnmgelnaa", sum := "4201e11bcfb0c66f36be9f01e0ab36d39c47db5a27224d8f409e254eb7a07f40", func := "fenberry/fenberrylaw07.FloodTimes", spec := "floodTimes", unfollowed := true, recurses := true, apart := false }
def FloodTimesSaid : Prop := floodTimesRow.holds Try.pinned (OpenSpec.ofChange floodTimesSpec)

/-- ITS FALSE NEIGHBOUR: 'it returns false'. Refute it at one input. -/
def floodTimesWrong : ChangeSpec := { name := "floodTimes", fn := fun _ => fun
  | [d1, d2, d3, d4] => { results := [.lit (.bool false)], args := [d1, d2, d3, d4] }
  | _ => none }
def FloodTimesWrongFalsely : Prop := floodTimesRow.holds Try.pinned (OpenSpec.ofChange floodTimesWrong)

/-- 'fenberrylaw07.FloodBests': WHATEVER THE INPUT: true; the input reads as it did. -/
def floodBestsSpec : ChangeSpec := { name := "floodBests", fn := fun _ => fun
  | [d] => { results := [.lit (.bool true)], args := [d] }
  | _ => none }
def floodBestsRow : OpenClaim := { program := "ytkdgngdnmgelnaa", sum := "4201e11bcfb0c66f36be9f01e0ab36d39c47db5a27224d8f409e254eb7a07f40", func := "fenberry/fenberrylaw07.FloodBests", spec := "floodBests", unfollowed := true, recurses := true, apart := false }
def FloodBestsSaid : Prop := floodBestsRow.holds Try.pinned (OpenSpec.ofChange floodBestsSpec)

/-- ITS FALSE NEIGHBOUR: 'it returns false'. Refute it at one input. -/
def floodBestsWrong : ChangeSpec := { name := "floodBests", fn := fun _ => fun
  | [d] => { results := [.lit (.bool false)], args := [d] }
  | _ => none }
def FloodBestsWrongFalsely : Prop := floodBestsRow.holds Try.pinned (OpenSpec.ofChange floodBestsWrong)

/-- 'fenberrylaw07.FloodNames': WHATEVER THE INPUT: true; the input reads as it did. -/
def floodNamesSpec : ChangeSpec := { name := "floodNames", fn := fun _ => fun
  | [] => { results := [.lit (.bool true)], args := [] }
  | _ => none }
def floodNamesRow : OpenClaim := { program := "ytkdgngdnmgelnaa", sum := "4201e11bcfb0c66f36be9f01e0ab36d39c47db5a27224d8f409e254eb7a07f40", func := "fenberry/fenberrylaw07.FloodNames", spec := "floodNames", unfollowed := true, recurses := true, apart := false }
def FloodNamesSaid : Prop := floodNamesRow.holds Try.pinned (OpenSpec.ofChange floodNamesSpec)

/-- ITS FALSE NEIGHBOUR: 'it returns false'. Refute it at one input. -/
def floodNamesWrong : ChangeSpec := { name := "floodNames", fn := fun _ => fun
  | [] => { results := [.lit (.bool false)], args := [] }
  | _ => none }
def FloodNamesWrongFalsely : Prop := floodNamesRow.holds Try.pinned (OpenSpec.ofChange floodNamesWrong)

/-- 'fenberrylaw07.FloodTrue': WHATEVER THE INPUT: true; the input reads as it did. -/
def floodTrueSpec : ChangeSpec := { name := "floodTrue", fn := fun _ => fun
  | [d1, d2, d3] => { results := [.lit (.bool true)], args := [d1, d2, d3] }
  | _ => none }
def floodTrueRow : OpenClaim := { program := "ytkdgngdnmgelnaa", sum := "4201e11bcfb0c66f36be9f01e0ab36d39c47db5a27224d8f409e254eb7a07f40", func := "fenberry/fenberrylaw07.FloodTrue", spec := "floodTrue", unfollowed := true, recurses := true, apart := false }
def FloodTrueSaid : Prop := floodTrueRow.holds Try.pinned (OpenSpec.ofChange floodTrueSpec)

/-- ITS FALSE NEIGHBOUR: 'it returns false'. Refute it at one input. -/
def floodTrueWrong : ChangeSpec := { name := "floodTrue", fn := fun _ => fun
  | [d1, d2, d3] => { results := [.lit (.bool false)], args := [d1, d2, d3] }
  | _ => none }
def FloodTrueWrongFalsely : Prop := floodTrueRow.holds Try.pinned (OpenSpec.ofChange floodTrueWrong)

/-- 'fenberrylaw07.FloodEnds': WHATEVER THE INPUT: true; the input reads as it did. -/
def floodEndsSpec : ChangeSpec := { name := "floodEnds", fn := fun _ => fun
  | [d1, d2] => { results := [.lit (.bool true)], args := [d1, d2] }
  | _ => none }
def floodEndsRow : OpenClaim := { program := "ytkdgngdnmgelnaa", sum := "4201e11bcfb0c66f36be9f01e0ab36d39c47db5a27224d8f409e254eb7a07f40", func := "fenberry/fenberrylaw07.FloodEnds", spec := "floodEnds", unfollowed := true, recurses := true, apart := false }
def FloodEndsSaid : Prop := floodEndsRow.holds Try.pinned (OpenSpec.ofChange floodEndsSpec)

/-- ITS FALSE NEIGHBOUR: 'it returns false'. Refute it at one input. -/
def floodEndsWrong : ChangeSpec := { name := "floodEnds", fn := fun _ => fun
  | [d1, d2] => { results := [.lit (.bool false)], args := [d1, d2] }
  | _ => none }
def FloodEndsWrongFalsely : Prop := floodEndsRow.holds Try.pinned (OpenSpec.ofChange floodEndsWrong)

/-- 'fenberrylaw07.FloodOnce': WHATEVER THE INPUT: true; the input reads as it did. -/
def floodOnceSpec : ChangeSpec := { name := "floodOnce", fn := fun _ => fun
  | [d1, d2] => { results := [.lit (.bool true)], args := [d1, d2] }
  | _ => none }
def floodOnceRow : OpenClaim := { program := "ytkdgngdnmgelnaa", sum := "4201e11bcfb0c66f36be9f01e0ab36d39c47db5a27224d8f409e254eb7a07f40", func := "fenberry/fenberrylaw07.FloodOnce", spec := "floodOnce", unfollowed := true, recurses := true, apart := false }
def FloodOnceSaid : Prop := floodOnceRow.holds Try.pinned (OpenSpec.ofChange floodOnceSpec)

/-- ITS FALSE NEIGHBOUR: 'it returns false'. Refute it at one input. -/
def floodOnceWrong : ChangeSpec := { name := "floodOnce", fn := fun _ => fun
  | [d1, d2] => { results := [.lit (.bool false)], args := [d1, d2] }
  | _ => none }
def FloodOnceWrongFalsely : Prop := floodOnceRow.holds Try.pinned (OpenSpec.ofChange floodOnceWrong)

/-- 'fenberrylaw07.FloodLeast': WHATEVER THE INPUT: true; the input reads as it did. -/
def floodLeastSpec : ChangeSpec := { name := "floodLeast", fn := fun _ => fun
  | [d] => { results := [.lit (.bool true)], args := [d] }
  | _ => none }
def floodLeastRow : OpenClaim := { program := "ytkdgngdnmgelnaa", sum := "4201e11bcfb0c66f36be9f01e0ab36d39c47db5a27224d8f409e254eb7a07f40", func := "fenberry/fenberrylaw07.FloodLeast", spec := "floodLeast", unfollowed := true, recurses := true, apart := false }
def FloodLeastSaid : Prop := floodLeastRow.holds Try.pinned (OpenSpec.ofChange floodLeastSpec)

/-- ITS FALSE NEIGHBOUR: 'it returns false'. Refute it at one input. -/
def floodLeastWrong : ChangeSpec := { name := "floodLeast", fn := fun _ => fun
  | [d] => { results := [.lit (.bool false)], args := [d] }
  | _ => none }
def FloodLeastWrongFalsely : Prop := floodLeastRow.holds Try.pinned (OpenSpec.ofChange floodLeastWrong)

/-- 'fenberrylaw07.FloodMore': WHATEVER THE INPUT: true; the input reads as it did. -/
def floodMoreSpec : ChangeSpec := { name := "floodMore", fn := fun _ => fun
  | [d1, d2, d3] => { results := [.lit (.bool true)], args := [d1, d2, d3] }
  | _ => none }
def floodMoreRow : OpenClaim := { program := "ytkdgngdnmgelnaa", sum := "4201e11bcfb0c66f36be9f01e0ab36d39c47db5a27224d8f409e254eb7a07f40", func := "fenberry/fenberrylaw07.FloodMore", spec := "floodMore", unfollowed := true, recurses := true, apart := false }
def FloodMoreSaid : Prop := floodMoreRow.holds Try.pinned (OpenSpec.ofChange floodMoreSpec)

/-- ITS FALSE NEIGHBOUR: 'it returns false'. Refute it at one input. -/
def floodMoreWrong : ChangeSpec := { name := "floodMore", fn := fun _ => fun
  | [d1, d2, d3] => { results := [.lit (.bool false)], args := [d1, d2, d3] }
  | _ => none }
def FloodMoreWrongFalsely : Prop := floodMoreRow.holds Try.pinned (OpenSpec.ofChange floodMoreWrong)

/-- 'fenberrylaw07.FloodOwns': WHATEVER THE INPUT: true; the input reads as it did. -/
def floodOwnsSpec : ChangeSpec := { name := "floodOwns", fn := fun _ => fun
  | [d1, d2] => { results := [.lit (.bool true)], args := [d1, d2] }
  | _ => none }
def floodOwnsRow : OpenClaim := { program := "ytkdgngdnmgelnaa", sum := "4201e11bcfb0c66f36be9f01e0ab36d39c47db5a27224d8f409e254eb7a07f40", func := "fenberry/fenberrylaw07.FloodOwns", spec := "floodOwns", unfollowed := true, recurses := true, apart := false }
def FloodOwnsSaid : Prop := floodOwnsRow.holds Try.pinned (OpenSpec.ofChange floodOwnsSpec)

/-- ITS FALSE NEIGHBOUR: 'it returns false'. Refute it at one input. -/
def floodOwnsWrong : ChangeSpec := { name := "floodOwns", fn := fun _ => fun
  | [d1, d2] => { results := [.lit (.bool false)], args := [d1, d2] }
  | _ => none }
def FloodOwnsWrongFalsely : Prop := floodOwnsRow.holds Try.pinned (OpenSpec.ofChange floodOwnsWrong)

/- THE SECOND FORM. 'bulk': how many values and letters a reading holds, each counted each time it is reached (what is shared counts as often as it is met; a slice's spare places count too). A statement '..UptoSaid' is the law's where the arguments, and the package variables that the reading takes, are together of bulk at most 1048576: NARROWER than '..Said'. Prove '..Said' where nothing that the law and all that it calls make is longer than what came in: it says more and counts as full. Else prove '..UptoSaid'. A law counts once. -/
mutual
def uptoBulk {H : Type} : DataW H → Nat
  | .lit (.string bytes) => bytes.length + 1
  | .lit _ => 1
  | .nil => 1
  | .ptr d => uptoBulk d + 1
  | .slice elems spare => uptoBulkAll elems + uptoBulkAll spare + 1
  | .agg parts => uptoBulkAll parts + 1
  | .iface _ d => uptoBulk d + 1
  | .map entries => uptoBulkEntries entries + 1
  | .held _ => 1
def uptoBulkAll {H : Type} : List (DataW H) → Nat
  | [] => 0
  | d :: r => uptoBulk d + uptoBulkAll r
def uptoBulkEntries {H : Type} : List (Lit × DataW H) → Nat
  | [] => 0
  | x :: r => uptoBulkEntry x + uptoBulkEntries r
def uptoBulkEntry {H : Type} : Lit × DataW H → Nat
  | (.string bytes, d) => bytes.length + uptoBulk d + 1
  | (_, d) => uptoBulk d + 1
 end
def uptoSmall : (H : Type) → List (DataW H) → Bool := fun _ ds => decide (uptoBulkAll ds ≤ 1048576)
def OpenSpec.upto (s : _root_.Go.ChangeSpec) : _root_.Go.OpenSpec := { _root_.Go.OpenSpec.ofChange s with cond := some uptoSmall }

/-- 'fenberrylaw07.FloodTimes', WHERE WHAT IT READS IS OF BULK AT MOST 1048576: true; the input reads as it did. -/
def floodTimesUptoRow : OpenClaim := { program := "ytkdgngdnmgelnaa", sum := "4201e11bcfb0c66f36be9f01e0ab36d39c47db5a27224d8f409e254eb7a07f40", func := "fenberry/fenberrylaw07.FloodTimes", spec := "floodTimes", unfollowed := true, recurses := true, apart := false, narrowed := true }
def FloodTimesUptoSaid : Prop := floodTimesUptoRow.holds Try.pinned (OpenSpec.upto floodTimesSpec)

/-- 'fenberrylaw07.FloodBests', WHERE WHAT IT READS IS OF BULK AT MOST 1048576: true; the input reads as it did. -/
def floodBestsUptoRow : OpenClaim := { program := "ytkdgngdnmgelnaa", sum := "4201e11bcfb0c66f36be9f01e0ab36d39c47db5a27224d8f409e254eb7a07f40", func := "fenberry/fenberrylaw07.FloodBests", spec := "floodBests", unfollowed := true, recurses := true, apart := false, narrowed := true }
def FloodBestsUptoSaid : Prop := floodBestsUptoRow.holds Try.pinned (OpenSpec.upto floodBestsSpec)

/-- 'fenberrylaw07.FloodNames', WHERE WHAT IT READS IS OF BULK AT MOST 1048576: true; the input reads as it did. -/
def floodNamesUptoRow : OpenClaim := { program := "ytkdgngdnmgelnaa", sum := "4201e11bcfb0c66f36be9f01e0ab36d39c47db5a27224d8f409e254eb7a07f40", func := "fenberry/fenberrylaw07.FloodNames", spec := "floodNames", unfollowed := true, recurses := true, apart := false, narrowed := true }
def FloodNamesUptoSaid : Prop := floodNamesUptoRow.holds Try.pinned (OpenSpec.upto floodNamesSpec)

/-- 'fenberrylaw07.FloodTrue', WHERE WHAT IT READS IS OF BULK AT MOST 1048576: true; the input reads as it did. -/
def floodTrueUptoRow : OpenClaim := { program := "ytkdgngdnmgelnaa", sum := "4201e11bcfb0c66f36be9f01e0ab36d39c47db5a27224d8f409e254eb7a07f40", func := "fenberry/fenberrylaw07.FloodTrue", spec := "floodTrue", unfollowed := true, recurses := true, apart := false, narrowed := true }
def FloodTrueUptoSaid : Prop := floodTrueUptoRow.holds Try.pinned (OpenSpec.upto floodTrueSpec)

/-- 'fenberrylaw07.FloodEnds', WHERE WHAT IT READS IS OF BULK AT MOST 1048576: true; the input reads as it did. -/
def floodEndsUptoRow : OpenClaim := { program := "ytkdgngdnmgelnaa", sum := "4201e11bcfb0c66f36be9f01e0ab36d39c47db5a27224d8f409e254eb7a07f40", func := "fenberry/fenberrylaw07.FloodEnds", spec := "floodEnds", unfollowed := true, recurses := true, apart := false, narrowed := true }
def FloodEndsUptoSaid : Prop := floodEndsUptoRow.holds Try.pinned (OpenSpec.upto floodEndsSpec)

/-- 'fenberrylaw07.FloodOnce', WHERE WHAT IT READS IS OF BULK AT MOST 1048576: true; the input reads as it did. -/
def floodOnceUptoRow : OpenClaim := { program := "ytkdgngdnmgelnaa", sum := "4201e11bcfb0c66f36be9f01e0ab36d39c47db5a27224d8f409e254eb7a07f40", func := "fenberry/fenberrylaw07.FloodOnce", spec := "floodOnce", unfollowed := true, recurses := true, apart := false, narrowed := true }
def FloodOnceUptoSaid : Prop := floodOnceUptoRow.holds Try.pinned (OpenSpec.upto floodOnceSpec)

/-- 'fenberrylaw07.FloodLeast', WHERE WHAT IT READS IS OF BULK AT MOST 1048576: true; the input reads as it did. -/
def floodLeastUptoRow : OpenClaim := { program := "ytkdgngdnmgelnaa", sum := "4201e11bcfb0c66f36be9f01e0ab36d39c47db5a27224d8f409e254eb7a07f40", func := "fenberry/fenberrylaw07.FloodLeast", spec := "floodLeast", unfollowed := true, recurses := true, apart := false, narrowed := true }
def FloodLeastUptoSaid : Prop := floodLeastUptoRow.holds Try.pinned (OpenSpec.upto floodLeastSpec)

/-- 'fenberrylaw07.FloodMore', WHERE WHAT IT READS IS OF BULK AT MOST 1048576: true; the input reads as it did. -/
def floodMoreUptoRow : OpenClaim := { program := "ytkdgngdnmgelnaa", sum := "4201e11bcfb0c66f36be9f01e0ab36d39c47db5a27224d8f409e254eb7a07f40", func := "fenberry/fenberrylaw07.FloodMore", spec := "floodMore", unfollowed := true, recurses := true, apart := false, narrowed := true }
def FloodMoreUptoSaid : Prop := floodMoreUptoRow.holds Try.pinned (OpenSpec.upto floodMoreSpec)

/-- 'fenberrylaw07.FloodOwns', WHERE WHAT IT READS IS OF BULK AT MOST 1048576: true; the input reads as it did. -/
def floodOwnsUptoRow : OpenClaim := { program := "ytkdgngdnmgelnaa", sum := "4201e11bcfb0c66f36be9f01e0ab36d39c47db5a27224d8f409e254eb7a07f40", func := "fenberry/fenberrylaw07.FloodOwns", spec := "floodOwns", unfollowed := true, recurses := true, apart := false, narrowed := true }
def FloodOwnsUptoSaid : Prop := floodOwnsUptoRow.holds Try.pinned (OpenSpec.upto floodOwnsSpec)

end Rows
end Go.Proofs.Ytkdgngdnmgelnaa
