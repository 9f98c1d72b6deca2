/-
  No cell of these rows narrows 'for every input' (looked for: loops, veiled, ifaces, maps, wideKeys, modest, calm, conditions, laid).
  DERIVED. THE GIVEN ROWS OF THIS SEAT. 6 by the template 'for every input the law returns true; each argument reads behind the call as it read before'; 0 by the template 'total and deterministic' (their statements: YtobbfhkodccclaaTotals.lean).
  GIVEN WITH THE SEED: the statements are not yours to turn. If you find one false, say at which input.
  Laid BY PROGRAM, IN A SANDBOX (cutbox-rows.mjs): the forced cells as the released guide's own fill.sh prints them over the translation 729f2d1c59022ee7… (all of the seat's roots in one cut). By AI agents, Wed Nov 11 2026. No macro, syntax, notation, axiom, sorry.
-/
import Derived.Test.YtobbfhkodccclaaChecked
import GoSem.Claim
import GoSem.ClaimJoined
import GoSem.ClaimMapViews
import Derived.JoinedTies
import Derived.KernelRfl
namespace Go.Proofs.Ytobbfhkodccclaa
/- THE CELL 'sum', in the pinned program and in every row, IS THE sha256 OF THE DUMP (.gsa) THAT YtobbfhkodccclaaProg.lean LOADS. Nothing in Lean hashes anything: it is a label: what it is worth is what the hold of that sum in a sandbox is worth. -/
noncomputable def Try.pinned : Pinned := { name := "ytobbfhkodccclaa", sum := "729f2d1c59022ee7b26ccaf66fc1f8bc4cbb314e01f3f3f28a024619b8b9f4d4", checked := Try.checked }
namespace Rows
def none {H : Type} : Left H := { results := [], args := [] }

/-- 'fenberrylaw12.QuotaBases': WHATEVER THE INPUT: true; the input reads as it did. -/
def quotaBasesSpec : ChangeSpec := { name := "quotaBases", fn := fun _ => fun
  | [d1, d2, d3, d4] => { results := [.lit (.bool true)], args := [d1, d2, d3, d4] }
  | _ => none }
def quotaBasesRow : OpenClaim := { program := "ytobbfhkodccclaa", sum := "729f2d1c59022ee7b26ccaf66fc1f8bc4cbb314e01f3f3f28a024619b8b9f4d4", func := "fenberry/fenberrylaw12.QuotaBases", spec := "quotaBases", unfollowed := true, recurses := true, plainKeys := false, apart := false }
def QuotaBasesSaid : Prop := quotaBasesRow.holds Try.pinned (OpenSpec.ofChange quotaBasesSpec)

/-- ITS FALSE NEIGHBOUR: 'it returns false'. Refute it at one input. -/
def quotaBasesWrong : ChangeSpec := { name := "quotaBases", fn := fun _ => fun
  | [d1, d2, d3, d4] => { results := [.lit (.bool false)], args := [d1, d2, d3, d4] }
  | _ => none }
def QuotaBasesWrongFalsely : Prop := quotaBasesRow.holds Try.pinned (OpenSpec.ofChange quotaBasesWrong)

/-- 'fenberrylaw12.QuotaPlays': WHATEVER THE INPUT: true; the input reads as it did. -/
def quotaPlaysSpec : ChangeSpec := { name := "quotaPlays", fn := fun _ => fun
  | [d1, d2, d3] => { results := [.lit (.bool true)], args := [d1, d2, d3] }
  | _ => none }
def quotaPlaysRow : OpenClaim := { program := "ytobbfhkodccclaa", sum := "729f2d1c59022ee7b26ccaf66fc1f8bc4cbb314e01f3f3f28a024619b8b9f4d4", func := "fenberry/fenberrylaw12.QuotaPlays", spec := "quotaPlays", unfollowed := true, recurses := true, plainKeys := false, apart := false }
def QuotaPlaysSaid : Prop := quotaPlaysRow.holds Try.pinned (OpenSpec.ofChange quotaPlaysSpec)

/-- ITS FALSE NEIGHBOUR: 'it returns false'. Refute it at one input. -/
def quotaPlaysWrong : ChangeSpec := { name := "quotaPlays", fn := fun _ => fun
  | [d1, d2, d3] => { results := [.lit (.bool false)], args := [d1, d2, d3] }
  | _ => none }
def QuotaPlaysWrongFalsely : Prop := quotaPlaysRow.holds Try.pinned (OpenSpec.ofChange quotaPlaysWrong)

/-- 'fenberrylaw12.QuotaLaw': WHATEVER THE INPUT: true; the input reads as it did. -/
def quotaLawSpec : ChangeSpec := { name := "quotaLaw", fn := fun _ => fun
  | [d1, d2, d3, d4] => { results := [.lit (.bool true)], args := [d1, d2, d3, d4] }
  | _ => none }
def quotaLawRow : OpenClaim := { program := "ytobbfhkodccclaa", sum := "729f2d1c59022ee7b26ccaf66fc1f8bc4cbb314e01f3f3f28a024619b8b9f4d4", func := "fenberry/fenberrylaw12.QuotaLaw", spec := "quotaLaw", unfollowed := true, recurses := true, plainKeys := false, apart := false }
def QuotaLawSaid : Prop := quotaLawRow.holds Try.pinned (OpenSpec.ofChange quotaLawSpec)

/-- ITS FALSE NEIGHBOUR: 'it returns false'. Refute it at one input. -/
def quotaLawWrong : ChangeSpec := { name := "quotaLaw", fn := fun _ => fun
  | [d1, d2, d3, d4] => { results := [.lit (.bool false)], args := [d1, d2, d3, d4] }
  | _ => none }
def QuotaLawWrongFalsely : Prop := quotaLawRow.holds Try.pinned (OpenSpec.ofChange quotaLawWrong)

/-- 'fenberrylaw12.QuotaAccounts': WHATEVER THE INPUT: true; the input reads as it did. -/
def quotaAccountsSpec : ChangeSpec := { name := "quotaAccounts", fn := fun _ => fun
  | [d1, d2, d3] => { results := [.lit (.bool true)], args := [d1, d2, d3] }
  | _ => none }
def quotaAccountsRow : OpenClaim := { program := "ytobbfhkodccclaa", sum := "729f2d1c59022ee7b26ccaf66fc1f8bc4cbb314e01f3f3f28a024619b8b9f4d4", func := "fenberry/fenberrylaw12.QuotaAccounts", spec := "quotaAccounts", unfollowed := true, recurses := true, plainKeys := false, apart := false }
def QuotaAccountsSaid : Prop := quotaAccountsRow.holds Try.pinned (OpenSpec.ofChange quotaAccountsSpec)

/-- ITS FALSE NEIGHBOUR: 'it returns false'. Refute it at one input. -/
def quotaAccountsWrong : ChangeSpec := { name := "quotaAccounts", fn := fun _ => fun
  | [d1, d2, d3] => { results := [.lit (.bool false)], args := [d1, d2, d3] }
  | _ => none }
def QuotaAccountsWrongFalsely : Prop := quotaAccountsRow.holds Try.pinned (OpenSpec.ofChange quotaAccountsWrong)

/-- 'fenberrylaw12.QuotaCrops': WHATEVER THE INPUT: true; the input reads as it did. -/
def quotaCropsSpec : ChangeSpec := { name := "quotaCrops", fn := fun _ => fun
  | [d1, d2, d3, d4, d5] => { results := [.lit (.bool true)], args := [d1, d2, d3, d4, d5] }
  | _ => none }
def quotaCropsRow : OpenClaim := { program := "ytobbfhkodccclaa", sum := "729f2d1c59022ee7b26ccaf66fc1f8bc4cbb314e01f3f3f28a024619b8b9f4d4", func := "fenberry/fenberrylaw12.QuotaCrops", spec := "quotaCrops", unfollowed := true, recurses := true, plainKeys := false, apart := false }
def QuotaCropsSaid : Prop := quotaCropsRow.holds Try.pinned (OpenSpec.ofChange quotaCropsSpec)

/-- ITS FALSE NEIGHBOUR: 'it returns false'. Refute it at one input. -/
def quotaCropsWrong : ChangeSpec := { name := "quotaCrops", fn := fun _ => fun
  | [d1, d2, d3, d4, d5] => { results := [.lit (.bool false)], args := [d1, d2, d3, d4, d5] }
  | _ => none }
def QuotaCropsWrongFalsely : Prop := quotaCropsRow.holds Try.pinned (OpenSpec.ofChange quotaCropsWrong)

/-- 'fenberrylaw12.QuotaShares': WHATEVER THE INPUT: true; the input reads as it did. -/
def quotaSharesSpec : ChangeSpec := { name := "quotaShares", fn := fun _ => fun
  | [d1, d2, d3, d4] => { results := [.lit (.bool true)], args := [d1, d2, d3, d4] }
  | _ => none }
def quotaSharesRow : OpenClaim := { program := "ytobbfhkodccclaa", sum := "729f2d1c59022ee7b26ccaf66fc1f8bc4cbb314e01f3f3f28a024619b8b9f4d4", func := "fenberry/fenberrylaw12.QuotaShares", spec := "quotaShares", unfollowed := true, recurses := true, plainKeys := false, apart := false }
def QuotaSharesSaid : Prop := quotaSharesRow.holds Try.pinned (OpenSpec.ofChange quotaSharesSpec)

/-- ITS FALSE NEIGHBOUR: 'it returns false'. Refute it at one input. -/
def quotaSharesWrong : ChangeSpec := { name := "quotaShares", fn := fun _ => fun
  | [d1, d2, d3, d4] => { results := [.lit (.bool false)], args := [d1, d2, d3, d4] }
  | _ => none }
def QuotaSharesWrongFalsely : Prop := quotaSharesRow.holds Try.pinned (OpenSpec.ofChange quotaSharesWrong)

/- THE SECOND FORM. 'bulk': how many values and letters a reading holds, each counted each time it is reached (what is shared counts as often as it is met; a slice's spare places count too). A statement '..UptoSaid' is the law's where the arguments, and the package variables that the reading takes, are together of bulk at most 1048576: NARROWER than '..Said'. Prove '..Said' where nothing that the law and all that it calls make is longer than what came in: it says more and counts as full. Else prove '..UptoSaid'. A law counts once. -/
mutual
def uptoBulk {H : Type} : DataW H → Nat
  | .lit (.string bytes) => bytes.length + 1
  | .lit _ => 1
  | .nil => 1
  | .ptr d => uptoBulk d + 1
  | .slice elems spare => uptoBulkAll elems + uptoBulkAll spare + 1
  | .agg parts => uptoBulkAll parts + 1
  | .iface _ d => uptoBulk d + 1
  | .map entries => uptoBulkEntries entries + 1
  | .held _ => 1
def uptoBulkAll {H : Type} : List (DataW H) → Nat
  | [] => 0
  | d :: r => uptoBulk d + uptoBulkAll r
def uptoBulkEntries {H : Type} : List (Lit × DataW H) → Nat
  | [] => 0
  | x :: r => uptoBulkEntry x + uptoBulkEntries r
def uptoBulkEntry {H : Type} : Lit × DataW H → Nat
  | (.string bytes, d) => bytes.length + uptoBulk d + 1
  | (_, d) => uptoBulk d + 1
 end
def uptoSmall : (H : Type) → List (DataW H) → Bool := fun _ ds => decide (uptoBulkAll ds ≤ 1048576)
def OpenSpec.upto (s : _root_.Go.ChangeSpec) : _root_.Go.OpenSpec := { _root_.Go.OpenSpec.ofChange s with cond := some uptoSmall }

/-- 'fenberrylaw12.QuotaBases', WHERE WHAT IT READS IS OF BULK AT MOST 1048576: true; the input reads as it did. -/
def quotaBasesUptoRow : OpenClaim := { program := "ytobbfhkodccclaa", sum := "729f2d1c59022ee7b26ccaf66fc1f8bc4cbb314e01f3f3f28a024619b8b9f4d4", func := "fenberry/fenberrylaw12.QuotaBases", spec := "quotaBases", unfollowed := true, recurses := true, plainKeys := false, apart := false, narrowed := true }
def QuotaBasesUptoSaid : Prop := quotaBasesUptoRow.holds Try.pinned (OpenSpec.upto quotaBasesSpec)

/-- 'fenberrylaw12.QuotaPlays', WHERE WHAT IT READS IS OF BULK AT MOST 1048576: true; the input reads as it did. -/
def quotaPlaysUptoRow : OpenClaim := { program := "ytobbfhkodccclaa", sum := "729f2d1c59022ee7b26ccaf66fc1f8bc4cbb314e01f3f3f28a024619b8b9f4d4", func := "fenberry/fenberrylaw12.QuotaPlays", spec := "quotaPlays", unfollowed := true, recurses := true, plainKeys := false, apart := false, narrowed := true }
def QuotaPlaysUptoSaid : Prop := quotaPlaysUptoRow.holds Try.pinned (OpenSpec.upto quotaPlaysSpec)

/-- 'fenberrylaw12.QuotaLaw', WHERE WHAT IT READS IS OF BULK AT MOST 1048576: true; the input reads as it did. -/
def quotaLawUptoRow : OpenClaim := { program := "ytobbfhkodccclaa", sum := "729f2d1c59022ee7b26ccaf66fc1f8bc4cbb314e01f3f3f28a024619b8b9f4d4", func := "fenberry/fenberrylaw12.QuotaLaw", spec := "quotaLaw", unfollowed := true, recurses := true, plainKeys := false, apart := false, narrowed := true }
def QuotaLawUptoSaid : Prop := quotaLawUptoRow.holds Try.pinned (OpenSpec.upto quotaLawSpec)

/-- 'fenberrylaw12.QuotaAccounts', WHERE WHAT IT READS IS OF BULK AT MOST 1048576: true; the input reads as it did. -/
def quotaAccountsUptoRow : OpenClaim := { program := "ytobbfhkodccclaa", sum := "729f2d1c59022ee7b26ccaf66fc1f8bc4cbb314e01f3f3f28a024619b8b9f4d4", func := "fenberry/fenberrylaw12.QuotaAccounts", spec := "quotaAccounts", unfollowed := true, recurses := true, plainKeys := false, apart := false, narrowed := true }
def QuotaAccountsUptoSaid : Prop := quotaAccountsUptoRow.holds Try.pinned (OpenSpec.upto quotaAccountsSpec)

/-- 'fenberrylaw12.QuotaCrops', WHERE WHAT IT READS IS OF BULK AT MOST 1048576: true; the input reads as it did. -/
def quotaCropsUptoRow : OpenClaim := { program := "ytobbfhkodccclaa", sum := "729f2d1c59022ee7b26ccaf66fc1f8bc4cbb314e01f3f3f28a024619b8b9f4d4", func := "fenberry/fenberrylaw12.QuotaCrops", spec := "quotaCrops", unfollowed := true, recurses := true, plainKeys := false, apart := false, narrowed := true }
def QuotaCropsUptoSaid : Prop := quotaCropsUptoRow.holds Try.pinned (OpenSpec.upto quotaCropsSpec)

/-- 'fenberrylaw12.QuotaShares', WHERE WHAT IT READS IS OF BULK AT MOST 1048576: true; the input reads as it did. -/
def quotaSharesUptoRow : OpenClaim := { program := "ytobbfhkodccclaa", sum := "729f2d1c59022ee7b26ccaf66fc1f8bc4cbb314e01f3f3f28a024619b8b9f4d4", func := "fenberry/fenberrylaw12.QuotaShares", spec := "quotaShares", unfollowed := true, recurses := true, plainKeys := false, apart := false, narrowed := true }
def QuotaSharesUptoSaid : Prop := quotaSharesUptoRow.holds Try.pinned (OpenSpec.upto quotaSharesSpec)

end Rows
end Go.Proofs.Ytobbfhkodccclaa
