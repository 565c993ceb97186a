/-
  No cell of these rows narrows 'for every input' (looked for: loops, veiled, ifaces, maps, wideKeys, modest, calm, conditions, laid).
  DERIVED. THE GIVEN ROWS OF THIS SEAT. 5 by the template 'for every input the law returns true; each argument reads behind the call as it read before'; 0 by the template 'total and deterministic' (their statements: YtobimpgapfecoabTotals.lean).
  GIVEN WITH THE SEED: the statements are not yours to turn. If you find one false, say at which input.
  Laid BY PROGRAM, IN A SANDBOX (cutbox-rows.mjs): the forced cells as the released guide's own fill.sh prints them over the translation d5aff76686fa9be4… (all of the seat's roots in one cut). By AI agents, Wed Nov 11 2026. No macro, syntax, notation, axiom, sorry.
-/
import Derived.Test.YtobimpgapfecoabChecked
import GoSem.Claim
import GoSem.ClaimJoined
import GoSem.ClaimMapViews
import Derived.JoinedTies
import Derived.KernelRfl
namespace Go.Proofs.Ytobimpgapfecoab
/- THE CELL 'sum', in the pinned program and in every row, IS THE sha256 OF THE DUMP (.gsa) THAT YtobimpgapfecoabProg.lean LOADS. Nothing in Lean hashes anything: it is a label: what it is worth is what the hold of that sum in a sandbox is worth. -/
noncomputable def Try.pinned : Pinned := { name := "ytobimpgapfecoab", sum := "d5aff76686fa9be4991d2b18f14a24bbd1b534aea269dbd5e37ee19db4d1c12e", checked := Try.checked }
namespace Rows
def none {H : Type} : Left H := { results := [], args := [] }

/-- 'laws.FnExactStatsAdd': WHATEVER THE INPUT: true; the input reads as it did. -/
def fnExactStatsAddSpec : ChangeSpec := { name := "fnExactStatsAdd", fn := fun _ => fun
  | [d1, d2, d3, d4] => { results := [.lit (.bool true)], args := [d1, d2, d3, d4] }
  | _ => none }
def fnExactStatsAddRow : OpenClaim := { program := "ytobimpgapfecoab", sum := "d5aff76686fa9be4991d2b18f14a24bbd1b534aea269dbd5e37ee19db4d1c12e", func := "loop.example/g00477/laws.FnExactStatsAdd", spec := "fnExactStatsAdd", plainKeys := false, apart := false }
def FnExactStatsAddSaid : Prop := fnExactStatsAddRow.holds Try.pinned (OpenSpec.ofChange fnExactStatsAddSpec)

/-- ITS FALSE NEIGHBOUR: 'it returns false'. Refute it at one input. -/
def fnExactStatsAddWrong : ChangeSpec := { name := "fnExactStatsAdd", fn := fun _ => fun
  | [d1, d2, d3, d4] => { results := [.lit (.bool false)], args := [d1, d2, d3, d4] }
  | _ => none }
def FnExactStatsAddWrongFalsely : Prop := fnExactStatsAddRow.holds Try.pinned (OpenSpec.ofChange fnExactStatsAddWrong)

/-- 'laws.FnExactStatsPure': WHATEVER THE INPUT: true; the input reads as it did. -/
def fnExactStatsPureSpec : ChangeSpec := { name := "fnExactStatsPure", fn := fun _ => fun
  | [d1, d2] => { results := [.lit (.bool true)], args := [d1, d2] }
  | _ => none }
def fnExactStatsPureRow : OpenClaim := { program := "ytobimpgapfecoab", sum := "d5aff76686fa9be4991d2b18f14a24bbd1b534aea269dbd5e37ee19db4d1c12e", func := "loop.example/g00477/laws.FnExactStatsPure", spec := "fnExactStatsPure", plainKeys := false, apart := false }
def FnExactStatsPureSaid : Prop := fnExactStatsPureRow.holds Try.pinned (OpenSpec.ofChange fnExactStatsPureSpec)

/-- ITS FALSE NEIGHBOUR: 'it returns false'. Refute it at one input. -/
def fnExactStatsPureWrong : ChangeSpec := { name := "fnExactStatsPure", fn := fun _ => fun
  | [d1, d2] => { results := [.lit (.bool false)], args := [d1, d2] }
  | _ => none }
def FnExactStatsPureWrongFalsely : Prop := fnExactStatsPureRow.holds Try.pinned (OpenSpec.ofChange fnExactStatsPureWrong)

/-- 'laws.FnExactPromise': WHATEVER THE INPUT: true; the input reads as it did. -/
def fnExactPromiseSpec : ChangeSpec := { name := "fnExactPromise", fn := fun _ => fun
  | [d1, d2] => { results := [.lit (.bool true)], args := [d1, d2] }
  | _ => none }
def fnExactPromiseRow : OpenClaim := { program := "ytobimpgapfecoab", sum := "d5aff76686fa9be4991d2b18f14a24bbd1b534aea269dbd5e37ee19db4d1c12e", func := "loop.example/g00477/laws.FnExactPromise", spec := "fnExactPromise", plainKeys := false, apart := false }
def FnExactPromiseSaid : Prop := fnExactPromiseRow.holds Try.pinned (OpenSpec.ofChange fnExactPromiseSpec)

/-- ITS FALSE NEIGHBOUR: 'it returns false'. Refute it at one input. -/
def fnExactPromiseWrong : ChangeSpec := { name := "fnExactPromise", fn := fun _ => fun
  | [d1, d2] => { results := [.lit (.bool false)], args := [d1, d2] }
  | _ => none }
def FnExactPromiseWrongFalsely : Prop := fnExactPromiseRow.holds Try.pinned (OpenSpec.ofChange fnExactPromiseWrong)

/-- 'laws.FnExactThin': WHATEVER THE INPUT: true; the input reads as it did. -/
def fnExactThinSpec : ChangeSpec := { name := "fnExactThin", fn := fun _ => fun
  | [d] => { results := [.lit (.bool true)], args := [d] }
  | _ => none }
def fnExactThinRow : OpenClaim := { program := "ytobimpgapfecoab", sum := "d5aff76686fa9be4991d2b18f14a24bbd1b534aea269dbd5e37ee19db4d1c12e", func := "loop.example/g00477/laws.FnExactThin", spec := "fnExactThin", plainKeys := false, apart := false }
def FnExactThinSaid : Prop := fnExactThinRow.holds Try.pinned (OpenSpec.ofChange fnExactThinSpec)

/-- ITS FALSE NEIGHBOUR: 'it returns false'. Refute it at one input. -/
def fnExactThinWrong : ChangeSpec := { name := "fnExactThin", fn := fun _ => fun
  | [d] => { results := [.lit (.bool false)], args := [d] }
  | _ => none }
def FnExactThinWrongFalsely : Prop := fnExactThinRow.holds Try.pinned (OpenSpec.ofChange fnExactThinWrong)

/-- 'laws.FnExactBranchTotals': WHATEVER THE INPUT: true; the input reads as it did. -/
def fnExactBranchTotalsSpec : ChangeSpec := { name := "fnExactBranchTotals", fn := fun _ => fun
  | [d1, d2, d3, d4] => { results := [.lit (.bool true)], args := [d1, d2, d3, d4] }
  | _ => none }
def fnExactBranchTotalsRow : OpenClaim := { program := "ytobimpgapfecoab", sum := "d5aff76686fa9be4991d2b18f14a24bbd1b534aea269dbd5e37ee19db4d1c12e", func := "loop.example/g00477/laws.FnExactBranchTotals", spec := "fnExactBranchTotals", unfollowed := true, recurses := true, plainKeys := false, apart := false }
def FnExactBranchTotalsSaid : Prop := fnExactBranchTotalsRow.holds Try.pinned (OpenSpec.ofChange fnExactBranchTotalsSpec)

/-- ITS FALSE NEIGHBOUR: 'it returns false'. Refute it at one input. -/
def fnExactBranchTotalsWrong : ChangeSpec := { name := "fnExactBranchTotals", fn := fun _ => fun
  | [d1, d2, d3, d4] => { results := [.lit (.bool false)], args := [d1, d2, d3, d4] }
  | _ => none }
def FnExactBranchTotalsWrongFalsely : Prop := fnExactBranchTotalsRow.holds Try.pinned (OpenSpec.ofChange fnExactBranchTotalsWrong)

/- THE SECOND FORM. 'bulk': how many values and letters a reading holds, each counted each time it is reached (what is shared counts as often as it is met; a slice's spare places count too). A statement '..UptoSaid' is the law's where the arguments, and the package variables that the reading takes, are together of bulk at most 1048576: NARROWER than '..Said'. Prove '..Said' where nothing that the law and all that it calls make is longer than what came in: it says more and counts as full. Else prove '..UptoSaid'. A law counts once. -/
mutual
def uptoBulk {H : Type} : DataW H → Nat
  | .lit (.string bytes) => bytes.length + 1
  | .lit _ => 1
  | .nil => 1
  | .ptr d => uptoBulk d + 1
  | .slice elems spare => uptoBulkAll elems + uptoBulkAll spare + 1
  | .agg parts => uptoBulkAll parts + 1
  | .iface _ d => uptoBulk d + 1
  | .map entries => uptoBulkEntries entries + 1
  | .held _ => 1
def uptoBulkAll {H : Type} : List (DataW H) → Nat
  | [] => 0
  | d :: r => uptoBulk d + uptoBulkAll r
def uptoBulkEntries {H : Type} : List (Lit × DataW H) → Nat
  | [] => 0
  | x :: r => uptoBulkEntry x + uptoBulkEntries r
def uptoBulkEntry {H : Type} : Lit × DataW H → Nat
  | (.string bytes, d) => bytes.length + uptoBulk d + 1
  | (_, d) => uptoBulk d + 1
 end
def uptoSmall : (H : Type) → List (DataW H) → Bool := fun _ ds => decide (uptoBulkAll ds ≤ 1048576)
def OpenSpec.upto (s : _root_.Go.ChangeSpec) : _root_.Go.OpenSpec := { _root_.Go.OpenSpec.ofChange s with cond := some uptoSmall }

/-- 'laws.FnExactStatsAdd', WHERE WHAT IT READS IS OF BULK AT MOST 1048576: true; the input reads as it did. -/
def fnExactStatsAddUptoRow : OpenClaim := { program := "ytobimpgapfecoab", sum := "d5aff76686fa9be4991d2b18f14a24bbd1b534aea269dbd5e37ee19db4d1c12e", func := "loop.example/g00477/laws.FnExactStatsAdd", spec := "fnExactStatsAdd", plainKeys := false, apart := false, narrowed := true }
def FnExactStatsAddUptoSaid : Prop := fnExactStatsAddUptoRow.holds Try.pinned (OpenSpec.upto fnExactStatsAddSpec)

/-- 'laws.FnExactStatsPure', WHERE WHAT IT READS IS OF BULK AT MOST 1048576: true; the input reads as it did. -/
def fnExactStatsPureUptoRow : OpenClaim := { program := "ytobimpgapfecoab", sum := "d5aff76686fa9be4991d2b18f14a24bbd1b534aea269dbd5e37ee19db4d1c12e", func := "loop.example/g00477/laws.FnExactStatsPure", spec := "fnExactStatsPure", plainKeys := false, apart := false, narrowed := true }
def FnExactStatsPureUptoSaid : Prop := fnExactStatsPureUptoRow.holds Try.pinned (OpenSpec.upto fnExactStatsPureSpec)

/-- 'laws.FnExactPromise', WHERE WHAT IT READS IS OF BULK AT MOST 1048576: true; the input reads as it did. -/
def fnExactPromiseUptoRow : OpenClaim := { program := "ytobimpgapfecoab", sum := "d5aff76686fa9be4991d2b18f14a24bbd1b534aea269dbd5e37ee19db4d1c12e", func := "loop.example/g00477/laws.FnExactPromise", spec := "fnExactPromise", plainKeys := false, apart := false, narrowed := true }
def FnExactPromiseUptoSaid : Prop := fnExactPromiseUptoRow.holds Try.pinned (OpenSpec.upto fnExactPromiseSpec)

/-- 'laws.FnExactThin', WHERE WHAT IT READS IS OF BULK AT MOST 1048576: true; the input reads as it did. -/
def fnExactThinUptoRow : OpenClaim := { program := "ytobimpgapfecoab", sum := "d5aff76686fa9be4991d2b18f14a24bbd1b534aea269dbd5e37ee19db4d1c12e", func := "loop.example/g00477/laws.FnExactThin", spec := "fnExactThin", plainKeys := false, apart := false, narrowed := true }
def FnExactThinUptoSaid : Prop := fnExactThinUptoRow.holds Try.pinned (OpenSpec.upto fnExactThinSpec)

/-- 'laws.FnExactBranchTotals', WHERE WHAT IT READS IS OF BULK AT MOST 1048576: true; the input reads as it did. -/
def fnExactBranchTotalsUptoRow : OpenClaim := { program := "ytobimpgapfecoab", sum := "d5aff76686fa9be4991d2b18f14a24bbd1b534aea269dbd5e37ee19db4d1c12e", func := "loop.example/g00477/laws.FnExactBranchTotals", spec := "fnExactBranchTotals", unfollowed := true, recurses := true, plainKeys := false, apart := false, narrowed := true }
def FnExactBranchTotalsUptoSaid : Prop := fnExactBranchTotalsUptoRow.holds Try.pinned (OpenSpec.upto fnExactBranchTotalsSpec)

end Rows
end Go.Proofs.Ytobimpgapfecoab
