/-
  No cell of these rows narrows 'for every input' (looked for: loops, veiled, ifaces, maps, wideKeys, modest, calm, conditions, laid).
  DERIVED. THE GIVEN ROWS OF THIS SEAT. 6 by the template 'for every input the law returns true; each argument reads behind the call as it read before'; 0 by the template 'total and deterministic' (their statements: YtobimpgapfecoaaTotals.lean).
  GIVEN WITH THE SEED: the statements are not yours to turn. If you find one false, say at which input.
  Laid BY PROGRAM, IN A SANDBOX (cutbox-rows.mjs): the forced cells as the released guide's own fill.sh prints them over the translation 6841f868abcec213… (all of the seat's roots in one cut). By AI agents, Wed Nov 11 2026. No macro, syntax, notation, axiom, sorry.
-/
import Derived.Test.YtobimpgapfecoaaChecked
import GoSem.Claim
import GoSem.ClaimJoined
import GoSem.ClaimMapViews
import Derived.JoinedTies
import Derived.KernelRfl
namespace Go.Proofs.Ytobimpgapfecoaa
/- THE CELL 'sum', in the pinned program and in every row, IS THE sha256 OF THE DUMP (.gsa) THAT YtobimpgapfecoaaProg.lean LOADS. Nothing in Lean hashes anything: it is a label: what it is worth is what the hold of that sum in a sandbox is worth. -/
noncomputable def Try.pinned : Pinned := { name := "ytobimpgapfecoaa", sum := "6841f868abcec213e509d3aaa5725fcd11f194700ebb18f2054fdbf36979b389", checked := Try.checked }
namespace Rows
def none {H : Type} : Left H := { results := [], args := [] }

/-- 'laws.FnAnyOrder': WHATEVER THE INPUT: true; the input reads as it did. -/
def fnAnyOrderSpec : ChangeSpec := { name := "fnAnyOrder", fn := fun _ => fun
  | [d] => { results := [.lit (.bool true)], args := [d] }
  | _ => none }
def fnAnyOrderRow : OpenClaim := { program := "ytobimpgapfecoaa", sum := "6841f868abcec213e509d3aaa5725fcd11f194700ebb18f2054fdbf36979b389", func := "loop.example/g00477/laws.FnAnyOrder", spec := "fnAnyOrder", plainKeys := false, apart := false }
def FnAnyOrderSaid : Prop := fnAnyOrderRow.holds Try.pinned (OpenSpec.ofChange fnAnyOrderSpec)

/-- ITS FALSE NEIGHBOUR: 'it returns false'. Refute it at one input. -/
def fnAnyOrderWrong : ChangeSpec := { name := "fnAnyOrder", fn := fun _ => fun
  | [d] => { results := [.lit (.bool false)], args := [d] }
  | _ => none }
def FnAnyOrderWrongFalsely : Prop := fnAnyOrderRow.holds Try.pinned (OpenSpec.ofChange fnAnyOrderWrong)

/-- 'laws.FnCounted': WHATEVER THE INPUT: true; the input reads as it did. -/
def fnCountedSpec : ChangeSpec := { name := "fnCounted", fn := fun _ => fun
  | [d] => { results := [.lit (.bool true)], args := [d] }
  | _ => none }
def fnCountedRow : OpenClaim := { program := "ytobimpgapfecoaa", sum := "6841f868abcec213e509d3aaa5725fcd11f194700ebb18f2054fdbf36979b389", func := "loop.example/g00477/laws.FnCounted", spec := "fnCounted", plainKeys := false, apart := false }
def FnCountedSaid : Prop := fnCountedRow.holds Try.pinned (OpenSpec.ofChange fnCountedSpec)

/-- ITS FALSE NEIGHBOUR: 'it returns false'. Refute it at one input. -/
def fnCountedWrong : ChangeSpec := { name := "fnCounted", fn := fun _ => fun
  | [d] => { results := [.lit (.bool false)], args := [d] }
  | _ => none }
def FnCountedWrongFalsely : Prop := fnCountedRow.holds Try.pinned (OpenSpec.ofChange fnCountedWrong)

/-- 'laws.FnPromise': WHATEVER THE INPUT: true; the input reads as it did. -/
def fnPromiseSpec : ChangeSpec := { name := "fnPromise", fn := fun _ => fun
  | [d] => { results := [.lit (.bool true)], args := [d] }
  | _ => none }
def fnPromiseRow : OpenClaim := { program := "ytobimpgapfecoaa", sum := "6841f868abcec213e509d3aaa5725fcd11f194700ebb18f2054fdbf36979b389", func := "loop.example/g00477/laws.FnPromise", spec := "fnPromise", plainKeys := false, apart := false }
def FnPromiseSaid : Prop := fnPromiseRow.holds Try.pinned (OpenSpec.ofChange fnPromiseSpec)

/-- ITS FALSE NEIGHBOUR: 'it returns false'. Refute it at one input. -/
def fnPromiseWrong : ChangeSpec := { name := "fnPromise", fn := fun _ => fun
  | [d] => { results := [.lit (.bool false)], args := [d] }
  | _ => none }
def FnPromiseWrongFalsely : Prop := fnPromiseRow.holds Try.pinned (OpenSpec.ofChange fnPromiseWrong)

/-- 'laws.FnOneBranch': WHATEVER THE INPUT: true; the input reads as it did. -/
def fnOneBranchSpec : ChangeSpec := { name := "fnOneBranch", fn := fun _ => fun
  | [d] => { results := [.lit (.bool true)], args := [d] }
  | _ => none }
def fnOneBranchRow : OpenClaim := { program := "ytobimpgapfecoaa", sum := "6841f868abcec213e509d3aaa5725fcd11f194700ebb18f2054fdbf36979b389", func := "loop.example/g00477/laws.FnOneBranch", spec := "fnOneBranch", unfollowed := true, recurses := true, plainKeys := false, apart := false }
def FnOneBranchSaid : Prop := fnOneBranchRow.holds Try.pinned (OpenSpec.ofChange fnOneBranchSpec)

/-- ITS FALSE NEIGHBOUR: 'it returns false'. Refute it at one input. -/
def fnOneBranchWrong : ChangeSpec := { name := "fnOneBranch", fn := fun _ => fun
  | [d] => { results := [.lit (.bool false)], args := [d] }
  | _ => none }
def FnOneBranchWrongFalsely : Prop := fnOneBranchRow.holds Try.pinned (OpenSpec.ofChange fnOneBranchWrong)

/-- 'laws.FnExactStatsNew': WHATEVER THE INPUT: true; the input reads as it did. -/
def fnExactStatsNewSpec : ChangeSpec := { name := "fnExactStatsNew", fn := fun _ => fun
  | [d] => { results := [.lit (.bool true)], args := [d] }
  | _ => none }
def fnExactStatsNewRow : OpenClaim := { program := "ytobimpgapfecoaa", sum := "6841f868abcec213e509d3aaa5725fcd11f194700ebb18f2054fdbf36979b389", func := "loop.example/g00477/laws.FnExactStatsNew", spec := "fnExactStatsNew", plainKeys := false, apart := false }
def FnExactStatsNewSaid : Prop := fnExactStatsNewRow.holds Try.pinned (OpenSpec.ofChange fnExactStatsNewSpec)

/-- ITS FALSE NEIGHBOUR: 'it returns false'. Refute it at one input. -/
def fnExactStatsNewWrong : ChangeSpec := { name := "fnExactStatsNew", fn := fun _ => fun
  | [d] => { results := [.lit (.bool false)], args := [d] }
  | _ => none }
def FnExactStatsNewWrongFalsely : Prop := fnExactStatsNewRow.holds Try.pinned (OpenSpec.ofChange fnExactStatsNewWrong)

/-- 'laws.FnExactStatsOk': WHATEVER THE INPUT: true; the input reads as it did. -/
def fnExactStatsOkSpec : ChangeSpec := { name := "fnExactStatsOk", fn := fun _ => fun
  | [d1, d2] => { results := [.lit (.bool true)], args := [d1, d2] }
  | _ => none }
def fnExactStatsOkRow : OpenClaim := { program := "ytobimpgapfecoaa", sum := "6841f868abcec213e509d3aaa5725fcd11f194700ebb18f2054fdbf36979b389", func := "loop.example/g00477/laws.FnExactStatsOk", spec := "fnExactStatsOk", plainKeys := false, apart := false }
def FnExactStatsOkSaid : Prop := fnExactStatsOkRow.holds Try.pinned (OpenSpec.ofChange fnExactStatsOkSpec)

/-- ITS FALSE NEIGHBOUR: 'it returns false'. Refute it at one input. -/
def fnExactStatsOkWrong : ChangeSpec := { name := "fnExactStatsOk", fn := fun _ => fun
  | [d1, d2] => { results := [.lit (.bool false)], args := [d1, d2] }
  | _ => none }
def FnExactStatsOkWrongFalsely : Prop := fnExactStatsOkRow.holds Try.pinned (OpenSpec.ofChange fnExactStatsOkWrong)

/- THE SECOND FORM. 'bulk': how many values and letters a reading holds, each counted each time it is reached (what is shared counts as often as it is met; a slice's spare places count too). A statement '..UptoSaid' is the law's where the arguments, and the package variables that the reading takes, are together of bulk at most 1048576: NARROWER than '..Said'. Prove '..Said' where nothing that the law and all that it calls make is longer than what came in: it says more and counts as full. Else prove '..UptoSaid'. A law counts once. -/
mutual
def uptoBulk {H : Type} : DataW H → Nat
  | .lit (.string bytes) => bytes.length + 1
  | .lit _ => 1
  | .nil => 1
  | .ptr d => uptoBulk d + 1
  | .slice elems spare => uptoBulkAll elems + uptoBulkAll spare + 1
  | .agg parts => uptoBulkAll parts + 1
  | .iface _ d => uptoBulk d + 1
  | .map entries => uptoBulkEntries entries + 1
  | .held _ => 1
def uptoBulkAll {H : Type} : List (DataW H) → Nat
  | [] => 0
  | d :: r => uptoBulk d + uptoBulkAll r
def uptoBulkEntries {H : Type} : List (Lit × DataW H) → Nat
  | [] => 0
  | x :: r => uptoBulkEntry x + uptoBulkEntries r
def uptoBulkEntry {H : Type} : Lit × DataW H → Nat
  | (.string bytes, d) => bytes.length + uptoBulk d + 1
  | (_, d) => uptoBulk d + 1
 end
def uptoSmall : (H : Type) → List (DataW H) → Bool := fun _ ds => decide (uptoBulkAll ds ≤ 1048576)
def OpenSpec.upto (s : _root_.Go.ChangeSpec) : _root_.Go.OpenSpec := { _root_.Go.OpenSpec.ofChange s with cond := some uptoSmall }

/-- 'laws.FnAnyOrder', WHERE WHAT IT READS IS OF BULK AT MOST 1048576: true; the input reads as it did. -/
def fnAnyOrderUptoRow : OpenClaim := { program := "ytobimpgapfecoaa", sum := "6841f868abcec213e509d3aaa5725fcd11f194700ebb18f2054fdbf36979b389", func := "loop.example/g00477/laws.FnAnyOrder", spec := "fnAnyOrder", plainKeys := false, apart := false, narrowed := true }
def FnAnyOrderUptoSaid : Prop := fnAnyOrderUptoRow.holds Try.pinned (OpenSpec.upto fnAnyOrderSpec)

/-- 'laws.FnCounted', WHERE WHAT IT READS IS OF BULK AT MOST 1048576: true; the input reads as it did. -/
def fnCountedUptoRow : OpenClaim := { program := "ytobimpgapfecoaa", sum := "6841f868abcec213e509d3aaa5725fcd11f194700ebb18f2054fdbf36979b389", func := "loop.example/g00477/laws.FnCounted", spec := "fnCounted", plainKeys := false, apart := false, narrowed := true }
def FnCountedUptoSaid : Prop := fnCountedUptoRow.holds Try.pinned (OpenSpec.upto fnCountedSpec)

/-- 'laws.FnPromise', WHERE WHAT IT READS IS OF BULK AT MOST 1048576: true; the input reads as it did. -/
def fnPromiseUptoRow : OpenClaim := { program := "ytobimpgapfecoaa", sum := "6841f868abcec213e509d3aaa5725fcd11f194700ebb18f2054fdbf36979b389", func := "loop.example/g00477/laws.FnPromise", spec := "fnPromise", plainKeys := false, apart := false, narrowed := true }
def FnPromiseUptoSaid : Prop := fnPromiseUptoRow.holds Try.pinned (OpenSpec.upto fnPromiseSpec)

/-- 'laws.FnOneBranch', WHERE WHAT IT READS IS OF BULK AT MOST 1048576: true; the input reads as it did. -/
def fnOneBranchUptoRow : OpenClaim := { program := "ytobimpgapfecoaa", sum := "6841f868abcec213e509d3aaa5725fcd11f194700ebb18f2054fdbf36979b389", func := "loop.example/g00477/laws.FnOneBranch", spec := "fnOneBranch", unfollowed := true, recurses := true, plainKeys := false, apart := false, narrowed := true }
def FnOneBranchUptoSaid : Prop := fnOneBranchUptoRow.holds Try.pinned (OpenSpec.upto fnOneBranchSpec)

/-- 'laws.FnExactStatsNew', WHERE WHAT IT READS IS OF BULK AT MOST 1048576: true; the input reads as it did. -/
def fnExactStatsNewUptoRow : OpenClaim := { program := "ytobimpgapfecoaa", sum := "6841f868abcec213e509d3aaa5725fcd11f194700ebb18f2054fdbf36979b389", func := "loop.example/g00477/laws.FnExactStatsNew", spec := "fnExactStatsNew", plainKeys := false, apart := false, narrowed := true }
def FnExactStatsNewUptoSaid : Prop := fnExactStatsNewUptoRow.holds Try.pinned (OpenSpec.upto fnExactStatsNewSpec)

/-- 'laws.FnExactStatsOk', WHERE WHAT IT READS IS OF BULK AT MOST 1048576: true; the input reads as it did. -/
def fnExactStatsOkUptoRow : OpenClaim := { program := "ytobimpgapfecoaa", sum := "6841f868abcec213e509d3aaa5725fcd11f194700ebb18f2054fdbf36979b389", func := "loop.example/g00477/laws.FnExactStatsOk", spec := "fnExactStatsOk", plainKeys := false, apart := false, narrowed := true }
def FnExactStatsOkUptoSaid : Prop := fnExactStatsOkUptoRow.holds Try.pinned (OpenSpec.upto fnExactStatsOkSpec)

end Rows
end Go.Proofs.Ytobimpgapfecoaa
