/-
  No cell of these rows narrows 'for every input' (looked for: loops, veiled, ifaces, maps, wideKeys, modest, calm, conditions, laid).
  DERIVED. THE GIVEN ROWS OF THIS SEAT. 3 by the template 'for every input the law returns true; each argument reads behind the call as it read before'; 0 by the template 'total and deterministic' (their statements: YteadkdllmeeocabTotals.lean).
  GIVEN WITH THE SEED: the statements are not yours to turn. If you find one false, say at which input.
  Laid BY PROGRAM, IN A SANDBOX (cutbox-rows.mjs): the forced cells as the released guide's own fill.sh prints them over the translation 1b924702cfeac8e2… (all of the seat's roots in one cut). By AI agents, Wed Nov 11 2026. No macro, syntax, notation, axiom, sorry.
-/
import Derived.Test.YteadkdllmeeocabChecked
import GoSem.Claim
import GoSem.ClaimJoined
import GoSem.ClaimMapViews
import Derived.JoinedTies
import Derived.KernelRfl
namespace Go.Proofs.Yteadkdllmeeocab
/- THE CELL 'sum', in the pinned program and in every row, IS THE sha256 OF THE DUMP (.gsa) THAT YteadkdllmeeocabProg.lean LOADS. Nothing in Lean hashes anything: it is a label: what it is worth is what the hold of that sum in a sandbox is worth. -/
noncomputable def Try.pinned : Pinned := { name := "yteadkdllmeeocab", sum := "1b924702cfeac8e2e2bc74a316ace4e9ea6d8fe450f11237370f4ebe7e2b2157", checked := Try.checked }
namespace Rows
def none {H : Type} : Left H := { results := [], args := [] }

/-- 'laws.FnExactSquares': WHATEVER THE INPUT: true; the input reads as it did. -/
def fnExactSquaresSpec : ChangeSpec := { name := "fnExactSquares", fn := fun _ => fun
  | [d] => { results := [.lit (.bool true)], args := [d] }
  | _ => none }
def fnExactSquaresRow : OpenClaim := { program := "yteadkdllmeeocab", sum := "1b924702cfeac8e2e2bc74a316ace4e9ea6d8fe450f11237370f4ebe7e2b2157", func := "loop.example/g00477/laws.FnExactSquares", spec := "fnExactSquares", apart := false }
def FnExactSquaresSaid : Prop := fnExactSquaresRow.holds Try.pinned (OpenSpec.ofChange fnExactSquaresSpec)

/-- ITS FALSE NEIGHBOUR: 'it returns false'. Refute it at one input. -/
def fnExactSquaresWrong : ChangeSpec := { name := "fnExactSquares", fn := fun _ => fun
  | [d] => { results := [.lit (.bool false)], args := [d] }
  | _ => none }
def FnExactSquaresWrongFalsely : Prop := fnExactSquaresRow.holds Try.pinned (OpenSpec.ofChange fnExactSquaresWrong)

/-- 'laws.FnExactGini': WHATEVER THE INPUT: true; the input reads as it did. -/
def fnExactGiniSpec : ChangeSpec := { name := "fnExactGini", fn := fun _ => fun
  | [d] => { results := [.lit (.bool true)], args := [d] }
  | _ => none }
def fnExactGiniRow : OpenClaim := { program := "yteadkdllmeeocab", sum := "1b924702cfeac8e2e2bc74a316ace4e9ea6d8fe450f11237370f4ebe7e2b2157", func := "loop.example/g00477/laws.FnExactGini", spec := "fnExactGini", apart := false }
def FnExactGiniSaid : Prop := fnExactGiniRow.holds Try.pinned (OpenSpec.ofChange fnExactGiniSpec)

/-- ITS FALSE NEIGHBOUR: 'it returns false'. Refute it at one input. -/
def fnExactGiniWrong : ChangeSpec := { name := "fnExactGini", fn := fun _ => fun
  | [d] => { results := [.lit (.bool false)], args := [d] }
  | _ => none }
def FnExactGiniWrongFalsely : Prop := fnExactGiniRow.holds Try.pinned (OpenSpec.ofChange fnExactGiniWrong)

/-- 'laws.FnExactMerit': WHATEVER THE INPUT: true; the input reads as it did. -/
def fnExactMeritSpec : ChangeSpec := { name := "fnExactMerit", fn := fun _ => fun
  | [d1, d2, d3] => { results := [.lit (.bool true)], args := [d1, d2, d3] }
  | _ => none }
def fnExactMeritRow : OpenClaim := { program := "yteadkdllmeeocab", sum := "1b924702cfeac8e2e2bc74a316ace4e9ea6d8fe450f11237370f4ebe7e2b2157", func := "loop.example/g00477/laws.FnExactMerit", spec := "fnExactMerit", unfollowed := true, recurses := true, apart := false }
def FnExactMeritSaid : Prop := fnExactMeritRow.holds Try.pinned (OpenSpec.ofChange fnExactMeritSpec)

/-- ITS FALSE NEIGHBOUR: 'it returns false'. Refute it at one input. -/
def fnExactMeritWrong : ChangeSpec := { name := "fnExactMerit", fn := fun _ => fun
  | [d1, d2, d3] => { results := [.lit (.bool false)], args := [d1, d2, d3] }
  | _ => none }
def FnExactMeritWrongFalsely : Prop := fnExactMeritRow.holds Try.pinned (OpenSpec.ofChange fnExactMeritWrong)

/- THE SECOND FORM. 'bulk': how many values and letters a reading holds, each counted each time it is reached (what is shared counts as often as it is met; a slice's spare places count too). A statement '..UptoSaid' is the law's where the arguments, and the package variables that the reading takes, are together of bulk at most 1048576: NARROWER than '..Said'. Prove '..Said' where nothing that the law and all that it calls make is longer than what came in: it says more and counts as full. Else prove '..UptoSaid'. A law counts once. -/
mutual
def uptoBulk {H : Type} : DataW H → Nat
  | .lit (.string bytes) => bytes.length + 1
  | .lit _ => 1
  | .nil => 1
  | .ptr d => uptoBulk d + 1
  | .slice elems spare => uptoBulkAll elems + uptoBulkAll spare + 1
  | .agg parts => uptoBulkAll parts + 1
  | .iface _ d => uptoBulk d + 1
  | .map entries => uptoBulkEntries entries + 1
  | .held _ => 1
def uptoBulkAll {H : Type} : List (DataW H) → Nat
  | [] => 0
  | d :: r => uptoBulk d + uptoBulkAll r
def uptoBulkEntries {H : Type} : List (Lit × DataW H) → Nat
  | [] => 0
  | x :: r => uptoBulkEntry x + uptoBulkEntries r
def uptoBulkEntry {H : Type} : Lit × DataW H → Nat
  | (.string bytes, d) => bytes.length + uptoBulk d + 1
  | (_, d) => uptoBulk d + 1
 end
def uptoSmall : (H : Type) → List (DataW H) → Bool := fun _ ds => decide (uptoBulkAll ds ≤ 1048576)
def OpenSpec.upto (s : _root_.Go.ChangeSpec) : _root_.Go.OpenSpec := { _root_.Go.OpenSpec.ofChange s with cond := some uptoSmall }

/-- 'laws.FnExactSquares', WHERE WHAT IT READS IS OF BULK AT MOST 1048576: true; the input reads as it did. -/
def fnExactSquaresUptoRow : OpenClaim := { program := "yteadkdllmeeocab", sum := "1b924702cfeac8e2e2bc74a316ace4e9ea6d8fe450f11237370f4ebe7e2b2157", func := "loop.example/g00477/laws.FnExactSquares", spec := "fnExactSquares", apart := false, narrowed := true }
def FnExactSquaresUptoSaid : Prop := fnExactSquaresUptoRow.holds Try.pinned (OpenSpec.upto fnExactSquaresSpec)

/-- 'laws.FnExactGini', WHERE WHAT IT READS IS OF BULK AT MOST 1048576: true; the input reads as it did. -/
def fnExactGiniUptoRow : OpenClaim := { program := "yteadkdllmeeocab", sum := "1b924702cfeac8e2e2bc74a316ace4e9ea6d8fe450f11237370f4ebe7e2b2157", func := "loop.example/g00477/laws.FnExactGini", spec := "fnExactGini", apart := false, narrowed := true }
def FnExactGiniUptoSaid : Prop := fnExactGiniUptoRow.holds Try.pinned (OpenSpec.upto fnExactGiniSpec)

/-- 'laws.FnExactMerit', WHERE WHAT IT READS IS OF BULK AT MOST 1048576: true; the input reads as it did. -/
def fnExactMeritUptoRow : OpenClaim := { program := "yteadkdllmeeocab", sum := "1b924702cfeac8e2e2bc74a316ace4e9ea6d8fe450f11237370f4ebe7e2b2157", func := "loop.example/g00477/laws.FnExactMerit", spec := "fnExactMerit", unfollowed := true, recurses := true, apart := false, narrowed := true }
def FnExactMeritUptoSaid : Prop := fnExactMeritUptoRow.holds Try.pinned (OpenSpec.upto fnExactMeritSpec)

end Rows
end Go.Proofs.Yteadkdllmeeocab
