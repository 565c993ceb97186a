/-
  No cell of these rows narrows 'for every input' (looked for: loops, veiled, ifaces, maps, wideKeys, modest, calm, conditions, laid).
  DERIVED. THE GIVEN ROWS OF THIS SEAT. 6 by the template 'for every input the law returns true; each argument reads behind the call as it read before'; 0 by the template 'total and deterministic' (their statements: YteadkdllmeeocaaTotals.lean).
  GIVEN WITH THE SEED: the statements are not yours to turn. If you find one false, say at which input.
  Laid BY PROGRAM, IN A SANDBOX (cutbox-rows.mjs): the forced cells as the released guide's own fill.sh prints them over the translation b0f1523350b59c66… (all of the seat's roots in one cut). By AI agents, Wed Nov 11 2026. No macro, syntax, notation, axiom, sorry.
-/
import Derived.Test.YteadkdllmeeocaaChecked
import GoSem.Claim
import GoSem.ClaimJoined
import GoSem.ClaimMapViews
import Derived.JoinedTies
import Derived.KernelRfl
namespace Go.Proofs.Yteadkdllmeeocaa
/- THE CELL 'sum', in the pinned program and in every row, IS THE sha256 OF THE DUMP (.gsa) THAT YteadkdllmeeocaaProg.lean LOADS. Nothing in Lean hashes anything: it is a label: what it is worth is what the hold of that sum in a sandbox is worth. -/
noncomputable def Try.pinned : Pinned := { name := "yteadkdllmeeocaa", sum := "b0f1523350b59c66386a94dbfa85163d4dd7a88a8369a998deb1d29d671c57b1", checked := Try.checked }
namespace Rows
def none {H : Type} : Left H := { results := [], args := [] }

/-- 'laws.FnGini': WHATEVER THE INPUT: true; the input reads as it did. -/
def fnGiniSpec : ChangeSpec := { name := "fnGini", fn := fun _ => fun
  | [d] => { results := [.lit (.bool true)], args := [d] }
  | _ => none }
def fnGiniRow : OpenClaim := { program := "yteadkdllmeeocaa", sum := "b0f1523350b59c66386a94dbfa85163d4dd7a88a8369a998deb1d29d671c57b1", func := "loop.example/g00477/laws.FnGini", spec := "fnGini", apart := false }
def FnGiniSaid : Prop := fnGiniRow.holds Try.pinned (OpenSpec.ofChange fnGiniSpec)

/-- ITS FALSE NEIGHBOUR: 'it returns false'. Refute it at one input. -/
def fnGiniWrong : ChangeSpec := { name := "fnGini", fn := fun _ => fun
  | [d] => { results := [.lit (.bool false)], args := [d] }
  | _ => none }
def FnGiniWrongFalsely : Prop := fnGiniRow.holds Try.pinned (OpenSpec.ofChange fnGiniWrong)

/-- 'laws.FnMerit': WHATEVER THE INPUT: true; the input reads as it did. -/
def fnMeritSpec : ChangeSpec := { name := "fnMerit", fn := fun _ => fun
  | [d] => { results := [.lit (.bool true)], args := [d] }
  | _ => none }
def fnMeritRow : OpenClaim := { program := "yteadkdllmeeocaa", sum := "b0f1523350b59c66386a94dbfa85163d4dd7a88a8369a998deb1d29d671c57b1", func := "loop.example/g00477/laws.FnMerit", spec := "fnMerit", unfollowed := true, recurses := true, apart := false }
def FnMeritSaid : Prop := fnMeritRow.holds Try.pinned (OpenSpec.ofChange fnMeritSpec)

/-- ITS FALSE NEIGHBOUR: 'it returns false'. Refute it at one input. -/
def fnMeritWrong : ChangeSpec := { name := "fnMerit", fn := fun _ => fun
  | [d] => { results := [.lit (.bool false)], args := [d] }
  | _ => none }
def FnMeritWrongFalsely : Prop := fnMeritRow.holds Try.pinned (OpenSpec.ofChange fnMeritWrong)

/-- 'laws.FnFiner': WHATEVER THE INPUT: true; the input reads as it did. -/
def fnFinerSpec : ChangeSpec := { name := "fnFiner", fn := fun _ => fun
  | [d] => { results := [.lit (.bool true)], args := [d] }
  | _ => none }
def fnFinerRow : OpenClaim := { program := "yteadkdllmeeocaa", sum := "b0f1523350b59c66386a94dbfa85163d4dd7a88a8369a998deb1d29d671c57b1", func := "loop.example/g00477/laws.FnFiner", spec := "fnFiner", unfollowed := true, recurses := true, apart := false }
def FnFinerSaid : Prop := fnFinerRow.holds Try.pinned (OpenSpec.ofChange fnFinerSpec)

/-- ITS FALSE NEIGHBOUR: 'it returns false'. Refute it at one input. -/
def fnFinerWrong : ChangeSpec := { name := "fnFiner", fn := fun _ => fun
  | [d] => { results := [.lit (.bool false)], args := [d] }
  | _ => none }
def FnFinerWrongFalsely : Prop := fnFinerRow.holds Try.pinned (OpenSpec.ofChange fnFinerWrong)

/-- 'laws.FnRelabel': WHATEVER THE INPUT: true; the input reads as it did. -/
def fnRelabelSpec : ChangeSpec := { name := "fnRelabel", fn := fun _ => fun
  | [d] => { results := [.lit (.bool true)], args := [d] }
  | _ => none }
def fnRelabelRow : OpenClaim := { program := "yteadkdllmeeocaa", sum := "b0f1523350b59c66386a94dbfa85163d4dd7a88a8369a998deb1d29d671c57b1", func := "loop.example/g00477/laws.FnRelabel", spec := "fnRelabel", unfollowed := true, recurses := true, apart := false }
def FnRelabelSaid : Prop := fnRelabelRow.holds Try.pinned (OpenSpec.ofChange fnRelabelSpec)

/-- ITS FALSE NEIGHBOUR: 'it returns false'. Refute it at one input. -/
def fnRelabelWrong : ChangeSpec := { name := "fnRelabel", fn := fun _ => fun
  | [d] => { results := [.lit (.bool false)], args := [d] }
  | _ => none }
def FnRelabelWrongFalsely : Prop := fnRelabelRow.holds Try.pinned (OpenSpec.ofChange fnRelabelWrong)

/-- 'laws.FnScaled': WHATEVER THE INPUT: true; the input reads as it did. -/
def fnScaledSpec : ChangeSpec := { name := "fnScaled", fn := fun _ => fun
  | [d] => { results := [.lit (.bool true)], args := [d] }
  | _ => none }
def fnScaledRow : OpenClaim := { program := "yteadkdllmeeocaa", sum := "b0f1523350b59c66386a94dbfa85163d4dd7a88a8369a998deb1d29d671c57b1", func := "loop.example/g00477/laws.FnScaled", spec := "fnScaled", unfollowed := true, recurses := true, apart := false }
def FnScaledSaid : Prop := fnScaledRow.holds Try.pinned (OpenSpec.ofChange fnScaledSpec)

/-- ITS FALSE NEIGHBOUR: 'it returns false'. Refute it at one input. -/
def fnScaledWrong : ChangeSpec := { name := "fnScaled", fn := fun _ => fun
  | [d] => { results := [.lit (.bool false)], args := [d] }
  | _ => none }
def FnScaledWrongFalsely : Prop := fnScaledRow.holds Try.pinned (OpenSpec.ofChange fnScaledWrong)

/-- 'laws.FnBest': WHATEVER THE INPUT: true; the input reads as it did. -/
def fnBestSpec : ChangeSpec := { name := "fnBest", fn := fun _ => fun
  | [d] => { results := [.lit (.bool true)], args := [d] }
  | _ => none }
def fnBestRow : OpenClaim := { program := "yteadkdllmeeocaa", sum := "b0f1523350b59c66386a94dbfa85163d4dd7a88a8369a998deb1d29d671c57b1", func := "loop.example/g00477/laws.FnBest", spec := "fnBest", unfollowed := true, recurses := true, apart := false }
def FnBestSaid : Prop := fnBestRow.holds Try.pinned (OpenSpec.ofChange fnBestSpec)

/-- ITS FALSE NEIGHBOUR: 'it returns false'. Refute it at one input. -/
def fnBestWrong : ChangeSpec := { name := "fnBest", fn := fun _ => fun
  | [d] => { results := [.lit (.bool false)], args := [d] }
  | _ => none }
def FnBestWrongFalsely : Prop := fnBestRow.holds Try.pinned (OpenSpec.ofChange fnBestWrong)

/- THE SECOND FORM. 'bulk': how many values and letters a reading holds, each counted each time it is reached (what is shared counts as often as it is met; a slice's spare places count too). A statement '..UptoSaid' is the law's where the arguments, and the package variables that the reading takes, are together of bulk at most 1048576: NARROWER than '..Said'. Prove '..Said' where nothing that the law and all that it calls make is longer than what came in: it says more and counts as full. Else prove '..UptoSaid'. A law counts once. -/
mutual
def uptoBulk {H : Type} : DataW H → Nat
  | .lit (.string bytes) => bytes.length + 1
  | .lit _ => 1
  | .nil => 1
  | .ptr d => uptoBulk d + 1
  | .slice elems spare => uptoBulkAll elems + uptoBulkAll spare + 1
  | .agg parts => uptoBulkAll parts + 1
  | .iface _ d => uptoBulk d + 1
  | .map entries => uptoBulkEntries entries + 1
  | .held _ => 1
def uptoBulkAll {H : Type} : List (DataW H) → Nat
  | [] => 0
  | d :: r => uptoBulk d + uptoBulkAll r
def uptoBulkEntries {H : Type} : List (Lit × DataW H) → Nat
  | [] => 0
  | x :: r => uptoBulkEntry x + uptoBulkEntries r
def uptoBulkEntry {H : Type} : Lit × DataW H → Nat
  | (.string bytes, d) => bytes.length + uptoBulk d + 1
  | (_, d) => uptoBulk d + 1
 end
def uptoSmall : (H : Type) → List (DataW H) → Bool := fun _ ds => decide (uptoBulkAll ds ≤ 1048576)
def OpenSpec.upto (s : _root_.Go.ChangeSpec) : _root_.Go.OpenSpec := { _root_.Go.OpenSpec.ofChange s with cond := some uptoSmall }

/-- 'laws.FnGini', WHERE WHAT IT READS IS OF BULK AT MOST 1048576: true; the input reads as it did. -/
def fnGiniUptoRow : OpenClaim := { program := "yteadkdllmeeocaa", sum := "b0f1523350b59c66386a94dbfa85163d4dd7a88a8369a998deb1d29d671c57b1", func := "loop.example/g00477/laws.FnGini", spec := "fnGini", apart := false, narrowed := true }
def FnGiniUptoSaid : Prop := fnGiniUptoRow.holds Try.pinned (OpenSpec.upto fnGiniSpec)

/-- 'laws.FnMerit', WHERE WHAT IT READS IS OF BULK AT MOST 1048576: true; the input reads as it did. -/
def fnMeritUptoRow : OpenClaim := { program := "yteadkdllmeeocaa", sum := "b0f1523350b59c66386a94dbfa85163d4dd7a88a8369a998deb1d29d671c57b1", func := "loop.example/g00477/laws.FnMerit", spec := "fnMerit", unfollowed := true, recurses := true, apart := false, narrowed := true }
def FnMeritUptoSaid : Prop := fnMeritUptoRow.holds Try.pinned (OpenSpec.upto fnMeritSpec)

/-- 'laws.FnFiner', WHERE WHAT IT READS IS OF BULK AT MOST 1048576: true; the input reads as it did. -/
def fnFinerUptoRow : OpenClaim := { program := "yteadkdllmeeocaa", sum := "b0f1523350b59c66386a94dbfa85163d4dd7a88a8369a998deb1d29d671c57b1", func := "loop.example/g00477/laws.FnFiner", spec := "fnFiner", unfollowed := true, recurses := true, apart := false, narrowed := true }
def FnFinerUptoSaid : Prop := fnFinerUptoRow.holds Try.pinned (OpenSpec.upto fnFinerSpec)

/-- 'laws.FnRelabel', WHERE WHAT IT READS IS OF BULK AT MOST 1048576: true; the input reads as it did. -/
def fnRelabelUptoRow : OpenClaim := { program := "yteadkdllmeeocaa", sum := "b0f1523350b59c66386a94dbfa85163d4dd7a88a8369a998deb1d29d671c57b1", func := "loop.example/g00477/laws.FnRelabel", spec := "fnRelabel", unfollowed := true, recurses := true, apart := false, narrowed := true }
def FnRelabelUptoSaid : Prop := fnRelabelUptoRow.holds Try.pinned (OpenSpec.upto fnRelabelSpec)

/-- 'laws.FnScaled', WHERE WHAT IT READS IS OF BULK AT MOST 1048576: true; the input reads as it did. -/
def fnScaledUptoRow : OpenClaim := { program := "yteadkdllmeeocaa", sum := "b0f1523350b59c66386a94dbfa85163d4dd7a88a8369a998deb1d29d671c57b1", func := "loop.example/g00477/laws.FnScaled", spec := "fnScaled", unfollowed := true, recurses := true, apart := false, narrowed := true }
def FnScaledUptoSaid : Prop := fnScaledUptoRow.holds Try.pinned (OpenSpec.upto fnScaledSpec)

/-- 'laws.FnBest', WHERE WHAT IT READS IS OF BULK AT MOST 1048576: true; the input reads as it did. -/
def fnBestUptoRow : OpenClaim := { program := "yteadkdllmeeocaa", sum := "b0f1523350b59c66386a94dbfa85163d4dd7a88a8369a998deb1d29d671c57b1", func := "loop.example/g00477/laws.FnBest", spec := "fnBest", unfollowed := true, recurses := true, apart := false, narrowed := true }
def FnBestUptoSaid : Prop := fnBestUptoRow.holds Try.pinned (OpenSpec.upto fnBestSpec)

end Rows
end Go.Proofs.Yteadkdllmeeocaa
