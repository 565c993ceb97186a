/-
  No cell of these rows narrows 'for every input' (looked for: loops, veiled, ifaces, maps, wideKeys, modest, calm, conditions, laid).
  DERIVED. THE GIVEN ROWS OF THIS SEAT. 2 by the template 'for every input the law returns true; each argument reads behind the call as it read before'; 0 by the template 'total and deterministic' (their statements: YtobnghmadoejjaaTotals.lean).
  GIVEN WITH THE SEED: the statements are not yours to turn. If you find one false, say at which input.
  Laid BY PROGRAM, IN A SANDBOX (cutbox-rows.mjs): the forced cells as the released guide's own fill.sh prints them over the translation baa66c282f046747… (all of the seat's roots in one cut). By AI agents, Wed Nov 11 2026. No macro, syntax, notation, axiom, sorry.
-/
import Derived.Test.YtobnghmadoejjaaChecked
import GoSem.Claim
import GoSem.ClaimJoined
import GoSem.ClaimMapViews
import Derived.JoinedTies
import Derived.KernelRfl
namespace Go.Proofs.Ytobnghmadoejjaa
/- THE CELL 'sum', in the pinned program and in every row, IS THE sha256 OF THE DUMP (.gsa) THAT YtobnghmadoejjaaProg.lean LOADS. Nothing in Lean hashes anything: it is a label: what it is worth is what the hold of that sum in a sandbox is worth. -/
noncomputable def Try.pinned : Pinned := { name := "ytobnghmadoejjaa", sum := "baa66c282f046747a7b8581dc8bb337386880316d1aacc1773a6a655506cef40", checked := Try.checked }
namespace Rows
def none {H : Type} : Left H := { results := [], args := [] }

/-- 'laws.FnNatSums': WHATEVER THE INPUT: true; the input reads as it did. -/
def fnNatSumsSpec : ChangeSpec := { name := "fnNatSums", fn := fun _ => fun
  | [d] => { results := [.lit (.bool true)], args := [d] }
  | _ => none }
def fnNatSumsRow : OpenClaim := { program := "ytobnghmadoejjaa", sum := "baa66c282f046747a7b8581dc8bb337386880316d1aacc1773a6a655506cef40", func := "loop.example/g00477/laws.FnNatSums", spec := "fnNatSums", apart := false }
def FnNatSumsSaid : Prop := fnNatSumsRow.holds Try.pinned (OpenSpec.ofChange fnNatSumsSpec)

/-- ITS FALSE NEIGHBOUR: 'it returns false'. Refute it at one input. -/
def fnNatSumsWrong : ChangeSpec := { name := "fnNatSums", fn := fun _ => fun
  | [d] => { results := [.lit (.bool false)], args := [d] }
  | _ => none }
def FnNatSumsWrongFalsely : Prop := fnNatSumsRow.holds Try.pinned (OpenSpec.ofChange fnNatSumsWrong)

/-- 'laws.FnNatText': WHATEVER THE INPUT: true; the input reads as it did. -/
def fnNatTextSpec : ChangeSpec := { name := "fnNatText", fn := fun _ => fun
  | [d] => { results := [.lit (.bool true)], args := [d] }
  | _ => none }
def fnNatTextRow : OpenClaim := { program := "ytobnghmadoejjaa", sum := "baa66c282f046747a7b8581dc8bb337386880316d1aacc1773a6a655506cef40", func := "loop.example/g00477/laws.FnNatText", spec := "fnNatText", apart := false }
def FnNatTextSaid : Prop := fnNatTextRow.holds Try.pinned (OpenSpec.ofChange fnNatTextSpec)

/-- ITS FALSE NEIGHBOUR: 'it returns false'. Refute it at one input. -/
def fnNatTextWrong : ChangeSpec := { name := "fnNatText", fn := fun _ => fun
  | [d] => { results := [.lit (.bool false)], args := [d] }
  | _ => none }
def FnNatTextWrongFalsely : Prop := fnNatTextRow.holds Try.pinned (OpenSpec.ofChange fnNatTextWrong)

/- THE SECOND FORM. 'bulk': how many values and letters a reading holds, each counted each time it is reached (what is shared counts as often as it is met; a slice's spare places count too). A statement '..UptoSaid' is the law's where the arguments, and the package variables that the reading takes, are together of bulk at most 1048576: NARROWER than '..Said'. Prove '..Said' where nothing that the law and all that it calls make is longer than what came in: it says more and counts as full. Else prove '..UptoSaid'. A law counts once. -/
mutual
def uptoBulk {H : Type} : DataW H → Nat
  | .lit (.string bytes) => bytes.length + 1
  | .lit _ => 1
  | .nil => 1
  | .ptr d => uptoBulk d + 1
  | .slice elems spare => uptoBulkAll elems + uptoBulkAll spare + 1
  | .agg parts => uptoBulkAll parts + 1
  | .iface _ d => uptoBulk d + 1
  | .map entries => uptoBulkEntries entries + 1
  | .held _ => 1
def uptoBulkAll {H : Type} : List (DataW H) → Nat
  | [] => 0
  | d :: r => uptoBulk d + uptoBulkAll r
def uptoBulkEntries {H : Type} : List (Lit × DataW H) → Nat
  | [] => 0
  | x :: r => uptoBulkEntry x + uptoBulkEntries r
def uptoBulkEntry {H : Type} : Lit × DataW H → Nat
  | (.string bytes, d) => bytes.length + uptoBulk d + 1
  | (_, d) => uptoBulk d + 1
 end
def uptoSmall : (H : Type) → List (DataW H) → Bool := fun _ ds => decide (uptoBulkAll ds ≤ 1048576)
def OpenSpec.upto (s : _root_.Go.ChangeSpec) : _root_.Go.OpenSpec := { _root_.Go.OpenSpec.ofChange s with cond := some uptoSmall }

/-- 'laws.FnNatSums', WHERE WHAT IT READS IS OF BULK AT MOST 1048576: true; the input reads as it did. -/
def fnNatSumsUptoRow : OpenClaim := { program := "ytobnghmadoejjaa", sum := "baa66c282f046747a7b8581dc8bb337386880316d1aacc1773a6a655506cef40", func := "loop.example/g00477/laws.FnNatSums", spec := "fnNatSums", apart := false, narrowed := true }
def FnNatSumsUptoSaid : Prop := fnNatSumsUptoRow.holds Try.pinned (OpenSpec.upto fnNatSumsSpec)

/-- 'laws.FnNatText', WHERE WHAT IT READS IS OF BULK AT MOST 1048576: true; the input reads as it did. -/
def fnNatTextUptoRow : OpenClaim := { program := "ytobnghmadoejjaa", sum := "baa66c282f046747a7b8581dc8bb337386880316d1aacc1773a6a655506cef40", func := "loop.example/g00477/laws.FnNatText", spec := "fnNatText", apart := false, narrowed := true }
def FnNatTextUptoSaid : Prop := fnNatTextUptoRow.holds Try.pinned (OpenSpec.upto fnNatTextSpec)

end Rows
end Go.Proofs.Ytobnghmadoejjaa
