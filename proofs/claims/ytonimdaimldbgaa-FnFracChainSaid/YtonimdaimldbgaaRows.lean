/-
  No cell of these rows narrows 'for every input' (looked for: loops, veiled, ifaces, maps, wideKeys, modest, calm, conditions, laid).
  DERIVED. THE GIVEN ROWS OF THIS SEAT. 6 by the template 'for every input the law returns true; each argument reads behind the call as it read before'; 0 by the template 'total and deterministic' (their statements: YtonimdaimldbgaaTotals.lean).
  GIVEN WITH THE SEED: the statements are not yours to turn. If you find one false, say at which input.
  Laid BY PROGRAM, IN A SANDBOX (cutbox-rows.mjs): the forced cells as the released guide's own fill.sh prints them over the translation d1b0b54c182f4af6… (all of the seat's roots in one cut). By AI agents, Wed Nov 11 2026. No macro, syntax, notation, axiom, sorry.
-/
import Derived.Test.YtonimdaimldbgaaChecked
import GoSem.Claim
import GoSem.ClaimJoined
import GoSem.ClaimMapViews
import Derived.JoinedTies
import Derived.KernelRfl
namespace Go.Proofs.Ytonimdaimldbgaa
/- THE CELL 'sum', in the pinned program and in every row, IS THE sha256 OF THE DUMP (.gsa) THAT YtonimdaimldbgaaProg.lean LOADS. Nothing in Lean hashes anything: it is a label: what it is worth is what the hold of that sum in a sandbox is worth. -/
noncomputable def Try.pinned : Pinned := { name := "ytonimdaimldbgaa", sum := "d1b0b54c182f4af65552b658b1a9e79a490efae3fa953e5fee93f81120cbb395", checked := Try.checked }
namespace Rows
def none {H : Type} : Left H := { results := [], args := [] }

/-- 'laws.FnFracs': WHATEVER THE INPUT: true; the input reads as it did. -/
def fnFracsSpec : ChangeSpec := { name := "fnFracs", fn := fun _ => fun
  | [d] => { results := [.lit (.bool true)], args := [d] }
  | _ => none }
def fnFracsRow : OpenClaim := { program := "ytonimdaimldbgaa", sum := "d1b0b54c182f4af65552b658b1a9e79a490efae3fa953e5fee93f81120cbb395", func := "loop.example/g00477/laws.FnFracs", spec := "fnFracs", unfollowed := true, recurses := true, apart := false }
def FnFracsSaid : Prop := fnFracsRow.holds Try.pinned (OpenSpec.ofChange fnFracsSpec)

/-- ITS FALSE NEIGHBOUR: 'it returns false'. Refute it at one input. -/
def fnFracsWrong : ChangeSpec := { name := "fnFracs", fn := fun _ => fun
  | [d] => { results := [.lit (.bool false)], args := [d] }
  | _ => none }
def FnFracsWrongFalsely : Prop := fnFracsRow.holds Try.pinned (OpenSpec.ofChange fnFracsWrong)

/-- 'laws.FnFracChain': WHATEVER THE INPUT: true; the input reads as it did. -/
def fnFracChainSpec : ChangeSpec := { name := "fnFracChain", fn := fun _ => fun
  | [d] => { results := [.lit (.bool true)], args := [d] }
  | _ => none }
def fnFracChainRow : OpenClaim := { program := "ytonimdaimldbgaa", sum := "d1b0b54c182f4af65552b658b1a9e79a490efae3fa953e5fee93f81120cbb395", func := "loop.example/g00477/laws.FnFracChain", spec := "fnFracChain", unfollowed := true, recurses := true, apart := false }
def FnFracChainSaid : Prop := fnFracChainRow.holds Try.pinned (OpenSpec.ofChange fnFracChainSpec)

/-- ITS FALSE NEIGHBOUR: 'it returns false'. Refute it at one input. -/
def fnFracChainWrong : ChangeSpec := { name := "fnFracChain", fn := fun _ => fun
  | [d] => { results := [.lit (.bool false)], args := [d] }
  | _ => none }
def FnFracChainWrongFalsely : Prop := fnFracChainRow.holds Try.pinned (OpenSpec.ofChange fnFracChainWrong)

/-- 'laws.FnExactFracOk': WHATEVER THE INPUT: true; the input reads as it did. -/
def fnExactFracOkSpec : ChangeSpec := { name := "fnExactFracOk", fn := fun _ => fun
  | [d] => { results := [.lit (.bool true)], args := [d] }
  | _ => none }
def fnExactFracOkRow : OpenClaim := { program := "ytonimdaimldbgaa", sum := "d1b0b54c182f4af65552b658b1a9e79a490efae3fa953e5fee93f81120cbb395", func := "loop.example/g00477/laws.FnExactFracOk", spec := "fnExactFracOk", apart := false }
def FnExactFracOkSaid : Prop := fnExactFracOkRow.holds Try.pinned (OpenSpec.ofChange fnExactFracOkSpec)

/-- ITS FALSE NEIGHBOUR: 'it returns false'. Refute it at one input. -/
def fnExactFracOkWrong : ChangeSpec := { name := "fnExactFracOk", fn := fun _ => fun
  | [d] => { results := [.lit (.bool false)], args := [d] }
  | _ => none }
def FnExactFracOkWrongFalsely : Prop := fnExactFracOkRow.holds Try.pinned (OpenSpec.ofChange fnExactFracOkWrong)

/-- 'laws.FnExactFracCmp': WHATEVER THE INPUT: true; the input reads as it did. -/
def fnExactFracCmpSpec : ChangeSpec := { name := "fnExactFracCmp", fn := fun _ => fun
  | [d1, d2] => { results := [.lit (.bool true)], args := [d1, d2] }
  | _ => none }
def fnExactFracCmpRow : OpenClaim := { program := "ytonimdaimldbgaa", sum := "d1b0b54c182f4af65552b658b1a9e79a490efae3fa953e5fee93f81120cbb395", func := "loop.example/g00477/laws.FnExactFracCmp", spec := "fnExactFracCmp", unfollowed := true, recurses := true, apart := false }
def FnExactFracCmpSaid : Prop := fnExactFracCmpRow.holds Try.pinned (OpenSpec.ofChange fnExactFracCmpSpec)

/-- ITS FALSE NEIGHBOUR: 'it returns false'. Refute it at one input. -/
def fnExactFracCmpWrong : ChangeSpec := { name := "fnExactFracCmp", fn := fun _ => fun
  | [d1, d2] => { results := [.lit (.bool false)], args := [d1, d2] }
  | _ => none }
def FnExactFracCmpWrongFalsely : Prop := fnExactFracCmpRow.holds Try.pinned (OpenSpec.ofChange fnExactFracCmpWrong)

/-- 'laws.FnExactGcd': WHATEVER THE INPUT: true; the input reads as it did. -/
def fnExactGcdSpec : ChangeSpec := { name := "fnExactGcd", fn := fun _ => fun
  | [d1, d2] => { results := [.lit (.bool true)], args := [d1, d2] }
  | _ => none }
def fnExactGcdRow : OpenClaim := { program := "ytonimdaimldbgaa", sum := "d1b0b54c182f4af65552b658b1a9e79a490efae3fa953e5fee93f81120cbb395", func := "loop.example/g00477/laws.FnExactGcd", spec := "fnExactGcd", apart := false }
def FnExactGcdSaid : Prop := fnExactGcdRow.holds Try.pinned (OpenSpec.ofChange fnExactGcdSpec)

/-- ITS FALSE NEIGHBOUR: 'it returns false'. Refute it at one input. -/
def fnExactGcdWrong : ChangeSpec := { name := "fnExactGcd", fn := fun _ => fun
  | [d1, d2] => { results := [.lit (.bool false)], args := [d1, d2] }
  | _ => none }
def FnExactGcdWrongFalsely : Prop := fnExactGcdRow.holds Try.pinned (OpenSpec.ofChange fnExactGcdWrong)

/-- 'laws.FnExactFracLow': WHATEVER THE INPUT: true; the input reads as it did. -/
def fnExactFracLowSpec : ChangeSpec := { name := "fnExactFracLow", fn := fun _ => fun
  | [d] => { results := [.lit (.bool true)], args := [d] }
  | _ => none }
def fnExactFracLowRow : OpenClaim := { program := "ytonimdaimldbgaa", sum := "d1b0b54c182f4af65552b658b1a9e79a490efae3fa953e5fee93f81120cbb395", func := "loop.example/g00477/laws.FnExactFracLow", spec := "fnExactFracLow", apart := false }
def FnExactFracLowSaid : Prop := fnExactFracLowRow.holds Try.pinned (OpenSpec.ofChange fnExactFracLowSpec)

/-- ITS FALSE NEIGHBOUR: 'it returns false'. Refute it at one input. -/
def fnExactFracLowWrong : ChangeSpec := { name := "fnExactFracLow", fn := fun _ => fun
  | [d] => { results := [.lit (.bool false)], args := [d] }
  | _ => none }
def FnExactFracLowWrongFalsely : Prop := fnExactFracLowRow.holds Try.pinned (OpenSpec.ofChange fnExactFracLowWrong)

/- THE SECOND FORM. 'bulk': how many values and letters a reading holds, each counted each time it is reached (what is shared counts as often as it is met; a slice's spare places count too). A statement '..UptoSaid' is the law's where the arguments, and the package variables that the reading takes, are together of bulk at most 1048576: NARROWER than '..Said'. Prove '..Said' where nothing that the law and all that it calls make is longer than what came in: it says more and counts as full. Else prove '..UptoSaid'. A law counts once. -/
mutual
def uptoBulk {H : Type} : DataW H → Nat
  | .lit (.string bytes) => bytes.length + 1
  | .lit _ => 1
  | .nil => 1
  | .ptr d => uptoBulk d + 1
  | .slice elems spare => uptoBulkAll elems + uptoBulkAll spare + 1
  | .agg parts => uptoBulkAll parts + 1
  | .iface _ d => uptoBulk d + 1
  | .map entries => uptoBulkEntries entries + 1
  | .held _ => 1
def uptoBulkAll {H : Type} : List (DataW H) → Nat
  | [] => 0
  | d :: r => uptoBulk d + uptoBulkAll r
def uptoBulkEntries {H : Type} : List (Lit × DataW H) → Nat
  | [] => 0
  | x :: r => uptoBulkEntry x + uptoBulkEntries r
def uptoBulkEntry {H : Type} : Lit × DataW H → Nat
  | (.string bytes, d) => bytes.length + uptoBulk d + 1
  | (_, d) => uptoBulk d + 1
 end
def uptoSmall : (H : Type) → List (DataW H) → Bool := fun _ ds => decide (uptoBulkAll ds ≤ 1048576)
def OpenSpec.upto (s : _root_.Go.ChangeSpec) : _root_.Go.OpenSpec := { _root_.Go.OpenSpec.ofChange s with cond := some uptoSmall }

/-- 'laws.FnFracs', WHERE WHAT IT READS IS OF BULK AT MOST 1048576: true; the input reads as it did. -/
def fnFracsUptoRow : OpenClaim := { program := "ytonimdaimldbgaa", sum := "d1b0b54c182f4af65552b658b1a9e79a490efae3fa953e5fee93f81120cbb395", func := "loop.example/g00477/laws.FnFracs", spec := "fnFracs", unfollowed := true, recurses := true, apart := false, narrowed := true }
def FnFracsUptoSaid : Prop := fnFracsUptoRow.holds Try.pinned (OpenSpec.upto fnFracsSpec)

/-- 'laws.FnFracChain', WHERE WHAT IT READS IS OF BULK AT MOST 1048576: true; the input reads as it did. -/
def fnFracChainUptoRow : OpenClaim := { program := "ytonimdaimldbgaa", sum := "d1b0b54c182f4af65552b658b1a9e79a490efae3fa953e5fee93f81120cbb395", func := "loop.example/g00477/laws.FnFracChain", spec := "fnFracChain", unfollowed := true, recurses := true, apart := false, narrowed := true }
def FnFracChainUptoSaid : Prop := fnFracChainUptoRow.holds Try.pinned (OpenSpec.upto fnFracChainSpec)

/-- 'laws.FnExactFracOk', WHERE WHAT IT READS IS OF BULK AT MOST 1048576: true; the input reads as it did. -/
def fnExactFracOkUptoRow : OpenClaim := { program := "ytonimdaimldbgaa", sum := "d1b0b54c182f4af65552b658b1a9e79a490efae3fa953e5fee93f81120cbb395", func := "loop.example/g00477/laws.FnExactFracOk", spec := "fnExactFracOk", apart := false, narrowed := true }
def FnExactFracOkUptoSaid : Prop := fnExactFracOkUptoRow.holds Try.pinned (OpenSpec.upto fnExactFracOkSpec)

/-- 'laws.FnExactFracCmp', WHERE WHAT IT READS IS OF BULK AT MOST 1048576: true; the input reads as it did. -/
def fnExactFracCmpUptoRow : OpenClaim := { program := "ytonimdaimldbgaa", sum := "d1b0b54c182f4af65552b658b1a9e79a490efae3fa953e5fee93f81120cbb395", func := "loop.example/g00477/laws.FnExactFracCmp", spec := "fnExactFracCmp", unfollowed := true, recurses := true, apart := false, narrowed := true }
def FnExactFracCmpUptoSaid : Prop := fnExactFracCmpUptoRow.holds Try.pinned (OpenSpec.upto fnExactFracCmpSpec)

/-- 'laws.FnExactGcd', WHERE WHAT IT READS IS OF BULK AT MOST 1048576: true; the input reads as it did. -/
def fnExactGcdUptoRow : OpenClaim := { program := "ytonimdaimldbgaa", sum := "d1b0b54c182f4af65552b658b1a9e79a490efae3fa953e5fee93f81120cbb395", func := "loop.example/g00477/laws.FnExactGcd", spec := "fnExactGcd", apart := false, narrowed := true }
def FnExactGcdUptoSaid : Prop := fnExactGcdUptoRow.holds Try.pinned (OpenSpec.upto fnExactGcdSpec)

/-- 'laws.FnExactFracLow', WHERE WHAT IT READS IS OF BULK AT MOST 1048576: true; the input reads as it did. -/
def fnExactFracLowUptoRow : OpenClaim := { program := "ytonimdaimldbgaa", sum := "d1b0b54c182f4af65552b658b1a9e79a490efae3fa953e5fee93f81120cbb395", func := "loop.example/g00477/laws.FnExactFracLow", spec := "fnExactFracLow", apart := false, narrowed := true }
def FnExactFracLowUptoSaid : Prop := fnExactFracLowUptoRow.holds Try.pinned (OpenSpec.upto fnExactFracLowSpec)

end Rows
end Go.Proofs.Ytonimdaimldbgaa
