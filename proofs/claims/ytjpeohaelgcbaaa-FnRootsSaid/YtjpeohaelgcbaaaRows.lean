/-
  No cell of these rows narrows 'for every input' (looked for: loops, veiled, ifaces, maps, wideKeys, modest, calm, conditions, laid).
  DERIVED. THE GIVEN ROWS OF THIS SEAT. 4 by the template 'for every input the law returns true; each argument reads behind the call as it read before'; 0 by the template 'total and deterministic' (their statements: YtjpeohaelgcbaaaTotals.lean).
  GIVEN WITH THE SEED: the statements are not yours to turn. If you find one false, say at which input.
  Laid BY PROGRAM, IN A SANDBOX (cutbox-rows.mjs): the forced cells as the released guide's own fill.sh prints them over the translation 246f7cef3a57176c… (all of the seat's roots in one cut). By AI agents, Wed Nov 11 2026. No macro, syntax, notation, axiom, sorry.
-/
import Derived.Test.YtjpeohaelgcbaaaChecked
import GoSem.Claim
import GoSem.ClaimJoined
import GoSem.ClaimMapViews
import Derived.JoinedTies
import Derived.KernelRfl
namespace Go.Proofs.Ytjpeohaelgcbaaa
/- THE CELL 'sum', in the pinned program and in every row, IS THE sha256 OF THE DUMP (.gsa) THAT YtjpeohaelgcbaaaProg.lean LOADS. Nothing in Lean hashes anything: it is a label: what it is worth is what the hold of that sum in a sandbox is worth. -/
noncomputable def Try.pinned : Pinned := { name := "ytjpeohaelgcbaaa", sum := "246f7cef3a57176cfdc0734dcb4a65a0ce31f6512f300f64442182d8e050c6e7", checked := Try.checked }
namespace Rows
def none {H : Type} : Left H := { results := [], args := [] }

/-- 'laws.FnRoots': WHATEVER THE INPUT: true; the input reads as it did. -/
def fnRootsSpec : ChangeSpec := { name := "fnRoots", fn := fun _ => fun
  | [d] => { results := [.lit (.bool true)], args := [d] }
  | _ => none }
def fnRootsRow : OpenClaim := { program := "ytjpeohaelgcbaaa", sum := "246f7cef3a57176cfdc0734dcb4a65a0ce31f6512f300f64442182d8e050c6e7", func := "loop.example/g00477/laws.FnRoots", spec := "fnRoots", apart := false }
def FnRootsSaid : Prop := fnRootsRow.holds Try.pinned (OpenSpec.ofChange fnRootsSpec)

/-- ITS FALSE NEIGHBOUR: 'it returns false'. Refute it at one input. -/
def fnRootsWrong : ChangeSpec := { name := "fnRoots", fn := fun _ => fun
  | [d] => { results := [.lit (.bool false)], args := [d] }
  | _ => none }
def FnRootsWrongFalsely : Prop := fnRootsRow.holds Try.pinned (OpenSpec.ofChange fnRootsWrong)

/-- 'laws.FnExactLnOf': WHATEVER THE INPUT: true; the input reads as it did. -/
def fnExactLnOfSpec : ChangeSpec := { name := "fnExactLnOf", fn := fun _ => fun
  | [d] => { results := [.lit (.bool true)], args := [d] }
  | _ => none }
def fnExactLnOfRow : OpenClaim := { program := "ytjpeohaelgcbaaa", sum := "246f7cef3a57176cfdc0734dcb4a65a0ce31f6512f300f64442182d8e050c6e7", func := "loop.example/g00477/laws.FnExactLnOf", spec := "fnExactLnOf", apart := false }
def FnExactLnOfSaid : Prop := fnExactLnOfRow.holds Try.pinned (OpenSpec.ofChange fnExactLnOfSpec)

/-- ITS FALSE NEIGHBOUR: 'it returns false'. Refute it at one input. -/
def fnExactLnOfWrong : ChangeSpec := { name := "fnExactLnOf", fn := fun _ => fun
  | [d] => { results := [.lit (.bool false)], args := [d] }
  | _ => none }
def FnExactLnOfWrongFalsely : Prop := fnExactLnOfRow.holds Try.pinned (OpenSpec.ofChange fnExactLnOfWrong)

/-- 'laws.FnExactRoot': WHATEVER THE INPUT: true; the input reads as it did. -/
def fnExactRootSpec : ChangeSpec := { name := "fnExactRoot", fn := fun _ => fun
  | [d] => { results := [.lit (.bool true)], args := [d] }
  | _ => none }
def fnExactRootRow : OpenClaim := { program := "ytjpeohaelgcbaaa", sum := "246f7cef3a57176cfdc0734dcb4a65a0ce31f6512f300f64442182d8e050c6e7", func := "loop.example/g00477/laws.FnExactRoot", spec := "fnExactRoot", apart := false }
def FnExactRootSaid : Prop := fnExactRootRow.holds Try.pinned (OpenSpec.ofChange fnExactRootSpec)

/-- ITS FALSE NEIGHBOUR: 'it returns false'. Refute it at one input. -/
def fnExactRootWrong : ChangeSpec := { name := "fnExactRoot", fn := fun _ => fun
  | [d] => { results := [.lit (.bool false)], args := [d] }
  | _ => none }
def FnExactRootWrongFalsely : Prop := fnExactRootRow.holds Try.pinned (OpenSpec.ofChange fnExactRootWrong)

/-- 'laws.FnExactEpsOf': WHATEVER THE INPUT: true; the input reads as it did. -/
def fnExactEpsOfSpec : ChangeSpec := { name := "fnExactEpsOf", fn := fun _ => fun
  | [d1, d2] => { results := [.lit (.bool true)], args := [d1, d2] }
  | _ => none }
def fnExactEpsOfRow : OpenClaim := { program := "ytjpeohaelgcbaaa", sum := "246f7cef3a57176cfdc0734dcb4a65a0ce31f6512f300f64442182d8e050c6e7", func := "loop.example/g00477/laws.FnExactEpsOf", spec := "fnExactEpsOf", apart := false }
def FnExactEpsOfSaid : Prop := fnExactEpsOfRow.holds Try.pinned (OpenSpec.ofChange fnExactEpsOfSpec)

/-- ITS FALSE NEIGHBOUR: 'it returns false'. Refute it at one input. -/
def fnExactEpsOfWrong : ChangeSpec := { name := "fnExactEpsOf", fn := fun _ => fun
  | [d1, d2] => { results := [.lit (.bool false)], args := [d1, d2] }
  | _ => none }
def FnExactEpsOfWrongFalsely : Prop := fnExactEpsOfRow.holds Try.pinned (OpenSpec.ofChange fnExactEpsOfWrong)

/- THE SECOND FORM. 'bulk': how many values and letters a reading holds, each counted each time it is reached (what is shared counts as often as it is met; a slice's spare places count too). A statement '..UptoSaid' is the law's where the arguments, and the package variables that the reading takes, are together of bulk at most 1048576: NARROWER than '..Said'. Prove '..Said' where nothing that the law and all that it calls make is longer than what came in: it says more and counts as full. Else prove '..UptoSaid'. A law counts once. -/
mutual
def uptoBulk {H : Type} : DataW H → Nat
  | .lit (.string bytes) => bytes.length + 1
  | .lit _ => 1
  | .nil => 1
  | .ptr d => uptoBulk d + 1
  | .slice elems spare => uptoBulkAll elems + uptoBulkAll spare + 1
  | .agg parts => uptoBulkAll parts + 1
  | .iface _ d => uptoBulk d + 1
  | .map entries => uptoBulkEntries entries + 1
  | .held _ => 1
def uptoBulkAll {H : Type} : List (DataW H) → Nat
  | [] => 0
  | d :: r => uptoBulk d + uptoBulkAll r
def uptoBulkEntries {H : Type} : List (Lit × DataW H) → Nat
  | [] => 0
  | x :: r => uptoBulkEntry x + uptoBulkEntries r
def uptoBulkEntry {H : Type} : Lit × DataW H → Nat
  | (.string bytes, d) => bytes.length + uptoBulk d + 1
  | (_, d) => uptoBulk d + 1
 end
def uptoSmall : (H : Type) → List (DataW H) → Bool := fun _ ds => decide (uptoBulkAll ds ≤ 1048576)
def OpenSpec.upto (s : _root_.Go.ChangeSpec) : _root_.Go.OpenSpec := { _root_.Go.OpenSpec.ofChange s with cond := some uptoSmall }

/-- 'laws.FnRoots', WHERE WHAT IT READS IS OF BULK AT MOST 1048576: true; the input reads as it did. -/
def fnRootsUptoRow : OpenClaim := { program := "ytjpeohaelgcbaaa", sum := "246f7cef3a57176cfdc0734dcb4a65a0ce31f6512f300f64442182d8e050c6e7", func := "loop.example/g00477/laws.FnRoots", spec := "fnRoots", apart := false, narrowed := true }
def FnRootsUptoSaid : Prop := fnRootsUptoRow.holds Try.pinned (OpenSpec.upto fnRootsSpec)

/-- 'laws.FnExactLnOf', WHERE WHAT IT READS IS OF BULK AT MOST 1048576: true; the input reads as it did. -/
def fnExactLnOfUptoRow : OpenClaim := { program := "ytjpeohaelgcbaaa", sum := "246f7cef3a57176cfdc0734dcb4a65a0ce31f6512f300f64442182d8e050c6e7", func := "loop.example/g00477/laws.FnExactLnOf", spec := "fnExactLnOf", apart := false, narrowed := true }
def FnExactLnOfUptoSaid : Prop := fnExactLnOfUptoRow.holds Try.pinned (OpenSpec.upto fnExactLnOfSpec)

/-- 'laws.FnExactRoot', WHERE WHAT IT READS IS OF BULK AT MOST 1048576: true; the input reads as it did. -/
def fnExactRootUptoRow : OpenClaim := { program := "ytjpeohaelgcbaaa", sum := "246f7cef3a57176cfdc0734dcb4a65a0ce31f6512f300f64442182d8e050c6e7", func := "loop.example/g00477/laws.FnExactRoot", spec := "fnExactRoot", apart := false, narrowed := true }
def FnExactRootUptoSaid : Prop := fnExactRootUptoRow.holds Try.pinned (OpenSpec.upto fnExactRootSpec)

/-- 'laws.FnExactEpsOf', WHERE WHAT IT READS IS OF BULK AT MOST 1048576: true; the input reads as it did. -/
def fnExactEpsOfUptoRow : OpenClaim := { program := "ytjpeohaelgcbaaa", sum := "246f7cef3a57176cfdc0734dcb4a65a0ce31f6512f300f64442182d8e050c6e7", func := "loop.example/g00477/laws.FnExactEpsOf", spec := "fnExactEpsOf", apart := false, narrowed := true }
def FnExactEpsOfUptoSaid : Prop := fnExactEpsOfUptoRow.holds Try.pinned (OpenSpec.upto fnExactEpsOfSpec)

end Rows
end Go.Proofs.Ytjpeohaelgcbaaa
