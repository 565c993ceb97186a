/-
  No cell of these rows narrows 'for every input' (looked for: loops, veiled, ifaces, maps, wideKeys, modest, calm, conditions, laid).
  DERIVED. THE GIVEN ROWS OF THIS SEAT. 2 by the template 'for every input the law returns true; each argument reads behind the call as it read before'; 0 by the template 'total and deterministic' (their statements: YtfekcckckmhioaaTotals.lean).
  GIVEN WITH THE SEED: the statements are not yours to turn. If you find one false, say at which input.
  Laid BY PROGRAM, IN A SANDBOX (cutbox-rows.mjs): the forced cells as the released guide's own fill.sh prints them over the translation f1a3510d309a659e… (all of the seat's roots in one cut). By AI agents, Wed Nov 11 2026. No macro, syntax, notation, axiom, sorry.
-/
import Derived.Test.YtfekcckckmhioaaChecked
import GoSem.Claim
import GoSem.ClaimJoined
import GoSem.ClaimMapViews
import Derived.JoinedTies
import Derived.KernelRfl
namespace Go.Proofs.Ytfekcckckmhioaa
/- THE CELL 'sum', in the pinned program and in every row, IS THE sha256 OF THE DUMP (.gsa) THAT YtfekcckckmhioaaProg.lean LOADS. Nothing in Lean hashes anything: it is a label: what it is worth is what the hold of that sum in a sandbox is worth. -/
noncomputable def Try.pinned : Pinned := { name := "ytfekcckckmhioaa", sum := "f1a3510d309a659e8d0ce84334f7f738d32ec93f163f6812619259f690409d13", checked := Try.checked }
namespace Rows
def none {H : Type} : Left H := { results := [], args := [] }

/-- 'laws.FnExactExOk': WHATEVER THE INPUT: true; the input reads as it did. -/
def fnExactExOkSpec : ChangeSpec := { name := "fnExactExOk", fn := fun _ => fun
  | [d1, d2] => { results := [.lit (.bool true)], args := [d1, d2] }
  | _ => none }
def fnExactExOkRow : OpenClaim := { program := "ytfekcckckmhioaa", sum := "f1a3510d309a659e8d0ce84334f7f738d32ec93f163f6812619259f690409d13", func := "loop.example/g00477/laws.FnExactExOk", spec := "fnExactExOk", apart := false }
def FnExactExOkSaid : Prop := fnExactExOkRow.holds Try.pinned (OpenSpec.ofChange fnExactExOkSpec)

/-- ITS FALSE NEIGHBOUR: 'it returns false'. Refute it at one input. -/
def fnExactExOkWrong : ChangeSpec := { name := "fnExactExOk", fn := fun _ => fun
  | [d1, d2] => { results := [.lit (.bool false)], args := [d1, d2] }
  | _ => none }
def FnExactExOkWrongFalsely : Prop := fnExactExOkRow.holds Try.pinned (OpenSpec.ofChange fnExactExOkWrong)

/-- 'laws.FnExactExSame': WHATEVER THE INPUT: true; the input reads as it did. -/
def fnExactExSameSpec : ChangeSpec := { name := "fnExactExSame", fn := fun _ => fun
  | [d1, d2] => { results := [.lit (.bool true)], args := [d1, d2] }
  | _ => none }
def fnExactExSameRow : OpenClaim := { program := "ytfekcckckmhioaa", sum := "f1a3510d309a659e8d0ce84334f7f738d32ec93f163f6812619259f690409d13", func := "loop.example/g00477/laws.FnExactExSame", spec := "fnExactExSame", apart := false }
def FnExactExSameSaid : Prop := fnExactExSameRow.holds Try.pinned (OpenSpec.ofChange fnExactExSameSpec)

/-- ITS FALSE NEIGHBOUR: 'it returns false'. Refute it at one input. -/
def fnExactExSameWrong : ChangeSpec := { name := "fnExactExSame", fn := fun _ => fun
  | [d1, d2] => { results := [.lit (.bool false)], args := [d1, d2] }
  | _ => none }
def FnExactExSameWrongFalsely : Prop := fnExactExSameRow.holds Try.pinned (OpenSpec.ofChange fnExactExSameWrong)

/- THE SECOND FORM. 'bulk': how many values and letters a reading holds, each counted each time it is reached (what is shared counts as often as it is met; a slice's spare places count too). A statement '..UptoSaid' is the law's where the arguments, and the package variables that the reading takes, are together of bulk at most 1048576: NARROWER than '..Said'. Prove '..Said' where nothing that the law and all that it calls make is longer than what came in: it says more and counts as full. Else prove '..UptoSaid'. A law counts once. -/
mutual
def uptoBulk {H : Type} : DataW H → Nat
  | .lit (.string bytes) => bytes.length + 1
  | .lit _ => 1
  | .nil => 1
  | .ptr d => uptoBulk d + 1
  | .slice elems spare => uptoBulkAll elems + uptoBulkAll spare + 1
  | .agg parts => uptoBulkAll parts + 1
  | .iface _ d => uptoBulk d + 1
  | .map entries => uptoBulkEntries entries + 1
  | .held _ => 1
def uptoBulkAll {H : Type} : List (DataW H) → Nat
  | [] => 0
  | d :: r => uptoBulk d + uptoBulkAll r
def uptoBulkEntries {H : Type} : List (Lit × DataW H) → Nat
  | [] => 0
  | x :: r => uptoBulkEntry x + uptoBulkEntries r
def uptoBulkEntry {H : Type} : Lit × DataW H → Nat
  | (.string bytes, d) => bytes.length + uptoBulk d + 1
  | (_, d) => uptoBulk d + 1
 end
def uptoSmall : (H : Type) → List (DataW H) → Bool := fun _ ds => decide (uptoBulkAll ds ≤ 1048576)
def OpenSpec.upto (s : _root_.Go.ChangeSpec) : _root_.Go.OpenSpec := { _root_.Go.OpenSpec.ofChange s with cond := some uptoSmall }

/-- 'laws.FnExactExOk', WHERE WHAT IT READS IS OF BULK AT MOST 1048576: true; the input reads as it did. -/
def fnExactExOkUptoRow : OpenClaim := { program := "ytfekcckckmhioaa", sum := "f1a3510d309a659e8d0ce84334f7f738d32ec93f163f6812619259f690409d13", func := "loop.example/g00477/laws.FnExactExOk", spec := "fnExactExOk", apart := false, narrowed := true }
def FnExactExOkUptoSaid : Prop := fnExactExOkUptoRow.holds Try.pinned (OpenSpec.upto fnExactExOkSpec)

/-- 'laws.FnExactExSame', WHERE WHAT IT READS IS OF BULK AT MOST 1048576: true; the input reads as it did. -/
def fnExactExSameUptoRow : OpenClaim := { program := "ytfekcckckmhioaa", sum := "f1a3510d309a659e8d0ce84334f7f738d32ec93f163f6812619259f690409d13", func := "loop.example/g00477/laws.FnExactExSame", spec := "fnExactExSame", apart := false, narrowed := true }
def FnExactExSameUptoSaid : Prop := fnExactExSameUptoRow.holds Try.pinned (OpenSpec.upto fnExactExSameSpec)

end Rows
end Go.Proofs.Ytfekcckckmhioaa
