/-
  No cell of these rows narrows 'for every input' (looked for: loops, veiled, ifaces, maps, wideKeys, modest, calm, conditions, laid).
  DERIVED. THE GIVEN ROWS OF THIS SEAT. 5 by the template 'for every input the law returns true; each argument reads behind the call as it read before'; 0 by the template 'total and deterministic' (their statements: YtfflodcapcamcaaTotals.lean).
  GIVEN WITH THE SEED: the statements are not yours to turn. If you find one false, say at which input.
  Laid BY PROGRAM, IN A SANDBOX (cutbox-rows.mjs): the forced cells as the released guide's own fill.sh prints them over the translation d1ae95a2af157c62… (all of the seat's roots in one cut). By AI agents, Wed Nov 11 2026. No macro, syntax, notation, axiom, sorry.
-/
import Derived.Test.YtfflodcapcamcaaChecked
import GoSem.Claim
import GoSem.ClaimJoined
import GoSem.ClaimMapViews
import Derived.JoinedTies
import Derived.KernelRfl
namespace Go.Proofs.Ytfflodcapcamcaa
/- THE CELL 'sum', in the pinned program and in every row, IS THE sha256 OF THE DUMP (.gsa) THAT YtfflodcapcamcaaProg.lean LOADS. Nothing in Lean hashes anything: it is a label: what it is worth is what the hold of that sum in a sandbox is worth. -/
noncomputable def Try.pinned : Pinned := { name := "ytfflodcapcamcaa", sum := "d1ae95a2af157c62ec9e6df6aa1a01ea602318e874c68c3d8defd809eca55d0b", checked := Try.checked }
namespace Rows
def none {H : Type} : Left H := { results := [], args := [] }

/-- 'laws.FnOneBranch': WHATEVER THE INPUT: true; the input reads as it did. -/
def fnOneBranchSpec : ChangeSpec := { name := "fnOneBranch", fn := fun _ => fun
  | [d] => { results := [.lit (.bool true)], args := [d] }
  | _ => none }
def fnOneBranchRow : OpenClaim := { program := "ytfflodcapcamcaa", sum := "d1ae95a2af157c62ec9e6df6aa1a01ea602318e874c68c3d8defd809eca55d0b", func := "loop.example/g00477/laws.FnOneBranch", spec := "fnOneBranch", unfollowed := true, recurses := true, apart := false }
def FnOneBranchSaid : Prop := fnOneBranchRow.holds Try.pinned (OpenSpec.ofChange fnOneBranchSpec)

/-- ITS FALSE NEIGHBOUR: 'it returns false'. Refute it at one input. -/
def fnOneBranchWrong : ChangeSpec := { name := "fnOneBranch", fn := fun _ => fun
  | [d] => { results := [.lit (.bool false)], args := [d] }
  | _ => none }
def FnOneBranchWrongFalsely : Prop := fnOneBranchRow.holds Try.pinned (OpenSpec.ofChange fnOneBranchWrong)

/-- 'laws.FnExactForkOk': WHATEVER THE INPUT: true; the input reads as it did. -/
def fnExactForkOkSpec : ChangeSpec := { name := "fnExactForkOk", fn := fun _ => fun
  | [d1, d2] => { results := [.lit (.bool true)], args := [d1, d2] }
  | _ => none }
def fnExactForkOkRow : OpenClaim := { program := "ytfflodcapcamcaa", sum := "d1ae95a2af157c62ec9e6df6aa1a01ea602318e874c68c3d8defd809eca55d0b", func := "loop.example/g00477/laws.FnExactForkOk", spec := "fnExactForkOk", apart := false }
def FnExactForkOkSaid : Prop := fnExactForkOkRow.holds Try.pinned (OpenSpec.ofChange fnExactForkOkSpec)

/-- ITS FALSE NEIGHBOUR: 'it returns false'. Refute it at one input. -/
def fnExactForkOkWrong : ChangeSpec := { name := "fnExactForkOk", fn := fun _ => fun
  | [d1, d2] => { results := [.lit (.bool false)], args := [d1, d2] }
  | _ => none }
def FnExactForkOkWrongFalsely : Prop := fnExactForkOkRow.holds Try.pinned (OpenSpec.ofChange fnExactForkOkWrong)

/-- 'laws.FnExactBranches': WHATEVER THE INPUT: true; the input reads as it did. -/
def fnExactBranchesSpec : ChangeSpec := { name := "fnExactBranches", fn := fun _ => fun
  | [d1, d2] => { results := [.lit (.bool true)], args := [d1, d2] }
  | _ => none }
def fnExactBranchesRow : OpenClaim := { program := "ytfflodcapcamcaa", sum := "d1ae95a2af157c62ec9e6df6aa1a01ea602318e874c68c3d8defd809eca55d0b", func := "loop.example/g00477/laws.FnExactBranches", spec := "fnExactBranches", apart := false }
def FnExactBranchesSaid : Prop := fnExactBranchesRow.holds Try.pinned (OpenSpec.ofChange fnExactBranchesSpec)

/-- ITS FALSE NEIGHBOUR: 'it returns false'. Refute it at one input. -/
def fnExactBranchesWrong : ChangeSpec := { name := "fnExactBranches", fn := fun _ => fun
  | [d1, d2] => { results := [.lit (.bool false)], args := [d1, d2] }
  | _ => none }
def FnExactBranchesWrongFalsely : Prop := fnExactBranchesRow.holds Try.pinned (OpenSpec.ofChange fnExactBranchesWrong)

/-- 'laws.FnExactBranchOf': WHATEVER THE INPUT: true; the input reads as it did. -/
def fnExactBranchOfSpec : ChangeSpec := { name := "fnExactBranchOf", fn := fun _ => fun
  | [d1, d2, d3] => { results := [.lit (.bool true)], args := [d1, d2, d3] }
  | _ => none }
def fnExactBranchOfRow : OpenClaim := { program := "ytfflodcapcamcaa", sum := "d1ae95a2af157c62ec9e6df6aa1a01ea602318e874c68c3d8defd809eca55d0b", func := "loop.example/g00477/laws.FnExactBranchOf", spec := "fnExactBranchOf", unfollowed := true, recurses := true, apart := false }
def FnExactBranchOfSaid : Prop := fnExactBranchOfRow.holds Try.pinned (OpenSpec.ofChange fnExactBranchOfSpec)

/-- ITS FALSE NEIGHBOUR: 'it returns false'. Refute it at one input. -/
def fnExactBranchOfWrong : ChangeSpec := { name := "fnExactBranchOf", fn := fun _ => fun
  | [d1, d2, d3] => { results := [.lit (.bool false)], args := [d1, d2, d3] }
  | _ => none }
def FnExactBranchOfWrongFalsely : Prop := fnExactBranchOfRow.holds Try.pinned (OpenSpec.ofChange fnExactBranchOfWrong)

/-- 'laws.FnExactAttrsOk': WHATEVER THE INPUT: true; the input reads as it did. -/
def fnExactAttrsOkSpec : ChangeSpec := { name := "fnExactAttrsOk", fn := fun _ => fun
  | [d1, d2] => { results := [.lit (.bool true)], args := [d1, d2] }
  | _ => none }
def fnExactAttrsOkRow : OpenClaim := { program := "ytfflodcapcamcaa", sum := "d1ae95a2af157c62ec9e6df6aa1a01ea602318e874c68c3d8defd809eca55d0b", func := "loop.example/g00477/laws.FnExactAttrsOk", spec := "fnExactAttrsOk", apart := false }
def FnExactAttrsOkSaid : Prop := fnExactAttrsOkRow.holds Try.pinned (OpenSpec.ofChange fnExactAttrsOkSpec)

/-- ITS FALSE NEIGHBOUR: 'it returns false'. Refute it at one input. -/
def fnExactAttrsOkWrong : ChangeSpec := { name := "fnExactAttrsOk", fn := fun _ => fun
  | [d1, d2] => { results := [.lit (.bool false)], args := [d1, d2] }
  | _ => none }
def FnExactAttrsOkWrongFalsely : Prop := fnExactAttrsOkRow.holds Try.pinned (OpenSpec.ofChange fnExactAttrsOkWrong)

/- THE SECOND FORM. 'bulk': how many values and letters a reading holds, each counted each time it is reached (what is shared counts as often as it is met; a slice's spare places count too). A statement '..UptoSaid' is the law's where the arguments, and the package variables that the reading takes, are together of bulk at most 1048576: NARROWER than '..Said'. Prove '..Said' where nothing that the law and all that it calls make is longer than what came in: it says more and counts as full. Else prove '..UptoSaid'. A law counts once. -/
mutual
def uptoBulk {H : Type} : DataW H → Nat
  | .lit (.string bytes) => bytes.length + 1
  | .lit _ => 1
  | .nil => 1
  | .ptr d => uptoBulk d + 1
  | .slice elems spare => uptoBulkAll elems + uptoBulkAll spare + 1
  | .agg parts => uptoBulkAll parts + 1
  | .iface _ d => uptoBulk d + 1
  | .map entries => uptoBulkEntries entries + 1
  | .held _ => 1
def uptoBulkAll {H : Type} : List (DataW H) → Nat
  | [] => 0
  | d :: r => uptoBulk d + uptoBulkAll r
def uptoBulkEntries {H : Type} : List (Lit × DataW H) → Nat
  | [] => 0
  | x :: r => uptoBulkEntry x + uptoBulkEntries r
def uptoBulkEntry {H : Type} : Lit × DataW H → Nat
  | (.string bytes, d) => bytes.length + uptoBulk d + 1
  | (_, d) => uptoBulk d + 1
 end
def uptoSmall : (H : Type) → List (DataW H) → Bool := fun _ ds => decide (uptoBulkAll ds ≤ 1048576)
def OpenSpec.upto (s : _root_.Go.ChangeSpec) : _root_.Go.OpenSpec := { _root_.Go.OpenSpec.ofChange s with cond := some uptoSmall }

/-- 'laws.FnOneBranch', WHERE WHAT IT READS IS OF BULK AT MOST 1048576: true; the input reads as it did. -/
def fnOneBranchUptoRow : OpenClaim := { program := "ytfflodcapcamcaa", sum := "d1ae95a2af157c62ec9e6df6aa1a01ea602318e874c68c3d8defd809eca55d0b", func := "loop.example/g00477/laws.FnOneBranch", spec := "fnOneBranch", unfollowed := true, recurses := true, apart := false, narrowed := true }
def FnOneBranchUptoSaid : Prop := fnOneBranchUptoRow.holds Try.pinned (OpenSpec.upto fnOneBranchSpec)

/-- 'laws.FnExactForkOk', WHERE WHAT IT READS IS OF BULK AT MOST 1048576: true; the input reads as it did. -/
def fnExactForkOkUptoRow : OpenClaim := { program := "ytfflodcapcamcaa", sum := "d1ae95a2af157c62ec9e6df6aa1a01ea602318e874c68c3d8defd809eca55d0b", func := "loop.example/g00477/laws.FnExactForkOk", spec := "fnExactForkOk", apart := false, narrowed := true }
def FnExactForkOkUptoSaid : Prop := fnExactForkOkUptoRow.holds Try.pinned (OpenSpec.upto fnExactForkOkSpec)

/-- 'laws.FnExactBranches', WHERE WHAT IT READS IS OF BULK AT MOST 1048576: true; the input reads as it did. -/
def fnExactBranchesUptoRow : OpenClaim := { program := "ytfflodcapcamcaa", sum := "d1ae95a2af157c62ec9e6df6aa1a01ea602318e874c68c3d8defd809eca55d0b", func := "loop.example/g00477/laws.FnExactBranches", spec := "fnExactBranches", apart := false, narrowed := true }
def FnExactBranchesUptoSaid : Prop := fnExactBranchesUptoRow.holds Try.pinned (OpenSpec.upto fnExactBranchesSpec)

/-- 'laws.FnExactBranchOf', WHERE WHAT IT READS IS OF BULK AT MOST 1048576: true; the input reads as it did. -/
def fnExactBranchOfUptoRow : OpenClaim := { program := "ytfflodcapcamcaa", sum := "d1ae95a2af157c62ec9e6df6aa1a01ea602318e874c68c3d8defd809eca55d0b", func := "loop.example/g00477/laws.FnExactBranchOf", spec := "fnExactBranchOf", unfollowed := true, recurses := true, apart := false, narrowed := true }
def FnExactBranchOfUptoSaid : Prop := fnExactBranchOfUptoRow.holds Try.pinned (OpenSpec.upto fnExactBranchOfSpec)

/-- 'laws.FnExactAttrsOk', WHERE WHAT IT READS IS OF BULK AT MOST 1048576: true; the input reads as it did. -/
def fnExactAttrsOkUptoRow : OpenClaim := { program := "ytfflodcapcamcaa", sum := "d1ae95a2af157c62ec9e6df6aa1a01ea602318e874c68c3d8defd809eca55d0b", func := "loop.example/g00477/laws.FnExactAttrsOk", spec := "fnExactAttrsOk", apart := false, narrowed := true }
def FnExactAttrsOkUptoSaid : Prop := fnExactAttrsOkUptoRow.holds Try.pinned (OpenSpec.upto fnExactAttrsOkSpec)

end Rows
end Go.Proofs.Ytfflodcapcamcaa
