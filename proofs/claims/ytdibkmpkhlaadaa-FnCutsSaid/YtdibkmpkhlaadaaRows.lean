/-
  No cell of these rows narrows 'for every input' (looked for: loops, veiled, ifaces, maps, wideKeys, modest, calm, conditions, laid).
  DERIVED. THE GIVEN ROWS OF THIS SEAT. 6 by the template 'for every input the law returns true; each argument reads behind the call as it read before'; 0 by the template 'total and deterministic' (their statements: YtdibkmpkhlaadaaTotals.lean).
  GIVEN WITH THE SEED: the statements are not yours to turn. If you find one false, say at which input.
  Laid BY PROGRAM, IN A SANDBOX (cutbox-rows.mjs): the forced cells as the released guide's own fill.sh prints them over the translation 23a28a1453cd1a4f… (all of the seat's roots in one cut). By AI agents, Wed Nov 11 2026. No macro, syntax, notation, axiom, sorry.
-/
import Derived.Test.YtdibkmpkhlaadaaChecked
import GoSem.Claim
import GoSem.ClaimJoined
import GoSem.ClaimMapViews
import Derived.JoinedTies
import Derived.KernelRfl
namespace Go.Proofs.Ytdibkmpkhlaadaa
/- THE CELL 'sum', in the pinned program and in every row, IS THE sha256 OF THE DUMP (.gsa) THAT YtdibkmpkhlaadaaProg.lean LOADS. Nothing in Lean hashes anything: it is a label: what it is worth is what the hold of that sum in a sandbox is worth. -/
noncomputable def Try.pinned : Pinned := { name := "ytdibkmpkhlaadaa", sum := "23a28a1453cd1a4fd63ccccc8346a058fa9c35f2693f8821b6b3255d37ce8c40", checked := Try.checked }
namespace Rows
def none {H : Type} : Left H := { results := [], args := [] }

/-- 'laws.FnCuts': WHATEVER THE INPUT: true; the input reads as it did. -/
def fnCutsSpec : ChangeSpec := { name := "fnCuts", fn := fun _ => fun
  | [d] => { results := [.lit (.bool true)], args := [d] }
  | _ => none }
def fnCutsRow : OpenClaim := { program := "ytdibkmpkhlaadaa", sum := "23a28a1453cd1a4fd63ccccc8346a058fa9c35f2693f8821b6b3255d37ce8c40", func := "loop.example/g00477/laws.FnCuts", spec := "fnCuts", recurses := true, apart := false }
def FnCutsSaid : Prop := fnCutsRow.holds Try.pinned (OpenSpec.ofChange fnCutsSpec)

/-- ITS FALSE NEIGHBOUR: 'it returns false'. Refute it at one input. -/
def fnCutsWrong : ChangeSpec := { name := "fnCuts", fn := fun _ => fun
  | [d] => { results := [.lit (.bool false)], args := [d] }
  | _ => none }
def FnCutsWrongFalsely : Prop := fnCutsRow.holds Try.pinned (OpenSpec.ofChange fnCutsWrong)

/-- 'laws.FnExactBinOf': WHATEVER THE INPUT: true; the input reads as it did. -/
def fnExactBinOfSpec : ChangeSpec := { name := "fnExactBinOf", fn := fun _ => fun
  | [d1, d2] => { results := [.lit (.bool true)], args := [d1, d2] }
  | _ => none }
def fnExactBinOfRow : OpenClaim := { program := "ytdibkmpkhlaadaa", sum := "23a28a1453cd1a4fd63ccccc8346a058fa9c35f2693f8821b6b3255d37ce8c40", func := "loop.example/g00477/laws.FnExactBinOf", spec := "fnExactBinOf", apart := false }
def FnExactBinOfSaid : Prop := fnExactBinOfRow.holds Try.pinned (OpenSpec.ofChange fnExactBinOfSpec)

/-- ITS FALSE NEIGHBOUR: 'it returns false'. Refute it at one input. -/
def fnExactBinOfWrong : ChangeSpec := { name := "fnExactBinOf", fn := fun _ => fun
  | [d1, d2] => { results := [.lit (.bool false)], args := [d1, d2] }
  | _ => none }
def FnExactBinOfWrongFalsely : Prop := fnExactBinOfRow.holds Try.pinned (OpenSpec.ofChange fnExactBinOfWrong)

/-- 'laws.FnExactSorted': WHATEVER THE INPUT: true; the input reads as it did. -/
def fnExactSortedSpec : ChangeSpec := { name := "fnExactSorted", fn := fun _ => fun
  | [d] => { results := [.lit (.bool true)], args := [d] }
  | _ => none }
def fnExactSortedRow : OpenClaim := { program := "ytdibkmpkhlaadaa", sum := "23a28a1453cd1a4fd63ccccc8346a058fa9c35f2693f8821b6b3255d37ce8c40", func := "loop.example/g00477/laws.FnExactSorted", spec := "fnExactSorted", recurses := true, apart := false }
def FnExactSortedSaid : Prop := fnExactSortedRow.holds Try.pinned (OpenSpec.ofChange fnExactSortedSpec)

/-- ITS FALSE NEIGHBOUR: 'it returns false'. Refute it at one input. -/
def fnExactSortedWrong : ChangeSpec := { name := "fnExactSorted", fn := fun _ => fun
  | [d] => { results := [.lit (.bool false)], args := [d] }
  | _ => none }
def FnExactSortedWrongFalsely : Prop := fnExactSortedRow.holds Try.pinned (OpenSpec.ofChange fnExactSortedWrong)

/-- 'laws.FnExactEqualCuts': WHATEVER THE INPUT: true; the input reads as it did. -/
def fnExactEqualCutsSpec : ChangeSpec := { name := "fnExactEqualCuts", fn := fun _ => fun
  | [d1, d2, d3] => { results := [.lit (.bool true)], args := [d1, d2, d3] }
  | _ => none }
def fnExactEqualCutsRow : OpenClaim := { program := "ytdibkmpkhlaadaa", sum := "23a28a1453cd1a4fd63ccccc8346a058fa9c35f2693f8821b6b3255d37ce8c40", func := "loop.example/g00477/laws.FnExactEqualCuts", spec := "fnExactEqualCuts", apart := false }
def FnExactEqualCutsSaid : Prop := fnExactEqualCutsRow.holds Try.pinned (OpenSpec.ofChange fnExactEqualCutsSpec)

/-- ITS FALSE NEIGHBOUR: 'it returns false'. Refute it at one input. -/
def fnExactEqualCutsWrong : ChangeSpec := { name := "fnExactEqualCuts", fn := fun _ => fun
  | [d1, d2, d3] => { results := [.lit (.bool false)], args := [d1, d2, d3] }
  | _ => none }
def FnExactEqualCutsWrongFalsely : Prop := fnExactEqualCutsRow.holds Try.pinned (OpenSpec.ofChange fnExactEqualCutsWrong)

/-- 'laws.FnExactQuantileCuts': WHATEVER THE INPUT: true; the input reads as it did. -/
def fnExactQuantileCutsSpec : ChangeSpec := { name := "fnExactQuantileCuts", fn := fun _ => fun
  | [d1, d2] => { results := [.lit (.bool true)], args := [d1, d2] }
  | _ => none }
def fnExactQuantileCutsRow : OpenClaim := { program := "ytdibkmpkhlaadaa", sum := "23a28a1453cd1a4fd63ccccc8346a058fa9c35f2693f8821b6b3255d37ce8c40", func := "loop.example/g00477/laws.FnExactQuantileCuts", spec := "fnExactQuantileCuts", recurses := true, apart := false }
def FnExactQuantileCutsSaid : Prop := fnExactQuantileCutsRow.holds Try.pinned (OpenSpec.ofChange fnExactQuantileCutsSpec)

/-- ITS FALSE NEIGHBOUR: 'it returns false'. Refute it at one input. -/
def fnExactQuantileCutsWrong : ChangeSpec := { name := "fnExactQuantileCuts", fn := fun _ => fun
  | [d1, d2] => { results := [.lit (.bool false)], args := [d1, d2] }
  | _ => none }
def FnExactQuantileCutsWrongFalsely : Prop := fnExactQuantileCutsRow.holds Try.pinned (OpenSpec.ofChange fnExactQuantileCutsWrong)

/-- 'laws.FnExactCutsOk': WHATEVER THE INPUT: true; the input reads as it did. -/
def fnExactCutsOkSpec : ChangeSpec := { name := "fnExactCutsOk", fn := fun _ => fun
  | [d] => { results := [.lit (.bool true)], args := [d] }
  | _ => none }
def fnExactCutsOkRow : OpenClaim := { program := "ytdibkmpkhlaadaa", sum := "23a28a1453cd1a4fd63ccccc8346a058fa9c35f2693f8821b6b3255d37ce8c40", func := "loop.example/g00477/laws.FnExactCutsOk", spec := "fnExactCutsOk", apart := false }
def FnExactCutsOkSaid : Prop := fnExactCutsOkRow.holds Try.pinned (OpenSpec.ofChange fnExactCutsOkSpec)

/-- ITS FALSE NEIGHBOUR: 'it returns false'. Refute it at one input. -/
def fnExactCutsOkWrong : ChangeSpec := { name := "fnExactCutsOk", fn := fun _ => fun
  | [d] => { results := [.lit (.bool false)], args := [d] }
  | _ => none }
def FnExactCutsOkWrongFalsely : Prop := fnExactCutsOkRow.holds Try.pinned (OpenSpec.ofChange fnExactCutsOkWrong)

/- THE SECOND FORM. 'bulk': how many values and letters a reading holds, each counted each time it is reached (what is shared counts as often as it is met; a slice's spare places count too). A statement '..UptoSaid' is the law's where the arguments, and the package variables that the reading takes, are together of bulk at most 1048576: NARROWER than '..Said'. Prove '..Said' where nothing that the law and all that it calls make is longer than what came in: it says more and counts as full. Else prove '..UptoSaid'. A law counts once. -/
mutual
def uptoBulk {H : Type} : DataW H → Nat
  | .lit (.string bytes) => bytes.length + 1
  | .lit _ => 1
  | .nil => 1
  | .ptr d => uptoBulk d + 1
  | .slice elems spare => uptoBulkAll elems + uptoBulkAll spare + 1
  | .agg parts => uptoBulkAll parts + 1
  | .iface _ d => uptoBulk d + 1
  | .map entries => uptoBulkEntries entries + 1
  | .held _ => 1
def uptoBulkAll {H : Type} : List (DataW H) → Nat
  | [] => 0
  | d :: r => uptoBulk d + uptoBulkAll r
def uptoBulkEntries {H : Type} : List (Lit × DataW H) → Nat
  | [] => 0
  | x :: r => uptoBulkEntry x + uptoBulkEntries r
def uptoBulkEntry {H : Type} : Lit × DataW H → Nat
  | (.string bytes, d) => bytes.length + uptoBulk d + 1
  | (_, d) => uptoBulk d + 1
 end
def uptoSmall : (H : Type) → List (DataW H) → Bool := fun _ ds => decide (uptoBulkAll ds ≤ 1048576)
def OpenSpec.upto (s : _root_.Go.ChangeSpec) : _root_.Go.OpenSpec := { _root_.Go.OpenSpec.ofChange s with cond := some uptoSmall }

/-- 'laws.FnCuts', WHERE WHAT IT READS IS OF BULK AT MOST 1048576: true; the input reads as it did. -/
def fnCutsUptoRow : OpenClaim := { program := "ytdibkmpkhlaadaa", sum := "23a28a1453cd1a4fd63ccccc8346a058fa9c35f2693f8821b6b3255d37ce8c40", func := "loop.example/g00477/laws.FnCuts", spec := "fnCuts", recurses := true, apart := false, narrowed := true }
def FnCutsUptoSaid : Prop := fnCutsUptoRow.holds Try.pinned (OpenSpec.upto fnCutsSpec)

/-- 'laws.FnExactBinOf', WHERE WHAT IT READS IS OF BULK AT MOST 1048576: true; the input reads as it did. -/
def fnExactBinOfUptoRow : OpenClaim := { program := "ytdibkmpkhlaadaa", sum := "23a28a1453cd1a4fd63ccccc8346a058fa9c35f2693f8821b6b3255d37ce8c40", func := "loop.example/g00477/laws.FnExactBinOf", spec := "fnExactBinOf", apart := false, narrowed := true }
def FnExactBinOfUptoSaid : Prop := fnExactBinOfUptoRow.holds Try.pinned (OpenSpec.upto fnExactBinOfSpec)

/-- 'laws.FnExactSorted', WHERE WHAT IT READS IS OF BULK AT MOST 1048576: true; the input reads as it did. -/
def fnExactSortedUptoRow : OpenClaim := { program := "ytdibkmpkhlaadaa", sum := "23a28a1453cd1a4fd63ccccc8346a058fa9c35f2693f8821b6b3255d37ce8c40", func := "loop.example/g00477/laws.FnExactSorted", spec := "fnExactSorted", recurses := true, apart := false, narrowed := true }
def FnExactSortedUptoSaid : Prop := fnExactSortedUptoRow.holds Try.pinned (OpenSpec.upto fnExactSortedSpec)

/-- 'laws.FnExactEqualCuts', WHERE WHAT IT READS IS OF BULK AT MOST 1048576: true; the input reads as it did. -/
def fnExactEqualCutsUptoRow : OpenClaim := { program := "ytdibkmpkhlaadaa", sum := "23a28a1453cd1a4fd63ccccc8346a058fa9c35f2693f8821b6b3255d37ce8c40", func := "loop.example/g00477/laws.FnExactEqualCuts", spec := "fnExactEqualCuts", apart := false, narrowed := true }
def FnExactEqualCutsUptoSaid : Prop := fnExactEqualCutsUptoRow.holds Try.pinned (OpenSpec.upto fnExactEqualCutsSpec)

/-- 'laws.FnExactQuantileCuts', WHERE WHAT IT READS IS OF BULK AT MOST 1048576: true; the input reads as it did. -/
def fnExactQuantileCutsUptoRow : OpenClaim := { program := "ytdibkmpkhlaadaa", sum := "23a28a1453cd1a4fd63ccccc8346a058fa9c35f2693f8821b6b3255d37ce8c40", func := "loop.example/g00477/laws.FnExactQuantileCuts", spec := "fnExactQuantileCuts", recurses := true, apart := false, narrowed := true }
def FnExactQuantileCutsUptoSaid : Prop := fnExactQuantileCutsUptoRow.holds Try.pinned (OpenSpec.upto fnExactQuantileCutsSpec)

/-- 'laws.FnExactCutsOk', WHERE WHAT IT READS IS OF BULK AT MOST 1048576: true; the input reads as it did. -/
def fnExactCutsOkUptoRow : OpenClaim := { program := "ytdibkmpkhlaadaa", sum := "23a28a1453cd1a4fd63ccccc8346a058fa9c35f2693f8821b6b3255d37ce8c40", func := "loop.example/g00477/laws.FnExactCutsOk", spec := "fnExactCutsOk", apart := false, narrowed := true }
def FnExactCutsOkUptoSaid : Prop := fnExactCutsOkUptoRow.holds Try.pinned (OpenSpec.upto fnExactCutsOkSpec)

end Rows
end Go.Proofs.Ytdibkmpkhlaadaa
