/-
  No cell of these rows narrows 'for every input' (looked for: loops, veiled, ifaces, maps, wideKeys, modest, calm, conditions, laid).
  DERIVED. THE GIVEN ROWS OF THIS SEAT. 6 by the template 'for every input the law returns true; each argument reads behind the call as it read before'; 0 by the template 'total and deterministic' (their statements: YtmdmplphendpcabTotals.lean).
  GIVEN WITH THE SEED: the statements are not yours to turn. If you find one false, say at which input.
  Laid BY PROGRAM, IN A SANDBOX (cutbox-rows.mjs): the forced cells as the released guide's own fill.sh prints them over the translation 0ad7ec748202d1d1… (all of the seat's roots in one cut). By AI agents, Wed Nov 11 2026. No macro, syntax, notation, axiom, sorry.
-/
import Derived.Test.YtmdmplphendpcabChecked
import GoSem.Claim
import GoSem.ClaimJoined
import GoSem.ClaimMapViews
import Derived.JoinedTies
import Derived.KernelRfl
namespace Go.Proofs.Ytmdmplphendpcab
/- THE CELL 'sum', in the pinned program and in every row, IS THE sha256 OF THE DUMP (.gsa) THAT YtmdmplphendpcabProg.lean LOADS. Nothing in Lean hashes anything: it is a label: what it is worth is what the hold of that sum in a sandbox is worth. -/
noncomputable def Try.pinned : Pinned := { name := "ytmdmplphendpcab", sum := "0ad7ec748202d1d16b727072c0b2a770f9b877a956c02f02212f5355787906c6", checked := Try.checked }
namespace Rows
def none {H : Type} : Left H := { results := [], args := [] }

/-- 'laws.FnExactStatsTotal': WHATEVER THE INPUT: true; the input reads as it did. -/
def fnExactStatsTotalSpec : ChangeSpec := { name := "fnExactStatsTotal", fn := fun _ => fun
  | [d1, d2] => { results := [.lit (.bool true)], args := [d1, d2] }
  | _ => none }
def fnExactStatsTotalRow : OpenClaim := { program := "ytmdmplphendpcab", sum := "0ad7ec748202d1d16b727072c0b2a770f9b877a956c02f02212f5355787906c6", func := "loop.example/g00477/laws.FnExactStatsTotal", spec := "fnExactStatsTotal", apart := false }
def FnExactStatsTotalSaid : Prop := fnExactStatsTotalRow.holds Try.pinned (OpenSpec.ofChange fnExactStatsTotalSpec)

/-- ITS FALSE NEIGHBOUR: 'it returns false'. Refute it at one input. -/
def fnExactStatsTotalWrong : ChangeSpec := { name := "fnExactStatsTotal", fn := fun _ => fun
  | [d1, d2] => { results := [.lit (.bool false)], args := [d1, d2] }
  | _ => none }
def FnExactStatsTotalWrongFalsely : Prop := fnExactStatsTotalRow.holds Try.pinned (OpenSpec.ofChange fnExactStatsTotalWrong)

/-- 'laws.FnExactStatsPure': WHATEVER THE INPUT: true; the input reads as it did. -/
def fnExactStatsPureSpec : ChangeSpec := { name := "fnExactStatsPure", fn := fun _ => fun
  | [d1, d2] => { results := [.lit (.bool true)], args := [d1, d2] }
  | _ => none }
def fnExactStatsPureRow : OpenClaim := { program := "ytmdmplphendpcab", sum := "0ad7ec748202d1d16b727072c0b2a770f9b877a956c02f02212f5355787906c6", func := "loop.example/g00477/laws.FnExactStatsPure", spec := "fnExactStatsPure", apart := false }
def FnExactStatsPureSaid : Prop := fnExactStatsPureRow.holds Try.pinned (OpenSpec.ofChange fnExactStatsPureSpec)

/-- ITS FALSE NEIGHBOUR: 'it returns false'. Refute it at one input. -/
def fnExactStatsPureWrong : ChangeSpec := { name := "fnExactStatsPure", fn := fun _ => fun
  | [d1, d2] => { results := [.lit (.bool false)], args := [d1, d2] }
  | _ => none }
def FnExactStatsPureWrongFalsely : Prop := fnExactStatsPureRow.holds Try.pinned (OpenSpec.ofChange fnExactStatsPureWrong)

/-- 'laws.FnExactTopOf': WHATEVER THE INPUT: true; the input reads as it did. -/
def fnExactTopOfSpec : ChangeSpec := { name := "fnExactTopOf", fn := fun _ => fun
  | [d] => { results := [.lit (.bool true)], args := [d] }
  | _ => none }
def fnExactTopOfRow : OpenClaim := { program := "ytmdmplphendpcab", sum := "0ad7ec748202d1d16b727072c0b2a770f9b877a956c02f02212f5355787906c6", func := "loop.example/g00477/laws.FnExactTopOf", spec := "fnExactTopOf", apart := false }
def FnExactTopOfSaid : Prop := fnExactTopOfRow.holds Try.pinned (OpenSpec.ofChange fnExactTopOfSpec)

/-- ITS FALSE NEIGHBOUR: 'it returns false'. Refute it at one input. -/
def fnExactTopOfWrong : ChangeSpec := { name := "fnExactTopOf", fn := fun _ => fun
  | [d] => { results := [.lit (.bool false)], args := [d] }
  | _ => none }
def FnExactTopOfWrongFalsely : Prop := fnExactTopOfRow.holds Try.pinned (OpenSpec.ofChange fnExactTopOfWrong)

/-- 'laws.FnExactPromise': WHATEVER THE INPUT: true; the input reads as it did. -/
def fnExactPromiseSpec : ChangeSpec := { name := "fnExactPromise", fn := fun _ => fun
  | [d1, d2] => { results := [.lit (.bool true)], args := [d1, d2] }
  | _ => none }
def fnExactPromiseRow : OpenClaim := { program := "ytmdmplphendpcab", sum := "0ad7ec748202d1d16b727072c0b2a770f9b877a956c02f02212f5355787906c6", func := "loop.example/g00477/laws.FnExactPromise", spec := "fnExactPromise", apart := false }
def FnExactPromiseSaid : Prop := fnExactPromiseRow.holds Try.pinned (OpenSpec.ofChange fnExactPromiseSpec)

/-- ITS FALSE NEIGHBOUR: 'it returns false'. Refute it at one input. -/
def fnExactPromiseWrong : ChangeSpec := { name := "fnExactPromise", fn := fun _ => fun
  | [d1, d2] => { results := [.lit (.bool false)], args := [d1, d2] }
  | _ => none }
def FnExactPromiseWrongFalsely : Prop := fnExactPromiseRow.holds Try.pinned (OpenSpec.ofChange fnExactPromiseWrong)

/-- 'laws.FnExactThin': WHATEVER THE INPUT: true; the input reads as it did. -/
def fnExactThinSpec : ChangeSpec := { name := "fnExactThin", fn := fun _ => fun
  | [d] => { results := [.lit (.bool true)], args := [d] }
  | _ => none }
def fnExactThinRow : OpenClaim := { program := "ytmdmplphendpcab", sum := "0ad7ec748202d1d16b727072c0b2a770f9b877a956c02f02212f5355787906c6", func := "loop.example/g00477/laws.FnExactThin", spec := "fnExactThin", apart := false }
def FnExactThinSaid : Prop := fnExactThinRow.holds Try.pinned (OpenSpec.ofChange fnExactThinSpec)

/-- ITS FALSE NEIGHBOUR: 'it returns false'. Refute it at one input. -/
def fnExactThinWrong : ChangeSpec := { name := "fnExactThin", fn := fun _ => fun
  | [d] => { results := [.lit (.bool false)], args := [d] }
  | _ => none }
def FnExactThinWrongFalsely : Prop := fnExactThinRow.holds Try.pinned (OpenSpec.ofChange fnExactThinWrong)

/-- 'laws.FnExactStatsSame': WHATEVER THE INPUT: true; the input reads as it did. -/
def fnExactStatsSameSpec : ChangeSpec := { name := "fnExactStatsSame", fn := fun _ => fun
  | [d1, d2] => { results := [.lit (.bool true)], args := [d1, d2] }
  | _ => none }
def fnExactStatsSameRow : OpenClaim := { program := "ytmdmplphendpcab", sum := "0ad7ec748202d1d16b727072c0b2a770f9b877a956c02f02212f5355787906c6", func := "loop.example/g00477/laws.FnExactStatsSame", spec := "fnExactStatsSame", unfollowed := true, recurses := true, apart := false }
def FnExactStatsSameSaid : Prop := fnExactStatsSameRow.holds Try.pinned (OpenSpec.ofChange fnExactStatsSameSpec)

/-- ITS FALSE NEIGHBOUR: 'it returns false'. Refute it at one input. -/
def fnExactStatsSameWrong : ChangeSpec := { name := "fnExactStatsSame", fn := fun _ => fun
  | [d1, d2] => { results := [.lit (.bool false)], args := [d1, d2] }
  | _ => none }
def FnExactStatsSameWrongFalsely : Prop := fnExactStatsSameRow.holds Try.pinned (OpenSpec.ofChange fnExactStatsSameWrong)

/- THE SECOND FORM. 'bulk': how many values and letters a reading holds, each counted each time it is reached (what is shared counts as often as it is met; a slice's spare places count too). A statement '..UptoSaid' is the law's where the arguments, and the package variables that the reading takes, are together of bulk at most 1048576: NARROWER than '..Said'. Prove '..Said' where nothing that the law and all that it calls make is longer than what came in: it says more and counts as full. Else prove '..UptoSaid'. A law counts once. -/
mutual
def uptoBulk {H : Type} : DataW H → Nat
  | .lit (.string bytes) => bytes.length + 1
  | .lit _ => 1
  | .nil => 1
  | .ptr d => uptoBulk d + 1
  | .slice elems spare => uptoBulkAll elems + uptoBulkAll spare + 1
  | .agg parts => uptoBulkAll parts + 1
  | .iface _ d => uptoBulk d + 1
  | .map entries => uptoBulkEntries entries + 1
  | .held _ => 1
def uptoBulkAll {H : Type} : List (DataW H) → Nat
  | [] => 0
  | d :: r => uptoBulk d + uptoBulkAll r
def uptoBulkEntries {H : Type} : List (Lit × DataW H) → Nat
  | [] => 0
  | x :: r => uptoBulkEntry x + uptoBulkEntries r
def uptoBulkEntry {H : Type} : Lit × DataW H → Nat
  | (.string bytes, d) => bytes.length + uptoBulk d + 1
  | (_, d) => uptoBulk d + 1
 end
def uptoSmall : (H : Type) → List (DataW H) → Bool := fun _ ds => decide (uptoBulkAll ds ≤ 1048576)
def OpenSpec.upto (s : _root_.Go.ChangeSpec) : _root_.Go.OpenSpec := { _root_.Go.OpenSpec.ofChange s with cond := some uptoSmall }

/-- 'laws.FnExactStatsTotal', WHERE WHAT IT READS IS OF BULK AT MOST 1048576: true; the input reads as it did. -/
def fnExactStatsTotalUptoRow : OpenClaim := { program := "ytmdmplphendpcab", sum := "0ad7ec748202d1d16b727072c0b2a770f9b877a956c02f02212f5355787906c6", func := "loop.example/g00477/laws.FnExactStatsTotal", spec := "fnExactStatsTotal", apart := false, narrowed := true }
def FnExactStatsTotalUptoSaid : Prop := fnExactStatsTotalUptoRow.holds Try.pinned (OpenSpec.upto fnExactStatsTotalSpec)

/-- 'laws.FnExactStatsPure', WHERE WHAT IT READS IS OF BULK AT MOST 1048576: true; the input reads as it did. -/
def fnExactStatsPureUptoRow : OpenClaim := { program := "ytmdmplphendpcab", sum := "0ad7ec748202d1d16b727072c0b2a770f9b877a956c02f02212f5355787906c6", func := "loop.example/g00477/laws.FnExactStatsPure", spec := "fnExactStatsPure", apart := false, narrowed := true }
def FnExactStatsPureUptoSaid : Prop := fnExactStatsPureUptoRow.holds Try.pinned (OpenSpec.upto fnExactStatsPureSpec)

/-- 'laws.FnExactTopOf', WHERE WHAT IT READS IS OF BULK AT MOST 1048576: true; the input reads as it did. -/
def fnExactTopOfUptoRow : OpenClaim := { program := "ytmdmplphendpcab", sum := "0ad7ec748202d1d16b727072c0b2a770f9b877a956c02f02212f5355787906c6", func := "loop.example/g00477/laws.FnExactTopOf", spec := "fnExactTopOf", apart := false, narrowed := true }
def FnExactTopOfUptoSaid : Prop := fnExactTopOfUptoRow.holds Try.pinned (OpenSpec.upto fnExactTopOfSpec)

/-- 'laws.FnExactPromise', WHERE WHAT IT READS IS OF BULK AT MOST 1048576: true; the input reads as it did. -/
def fnExactPromiseUptoRow : OpenClaim := { program := "ytmdmplphendpcab", sum := "0ad7ec748202d1d16b727072c0b2a770f9b877a956c02f02212f5355787906c6", func := "loop.example/g00477/laws.FnExactPromise", spec := "fnExactPromise", apart := false, narrowed := true }
def FnExactPromiseUptoSaid : Prop := fnExactPromiseUptoRow.holds Try.pinned (OpenSpec.upto fnExactPromiseSpec)

/-- 'laws.FnExactThin', WHERE WHAT IT READS IS OF BULK AT MOST 1048576: true; the input reads as it did. -/
def fnExactThinUptoRow : OpenClaim := { program := "ytmdmplphendpcab", sum := "0ad7ec748202d1d16b727072c0b2a770f9b877a956c02f02212f5355787906c6", func := "loop.example/g00477/laws.FnExactThin", spec := "fnExactThin", apart := false, narrowed := true }
def FnExactThinUptoSaid : Prop := fnExactThinUptoRow.holds Try.pinned (OpenSpec.upto fnExactThinSpec)

/-- 'laws.FnExactStatsSame', WHERE WHAT IT READS IS OF BULK AT MOST 1048576: true; the input reads as it did. -/
def fnExactStatsSameUptoRow : OpenClaim := { program := "ytmdmplphendpcab", sum := "0ad7ec748202d1d16b727072c0b2a770f9b877a956c02f02212f5355787906c6", func := "loop.example/g00477/laws.FnExactStatsSame", spec := "fnExactStatsSame", unfollowed := true, recurses := true, apart := false, narrowed := true }
def FnExactStatsSameUptoSaid : Prop := fnExactStatsSameUptoRow.holds Try.pinned (OpenSpec.upto fnExactStatsSameSpec)

end Rows
end Go.Proofs.Ytmdmplphendpcab
