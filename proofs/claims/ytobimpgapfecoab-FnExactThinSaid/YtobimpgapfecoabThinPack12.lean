/- Texts of this claim, put together: part 12. -/
import Derived.Test.YtobimpgapfecoabThinPack11
import Derived.Test.YtobimpgapfecoabThinPack3
/- In a region that draws its order: the load of a whole struct. -/
namespace Go.Proofs.Ytobimpgapfecoab
open Go.RowKit
set_option maxRecDepth 100000

theorem yields_row {ops : Array Oper} {S : World → Prop} {op : Oper} {a : Act} {T : TypeId} {d : Array Field} {cs : Array Value} (hu : Try.prog.underlying T = some (.struct d))
    (hi : (Try.prog.info? T).map (·.size) = some cs.size) (hw : Region.wanted op (yielded ops a.tmps) = true) (x : Operand) (ho : op.op = .load T x)
    (g : Nat) (hx : a.eval x = .pointer (some ⟨g, 0, none⟩)) (hS : ∀ w, S w → Blk T w g cs) : YieldsIf Try.prog ops S op (.agg cs) a :=
  .inl ⟨hw, fun w hw' => by
    unfold execOp
    simp only [ho, hx, Instr.loadAt, Instr.sureAddr, Sem.run_bind, Sem.run_pure, Result.andThen_ok, run_loadVar_row w g _ T _ _ _ (hS w hw') hu rfl hi]⟩
end Go.Proofs.Ytobimpgapfecoab
