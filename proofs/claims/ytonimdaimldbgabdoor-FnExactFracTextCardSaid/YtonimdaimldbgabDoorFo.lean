/- A fraction that comes in to a law: two integers. -/
import Derived.Test.YtonimdaimldbgabDoorFx
import Derived.Test.YtonimdaimldbgabDoorTk
import Derived.ChangeSame
namespace Go.Proofs.YtonimdaimldbgabDoor
open Go.ChangeShapes Go.WideShapes Go.ChangeAt Go.RowKit

theorem frac_cells : Tryd.prog.cellsOf 23 = 2 := by kernel_rfl
theorem int_cells : Tryd.prog.cellsOf 3 = 1 := by kernel_rfl
theorem open_frac {H : Type} {enc : TypeId × Value → H} {W : World} {r : Reach} {b0 base : Nat} {sp : Nat → Bool} {hd : Bool} {v : Value} {d : DataW H} {ps : List MemPlace}
    (hval : Value.okWide Tryd.prog W r b0 23 v) (h : DataW.Trod enc Tryd.prog W base sp hd 23 v d ps) :
    ∃ a b : Int, v = frV a b ∧ (Lit.int .i64 a).wf = true ∧ (Lit.int .i64 b).wf = true := by
  obtain ⟨cs, rfl, hs⟩ := okWide_struct Tryd.underlying23 hval
  obtain ⟨fuel, hf⟩ := h
  obtain ⟨y0, y1, n, -, hl, t0, t1⟩ := trod_struct2 Tryd.underlying23 hf
  obtain ⟨a, ha, -, wa⟩ := DataW.trod_int Tryd.underlying3 t0
  obtain ⟨b, hb, -, wb⟩ := DataW.trod_int Tryd.underlying3 t1
  rw [frac_cells] at hs
  refine ⟨a, b, ?_, wa, wb⟩
  obtain ⟨l⟩ := cs
  match l, hs with
  | [x, y], _ =>
    simp [Value.cells, int_cells] at ha hb
    rw [ha, hb]
theorem lfrac_size : (Tryd.prog.info? 23).map (·.size) = some 2 := by kernel_rfl
theorem yields_lfr {ops : Array Oper} {S : World → Prop} {op : Oper} {a : Act} (hw : Region.wanted op (yielded ops a.tmps) = true) (x : Operand) (ho : op.op = .load 23 x)
    (g : Nat) (hx : a.eval x = .pointer (some ⟨g, 0, none⟩)) (m n : Int) (hS : ∀ w, S w → FrT 23 w g m n) : YieldsIf Tryd.prog ops S op (frV m n) a :=
  .inl ⟨hw, fun w hw' => by
    unfold execOp
    simp only [ho, hx, Instr.loadAt, Instr.sureAddr, Sem.run_bind, Sem.run_pure, Result.andThen_ok, run_loadVar_row w g _ 23 _ _ _ (hS w hw') Tryd.underlying23 rfl lfrac_size]⟩
end Go.Proofs.YtonimdaimldbgabDoor
