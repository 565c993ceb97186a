/- Whole arrays in a region that draws its order. -/
import Derived.Test.YtonimdaimldbgaaAr
import Derived.Test.YtonimdaimldbgaaTk
namespace Go.Proofs.Ytonimdaimldbgaa
open Go.RowKit
set_option maxRecDepth 100000

/-- In a region that draws its order the load of a whole array may be taken first. -/
theorem yields_arr {ops : Array Oper} {S : World → Prop} {op : Oper} {a : Act} (hw : Region.wanted op (yielded ops a.tmps) = true) (x : Operand) (ho : op.op = .load 44 x)
    (g : Nat) (hx : a.eval x = .pointer (some ⟨g, 0, none⟩)) (xs : List Nat) (hS : ∀ w, S w → Arr w g xs) (hl : xs.length = 16) : YieldsIf Try.prog ops S op (.agg (arr xs)) a :=
  .inl ⟨hw, fun w hw' => by
    unfold execOp
    simp only [ho, hx, Instr.loadAt, Instr.sureAddr, Sem.run_bind, Sem.run_pure, Result.andThen_ok, arr_loadVar (hS w hw') hl]⟩
theorem wp_store_arr {o : Oper} {a : Act} {w : World} {K : Act → World → Prop} {Q : Exit → Act → World → Prop} (x y : Operand) (ho : o.op = .store 44 x y)
    (g : Nat) (b : List Nat) (hx : a.eval x = .pointer (some ⟨g, 0, none⟩)) (hy : a.eval y = .agg (arr b)) (hb : b.length = 16) (xs : List Nat) (hA : Arr w g xs) (hl : xs.length = 16)
    (h : K (a.put o.dst undef) (w.setRow g (arr b))) : o.wp Try.prog a w K Q :=
  wp_store_row 44 x y ho g (arr b) hx hy _ _ hA (by rw [limbs_size, arr_size, hb]) (by rw [arr_size, arr_size, hl, hb]) (arr_one b) h
end Go.Proofs.Ytonimdaimldbgaa
