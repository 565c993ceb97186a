/- An example in a block of its own: it is read and written whole, it is handed back. -/
import Derived.Test.YtfekcckckmhioaaExp
import Derived.Test.YtfekcckckmhioaaBl
namespace Go.Proofs.Ytfekcckckmhioaa
open Go.RowKit
set_option maxRecDepth 100000
theorem ex_size : (Try.prog.info? 36).map (·.size) = some 2 := by kernel_rfl
theorem wp_ex_load {ops : Array Oper} {rest : List Oper} {o : Oper} {a : Act} {w : World} {Q : Exit → Act → World → Prop} (hgd : o.guard = none) (x : Operand) (ho : o.op = .load 36 x)
    (h : ∃ g, a.eval x = .pointer (some ⟨g, 0, none⟩) ∧ ∃ c0 c1, Blk 36 w g #[c0, c1] ∧ wpList Try.prog ops Q rest (a.put o.dst (.agg #[c0, c1])) w) : wpList Try.prog ops Q (o :: rest) a w := by
  obtain ⟨g, hx, c0, c1, hA, hk⟩ := h
  exact wpList_load_row hgd 36 x ho g hx _ _ _ _ hA Try.underlying36 rfl ex_size hk
theorem wp_ex_store {ops : Array Oper} {rest : List Oper} {o : Oper} {a : Act} {w : World} {Q : Exit → Act → World → Prop} (hgd : o.guard = none) (x y : Operand) (ho : o.op = .store 36 x y)
    (h : ∃ g, a.eval x = .pointer (some ⟨g, 0, none⟩) ∧ ∃ o1 l1 k1 n, a.eval y = .agg #[.slice o1 l1 k1, .int .i64 n] ∧ ∃ d0 d1, Blk 36 w g #[d0, d1] ∧ wpList Try.prog ops Q rest (a.put o.dst undef) (w.setRow g #[.slice o1 l1 k1, .int .i64 n])) : wpList Try.prog ops Q (o :: rest) a w := by
  obtain ⟨g, hx, o1, l1, k1, n, hy, d0, d1, hA, hk⟩ := h
  exact wpList_store_row hgd 36 x y ho g _ hx hy _ _ hA ex_size rfl (by simp [Value.oneCell']) hk
theorem res_ex {fn : Func} {p : Tmp} (h : fn.results = #[.cell p 36]) (tmps : Array Value) (w : World) (g : Nat) (c0 c1 : Value)
    (hp : tmps.getD p undef = .pointer (some ⟨g, 0, none⟩)) (hg : Blk 36 w g #[c0, c1]) : (results fn tmps).run Try.prog w = .ok (.agg #[c0, c1]) w :=
  results_cell_row h tmps w g _ _ _ _ hp hg Try.underlying36 rfl ex_size
end Go.Proofs.Ytfekcckckmhioaa
