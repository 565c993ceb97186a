/- Counts in a block of their own: they are read and written whole, they are handed back. -/
import Derived.Test.YtmdmplphendpcabSap
import Derived.Test.YtmdmplphendpcabBl
namespace Go.Proofs.Ytmdmplphendpcab
open Go.RowKit
set_option maxRecDepth 100000
set_option linter.unusedSimpArgs false
theorem st_size : (Try.prog.info? 37).map (·.size) = some 2 := by kernel_rfl
theorem wp_st_load {ops : Array Oper} {rest : List Oper} {o : Oper} {a : Act} {w : World} {Q : Exit → Act → World → Prop} (hgd : o.guard = none) (x : Operand) (ho : o.op = .load 37 x)
    (h : ∃ g, a.eval x = .pointer (some ⟨g, 0, none⟩) ∧ ∃ c0 c1, Blk 37 w g #[c0, c1] ∧ wpList Try.prog ops Q rest (a.put o.dst (.agg #[c0, c1])) w) : wpList Try.prog ops Q (o :: rest) a w := by
  obtain ⟨g, hx, c0, c1, hA, hk⟩ := h
  exact wpList_load_row hgd 37 x ho g hx _ _ _ _ hA Try.underlying37 rfl st_size hk
theorem wp_st_store {ops : Array Oper} {rest : List Oper} {o : Oper} {a : Act} {w : World} {Q : Exit → Act → World → Prop} (hgd : o.guard = none) (x y : Operand) (ho : o.op = .store 37 x y)
    (h : ∃ g, a.eval x = .pointer (some ⟨g, 0, none⟩) ∧ ∃ o1 l1 k1 o2 l2 k2, a.eval y = .agg #[.slice o1 l1 k1, .slice o2 l2 k2] ∧ ∃ d0 d1, Blk 37 w g #[d0, d1] ∧ wpList Try.prog ops Q rest (a.put o.dst undef) (w.setRow g #[.slice o1 l1 k1, .slice o2 l2 k2])) : wpList Try.prog ops Q (o :: rest) a w := by
  obtain ⟨g, hx, o1, l1, k1, o2, l2, k2, hy, d0, d1, hA, hk⟩ := h
  exact wpList_store_row hgd 37 x y ho g _ hx hy _ _ hA st_size rfl (by simp [Value.oneCell']) hk
theorem res_st {fn : Func} {p : Tmp} (h : fn.results = #[.cell p 37]) (tmps : Array Value) (w : World) (g : Nat) (c0 c1 : Value)
    (hp : tmps.getD p undef = .pointer (some ⟨g, 0, none⟩)) (hg : Blk 37 w g #[c0, c1]) : (results fn tmps).run Try.prog w = .ok (.agg #[c0, c1]) w :=
  results_cell_row h tmps w g _ _ _ _ hp hg Try.underlying37 rfl st_size
theorem res_st1 {fn : Func} {p q : Tmp} (h : fn.results = #[.cell p 37, .tmp q]) (tmps : Array Value) (w : World) (g : Nat) (c0 c1 v : Value)
    (hp : tmps.getD p undef = .pointer (some ⟨g, 0, none⟩)) (hq : tmps.getD q undef = v) (hg : Blk 37 w g #[c0, c1]) : (results fn tmps).run Try.prog w = .ok (.tuple #[.agg #[c0, c1], v]) w := by
  have hp' : tmps[p]?.getD undef = .pointer (some ⟨g, 0, none⟩) := by simpa using hp
  have hq' : tmps[q]?.getD undef = v := by simpa using hq
  simp [results, h, hp', hq', asAddr, run_loadVar_row w g _ 37 _ _ _ hg Try.underlying37 rfl st_size]
end Go.Proofs.Ytmdmplphendpcab
