/- A great number inside: an array of sixteen limbs in a block of its own. -/
import Derived.Test.YtonimdaimldbgaaRows
import Derived.WalkKit
import Derived.ProofKit
import Derived.OpenShut
import Derived.Deep.WholeRow
import Derived.Test.YtonimdaimldbgaaLa
namespace Go.Proofs.Ytonimdaimldbgaa
open Go.RowKit
set_option maxRecDepth 100000

/-- The cells of a list of limbs. -/
def arr (a : List Nat) : Array Value := ((up a).map (Value.int .i64)).toArray
theorem arr_size (a : List Nat) : (arr a).size = a.length := by simp [arr, up_len]
theorem arr_get (a : List Nat) (j : Nat) (h : j < a.length) : (arr a)[j]? = some (.int .i64 ((a.getD j 0 : Nat) : Int)) := by
  rw [← up_getD]
  unfold arr
  rw [List.getElem?_toArray, List.getElem?_map, List.getD_eq_getElem?_getD, List.getElem?_eq_getElem (by rw [up_len]; exact h)]
  rfl
theorem arr_set (a : List Nat) (k d : Nat) : (arr a).setIfInBounds k (.int .i64 (d : Int)) = arr (a.set k d) := by
  unfold arr up
  rw [List.setIfInBounds_toArray, List.map_set, List.map_set]
theorem arr_one (a : List Nat) : (arr a).all (·.oneCell') = true := by
  rw [Array.all_eq_true_iff_forall_mem]
  intro v hv
  unfold arr at hv
  rw [List.mem_toArray] at hv
  obtain ⟨z, _, rfl⟩ := List.mem_map.1 hv
  rfl

/-- Block g holds these limbs. -/
def ArrT (t : TypeId) (w : World) (g : Nat) (a : List Nat) : Prop := w.heap[g]? = some (.cells (arr a) t (0, 0))
abbrev Arr (w : World) (g : Nat) (a : List Nat) : Prop := ArrT 44 w g a
theorem ArrT.lt {t : TypeId} {w : World} {g : Nat} {a : List Nat} (h : ArrT t w g a) : g < w.heap.size := (Array.getElem?_eq_some_iff.1 h).1
theorem ArrT.cell {t : TypeId} {w : World} {g : Nat} {a : List Nat} (h : ArrT t w g a) (j : Nat) (hj : j < a.length) : w.cell? ⟨g, j, none⟩ = some (.int .i64 ((a.getD j 0 : Nat) : Int)) := by
  rw [cell_of_row w g j _ _ _ h]; exact arr_get a j hj
theorem ArrT.frozen {t : TypeId} {w : World} {g : Nat} {a : List Nat} (h : ArrT t w g a) (j : Nat) : w.frozen? ⟨g, j, none⟩ = false := by
  unfold World.frozen?
  rw [show w.heap[(⟨g, j, none⟩ : Addr).block]? = _ from h]
  simp
theorem ArrT.new (t : TypeId) (w : World) (a : List Nat) : ArrT t (w.alloc (.cells (arr a) t)) w.heap.size a := heap_alloc_last w _
theorem ArrT.alloc {t : TypeId} {w : World} {g : Nat} {a : List Nat} (h : ArrT t w g a) (o : Obj) : ArrT t (w.alloc o) g a := by
  have := h.lt
  unfold ArrT at h ⊢
  show (w.heap.push o)[g]? = _
  rw [Array.getElem?_push, if_neg (by omega)]; exact h
theorem ArrT.below {t : TypeId} {w w' : World} {g : Nat} {a : List Nat} (h : ArrT t w g a) (hb : Below w.heap.size w w') : ArrT t w' g a := by
  unfold ArrT at h ⊢
  rw [hb.block g (ArrT.lt h)]; exact h
theorem ArrT.set {t : TypeId} {w : World} {g : Nat} {a : List Nat} (h : ArrT t w g a) (k d : Nat) : ArrT t (w.setCell ⟨g, k, none⟩ (.int .i64 (d : Int))) g (a.set k d) := by
  unfold ArrT at h ⊢
  have hlt : g < w.heap.size := (Array.getElem?_eq_some_iff.1 h).1
  have hv : w.heap[g] = .cells (arr a) t (0, 0) := (Array.getElem?_eq_some_iff.1 h).2
  unfold World.setCell
  rw [Array.getElem?_eq_getElem (by simpa using hlt), Array.getElem_modify]
  simp [hv, arr_set]
theorem ArrT.other {t : TypeId} {w : World} {g : Nat} {a : List Nat} (h : ArrT t w g a) (p : Addr) (v : Value) (hp : p.block ≠ g) : ArrT t (w.setCell p v) g a := by
  unfold ArrT at h ⊢
  simp only [World.setCell, Array.getElem?_modify, if_neg hp]; exact h
theorem limbs_info : (Try.prog.info? 44).map (fun i => (i.zero, i.size)) = some (some (.agg (arr (List.replicate 16 0))), 16) := by kernel_rfl
theorem limbs_size : (Try.prog.info? 44).map (·.size) = some 16 := (zero_of_info limbs_info).2
theorem Arr.load {w : World} {g : Nat} {a : List Nat} (h : Arr w g a) (hl : a.length = 16) : (Instr.loadAt 44 (.pointer (some ⟨g, 0, none⟩))).run Try.prog w = .ok (.agg (arr a)) w := by
  simp only [Instr.loadAt, Instr.sureAddr, Sem.run_bind, Sem.run_pure, Result.andThen]
  exact run_loadVar_row w g _ _ _ _ _ h Try.underlying44 rfl (by rw [limbs_size, arr_size, hl])
theorem Arr.store {w : World} {g : Nat} {a : List Nat} (h : Arr w g a) (hl : a.length = 16) (b : List Nat) (hb : b.length = 16) : (Instr.storeAt 44 (.pointer (some ⟨g, 0, none⟩)) (.agg (arr b))).run Try.prog w = .ok () (w.setRow g (arr b)) := by
  simp only [Instr.storeAt, Instr.sureAddr, Sem.run_bind, Sem.run_pure, Result.andThen]
  exact run_storeVar_row w g _ _ _ _ h (by rw [limbs_size, arr_size, hb]) (by rw [arr_size, arr_size, hl, hb]) (arr_one b)
theorem ArrT.setRow {t : TypeId} {w : World} {g : Nat} {a : List Nat} (h : ArrT t w g a) (b : List Nat) : ArrT t (w.setRow g (arr b)) g b := setRow_heap w g _ _ _ _ h
theorem ArrT.setRow_other {t : TypeId} {w : World} {g k : Nat} {a : List Nat} (h : ArrT t w g a) (c : Array Value) (hk : g ≠ k) : ArrT t (w.setRow k c) g a := by
  unfold ArrT at h ⊢
  rw [Go.setRow_other w k g c hk]; exact h

/-- A whole array is loaded, stored, handed back. -/
theorem wp_arr_load {ops : Array Oper} {rest : List Oper} {o : Oper} {a : Act} {w : World} {Q : Exit → Act → World → Prop} (hgd : o.guard = none) (x : Operand) (ho : o.op = .load 44 x)
    (h : ∃ g, a.eval x = .pointer (some ⟨g, 0, none⟩) ∧ ∃ xs, Arr w g xs ∧ xs.length = 16 ∧ wpList Try.prog ops Q rest (a.put o.dst (.agg (arr xs))) w) : wpList Try.prog ops Q (o :: rest) a w := by
  obtain ⟨g, hx, xs, hA, hl, hk⟩ := h
  exact wpList_load_row hgd 44 x ho g hx _ _ _ _ hA Try.underlying44 rfl (by rw [limbs_size, arr_size, hl]) hk
theorem wp_arr_store {ops : Array Oper} {rest : List Oper} {o : Oper} {a : Act} {w : World} {Q : Exit → Act → World → Prop} (hgd : o.guard = none) (x y : Operand) (ho : o.op = .store 44 x y)
    (h : ∃ g, a.eval x = .pointer (some ⟨g, 0, none⟩) ∧ ∃ b, a.eval y = .agg (arr b) ∧ b.length = 16 ∧ ∃ xs, Arr w g xs ∧ xs.length = 16 ∧ wpList Try.prog ops Q rest (a.put o.dst undef) (w.setRow g (arr b))) : wpList Try.prog ops Q (o :: rest) a w := by
  obtain ⟨g, hx, b, hy, hb, xs, hA, hl, hk⟩ := h
  exact wpList_store_row hgd 44 x y ho g (arr b) hx hy _ _ hA (by rw [limbs_size, arr_size, hb]) (by rw [arr_size, arr_size, hl, hb]) (arr_one b) hk
theorem arr_loadVar {w : World} {g : Nat} {a : List Nat} (h : Arr w g a) (hl : a.length = 16) : (loadVar 44 ⟨g, 0, none⟩).run Try.prog w = .ok (.agg (arr a)) w :=
  run_loadVar_row w g _ _ _ _ _ h Try.underlying44 rfl (by rw [limbs_size, arr_size, hl])
theorem res_arr1 {fn : Func} {p : Tmp} (h : fn.results = #[.cell p 44]) (tmps : Array Value) (w : World) (g : Nat) (a : List Nat)
    (hp : tmps.getD p undef = .pointer (some ⟨g, 0, none⟩)) (hg : Arr w g a) (hl : a.length = 16) : (results fn tmps).run Try.prog w = .ok (.agg (arr a)) w := by
  have hp' : tmps[p]?.getD undef = .pointer (some ⟨g, 0, none⟩) := by simpa using hp
  simp [results, h, hp', asAddr, arr_loadVar hg hl]
theorem res_arr2 {fn : Func} {p u : Tmp} (h : fn.results = #[.cell p 44, .tmp u]) (tmps : Array Value) (w : World) (g : Nat) (a : List Nat)
    (hp : tmps.getD p undef = .pointer (some ⟨g, 0, none⟩)) (hg : Arr w g a) (hl : a.length = 16) : (results fn tmps).run Try.prog w = .ok (.tuple #[.agg (arr a), tmps.getD u undef]) w := by
  have hp' : tmps[p]?.getD undef = .pointer (some ⟨g, 0, none⟩) := by simpa using hp
  simp [results, h, hp', asAddr, arr_loadVar hg hl]
theorem res_arr3 {fn : Func} {p q u : Tmp} (h : fn.results = #[.cell p 44, .cell q 44, .tmp u]) (tmps : Array Value) (w : World) (g : Nat) (a : List Nat) (g' : Nat) (b : List Nat)
    (hp : tmps.getD p undef = .pointer (some ⟨g, 0, none⟩)) (hq : tmps.getD q undef = .pointer (some ⟨g', 0, none⟩)) (hg : Arr w g a) (hl : a.length = 16) (hg' : Arr w g' b) (hl' : b.length = 16) : (results fn tmps).run Try.prog w = .ok (.tuple #[.agg (arr a), .agg (arr b), tmps.getD u undef]) w := by
  have hp' : tmps[p]?.getD undef = .pointer (some ⟨g, 0, none⟩) := by simpa using hp
  have hq' : tmps[q]?.getD undef = .pointer (some ⟨g', 0, none⟩) := by simpa using hq
  simp [results, h, hp', hq', asAddr, arr_loadVar hg hl, arr_loadVar hg' hl']
theorem below_setRow {n : Nat} {w w' : World} (h : Below n w w') {g : Nat} (hg : n ≤ g) (c : Array Value) : Below n w (w'.setRow g c) :=
  h.trans ⟨rfl, rfl, rfl, by simp [World.setRow], fun k hk => Go.setRow_other _ _ _ _ (by omega)⟩
theorem eq0_cast (c : Nat) : ((c : Int) == 0) = decide (c = 0) := by
  rw [Bool.eq_iff_iff]; simp
/-- A great number inside, as a value. -/
def fitV (n : Nat) : Value := .agg (arr (fit n))
theorem zero_cells : #[Value.int .i64 0, Value.int .i64 0, Value.int .i64 0, Value.int .i64 0, Value.int .i64 0, Value.int .i64 0, Value.int .i64 0, Value.int .i64 0, Value.int .i64 0, Value.int .i64 0, Value.int .i64 0, Value.int .i64 0, Value.int .i64 0, Value.int .i64 0, Value.int .i64 0, Value.int .i64 0] = arr (fit 0) := by rw [fit_zero]; rfl
theorem zero_val {v : Value} (h : v = .agg #[Value.int .i64 0, Value.int .i64 0, Value.int .i64 0, Value.int .i64 0, Value.int .i64 0, Value.int .i64 0, Value.int .i64 0, Value.int .i64 0, Value.int .i64 0, Value.int .i64 0, Value.int .i64 0, Value.int .i64 0, Value.int .i64 0, Value.int .i64 0, Value.int .i64 0, Value.int .i64 0]) : v = .agg (arr (fit 0)) := h.trans (congrArg Value.agg zero_cells)
theorem arr_1 (t : TypeId) (w : World) (xs : List Nat) : ArrT t (w.alloc (.cells (arr xs) t)) w.heap.size xs ∧ Below w.heap.size w (w.alloc (.cells (arr xs) t)) :=
  ⟨ArrT.new t w xs, (Below.refl _ _).alloc (Nat.le_refl _) _⟩
theorem arr_2 (t u : TypeId) (w : World) (xs ys : List Nat) : ArrT t ((w.alloc (.cells (arr xs) t)).alloc (.cells (arr ys) u)) w.heap.size xs ∧ ArrT u ((w.alloc (.cells (arr xs) t)).alloc (.cells (arr ys) u)) (w.heap.size + 1) ys ∧
    Below w.heap.size w ((w.alloc (.cells (arr xs) t)).alloc (.cells (arr ys) u)) := by
  refine ⟨(ArrT.new t w xs).alloc _, ?_, ((Below.refl _ _).alloc (Nat.le_refl _) _).alloc (by simp) _⟩
  have := ArrT.new u (w.alloc (.cells (arr xs) t)) ys
  simpa using this
theorem arr_3 (t u v : TypeId) (w : World) (xs ys zs : List Nat) : ArrT t (((w.alloc (.cells (arr xs) t)).alloc (.cells (arr ys) u)).alloc (.cells (arr zs) v)) w.heap.size xs ∧ ArrT u (((w.alloc (.cells (arr xs) t)).alloc (.cells (arr ys) u)).alloc (.cells (arr zs) v)) (w.heap.size + 1) ys ∧
    ArrT v (((w.alloc (.cells (arr xs) t)).alloc (.cells (arr ys) u)).alloc (.cells (arr zs) v)) (w.heap.size + 1 + 1) zs ∧ Below w.heap.size w (((w.alloc (.cells (arr xs) t)).alloc (.cells (arr ys) u)).alloc (.cells (arr zs) v)) := by
  obtain ⟨h1, h2, h3⟩ := arr_2 t u w xs ys
  refine ⟨h1.alloc _, h2.alloc _, ?_, h3.alloc (by simp; omega) _⟩
  have := ArrT.new v ((w.alloc (.cells (arr xs) t)).alloc (.cells (arr ys) u)) zs
  simpa using this
/-- A whole array into a variable that was just made. -/
theorem wp_arr_init {ops : Array Oper} {rest : List Oper} {o : Oper} {a : Act} {w : World} {Q : Exit → Act → World → Prop} (hgd : o.guard = none) (x y : Operand) (ho : o.op = .store 44 x y)
    (h : ∃ g, a.eval x = .pointer (some ⟨g, 0, none⟩) ∧ g = w.heap.size ∧ ∃ b, a.eval y = .agg (arr b) ∧ b.length = 16 ∧ wpList Try.prog ops Q rest (a.put o.dst undef) (w.alloc (.cells (arr b) 44))) :
    wpList Try.prog ops Q (o :: rest) a (w.alloc (.cells #[Value.int .i64 0, Value.int .i64 0, Value.int .i64 0, Value.int .i64 0, Value.int .i64 0, Value.int .i64 0, Value.int .i64 0, Value.int .i64 0, Value.int .i64 0, Value.int .i64 0, Value.int .i64 0, Value.int .i64 0, Value.int .i64 0, Value.int .i64 0, Value.int .i64 0, Value.int .i64 0] 44)) := by
  obtain ⟨g, hx, rfl, b, hy, hb, hk⟩ := h
  rw [zero_cells]
  refine wp_arr_store hgd x y ho ⟨_, hx, b, hy, hb, fit 0, ArrT.new _ w _, fit_len 0, ?_⟩
  rw [World.setRow_alloc_new]
  exact hk
theorem setRow_alloc_last2 (w : World) (c c' : Array Value) (t : TypeId) (o : Obj) : ((w.alloc (.cells c t)).alloc o).setRow w.heap.size c' = (w.alloc (.cells c' t)).alloc o := by
  rw [← World.setRow_alloc_new w c c' t]
  have hs : w.heap.size < (w.alloc (.cells c t)).heap.size := by simp
  generalize w.alloc (.cells c t) = W at hs
  simp only [World.setRow, World.alloc]
  congr 1
  apply Array.ext_getElem?
  intro i
  rw [Array.getElem?_modify, Array.getElem?_push, Array.getElem?_push, Array.getElem?_modify, Array.size_modify]
  by_cases h : i = W.heap.size
  · subst h
    rw [if_neg (by omega), if_pos rfl, if_pos rfl]
  · rw [if_neg h, if_neg h]
/-- .. into the one that was made ahead of the last. -/
theorem wp_arr_init2 {ops : Array Oper} {rest : List Oper} {o : Oper} {a : Act} {w : World} {Q : Exit → Act → World → Prop} {ob : Obj} (hgd : o.guard = none) (x y : Operand) (ho : o.op = .store 44 x y)
    (h : ∃ g, a.eval x = .pointer (some ⟨g, 0, none⟩) ∧ g = w.heap.size ∧ ∃ b, a.eval y = .agg (arr b) ∧ b.length = 16 ∧ wpList Try.prog ops Q rest (a.put o.dst undef) ((w.alloc (.cells (arr b) 44)).alloc ob)) :
    wpList Try.prog ops Q (o :: rest) a ((w.alloc (.cells #[Value.int .i64 0, Value.int .i64 0, Value.int .i64 0, Value.int .i64 0, Value.int .i64 0, Value.int .i64 0, Value.int .i64 0, Value.int .i64 0, Value.int .i64 0, Value.int .i64 0, Value.int .i64 0, Value.int .i64 0, Value.int .i64 0, Value.int .i64 0, Value.int .i64 0, Value.int .i64 0] 44)).alloc ob) := by
  obtain ⟨g, hx, rfl, b, hy, hb, hk⟩ := h
  rw [zero_cells]
  refine wp_arr_store hgd x y ho ⟨_, hx, b, hy, hb, fit 0, (ArrT.new _ w _).alloc _, fit_len 0, ?_⟩
  rw [setRow_alloc_last2]
  exact hk
end Go.Proofs.Ytonimdaimldbgaa
