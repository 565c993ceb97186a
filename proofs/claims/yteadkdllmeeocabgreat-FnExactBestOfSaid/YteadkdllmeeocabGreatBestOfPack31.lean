/- Texts of this claim, put together: part 31. -/
import Derived.Test.YteadkdllmeeocabGreatRows
import Derived.WalkKit
import Derived.ProofKit
import Derived.OpenShut
import Derived.Deep.WholeRow
import Derived.Test.YteadkdllmeeocabGreatBestOfPack2
import Derived.Test.YteadkdllmeeocabGreatBestOfPack9
import Derived.Test.YteadkdllmeeocabGreatBestOfPack12
/- A great number inside: an array of sixteen limbs in a block of its own. -/
namespace Go.Proofs.YteadkdllmeeocabGreat
open Go.RowKit
set_option maxRecDepth 100000

/-- The cells of a list of limbs. -/
def arr (a : List Nat) : Array Value := ((up a).map (Value.int .i64)).toArray
theorem arr_size (a : List Nat) : (arr a).size = a.length := by simp [arr, up_len]
theorem arr_get (a : List Nat) (j : Nat) (h : j < a.length) : (arr a)[j]? = some (.int .i64 ((a.getD j 0 : Nat) : Int)) := by
  rw [← up_getD]
  unfold arr
  rw [List.getElem?_toArray, List.getElem?_map, List.getD_eq_getElem?_getD, List.getElem?_eq_getElem (by rw [up_len]; exact h)]
  rfl
theorem arr_set (a : List Nat) (k d : Nat) : (arr a).setIfInBounds k (.int .i64 (d : Int)) = arr (a.set k d) := by
  unfold arr up
  rw [List.setIfInBounds_toArray, List.map_set, List.map_set]
theorem arr_one (a : List Nat) : (arr a).all (·.oneCell') = true := by
  rw [Array.all_eq_true_iff_forall_mem]
  intro v hv
  unfold arr at hv
  rw [List.mem_toArray] at hv
  obtain ⟨z, _, rfl⟩ := List.mem_map.1 hv
  rfl

/-- Block g holds these limbs. -/
def ArrT (t : TypeId) (w : World) (g : Nat) (a : List Nat) : Prop := w.heap[g]? = some (.cells (arr a) t (0, 0))
abbrev Arr (w : World) (g : Nat) (a : List Nat) : Prop := ArrT 110 w g a
theorem ArrT.lt {t : TypeId} {w : World} {g : Nat} {a : List Nat} (h : ArrT t w g a) : g < w.heap.size := (Array.getElem?_eq_some_iff.1 h).1
theorem ArrT.cell {t : TypeId} {w : World} {g : Nat} {a : List Nat} (h : ArrT t w g a) (j : Nat) (hj : j < a.length) : w.cell? ⟨g, j, none⟩ = some (.int .i64 ((a.getD j 0 : Nat) : Int)) := by
  rw [cell_of_row w g j _ _ _ h]; exact arr_get a j hj
theorem ArrT.frozen {t : TypeId} {w : World} {g : Nat} {a : List Nat} (h : ArrT t w g a) (j : Nat) : w.frozen? ⟨g, j, none⟩ = false := by
  unfold World.frozen?
  rw [show w.heap[(⟨g, j, none⟩ : Addr).block]? = _ from h]
  simp
theorem ArrT.new (t : TypeId) (w : World) (a : List Nat) : ArrT t (w.alloc (.cells (arr a) t)) w.heap.size a := heap_alloc_last w _
theorem ArrT.alloc {t : TypeId} {w : World} {g : Nat} {a : List Nat} (h : ArrT t w g a) (o : Obj) : ArrT t (w.alloc o) g a := by
  have := h.lt
  unfold ArrT at h ⊢
  show (w.heap.push o)[g]? = _
  rw [Array.getElem?_push, if_neg (by omega)]; exact h
theorem ArrT.below {t : TypeId} {w w' : World} {g : Nat} {a : List Nat} (h : ArrT t w g a) (hb : Below w.heap.size w w') : ArrT t w' g a := by
  unfold ArrT at h ⊢
  rw [hb.block g (ArrT.lt h)]; exact h
theorem ArrT.set {t : TypeId} {w : World} {g : Nat} {a : List Nat} (h : ArrT t w g a) (k d : Nat) : ArrT t (w.setCell ⟨g, k, none⟩ (.int .i64 (d : Int))) g (a.set k d) := by
  unfold ArrT at h ⊢
  have hlt : g < w.heap.size := (Array.getElem?_eq_some_iff.1 h).1
  have hv : w.heap[g] = .cells (arr a) t (0, 0) := (Array.getElem?_eq_some_iff.1 h).2
  unfold World.setCell
  rw [Array.getElem?_eq_getElem (by simpa using hlt), Array.getElem_modify]
  simp [hv, arr_set]
theorem ArrT.other {t : TypeId} {w : World} {g : Nat} {a : List Nat} (h : ArrT t w g a) (p : Addr) (v : Value) (hp : p.block ≠ g) : ArrT t (w.setCell p v) g a := by
  unfold ArrT at h ⊢
  simp only [World.setCell, Array.getElem?_modify, if_neg hp]; exact h
theorem limbs_info : (Tryz.prog.info? 110).map (fun i => (i.zero, i.size)) = some (some (.agg (arr (List.replicate 16 0))), 16) := by kernel_rfl
theorem limbs_size : (Tryz.prog.info? 110).map (·.size) = some 16 := (zero_of_info limbs_info).2
theorem Arr.load {w : World} {g : Nat} {a : List Nat} (h : Arr w g a) (hl : a.length = 16) : (Instr.loadAt 110 (.pointer (some ⟨g, 0, none⟩))).run Tryz.prog w = .ok (.agg (arr a)) w := by
  simp only [Instr.loadAt, Instr.sureAddr, Sem.run_bind, Sem.run_pure, Result.andThen]
  exact run_loadVar_row w g _ _ _ _ _ h Tryz.underlying110 rfl (by rw [limbs_size, arr_size, hl])
theorem Arr.store {w : World} {g : Nat} {a : List Nat} (h : Arr w g a) (hl : a.length = 16) (b : List Nat) (hb : b.length = 16) : (Instr.storeAt 110 (.pointer (some ⟨g, 0, none⟩)) (.agg (arr b))).run Tryz.prog w = .ok () (w.setRow g (arr b)) := by
  simp only [Instr.storeAt, Instr.sureAddr, Sem.run_bind, Sem.run_pure, Result.andThen]
  exact run_storeVar_row w g _ _ _ _ h (by rw [limbs_size, arr_size, hb]) (by rw [arr_size, arr_size, hl, hb]) (arr_one b)
theorem ArrT.setRow {t : TypeId} {w : World} {g : Nat} {a : List Nat} (h : ArrT t w g a) (b : List Nat) : ArrT t (w.setRow g (arr b)) g b := setRow_heap w g _ _ _ _ h
theorem ArrT.setRow_other {t : TypeId} {w : World} {g k : Nat} {a : List Nat} (h : ArrT t w g a) (c : Array Value) (hk : g ≠ k) : ArrT t (w.setRow k c) g a := by
  unfold ArrT at h ⊢
  rw [Go.setRow_other w k g c hk]; exact h

/-- A whole array is loaded, stored, handed back. -/
theorem wp_arr_load {ops : Array Oper} {rest : List Oper} {o : Oper} {a : Act} {w : World} {Q : Exit → Act → World → Prop} (hgd : o.guard = none) (x : Operand) (ho : o.op = .load 110 x)
    (h : ∃ g, a.eval x = .pointer (some ⟨g, 0, none⟩) ∧ ∃ xs, Arr w g xs ∧ xs.length = 16 ∧ wpList Tryz.prog ops Q rest (a.put o.dst (.agg (arr xs))) w) : wpList Tryz.prog ops Q (o :: rest) a w := by
  obtain ⟨g, hx, xs, hA, hl, hk⟩ := h
  exact wpList_load_row hgd 110 x ho g hx _ _ _ _ hA Tryz.underlying110 rfl (by rw [limbs_size, arr_size, hl]) hk
theorem wp_arr_store {ops : Array Oper} {rest : List Oper} {o : Oper} {a : Act} {w : World} {Q : Exit → Act → World → Prop} (hgd : o.guard = none) (x y : Operand) (ho : o.op = .store 110 x y)
    (h : ∃ g, a.eval x = .pointer (some ⟨g, 0, none⟩) ∧ ∃ b, a.eval y = .agg (arr b) ∧ b.length = 16 ∧ ∃ xs, Arr w g xs ∧ xs.length = 16 ∧ wpList Tryz.prog ops Q rest (a.put o.dst undef) (w.setRow g (arr b))) : wpList Tryz.prog ops Q (o :: rest) a w := by
  obtain ⟨g, hx, b, hy, hb, xs, hA, hl, hk⟩ := h
  exact wpList_store_row hgd 110 x y ho g (arr b) hx hy _ _ hA (by rw [limbs_size, arr_size, hb]) (by rw [arr_size, arr_size, hl, hb]) (arr_one b) hk
theorem arr_loadVar {w : World} {g : Nat} {a : List Nat} (h : Arr w g a) (hl : a.length = 16) : (loadVar 110 ⟨g, 0, none⟩).run Tryz.prog w = .ok (.agg (arr a)) w :=
  run_loadVar_row w g _ _ _ _ _ h Tryz.underlying110 rfl (by rw [limbs_size, arr_size, hl])
theorem res_arr1 {fn : Func} {p : Tmp} (h : fn.results = #[.cell p 110]) (tmps : Array Value) (w : World) (g : Nat) (a : List Nat)
    (hp : tmps.getD p undef = .pointer (some ⟨g, 0, none⟩)) (hg : Arr w g a) (hl : a.length = 16) : (results fn tmps).run Tryz.prog w = .ok (.agg (arr a)) w := by
  have hp' : tmps[p]?.getD undef = .pointer (some ⟨g, 0, none⟩) := by simpa using hp
  simp [results, h, hp', asAddr, arr_loadVar hg hl]
theorem res_arr2 {fn : Func} {p u : Tmp} (h : fn.results = #[.cell p 110, .tmp u]) (tmps : Array Value) (w : World) (g : Nat) (a : List Nat)
    (hp : tmps.getD p undef = .pointer (some ⟨g, 0, none⟩)) (hg : Arr w g a) (hl : a.length = 16) : (results fn tmps).run Tryz.prog w = .ok (.tuple #[.agg (arr a), tmps.getD u undef]) w := by
  have hp' : tmps[p]?.getD undef = .pointer (some ⟨g, 0, none⟩) := by simpa using hp
  simp [results, h, hp', asAddr, arr_loadVar hg hl]
theorem res_arr3 {fn : Func} {p q u : Tmp} (h : fn.results = #[.cell p 110, .cell q 110, .tmp u]) (tmps : Array Value) (w : World) (g : Nat) (a : List Nat) (g' : Nat) (b : List Nat)
    (hp : tmps.getD p undef = .pointer (some ⟨g, 0, none⟩)) (hq : tmps.getD q undef = .pointer (some ⟨g', 0, none⟩)) (hg : Arr w g a) (hl : a.length = 16) (hg' : Arr w g' b) (hl' : b.length = 16) : (results fn tmps).run Tryz.prog w = .ok (.tuple #[.agg (arr a), .agg (arr b), tmps.getD u undef]) w := by
  have hp' : tmps[p]?.getD undef = .pointer (some ⟨g, 0, none⟩) := by simpa using hp
  have hq' : tmps[q]?.getD undef = .pointer (some ⟨g', 0, none⟩) := by simpa using hq
  simp [results, h, hp', hq', asAddr, arr_loadVar hg hl, arr_loadVar hg' hl']
theorem below_setRow {n : Nat} {w w' : World} (h : Below n w w') {g : Nat} (hg : n ≤ g) (c : Array Value) : Below n w (w'.setRow g c) :=
  h.trans ⟨rfl, rfl, rfl, by simp [World.setRow], fun k hk => Go.setRow_other _ _ _ _ (by omega)⟩
theorem eq0_cast (c : Nat) : ((c : Int) == 0) = decide (c = 0) := by
  rw [Bool.eq_iff_iff]; simp
/-- A great number inside, as a value. -/
def fitV (n : Nat) : Value := .agg (arr (fit n))
theorem zero_cells : #[Value.int .i64 0, Value.int .i64 0, Value.int .i64 0, Value.int .i64 0, Value.int .i64 0, Value.int .i64 0, Value.int .i64 0, Value.int .i64 0, Value.int .i64 0, Value.int .i64 0, Value.int .i64 0, Value.int .i64 0, Value.int .i64 0, Value.int .i64 0, Value.int .i64 0, Value.int .i64 0] = arr (fit 0) := by rw [fit_zero]; rfl
theorem zero_val {v : Value} (h : v = .agg #[Value.int .i64 0, Value.int .i64 0, Value.int .i64 0, Value.int .i64 0, Value.int .i64 0, Value.int .i64 0, Value.int .i64 0, Value.int .i64 0, Value.int .i64 0, Value.int .i64 0, Value.int .i64 0, Value.int .i64 0, Value.int .i64 0, Value.int .i64 0, Value.int .i64 0, Value.int .i64 0]) : v = .agg (arr (fit 0)) := h.trans (congrArg Value.agg zero_cells)
theorem arr_1 (t : TypeId) (w : World) (xs : List Nat) : ArrT t (w.alloc (.cells (arr xs) t)) w.heap.size xs ∧ Below w.heap.size w (w.alloc (.cells (arr xs) t)) :=
  ⟨ArrT.new t w xs, (Below.refl _ _).alloc (Nat.le_refl _) _⟩
theorem arr_2 (t u : TypeId) (w : World) (xs ys : List Nat) : ArrT t ((w.alloc (.cells (arr xs) t)).alloc (.cells (arr ys) u)) w.heap.size xs ∧ ArrT u ((w.alloc (.cells (arr xs) t)).alloc (.cells (arr ys) u)) (w.heap.size + 1) ys ∧
    Below w.heap.size w ((w.alloc (.cells (arr xs) t)).alloc (.cells (arr ys) u)) := by
  refine ⟨(ArrT.new t w xs).alloc _, ?_, ((Below.refl _ _).alloc (Nat.le_refl _) _).alloc (by simp) _⟩
  have := ArrT.new u (w.alloc (.cells (arr xs) t)) ys
  simpa using this
theorem arr_3 (t u v : TypeId) (w : World) (xs ys zs : List Nat) : ArrT t (((w.alloc (.cells (arr xs) t)).alloc (.cells (arr ys) u)).alloc (.cells (arr zs) v)) w.heap.size xs ∧ ArrT u (((w.alloc (.cells (arr xs) t)).alloc (.cells (arr ys) u)).alloc (.cells (arr zs) v)) (w.heap.size + 1) ys ∧
    ArrT v (((w.alloc (.cells (arr xs) t)).alloc (.cells (arr ys) u)).alloc (.cells (arr zs) v)) (w.heap.size + 1 + 1) zs ∧ Below w.heap.size w (((w.alloc (.cells (arr xs) t)).alloc (.cells (arr ys) u)).alloc (.cells (arr zs) v)) := by
  obtain ⟨h1, h2, h3⟩ := arr_2 t u w xs ys
  refine ⟨h1.alloc _, h2.alloc _, ?_, h3.alloc (by simp; omega) _⟩
  have := ArrT.new v ((w.alloc (.cells (arr xs) t)).alloc (.cells (arr ys) u)) zs
  simpa using this
/-- A whole array into a variable that was just made. -/
theorem wp_arr_init {ops : Array Oper} {rest : List Oper} {o : Oper} {a : Act} {w : World} {Q : Exit → Act → World → Prop} (hgd : o.guard = none) (x y : Operand) (ho : o.op = .store 110 x y)
    (h : ∃ g, a.eval x = .pointer (some ⟨g, 0, none⟩) ∧ g = w.heap.size ∧ ∃ b, a.eval y = .agg (arr b) ∧ b.length = 16 ∧ wpList Tryz.prog ops Q rest (a.put o.dst undef) (w.alloc (.cells (arr b) 110))) :
    wpList Tryz.prog ops Q (o :: rest) a (w.alloc (.cells #[Value.int .i64 0, Value.int .i64 0, Value.int .i64 0, Value.int .i64 0, Value.int .i64 0, Value.int .i64 0, Value.int .i64 0, Value.int .i64 0, Value.int .i64 0, Value.int .i64 0, Value.int .i64 0, Value.int .i64 0, Value.int .i64 0, Value.int .i64 0, Value.int .i64 0, Value.int .i64 0] 110)) := by
  obtain ⟨g, hx, rfl, b, hy, hb, hk⟩ := h
  rw [zero_cells]
  refine wp_arr_store hgd x y ho ⟨_, hx, b, hy, hb, fit 0, ArrT.new _ w _, fit_len 0, ?_⟩
  rw [World.setRow_alloc_new]
  exact hk
theorem setRow_alloc_last2 (w : World) (c c' : Array Value) (t : TypeId) (o : Obj) : ((w.alloc (.cells c t)).alloc o).setRow w.heap.size c' = (w.alloc (.cells c' t)).alloc o := by
  rw [← World.setRow_alloc_new w c c' t]
  have hs : w.heap.size < (w.alloc (.cells c t)).heap.size := by simp
  generalize w.alloc (.cells c t) = W at hs
  simp only [World.setRow, World.alloc]
  congr 1
  apply Array.ext_getElem?
  intro i
  rw [Array.getElem?_modify, Array.getElem?_push, Array.getElem?_push, Array.getElem?_modify, Array.size_modify]
  by_cases h : i = W.heap.size
  · subst h
    rw [if_neg (by omega), if_pos rfl, if_pos rfl]
  · rw [if_neg h, if_neg h]
/-- .. into the one that was made ahead of the last. -/
theorem wp_arr_init2 {ops : Array Oper} {rest : List Oper} {o : Oper} {a : Act} {w : World} {Q : Exit → Act → World → Prop} {ob : Obj} (hgd : o.guard = none) (x y : Operand) (ho : o.op = .store 110 x y)
    (h : ∃ g, a.eval x = .pointer (some ⟨g, 0, none⟩) ∧ g = w.heap.size ∧ ∃ b, a.eval y = .agg (arr b) ∧ b.length = 16 ∧ wpList Tryz.prog ops Q rest (a.put o.dst undef) ((w.alloc (.cells (arr b) 110)).alloc ob)) :
    wpList Tryz.prog ops Q (o :: rest) a ((w.alloc (.cells #[Value.int .i64 0, Value.int .i64 0, Value.int .i64 0, Value.int .i64 0, Value.int .i64 0, Value.int .i64 0, Value.int .i64 0, Value.int .i64 0, Value.int .i64 0, Value.int .i64 0, Value.int .i64 0, Value.int .i64 0, Value.int .i64 0, Value.int .i64 0, Value.int .i64 0, Value.int .i64 0] 110)).alloc ob) := by
  obtain ⟨g, hx, rfl, b, hy, hb, hk⟩ := h
  rw [zero_cells]
  refine wp_arr_store hgd x y ho ⟨_, hx, b, hy, hb, fit 0, (ArrT.new _ w _).alloc _, fit_len 0, ?_⟩
  rw [setRow_alloc_last2]
  exact hk
end Go.Proofs.YteadkdllmeeocabGreat
/- A number becomes a great number inside. -/
namespace Go.Proofs.YteadkdllmeeocabGreat
open Go.RowKit
set_option maxRecDepth 100000

theorem int_step {zs : List Nat} {k cur n0 : Nat} (hz : zs.length = 16) (hk : k < 16) (h0 : zs.getD k 0 = 0) (hv : val zs + 16777216 ^ k * cur = n0) :
    val (zs.set k (cur % 16777216)) + 16777216 ^ (k + 1) * (cur / 16777216) = n0 := by
  have e := val_set zs k (cur % 16777216) (by omega)
  rw [h0, Nat.mul_zero, Nat.add_zero] at e
  rw [e, Nat.pow_succ, carry_step _ _ _ _ rfl]
  exact hv

set_option maxHeartbeats 800000 in
theorem ofInt_any (n0 : Nat) (w : World) (h : n0 ≤ 9223372036854775807) :
    Calls Tryz.prog 116 #[.int .i64 n0] w fun e w' => e = .returned (fitV n0) ∧ Below w.heap.size w w' := by
  obtain ⟨a0, a1, b0⟩ := arr_2 110 110 w (fit 0) (fit 0)
  go_enter Tryz.func116, Tryz.ntmps116
  go_wp2
  rw [zero_cells]
  go_loopw [0, 4] (fun n i wr => ∃ (k cur : Nat) (zs : List Nat), i = .int .i64 k ∧ n = .int .i64 cur ∧ k ≤ 3 ∧ cur ≤ 9223372036854775807 ∧ Hid (cur < 16777216 ^ (3 - k)) ∧ zs.length = 16 ∧ Hid (∀ l ∈ zs, l < 16777216) ∧ Hid (∀ j, k ≤ j → zs.getD j 0 = 0) ∧
      Hid (val zs + 16777216 ^ k * cur = n0) ∧ Arr wr w.heap.size (fit 0) ∧ Arr wr (w.heap.size + 1) zs ∧ Below w.heap.size w wr) (fun n _ _ => (intOf n).toNat)
  case atStart => exact ⟨0, n0, fit 0, rfl, rfl, by omega, h, by show n0 < _; omega, fit_len 0, fit_lt 0, fun j _ => fit0_getD j, by show _ = _; rw [fit_val 0 (by unfold top; omega)]; simp, a0, a1, b0⟩
  case round =>
    obtain ⟨k, cur, zs, rfl, rfl, hk, hcur, hpow, hzl, hzb, hzero, hv, A0, A1, hb⟩ := hrel
    clear a0 a1 b0
    by_cases hlt : 0 < cur
    · have hk3 : k < 3 := by
        rcases Nat.lt_or_ge k 3 with h1 | h1
        · exact h1
        · have := hpow.out; rw [show 3 - k = 0 by omega] at this; omega
      have hc1 := A1.cell k (by omega)
      have hf1 := A1.frozen k
      rw [hzero.out k (Nat.le_refl _)] at hc1
      go_wp2
      go_roundw
      case rel =>
        refine ⟨k + 1, cur / 16777216, zs.set k (cur % 16777216), by go_num, by go_num, by omega, by omega, ?_, by simp [hzl], set_lt _ _ _ hzb.out (by omega), fun j hj => ?_, int_step hzl (by omega) (hzero.out k (Nat.le_refl _)) hv.out, A0.other _ _ (by show w.heap.size + 1 ≠ _; omega), A1.set k _, hb.setCell (p := ⟨w.heap.size + 1, k, none⟩) (by show _ ≤ w.heap.size + 1; omega) _⟩
        · show _ < _
          have := hpow.out
          rw [show 3 - k = 3 - (k + 1) + 1 by omega, Nat.pow_succ] at this
          exact Nat.div_lt_of_lt_mul (by rw [Nat.mul_comm]; exact this)
        · rw [getD_set_ne _ _ _ _ (by omega)]; exact hzero.out j (by omega)
      case measure => simp [intOf]; omega
    · obtain rfl : cur = 0 := by omega
      have HF : Hid (zs = fit n0) := by
        show zs = fit n0
        have e := hv.out
        rw [Nat.mul_zero, Nat.add_zero] at e
        rw [← e]
        exact fit_of zs hzl hzb.out
      go_wp2_with (first | (with_reducible refine wp_arr_load rfl _ rfl ?_; refine ⟨_, rfl, zs, A1, hzl, ?_⟩) | (with_reducible refine wp_arr_store rfl _ _ rfl ?_; refine ⟨_, rfl, zs, rfl, hzl, _, A0, fit_len 0, ?_⟩))
      have A3 := A0.setRow zs
      refine bodyPost_ret (res_arr1 rfl _ _ _ _ rfl A3 hzl) rfl ⟨?_, below_setRow hb (Nat.le_refl _) _⟩
      unfold fitV
      rw [← HF.out]
end Go.Proofs.YteadkdllmeeocabGreat
/- Whole arrays in a region that draws its order. -/
namespace Go.Proofs.YteadkdllmeeocabGreat
open Go.RowKit
set_option maxRecDepth 100000

/-- In a region that draws its order the load of a whole array may be taken first. -/
theorem yields_arr {ops : Array Oper} {S : World → Prop} {op : Oper} {a : Act} (hw : Region.wanted op (yielded ops a.tmps) = true) (x : Operand) (ho : op.op = .load 110 x)
    (g : Nat) (hx : a.eval x = .pointer (some ⟨g, 0, none⟩)) (xs : List Nat) (hS : ∀ w, S w → Arr w g xs) (hl : xs.length = 16) : YieldsIf Tryz.prog ops S op (.agg (arr xs)) a :=
  .inl ⟨hw, fun w hw' => by
    unfold execOp
    simp only [ho, hx, Instr.loadAt, Instr.sureAddr, Sem.run_bind, Sem.run_pure, Result.andThen_ok, arr_loadVar (hS w hw') hl]⟩
theorem wp_store_arr {o : Oper} {a : Act} {w : World} {K : Act → World → Prop} {Q : Exit → Act → World → Prop} (x y : Operand) (ho : o.op = .store 110 x y)
    (g : Nat) (b : List Nat) (hx : a.eval x = .pointer (some ⟨g, 0, none⟩)) (hy : a.eval y = .agg (arr b)) (hb : b.length = 16) (xs : List Nat) (hA : Arr w g xs) (hl : xs.length = 16)
    (h : K (a.put o.dst undef) (w.setRow g (arr b))) : o.wp Tryz.prog a w K Q :=
  wp_store_row 110 x y ho g (arr b) hx hy _ _ hA (by rw [limbs_size, arr_size, hb]) (by rw [arr_size, arr_size, hl, hb]) (arr_one b) h
end Go.Proofs.YteadkdllmeeocabGreat
/- A fraction is told as two great numbers. -/
namespace Go.Proofs.YteadkdllmeeocabGreat
open Go.RowKit
set_option maxRecDepth 100000

theorem res_arr22 {fn : Func} {p q : Tmp} (h : fn.results = #[.cell p 110, .cell q 110]) (tmps : Array Value) (w : World) (g : Nat) (a : List Nat) (g' : Nat) (b : List Nat)
    (hp : tmps.getD p undef = .pointer (some ⟨g, 0, none⟩)) (hq : tmps.getD q undef = .pointer (some ⟨g', 0, none⟩)) (hg : Arr w g a) (hl : a.length = 16) (hg' : Arr w g' b) (hl' : b.length = 16) : (results fn tmps).run Tryz.prog w = .ok (.tuple #[.agg (arr a), .agg (arr b)]) w := by
  have hp' : tmps[p]?.getD undef = .pointer (some ⟨g, 0, none⟩) := by simpa using hp
  have hq' : tmps[q]?.getD undef = .pointer (some ⟨g', 0, none⟩) := by simpa using hq
  simp [results, h, hp', hq', asAddr, arr_loadVar hg hl, arr_loadVar hg' hl']

set_option maxHeartbeats 1600000 in
theorem terms_any (m n : Nat) (w : World) (hm : m ≤ 9223372036854775807) (hn : n ≤ 9223372036854775807) :
    Calls Tryz.prog 115 #[frV m n] w fun e w' => e = .returned (.tuple #[fitV m, fitV n]) ∧ Below w.heap.size w w' := by
  obtain ⟨F0, A1, A2, B⟩ := blk_3 35 110 110 w #[.int .i64 m, .int .i64 n] (arr (fit 0)) (arr (fit 0))
  rw [← zero_cells] at F0 A1 A2 B
  have c1 := fun W => ofInt_any m W hm
  have c2 := fun W => ofInt_any n W hn
  unfold fitV at c1 c2 ⊢
  have lm := fit_len m
  have ln := fit_len n
  generalize fit m = xs at c1 lm
  generalize fit n = ys at c2 ln
  go_enter Tryz.func115, Tryz.ntmps115
  go_wp2
  generalize (((w.alloc (.cells #[.int .i64 m, .int .i64 n] 35)).alloc (.cells #[Value.int .i64 0, Value.int .i64 0, Value.int .i64 0, Value.int .i64 0, Value.int .i64 0, Value.int .i64 0, Value.int .i64 0, Value.int .i64 0, Value.int .i64 0, Value.int .i64 0, Value.int .i64 0, Value.int .i64 0, Value.int .i64 0, Value.int .i64 0, Value.int .i64 0, Value.int .i64 0] 110)).alloc (.cells #[Value.int .i64 0, Value.int .i64 0, Value.int .i64 0, Value.int .i64 0, Value.int .i64 0, Value.int .i64 0, Value.int .i64 0, Value.int .i64 0, Value.int .i64 0, Value.int .i64 0, Value.int .i64 0, Value.int .i64 0, Value.int .i64 0, Value.int .i64 0, Value.int .i64 0, Value.int .i64 0] 110)) = W at F0 A1 A2 B
  rw [zero_cells] at A1 A2
  have A1 : Arr W (w.heap.size + 1) (fit 0) := A1
  have A2 : Arr W (w.heap.size + 1 + 1) (fit 0) := A2
  have l0 := fit_len 0
  generalize fit 0 = z0 at A1 A2 l0
  refine wp_region_held_drew (S := fun w' => Fr w' w.heap.size m n) (by kernel_rfl) F0 ?_
  intro hS
  have A1 : Arr W.drew (w.heap.size + 1) z0 := A1
  have A2 : Arr W.drew (w.heap.size + 1 + 1) z0 := A2
  have B := B.drew
  generalize W.drew = V at hS A1 A2 B
  refine takeL 0 (.pointer (some ⟨w.heap.size, 0, none⟩)) rfl (by kernel_rfl) (by kernel_rfl) (by kernel_rfl) (fun _ _ _ h => h) (.inl ⟨by rfl, fun w _ => by rfl⟩) hS ?_
  simp only [Act.put, List.setIfInBounds_toArray, List.set_cons_zero, List.set_cons_succ]
  refine takeL 1 (.int .i64 m) rfl (by kernel_rfl) (by kernel_rfl) (by kernel_rfl) (fun _ _ _ h => h) (yields_int (by rfl) _ rfl _ rfl m (fun _ h => FrT.c0 h)) hS ?_
  simp only [Act.put, List.setIfInBounds_toArray, List.set_cons_zero, List.set_cons_succ]
  refine takeL 3 (.pointer (some ⟨w.heap.size, 1, none⟩)) rfl (by kernel_rfl) (by kernel_rfl) (by kernel_rfl) (fun _ _ _ h => h) (.inl ⟨by rfl, fun w _ => by rfl⟩) hS ?_
  simp only [Act.put, List.setIfInBounds_toArray, List.set_cons_zero, List.set_cons_succ]
  refine takeL 4 (.int .i64 n) rfl (by kernel_rfl) (by kernel_rfl) (by kernel_rfl) (fun _ _ _ h => h) (yields_int (by rfl) _ rfl _ rfl n (fun _ h => FrT.c1 h)) hS ?_
  simp only [Act.put, List.setIfInBounds_toArray, List.set_cons_zero, List.set_cons_succ]
  refine nextL 2 rfl (by kernel_rfl) (by rfl) fun K hK => ?_
  have c1' := c1 V
  go_simp
  refine c1'.mono ?_
  rintro e V1 ⟨rfl, hb1⟩
  refine hK _ _ (hS.below hb1) ?_
  clear hK K c1'
  intro hS
  have A1 := A1.below hb1
  have A2 := A2.below hb1
  have B := B.trans (hb1.mono B.size)
  refine nextL 5 rfl (by kernel_rfl) (by rfl) fun K hK => ?_
  have c2' := c2 V1
  go_simp
  refine c2'.mono ?_
  rintro e V2 ⟨rfl, hb2⟩
  refine hK _ _ (hS.below hb2) ?_
  clear hK K c2'
  intro hS
  have A1 := A1.below hb2
  have A2 := A2.below hb2
  have B := B.trans (hb2.mono B.size)
  refine nextL 6 rfl (by kernel_rfl) (by rfl) fun K hK => ?_
  refine wp_store_arr _ _ rfl (w.heap.size + 1) xs rfl rfl lm z0 A1 l0 ?_
  simp only [Act.put]
  refine hK _ _ (Blk.setRow_other hS _ (by omega)) ?_
  clear hK K
  intro hS
  refine nextL 7 rfl (by kernel_rfl) (by rfl) fun K hK => ?_
  refine wp_store_arr _ _ rfl (w.heap.size + 1 + 1) ys rfl rfl ln z0 (A2.setRow_other _ (by omega)) l0 ?_
  simp only [Act.put]
  refine hK _ _ (Blk.setRow_other hS _ (by omega)) ?_
  clear hK K
  intro hS
  refine wpAnyH_done (by kernel_rfl) ?_ _
  go_wp2
  exact bodyPost_ret (res_arr22 rfl _ _ _ _ _ _ rfl rfl ((A1.setRow xs).setRow_other _ (by omega)) lm ((A2.setRow_other _ (by omega)).setRow ys) ln) rfl ⟨rfl, below_setRow (below_setRow B (by omega) _) (by omega) _⟩
end Go.Proofs.YteadkdllmeeocabGreat
