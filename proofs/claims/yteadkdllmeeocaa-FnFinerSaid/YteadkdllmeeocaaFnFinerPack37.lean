/- Texts of this claim, put together: part 37. -/
import Derived.Test.YteadkdllmeeocaaFnFinerPack36
import Derived.Test.YteadkdllmeeocaaFnFinerPack5
import Derived.Test.YteadkdllmeeocaaFnFinerPack26
import Derived.Test.YteadkdllmeeocaaFnFinerPack2
import Derived.ChangeKeysEq
import Derived.Deep.QuietTactic
import Derived.BigQuiet
import Derived.WalkSmall
/- Whole arrays in a region that draws its order. -/
namespace Go.Proofs.Yteadkdllmeeocaa
open Go.RowKit
set_option maxRecDepth 100000

/-- In a region that draws its order the load of a whole array may be taken first. -/
theorem yields_arr {ops : Array Oper} {S : World → Prop} {op : Oper} {a : Act} (hw : Region.wanted op (yielded ops a.tmps) = true) (x : Operand) (ho : op.op = .load 93 x)
    (g : Nat) (hx : a.eval x = .pointer (some ⟨g, 0, none⟩)) (xs : List Nat) (hS : ∀ w, S w → Arr w g xs) (hl : xs.length = 16) : YieldsIf Try.prog ops S op (.agg (arr xs)) a :=
  .inl ⟨hw, fun w hw' => by
    unfold execOp
    simp only [ho, hx, Instr.loadAt, Instr.sureAddr, Sem.run_bind, Sem.run_pure, Result.andThen_ok, arr_loadVar (hS w hw') hl]⟩
theorem wp_store_arr {o : Oper} {a : Act} {w : World} {K : Act → World → Prop} {Q : Exit → Act → World → Prop} (x y : Operand) (ho : o.op = .store 93 x y)
    (g : Nat) (b : List Nat) (hx : a.eval x = .pointer (some ⟨g, 0, none⟩)) (hy : a.eval y = .agg (arr b)) (hb : b.length = 16) (xs : List Nat) (hA : Arr w g xs) (hl : xs.length = 16)
    (h : K (a.put o.dst undef) (w.setRow g (arr b))) : o.wp Try.prog a w K Q :=
  wp_store_row 93 x y ho g (arr b) hx hy _ _ hA (by rw [limbs_size, arr_size, hb]) (by rw [arr_size, arr_size, hl, hb]) (arr_one b) h
end Go.Proofs.Yteadkdllmeeocaa
/- A fraction is told as two great numbers. -/
namespace Go.Proofs.Yteadkdllmeeocaa
open Go.RowKit
set_option maxRecDepth 100000

theorem res_arr22 {fn : Func} {p q : Tmp} (h : fn.results = #[.cell p 93, .cell q 93]) (tmps : Array Value) (w : World) (g : Nat) (a : List Nat) (g' : Nat) (b : List Nat)
    (hp : tmps.getD p undef = .pointer (some ⟨g, 0, none⟩)) (hq : tmps.getD q undef = .pointer (some ⟨g', 0, none⟩)) (hg : Arr w g a) (hl : a.length = 16) (hg' : Arr w g' b) (hl' : b.length = 16) : (results fn tmps).run Try.prog w = .ok (.tuple #[.agg (arr a), .agg (arr b)]) w := by
  have hp' : tmps[p]?.getD undef = .pointer (some ⟨g, 0, none⟩) := by simpa using hp
  have hq' : tmps[q]?.getD undef = .pointer (some ⟨g', 0, none⟩) := by simpa using hq
  simp [results, h, hp', hq', asAddr, arr_loadVar hg hl, arr_loadVar hg' hl']

set_option maxHeartbeats 1600000 in
theorem terms_any (m n : Nat) (w : World) (hm : m ≤ 9223372036854775807) (hn : n ≤ 9223372036854775807) :
    Calls Try.prog 113 #[frV m n] w fun e w' => e = .returned (.tuple #[fitV m, fitV n]) ∧ Below w.heap.size w w' := by
  obtain ⟨F0, A1, A2, B⟩ := blk_3 27 93 93 w #[.int .i64 m, .int .i64 n] (arr (fit 0)) (arr (fit 0))
  rw [← zero_cells] at F0 A1 A2 B
  have c1 := fun W => ofInt_any m W hm
  have c2 := fun W => ofInt_any n W hn
  unfold fitV at c1 c2 ⊢
  have lm := fit_len m
  have ln := fit_len n
  generalize fit m = xs at c1 lm
  generalize fit n = ys at c2 ln
  go_enter Try.func113, Try.ntmps113
  go_wp2
  generalize (((w.alloc (.cells #[.int .i64 m, .int .i64 n] 27)).alloc (.cells #[Value.int .i64 0, Value.int .i64 0, Value.int .i64 0, Value.int .i64 0, Value.int .i64 0, Value.int .i64 0, Value.int .i64 0, Value.int .i64 0, Value.int .i64 0, Value.int .i64 0, Value.int .i64 0, Value.int .i64 0, Value.int .i64 0, Value.int .i64 0, Value.int .i64 0, Value.int .i64 0] 93)).alloc (.cells #[Value.int .i64 0, Value.int .i64 0, Value.int .i64 0, Value.int .i64 0, Value.int .i64 0, Value.int .i64 0, Value.int .i64 0, Value.int .i64 0, Value.int .i64 0, Value.int .i64 0, Value.int .i64 0, Value.int .i64 0, Value.int .i64 0, Value.int .i64 0, Value.int .i64 0, Value.int .i64 0] 93)) = W at F0 A1 A2 B
  rw [zero_cells] at A1 A2
  have A1 : Arr W (w.heap.size + 1) (fit 0) := A1
  have A2 : Arr W (w.heap.size + 1 + 1) (fit 0) := A2
  have l0 := fit_len 0
  generalize fit 0 = z0 at A1 A2 l0
  refine wp_region_held_drew (S := fun w' => Fr w' w.heap.size m n) (by kernel_rfl) F0 ?_
  intro hS
  have A1 : Arr W.drew (w.heap.size + 1) z0 := A1
  have A2 : Arr W.drew (w.heap.size + 1 + 1) z0 := A2
  have B := B.drew
  generalize W.drew = V at hS A1 A2 B
  refine takeL 0 (.pointer (some ⟨w.heap.size, 0, none⟩)) rfl (by kernel_rfl) (by kernel_rfl) (by kernel_rfl) (fun _ _ _ h => h) (.inl ⟨by rfl, fun w _ => by rfl⟩) hS ?_
  simp only [Act.put, List.setIfInBounds_toArray, List.set_cons_zero, List.set_cons_succ]
  refine takeL 1 (.int .i64 m) rfl (by kernel_rfl) (by kernel_rfl) (by kernel_rfl) (fun _ _ _ h => h) (yields_int (by rfl) _ rfl _ rfl m (fun _ h => FrT.c0 h)) hS ?_
  simp only [Act.put, List.setIfInBounds_toArray, List.set_cons_zero, List.set_cons_succ]
  refine takeL 3 (.pointer (some ⟨w.heap.size, 1, none⟩)) rfl (by kernel_rfl) (by kernel_rfl) (by kernel_rfl) (fun _ _ _ h => h) (.inl ⟨by rfl, fun w _ => by rfl⟩) hS ?_
  simp only [Act.put, List.setIfInBounds_toArray, List.set_cons_zero, List.set_cons_succ]
  refine takeL 4 (.int .i64 n) rfl (by kernel_rfl) (by kernel_rfl) (by kernel_rfl) (fun _ _ _ h => h) (yields_int (by rfl) _ rfl _ rfl n (fun _ h => FrT.c1 h)) hS ?_
  simp only [Act.put, List.setIfInBounds_toArray, List.set_cons_zero, List.set_cons_succ]
  refine nextL 2 rfl (by kernel_rfl) (by rfl) fun K hK => ?_
  have c1' := c1 V
  go_simp
  refine c1'.mono ?_
  rintro e V1 ⟨rfl, hb1⟩
  refine hK _ _ (hS.below hb1) ?_
  clear hK K c1'
  intro hS
  have A1 := A1.below hb1
  have A2 := A2.below hb1
  have B := B.trans (hb1.mono B.size)
  refine nextL 5 rfl (by kernel_rfl) (by rfl) fun K hK => ?_
  have c2' := c2 V1
  go_simp
  refine c2'.mono ?_
  rintro e V2 ⟨rfl, hb2⟩
  refine hK _ _ (hS.below hb2) ?_
  clear hK K c2'
  intro hS
  have A1 := A1.below hb2
  have A2 := A2.below hb2
  have B := B.trans (hb2.mono B.size)
  refine nextL 6 rfl (by kernel_rfl) (by rfl) fun K hK => ?_
  refine wp_store_arr _ _ rfl (w.heap.size + 1) xs rfl rfl lm z0 A1 l0 ?_
  simp only [Act.put]
  refine hK _ _ (Blk.setRow_other hS _ (by omega)) ?_
  clear hK K
  intro hS
  refine nextL 7 rfl (by kernel_rfl) (by rfl) fun K hK => ?_
  refine wp_store_arr _ _ rfl (w.heap.size + 1 + 1) ys rfl rfl ln z0 (A2.setRow_other _ (by omega)) l0 ?_
  simp only [Act.put]
  refine hK _ _ (Blk.setRow_other hS _ (by omega)) ?_
  clear hK K
  intro hS
  refine wpAnyH_done (by kernel_rfl) ?_ _
  go_wp2
  exact bodyPost_ret (res_arr22 rfl _ _ _ _ _ _ rfl rfl ((A1.setRow xs).setRow_other _ (by omega)) lm ((A2.setRow_other _ (by omega)).setRow ys) ln) rfl ⟨rfl, below_setRow (below_setRow B (by omega) _) (by omega) _⟩
end Go.Proofs.Yteadkdllmeeocaa
/- The product of two lists of limbs: plain facts. -/
namespace Go.Proofs.Yteadkdllmeeocaa

theorem mul_inner {cur b : List Nat} {i j ai c V X : Nat} (hl : i + j < cur.length) (hX : cur.getD (i + j) 0 = X) (hv : val cur + 16777216 ^ (i + j) * c = V + 16777216 ^ i * (ai * val (b.take j))) (x : Nat) (hx : x = X + ai * b.getD j 0 + c) :
    val (cur.set (i + j) (x % 16777216)) + 16777216 ^ (i + (j + 1)) * (x / 16777216) = V + 16777216 ^ i * (ai * val (b.take (j + 1))) := by
  have e := val_set cur (i + j) (x % 16777216) hl
  rw [hX] at e
  have e2 := carry_step (16777216 ^ (i + j)) 0 0 x rfl
  rw [Nat.zero_add, Nat.zero_add] at e2
  have e3 : 16777216 ^ (i + j) * x = 16777216 ^ (i + j) * X + 16777216 ^ (i + j) * (ai * b.getD j 0) + 16777216 ^ (i + j) * c := by rw [hx, Nat.mul_add, Nat.mul_add]
  have e4 : 16777216 ^ i * (ai * val (b.take (j + 1))) = 16777216 ^ i * (ai * val (b.take j)) + 16777216 ^ (i + j) * (ai * b.getD j 0) := by
    rw [val_takeD, Nat.mul_add, Nat.mul_add, Nat.pow_add, Nat.mul_assoc, Nat.mul_left_comm (16777216 ^ j) ai]
  rw [e4, ← Nat.add_assoc i j 1, Nat.pow_succ]
  omega
theorem mul_outer {cur a b : List Nat} {i c lb : Nat} (hl : i + lb < cur.length) (h0 : cur.getD (i + lb) 0 = 0) (hb : b.length = lb) (hv : val cur + 16777216 ^ (i + lb) * c = val (a.take i) * val b + 16777216 ^ i * (a.getD i 0 * val (b.take lb))) :
    val (cur.set (i + lb) c) = val (a.take (i + 1)) * val b := by
  have e := val_set cur (i + lb) c hl
  rw [h0, Nat.mul_zero, Nat.add_zero] at e
  rw [e, hv, show b.take lb = b from List.take_of_length_le (by omega), val_takeD, Nat.add_mul, Nat.mul_assoc]
theorem mul_carry {X ai bj c : Nat} (h1 : X < 16777216) (h2 : ai < 16777216) (h3 : bj < 16777216) (h4 : c < 16777216) : ai * bj ≤ 281474943156225 ∧ (X + ai * bj + c) / 16777216 < 16777216 := by
  have h : ai * bj ≤ 16777215 * 16777215 := Nat.mul_le_mul (by omega) (by omega)
  constructor
  · omega
  · omega
end Go.Proofs.Yteadkdllmeeocaa
/- Two great numbers inside are held against each other. -/
namespace Go.Proofs.Yteadkdllmeeocaa
open Go.RowKit
set_option maxRecDepth 100000

theorem items_eq (d : Nat) (a b : List Nat) (w : World) : ∀ is : List Nat, (∀ i ∈ is, i < a.length ∧ i < b.length) →
    (Op.eqItems (d + 1) 3 1 (arr a) (arr b) is).run Try.prog w = .ok (decide (∀ i ∈ is, a.getD i 0 = b.getD i 0)) w
  | [], _ => by simp [Op.eqItems]
  | i :: is, h => by
    have hi := h i (by simp)
    have ih := items_eq d a b w is fun j hj => h j (by simp [hj])
    have hp : Try.prog.plainKey 3 = true := by simp [Program.plainKey, Try.underlying3]
    have p1 := run_part_plain w hp (arr_get a i hi.1)
    have p2 := run_part_plain w hp (arr_get b i hi.2)
    simp only [Op.eqItems, Sem.run_bind, Nat.mul_one, p1, p2, Result.andThen_ok, run_equalIn_int w d 3 .i64 .i64 _ _ Try.underlying3]
    by_cases e : a.getD i 0 = b.getD i 0
    · rw [e]
      have hb : (((b.getD i 0 : Nat) : Int) == ((b.getD i 0 : Nat) : Int)) = true := by simp
      rw [hb]
      simp only [Bool.not_true, Bool.false_eq_true, if_false, ih]
      congr 1
      simp only [List.mem_cons, forall_eq_or_imp, e, true_and]
    · have hb : (((a.getD i 0 : Nat) : Int) == ((b.getD i 0 : Nat) : Int)) = false := by
        rw [beq_eq_false_iff_ne]; omega
      rw [hb]
      have hd : decide (∀ j ∈ i :: is, a.getD j 0 = b.getD j 0) = false := by
        apply decide_eq_false; intro hh; exact e (hh i (by simp))
      rw [hd]
      rfl

theorem arr_eql (a b : List Nat) (ha : a.length = 16) (hb : b.length = 16) (w : World) : (Op.equalIn 10000 93 (.agg (arr a)) (.agg (arr b))).run Try.prog w = .ok (decide (a = b)) w := by
  obtain ⟨i0, hi, hz⟩ := Option.map_eq_some_iff.1 (show (Try.prog.info? 3).map (·.size) = some 1 by kernel_rfl)
  have hc : Try.prog.cellsOf 3 = 1 := by kernel_rfl
  rw [show (10000 : Nat) = 9998 + 1 + 1 from rfl, run_equalIn_array w _ _ _ Try.underlying93 hi, hc, items_eq]
  · congr 1
    apply decide_eq_decide.2
    constructor
    · intro h
      apply List.ext_getElem
      · omega
      · intro i g1 g2
        have := h i (List.mem_range.2 (by omega))
        rw [List.getD_eq_getElem?_getD, List.getD_eq_getElem?_getD, List.getElem?_eq_getElem g1, List.getElem?_eq_getElem g2] at this
        exact this
    · rintro rfl i _; rfl
  · intro i hi
    have := List.mem_range.1 hi
    omega

theorem guard_limbs : Try.prog.eqGuardType Try.prog.depth 93 = false := by kernel_rfl

/-- .. held against nought. -/
theorem arr_eql0 (a : List Nat) (ha : a.length = 16) (w : World) : (Op.equalIn 10000 93 (.agg (arr a)) (.agg #[Value.int .i64 0, Value.int .i64 0, Value.int .i64 0, Value.int .i64 0, Value.int .i64 0, Value.int .i64 0, Value.int .i64 0, Value.int .i64 0, Value.int .i64 0, Value.int .i64 0, Value.int .i64 0, Value.int .i64 0, Value.int .i64 0, Value.int .i64 0, Value.int .i64 0, Value.int .i64 0])).run Try.prog w = .ok (decide (a = fit 0)) w := by
  rw [zero_cells]
  exact arr_eql a (fit 0) ha (fit_len 0) w
theorem fit_eq0 (n : Nat) (h : n < top) : decide (fit n = fit 0) = decide (n = 0) := by
  apply decide_eq_decide.2
  constructor
  · intro e
    have := congrArg val e
    rw [fit_val n h, fit_val 0 (by unfold top; omega)] at this
    exact this
  · rintro rfl; rfl
end Go.Proofs.Yteadkdllmeeocaa
