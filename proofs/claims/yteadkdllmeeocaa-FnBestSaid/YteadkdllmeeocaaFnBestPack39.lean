/- Texts of this claim, put together: part 39. -/
import Derived.Test.YteadkdllmeeocaaFnBestPack38
import Derived.Test.YteadkdllmeeocaaFnBestPack5
import Derived.Test.YteadkdllmeeocaaFnBestPack7
import Derived.Test.YteadkdllmeeocaaFnBestPack2
/- A number becomes a great number inside. -/
namespace Go.Proofs.Yteadkdllmeeocaa
open Go.RowKit
set_option maxRecDepth 100000

theorem int_step {zs : List Nat} {k cur n0 : Nat} (hz : zs.length = 16) (hk : k < 16) (h0 : zs.getD k 0 = 0) (hv : val zs + 16777216 ^ k * cur = n0) :
    val (zs.set k (cur % 16777216)) + 16777216 ^ (k + 1) * (cur / 16777216) = n0 := by
  have e := val_set zs k (cur % 16777216) (by omega)
  rw [h0, Nat.mul_zero, Nat.add_zero] at e
  rw [e, Nat.pow_succ, carry_step _ _ _ _ rfl]
  exact hv

set_option maxHeartbeats 800000 in
theorem ofInt_any (n0 : Nat) (w : World) (h : n0 ≤ 9223372036854775807) :
    Calls Try.prog 114 #[.int .i64 n0] w fun e w' => e = .returned (fitV n0) ∧ Below w.heap.size w w' := by
  obtain ⟨a0, a1, b0⟩ := arr_2 93 93 w (fit 0) (fit 0)
  go_enter Try.func114, Try.ntmps114
  go_wp2
  rw [zero_cells]
  go_loopw [0, 4] (fun n i wr => ∃ (k cur : Nat) (zs : List Nat), i = .int .i64 k ∧ n = .int .i64 cur ∧ k ≤ 3 ∧ cur ≤ 9223372036854775807 ∧ Hid (cur < 16777216 ^ (3 - k)) ∧ zs.length = 16 ∧ Hid (∀ l ∈ zs, l < 16777216) ∧ Hid (∀ j, k ≤ j → zs.getD j 0 = 0) ∧
      Hid (val zs + 16777216 ^ k * cur = n0) ∧ Arr wr w.heap.size (fit 0) ∧ Arr wr (w.heap.size + 1) zs ∧ Below w.heap.size w wr) (fun n _ _ => (intOf n).toNat)
  case atStart => exact ⟨0, n0, fit 0, rfl, rfl, by omega, h, by show n0 < _; omega, fit_len 0, fit_lt 0, fun j _ => fit0_getD j, by show _ = _; rw [fit_val 0 (by unfold top; omega)]; simp, a0, a1, b0⟩
  case round =>
    obtain ⟨k, cur, zs, rfl, rfl, hk, hcur, hpow, hzl, hzb, hzero, hv, A0, A1, hb⟩ := hrel
    clear a0 a1 b0
    by_cases hlt : 0 < cur
    · have hk3 : k < 3 := by
        rcases Nat.lt_or_ge k 3 with h1 | h1
        · exact h1
        · have := hpow.out; rw [show 3 - k = 0 by omega] at this; omega
      have hc1 := A1.cell k (by omega)
      have hf1 := A1.frozen k
      rw [hzero.out k (Nat.le_refl _)] at hc1
      go_wp2
      go_roundw
      case rel =>
        refine ⟨k + 1, cur / 16777216, zs.set k (cur % 16777216), by go_num, by go_num, by omega, by omega, ?_, by simp [hzl], set_lt _ _ _ hzb.out (by omega), fun j hj => ?_, int_step hzl (by omega) (hzero.out k (Nat.le_refl _)) hv.out, A0.other _ _ (by show w.heap.size + 1 ≠ _; omega), A1.set k _, hb.setCell (p := ⟨w.heap.size + 1, k, none⟩) (by show _ ≤ w.heap.size + 1; omega) _⟩
        · show _ < _
          have := hpow.out
          rw [show 3 - k = 3 - (k + 1) + 1 by omega, Nat.pow_succ] at this
          exact Nat.div_lt_of_lt_mul (by rw [Nat.mul_comm]; exact this)
        · rw [getD_set_ne _ _ _ _ (by omega)]; exact hzero.out j (by omega)
      case measure => simp [intOf]; omega
    · obtain rfl : cur = 0 := by omega
      have HF : Hid (zs = fit n0) := by
        show zs = fit n0
        have e := hv.out
        rw [Nat.mul_zero, Nat.add_zero] at e
        rw [← e]
        exact fit_of zs hzl hzb.out
      go_wp2_with (first | (with_reducible refine wp_arr_load rfl _ rfl ?_; refine ⟨_, rfl, zs, A1, hzl, ?_⟩) | (with_reducible refine wp_arr_store rfl _ _ rfl ?_; refine ⟨_, rfl, zs, rfl, hzl, _, A0, fit_len 0, ?_⟩))
      have A3 := A0.setRow zs
      refine bodyPost_ret (res_arr1 rfl _ _ _ _ rfl A3 hzl) rfl ⟨?_, below_setRow hb (Nat.le_refl _) _⟩
      unfold fitV
      rw [← HF.out]
end Go.Proofs.Yteadkdllmeeocaa
/- Whole arrays in a region that draws its order. -/
namespace Go.Proofs.Yteadkdllmeeocaa
open Go.RowKit
set_option maxRecDepth 100000

/-- In a region that draws its order the load of a whole array may be taken first. -/
theorem yields_arr {ops : Array Oper} {S : World → Prop} {op : Oper} {a : Act} (hw : Region.wanted op (yielded ops a.tmps) = true) (x : Operand) (ho : op.op = .load 93 x)
    (g : Nat) (hx : a.eval x = .pointer (some ⟨g, 0, none⟩)) (xs : List Nat) (hS : ∀ w, S w → Arr w g xs) (hl : xs.length = 16) : YieldsIf Try.prog ops S op (.agg (arr xs)) a :=
  .inl ⟨hw, fun w hw' => by
    unfold execOp
    simp only [ho, hx, Instr.loadAt, Instr.sureAddr, Sem.run_bind, Sem.run_pure, Result.andThen_ok, arr_loadVar (hS w hw') hl]⟩
theorem wp_store_arr {o : Oper} {a : Act} {w : World} {K : Act → World → Prop} {Q : Exit → Act → World → Prop} (x y : Operand) (ho : o.op = .store 93 x y)
    (g : Nat) (b : List Nat) (hx : a.eval x = .pointer (some ⟨g, 0, none⟩)) (hy : a.eval y = .agg (arr b)) (hb : b.length = 16) (xs : List Nat) (hA : Arr w g xs) (hl : xs.length = 16)
    (h : K (a.put o.dst undef) (w.setRow g (arr b))) : o.wp Try.prog a w K Q :=
  wp_store_row 93 x y ho g (arr b) hx hy _ _ hA (by rw [limbs_size, arr_size, hb]) (by rw [arr_size, arr_size, hl, hb]) (arr_one b) h
end Go.Proofs.Yteadkdllmeeocaa
/- A fraction is told as two great numbers. -/
namespace Go.Proofs.Yteadkdllmeeocaa
open Go.RowKit
set_option maxRecDepth 100000

theorem res_arr22 {fn : Func} {p q : Tmp} (h : fn.results = #[.cell p 93, .cell q 93]) (tmps : Array Value) (w : World) (g : Nat) (a : List Nat) (g' : Nat) (b : List Nat)
    (hp : tmps.getD p undef = .pointer (some ⟨g, 0, none⟩)) (hq : tmps.getD q undef = .pointer (some ⟨g', 0, none⟩)) (hg : Arr w g a) (hl : a.length = 16) (hg' : Arr w g' b) (hl' : b.length = 16) : (results fn tmps).run Try.prog w = .ok (.tuple #[.agg (arr a), .agg (arr b)]) w := by
  have hp' : tmps[p]?.getD undef = .pointer (some ⟨g, 0, none⟩) := by simpa using hp
  have hq' : tmps[q]?.getD undef = .pointer (some ⟨g', 0, none⟩) := by simpa using hq
  simp [results, h, hp', hq', asAddr, arr_loadVar hg hl, arr_loadVar hg' hl']

set_option maxHeartbeats 1600000 in
theorem terms_any (m n : Nat) (w : World) (hm : m ≤ 9223372036854775807) (hn : n ≤ 9223372036854775807) :
    Calls Try.prog 113 #[frV m n] w fun e w' => e = .returned (.tuple #[fitV m, fitV n]) ∧ Below w.heap.size w w' := by
  obtain ⟨F0, A1, A2, B⟩ := blk_3 27 93 93 w #[.int .i64 m, .int .i64 n] (arr (fit 0)) (arr (fit 0))
  rw [← zero_cells] at F0 A1 A2 B
  have c1 := fun W => ofInt_any m W hm
  have c2 := fun W => ofInt_any n W hn
  unfold fitV at c1 c2 ⊢
  have lm := fit_len m
  have ln := fit_len n
  generalize fit m = xs at c1 lm
  generalize fit n = ys at c2 ln
  go_enter Try.func113, Try.ntmps113
  go_wp2
  generalize (((w.alloc (.cells #[.int .i64 m, .int .i64 n] 27)).alloc (.cells #[Value.int .i64 0, Value.int .i64 0, Value.int .i64 0, Value.int .i64 0, Value.int .i64 0, Value.int .i64 0, Value.int .i64 0, Value.int .i64 0, Value.int .i64 0, Value.int .i64 0, Value.int .i64 0, Value.int .i64 0, Value.int .i64 0, Value.int .i64 0, Value.int .i64 0, Value.int .i64 0] 93)).alloc (.cells #[Value.int .i64 0, Value.int .i64 0, Value.int .i64 0, Value.int .i64 0, Value.int .i64 0, Value.int .i64 0, Value.int .i64 0, Value.int .i64 0, Value.int .i64 0, Value.int .i64 0, Value.int .i64 0, Value.int .i64 0, Value.int .i64 0, Value.int .i64 0, Value.int .i64 0, Value.int .i64 0] 93)) = W at F0 A1 A2 B
  rw [zero_cells] at A1 A2
  have A1 : Arr W (w.heap.size + 1) (fit 0) := A1
  have A2 : Arr W (w.heap.size + 1 + 1) (fit 0) := A2
  have l0 := fit_len 0
  generalize fit 0 = z0 at A1 A2 l0
  refine wp_region_held_drew (S := fun w' => Fr w' w.heap.size m n) (by kernel_rfl) F0 ?_
  intro hS
  have A1 : Arr W.drew (w.heap.size + 1) z0 := A1
  have A2 : Arr W.drew (w.heap.size + 1 + 1) z0 := A2
  have B := B.drew
  generalize W.drew = V at hS A1 A2 B
  refine takeL 0 (.pointer (some ⟨w.heap.size, 0, none⟩)) rfl (by kernel_rfl) (by kernel_rfl) (by kernel_rfl) (fun _ _ _ h => h) (.inl ⟨by rfl, fun w _ => by rfl⟩) hS ?_
  simp only [Act.put, List.setIfInBounds_toArray, List.set_cons_zero, List.set_cons_succ]
  refine takeL 1 (.int .i64 m) rfl (by kernel_rfl) (by kernel_rfl) (by kernel_rfl) (fun _ _ _ h => h) (yields_int (by rfl) _ rfl _ rfl m (fun _ h => FrT.c0 h)) hS ?_
  simp only [Act.put, List.setIfInBounds_toArray, List.set_cons_zero, List.set_cons_succ]
  refine takeL 3 (.pointer (some ⟨w.heap.size, 1, none⟩)) rfl (by kernel_rfl) (by kernel_rfl) (by kernel_rfl) (fun _ _ _ h => h) (.inl ⟨by rfl, fun w _ => by rfl⟩) hS ?_
  simp only [Act.put, List.setIfInBounds_toArray, List.set_cons_zero, List.set_cons_succ]
  refine takeL 4 (.int .i64 n) rfl (by kernel_rfl) (by kernel_rfl) (by kernel_rfl) (fun _ _ _ h => h) (yields_int (by rfl) _ rfl _ rfl n (fun _ h => FrT.c1 h)) hS ?_
  simp only [Act.put, List.setIfInBounds_toArray, List.set_cons_zero, List.set_cons_succ]
  refine nextL 2 rfl (by kernel_rfl) (by rfl) fun K hK => ?_
  have c1' := c1 V
  go_simp
  refine c1'.mono ?_
  rintro e V1 ⟨rfl, hb1⟩
  refine hK _ _ (hS.below hb1) ?_
  clear hK K c1'
  intro hS
  have A1 := A1.below hb1
  have A2 := A2.below hb1
  have B := B.trans (hb1.mono B.size)
  refine nextL 5 rfl (by kernel_rfl) (by rfl) fun K hK => ?_
  have c2' := c2 V1
  go_simp
  refine c2'.mono ?_
  rintro e V2 ⟨rfl, hb2⟩
  refine hK _ _ (hS.below hb2) ?_
  clear hK K c2'
  intro hS
  have A1 := A1.below hb2
  have A2 := A2.below hb2
  have B := B.trans (hb2.mono B.size)
  refine nextL 6 rfl (by kernel_rfl) (by rfl) fun K hK => ?_
  refine wp_store_arr _ _ rfl (w.heap.size + 1) xs rfl rfl lm z0 A1 l0 ?_
  simp only [Act.put]
  refine hK _ _ (Blk.setRow_other hS _ (by omega)) ?_
  clear hK K
  intro hS
  refine nextL 7 rfl (by kernel_rfl) (by rfl) fun K hK => ?_
  refine wp_store_arr _ _ rfl (w.heap.size + 1 + 1) ys rfl rfl ln z0 (A2.setRow_other _ (by omega)) l0 ?_
  simp only [Act.put]
  refine hK _ _ (Blk.setRow_other hS _ (by omega)) ?_
  clear hK K
  intro hS
  refine wpAnyH_done (by kernel_rfl) ?_ _
  go_wp2
  exact bodyPost_ret (res_arr22 rfl _ _ _ _ _ _ rfl rfl ((A1.setRow xs).setRow_other _ (by omega)) lm ((A2.setRow_other _ (by omega)).setRow ys) ln) rfl ⟨rfl, below_setRow (below_setRow B (by omega) _) (by omega) _⟩
end Go.Proofs.Yteadkdllmeeocaa
/- The product of two lists of limbs: plain facts. -/
namespace Go.Proofs.Yteadkdllmeeocaa

theorem mul_inner {cur b : List Nat} {i j ai c V X : Nat} (hl : i + j < cur.length) (hX : cur.getD (i + j) 0 = X) (hv : val cur + 16777216 ^ (i + j) * c = V + 16777216 ^ i * (ai * val (b.take j))) (x : Nat) (hx : x = X + ai * b.getD j 0 + c) :
    val (cur.set (i + j) (x % 16777216)) + 16777216 ^ (i + (j + 1)) * (x / 16777216) = V + 16777216 ^ i * (ai * val (b.take (j + 1))) := by
  have e := val_set cur (i + j) (x % 16777216) hl
  rw [hX] at e
  have e2 := carry_step (16777216 ^ (i + j)) 0 0 x rfl
  rw [Nat.zero_add, Nat.zero_add] at e2
  have e3 : 16777216 ^ (i + j) * x = 16777216 ^ (i + j) * X + 16777216 ^ (i + j) * (ai * b.getD j 0) + 16777216 ^ (i + j) * c := by rw [hx, Nat.mul_add, Nat.mul_add]
  have e4 : 16777216 ^ i * (ai * val (b.take (j + 1))) = 16777216 ^ i * (ai * val (b.take j)) + 16777216 ^ (i + j) * (ai * b.getD j 0) := by
    rw [val_takeD, Nat.mul_add, Nat.mul_add, Nat.pow_add, Nat.mul_assoc, Nat.mul_left_comm (16777216 ^ j) ai]
  rw [e4, ← Nat.add_assoc i j 1, Nat.pow_succ]
  omega
theorem mul_outer {cur a b : List Nat} {i c lb : Nat} (hl : i + lb < cur.length) (h0 : cur.getD (i + lb) 0 = 0) (hb : b.length = lb) (hv : val cur + 16777216 ^ (i + lb) * c = val (a.take i) * val b + 16777216 ^ i * (a.getD i 0 * val (b.take lb))) :
    val (cur.set (i + lb) c) = val (a.take (i + 1)) * val b := by
  have e := val_set cur (i + lb) c hl
  rw [h0, Nat.mul_zero, Nat.add_zero] at e
  rw [e, hv, show b.take lb = b from List.take_of_length_le (by omega), val_takeD, Nat.add_mul, Nat.mul_assoc]
theorem mul_carry {X ai bj c : Nat} (h1 : X < 16777216) (h2 : ai < 16777216) (h3 : bj < 16777216) (h4 : c < 16777216) : ai * bj ≤ 281474943156225 ∧ (X + ai * bj + c) / 16777216 < 16777216 := by
  have h : ai * bj ≤ 16777215 * 16777215 := Nat.mul_le_mul (by omega) (by omega)
  constructor
  · omega
  · omega
end Go.Proofs.Yteadkdllmeeocaa
