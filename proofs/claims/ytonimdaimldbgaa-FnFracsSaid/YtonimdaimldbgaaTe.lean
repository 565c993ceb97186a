/- A fraction is told as two great numbers. -/
import Derived.Test.YtonimdaimldbgaaFx
import Derived.Test.YtonimdaimldbgaaLt
import Derived.Test.YtonimdaimldbgaaYa
namespace Go.Proofs.Ytonimdaimldbgaa
open Go.RowKit
set_option maxRecDepth 100000

theorem res_arr22 {fn : Func} {p q : Tmp} (h : fn.results = #[.cell p 44, .cell q 44]) (tmps : Array Value) (w : World) (g : Nat) (a : List Nat) (g' : Nat) (b : List Nat)
    (hp : tmps.getD p undef = .pointer (some ⟨g, 0, none⟩)) (hq : tmps.getD q undef = .pointer (some ⟨g', 0, none⟩)) (hg : Arr w g a) (hl : a.length = 16) (hg' : Arr w g' b) (hl' : b.length = 16) : (results fn tmps).run Try.prog w = .ok (.tuple #[.agg (arr a), .agg (arr b)]) w := by
  have hp' : tmps[p]?.getD undef = .pointer (some ⟨g, 0, none⟩) := by simpa using hp
  have hq' : tmps[q]?.getD undef = .pointer (some ⟨g', 0, none⟩) := by simpa using hq
  simp [results, h, hp', hq', asAddr, arr_loadVar hg hl, arr_loadVar hg' hl']

set_option maxHeartbeats 1600000 in
theorem terms_any (m n : Nat) (w : World) (hm : m ≤ 9223372036854775807) (hn : n ≤ 9223372036854775807) :
    Calls Try.prog 64 #[frV m n] w fun e w' => e = .returned (.tuple #[fitV m, fitV n]) ∧ Below w.heap.size w w' := by
  obtain ⟨F0, A1, A2, B⟩ := blk_3 25 44 44 w #[.int .i64 m, .int .i64 n] (arr (fit 0)) (arr (fit 0))
  rw [← zero_cells] at F0 A1 A2 B
  have c1 := fun W => ofInt_any m W hm
  have c2 := fun W => ofInt_any n W hn
  unfold fitV at c1 c2 ⊢
  have lm := fit_len m
  have ln := fit_len n
  generalize fit m = xs at c1 lm
  generalize fit n = ys at c2 ln
  go_enter Try.func64, Try.ntmps64
  go_wp2
  generalize (((w.alloc (.cells #[.int .i64 m, .int .i64 n] 25)).alloc (.cells #[Value.int .i64 0, Value.int .i64 0, Value.int .i64 0, Value.int .i64 0, Value.int .i64 0, Value.int .i64 0, Value.int .i64 0, Value.int .i64 0, Value.int .i64 0, Value.int .i64 0, Value.int .i64 0, Value.int .i64 0, Value.int .i64 0, Value.int .i64 0, Value.int .i64 0, Value.int .i64 0] 44)).alloc (.cells #[Value.int .i64 0, Value.int .i64 0, Value.int .i64 0, Value.int .i64 0, Value.int .i64 0, Value.int .i64 0, Value.int .i64 0, Value.int .i64 0, Value.int .i64 0, Value.int .i64 0, Value.int .i64 0, Value.int .i64 0, Value.int .i64 0, Value.int .i64 0, Value.int .i64 0, Value.int .i64 0] 44)) = W at F0 A1 A2 B
  rw [zero_cells] at A1 A2
  have A1 : Arr W (w.heap.size + 1) (fit 0) := A1
  have A2 : Arr W (w.heap.size + 1 + 1) (fit 0) := A2
  have l0 := fit_len 0
  generalize fit 0 = z0 at A1 A2 l0
  refine wp_region_held_drew (S := fun w' => Fr w' w.heap.size m n) (by kernel_rfl) F0 ?_
  intro hS
  have A1 : Arr W.drew (w.heap.size + 1) z0 := A1
  have A2 : Arr W.drew (w.heap.size + 1 + 1) z0 := A2
  have B := B.drew
  generalize W.drew = V at hS A1 A2 B
  refine takeL 0 (.pointer (some ⟨w.heap.size, 0, none⟩)) rfl (by kernel_rfl) (by kernel_rfl) (by kernel_rfl) (fun _ _ _ h => h) (.inl ⟨by rfl, fun w _ => by rfl⟩) hS ?_
  simp only [Act.put, List.setIfInBounds_toArray, List.set_cons_zero, List.set_cons_succ]
  refine takeL 1 (.int .i64 m) rfl (by kernel_rfl) (by kernel_rfl) (by kernel_rfl) (fun _ _ _ h => h) (yields_int (by rfl) _ rfl _ rfl m (fun _ h => FrT.c0 h)) hS ?_
  simp only [Act.put, List.setIfInBounds_toArray, List.set_cons_zero, List.set_cons_succ]
  refine takeL 3 (.pointer (some ⟨w.heap.size, 1, none⟩)) rfl (by kernel_rfl) (by kernel_rfl) (by kernel_rfl) (fun _ _ _ h => h) (.inl ⟨by rfl, fun w _ => by rfl⟩) hS ?_
  simp only [Act.put, List.setIfInBounds_toArray, List.set_cons_zero, List.set_cons_succ]
  refine takeL 4 (.int .i64 n) rfl (by kernel_rfl) (by kernel_rfl) (by kernel_rfl) (fun _ _ _ h => h) (yields_int (by rfl) _ rfl _ rfl n (fun _ h => FrT.c1 h)) hS ?_
  simp only [Act.put, List.setIfInBounds_toArray, List.set_cons_zero, List.set_cons_succ]
  refine nextL 2 rfl (by kernel_rfl) (by rfl) fun K hK => ?_
  have c1' := c1 V
  go_simp
  refine c1'.mono ?_
  rintro e V1 ⟨rfl, hb1⟩
  refine hK _ _ (hS.below hb1) ?_
  clear hK K c1'
  intro hS
  have A1 := A1.below hb1
  have A2 := A2.below hb1
  have B := B.trans (hb1.mono B.size)
  refine nextL 5 rfl (by kernel_rfl) (by rfl) fun K hK => ?_
  have c2' := c2 V1
  go_simp
  refine c2'.mono ?_
  rintro e V2 ⟨rfl, hb2⟩
  refine hK _ _ (hS.below hb2) ?_
  clear hK K c2'
  intro hS
  have A1 := A1.below hb2
  have A2 := A2.below hb2
  have B := B.trans (hb2.mono B.size)
  refine nextL 6 rfl (by kernel_rfl) (by rfl) fun K hK => ?_
  refine wp_store_arr _ _ rfl (w.heap.size + 1) xs rfl rfl lm z0 A1 l0 ?_
  simp only [Act.put]
  refine hK _ _ (Blk.setRow_other hS _ (by omega)) ?_
  clear hK K
  intro hS
  refine nextL 7 rfl (by kernel_rfl) (by rfl) fun K hK => ?_
  refine wp_store_arr _ _ rfl (w.heap.size + 1 + 1) ys rfl rfl ln z0 (A2.setRow_other _ (by omega)) l0 ?_
  simp only [Act.put]
  refine hK _ _ (Blk.setRow_other hS _ (by omega)) ?_
  clear hK K
  intro hS
  refine wpAnyH_done (by kernel_rfl) ?_ _
  go_wp2
  exact bodyPost_ret (res_arr22 rfl _ _ _ _ _ _ rfl rfl ((A1.setRow xs).setRow_other _ (by omega)) lm ((A2.setRow_other _ (by omega)).setRow ys) ln) rfl ⟨rfl, below_setRow (below_setRow B (by omega) _) (by omega) _⟩
end Go.Proofs.Ytonimdaimldbgaa
