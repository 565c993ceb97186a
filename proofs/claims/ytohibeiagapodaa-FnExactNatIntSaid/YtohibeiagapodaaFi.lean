/- The face NatInt. -/
import Derived.Test.YtohibeiagapodaaBk
import Derived.Test.YtohibeiagapodaaBo
import Derived.Test.YtohibeiagapodaaLt
import Derived.Test.YtohibeiagapodaaCm
import Derived.Test.YtohibeiagapodaaIi
namespace Go.Proofs.Ytohibeiagapodaa
open Go.RowKit Go.Shelf
set_option maxRecDepth 100000
attribute [local go_sem] Oper.semAt_some

theorem fold_step {V l T : Nat} (hT : T = l + 16777216 * V) (hle : T ≤ 9223372036854775807) : wrap64 (wrap64 ((V : Int) * 16777216) + (l : Int)) = (T : Int) := by
  simp only [wrap64]
  omega
theorem fold_back (a : List Nat) (hv : val a ≤ 9223372036854775807) (k : Nat) : k ≤ a.length → foldB (upTo (backAt a.length (up a)) k) = ((val (a.drop (a.length - k)) : Nat) : Int) := by
  induction k with
  | zero =>
    intro _
    rw [Nat.sub_zero, List.drop_of_length_le (Nat.le_refl _)]
    simp [upTo, foldB, val]
  | succ k ih =>
    intro hk
    have e : val (a.drop (a.length - (k + 1))) = a.getD (a.length - 1 - k) 0 + 16777216 * val (a.drop (a.length - k)) := by
      rw [show a.length - (k + 1) = a.length - 1 - k by omega, val_drop a (a.length - 1 - k) (by omega), show a.length - 1 - k + 1 = a.length - k by omega]
    have hle := val_drop_le a (a.length - (k + 1)) (by omega)
    have hb : (backAt a.length (up a) k).2 = ((a.getD (a.length - 1 - k) 0 : Nat) : Int) := by
      show (up a)[a.length - 1 - k]?.getD 0 = _
      rw [← up_getD, List.getD_eq_getElem?_getD]
    rw [upTo_succ, foldB_snoc, ih (by omega), hb]
    exact fold_step e (by omega)

set_option maxHeartbeats 2000000 in
theorem implInt_no (v : Value) (zs : List Int) (w : World) (hv : RowI w v zs) (hn : zs.length ≤ 140737488351232) (hok : ¬ okL zs) :
    Calls Try.prog 23 #[v] w fun e w' => e = .returned (.tuple #[.int .i64 0, .bool false]) ∧ Below w.heap.size w w' := by
  have c1 := limbs_of v zs w hv hn
  rw [decide_eq_false hok] at c1
  generalize pv zs = m at c1
  have lm := fit_len m
  unfold fitV at c1
  go_enter Try.func23, Try.ntmps23
  go_wp2_with (first | (go_at_call 33; refine c1.mono ?_; clear c1; rintro e w1 ⟨rfl, hb1⟩; have A := arr_1 39 w1 (fit m)) | (with_reducible refine wp_arr_init rfl _ _ rfl ?_; refine ⟨_, rfl, by simp, fit m, rfl, lm, ?_⟩))
  refine wp_region_held_drew (S := fun w' => Arr w' w1.heap.size (fit m)) (by kernel_rfl) A.1 ?_
  intro hS
  refine takeL 0 (.bool false) rfl (by kernel_rfl) (by kernel_rfl) (by kernel_rfl) (fun _ _ _ h => h) (.inl ⟨by rfl, fun w _ => by rfl⟩) hS ?_
  simp only [Act.put, List.setIfInBounds_toArray, List.set_cons_zero, List.set_cons_succ]
  refine takeL 1 (.bool true) rfl (by kernel_rfl) (by kernel_rfl) (by kernel_rfl) (fun _ _ _ h => h) (.inl ⟨by rfl, fun w _ => by rfl⟩) hS ?_
  simp only [Act.put, List.setIfInBounds_toArray, List.set_cons_zero, List.set_cons_succ]
  refine takeL 2 (.bool true) rfl (by kernel_rfl) (by kernel_rfl) (by kernel_rfl) (fun _ _ _ h => h) (.inl ⟨by rfl, fun w _ => by rfl⟩) hS ?_
  simp only [Act.put, List.setIfInBounds_toArray, List.set_cons_zero, List.set_cons_succ]
  refine takeL 3 (undef) rfl (by kernel_rfl) (by kernel_rfl) (by kernel_rfl) (fun _ _ _ h => h) (.inr ⟨by rfl, rfl⟩) hS ?_
  simp only [Act.put, List.setIfInBounds_toArray, List.set_cons_zero, List.set_cons_succ]
  refine takeL 4 (undef) rfl (by kernel_rfl) (by kernel_rfl) (by kernel_rfl) (fun _ _ _ h => h) (.inr ⟨by rfl, rfl⟩) hS ?_
  simp only [Act.put, List.setIfInBounds_toArray, List.set_cons_zero, List.set_cons_succ]
  refine takeL 5 (undef) rfl (by kernel_rfl) (by kernel_rfl) (by kernel_rfl) (fun _ _ _ h => h) (.inr ⟨by rfl, rfl⟩) hS ?_
  simp only [Act.put, List.setIfInBounds_toArray, List.set_cons_zero, List.set_cons_succ]
  refine takeL 6 (undef) rfl (by kernel_rfl) (by kernel_rfl) (by kernel_rfl) (fun _ _ _ h => h) (.inr ⟨by rfl, rfl⟩) hS ?_
  simp only [Act.put, List.setIfInBounds_toArray, List.set_cons_zero, List.set_cons_succ]
  refine takeL 7 (.bool true) rfl (by kernel_rfl) (by kernel_rfl) (by kernel_rfl) (fun _ _ _ h => h) (.inl ⟨by rfl, fun w _ => by rfl⟩) hS ?_
  simp only [Act.put, List.setIfInBounds_toArray, List.set_cons_zero, List.set_cons_succ]
  refine wpAnyH_done (by kernel_rfl) ?_ _
  go_wp2
  go_ret2
  exact ⟨rfl, (hb1.trans (A.2.mono hb1.size)).drew⟩

set_option maxHeartbeats 2000000 in
theorem implInt_big (v : Value) (zs : List Int) (w : World) (hv : RowI w v zs) (hn : zs.length ≤ 140737488351232) (hok : okL zs) (hbig : ¬ num zs ≤ 9223372036854775807) :
    Calls Try.prog 23 #[v] w fun e w' => e = .returned (.tuple #[.int .i64 0, .bool false]) ∧ Below w.heap.size w w' := by
  have c1 := limbs_of v zs w hv hn
  rw [decide_eq_true hok, show pv zs = num zs from if_pos hok] at c1
  have ht := okL_num_lt zs hok
  have hcm : cmpN (num zs) 9223372036854775807 = 1 := by unfold cmpN; rw [if_neg (by omega), if_neg (by omega)]
  have c3 := fun W => cmp_any (num zs) 9223372036854775807 W ht (by unfold top; omega)
  rw [hcm] at c3
  have c2 := fun W => ofInt_any 9223372036854775807 W (Nat.le_refl _)
  generalize num zs = m at c1 c3
  have lm := fit_len m
  unfold fitV at c1 c2 c3
  generalize fit 9223372036854775807 = mx at c2 c3
  clear hok hbig ht hcm
  go_enter Try.func23, Try.ntmps23
  go_wp2_with (first | (go_at_call 33; refine c1.mono ?_; clear c1; rintro e w1 ⟨rfl, hb1⟩; have A := arr_1 39 w1 (fit m)) | (with_reducible refine wp_arr_init rfl _ _ rfl ?_; refine ⟨_, rfl, by simp, fit m, rfl, lm, ?_⟩))
  refine wp_region_held_drew (S := fun w' => Arr w' w1.heap.size (fit m)) (by kernel_rfl) A.1 ?_
  intro hS
  refine takeL 0 (.bool true) rfl (by kernel_rfl) (by kernel_rfl) (by kernel_rfl) (fun _ _ _ h => h) (.inl ⟨by rfl, fun w _ => by rfl⟩) hS ?_
  simp only [Act.put, List.setIfInBounds_toArray, List.set_cons_zero, List.set_cons_succ]
  refine takeL 1 (.bool false) rfl (by kernel_rfl) (by kernel_rfl) (by kernel_rfl) (fun _ _ _ h => h) (.inl ⟨by rfl, fun w _ => by rfl⟩) hS ?_
  simp only [Act.put, List.setIfInBounds_toArray, List.set_cons_zero, List.set_cons_succ]
  refine takeL 2 (.bool false) rfl (by kernel_rfl) (by kernel_rfl) (by kernel_rfl) (fun _ _ _ h => h) (.inl ⟨by rfl, fun w _ => by rfl⟩) hS ?_
  simp only [Act.put, List.setIfInBounds_toArray, List.set_cons_zero, List.set_cons_succ]
  refine takeL 3 (.agg (arr (fit m))) rfl (by kernel_rfl) (by kernel_rfl) (by kernel_rfl) (fun _ _ _ h => h) (yields_arr (by rfl) _ rfl w1.heap.size rfl (fit m) (fun _ h => h) lm) hS ?_
  simp only [Act.put, List.setIfInBounds_toArray, List.set_cons_zero, List.set_cons_succ]
  have b1 : Below w.heap.size w (w1.alloc (.cells (arr (fit m)) 39)).drew := (hb1.trans (A.2.mono hb1.size)).drew
  generalize (w1.alloc (.cells (arr (fit m)) 39)).drew = W at hS b1
  refine nextL 4 rfl (by kernel_rfl) (by rfl) fun K hK => ?_
  have c2' := c2 W
  go_simp
  refine c2'.mono ?_
  rintro e W2 ⟨rfl, hb2⟩
  refine hK _ _ (hS.below hb2) ?_
  clear hK K c2'
  intro hS
  have b2 := b1.trans (hb2.mono b1.size)
  refine nextL 5 rfl (by kernel_rfl) (by rfl) fun K hK => ?_
  have c3' := c3 W2
  go_simp
  refine c3'.mono ?_
  rintro e W3 ⟨rfl, hb3⟩
  refine hK _ _ (hS.below hb3) ?_
  clear hK K c3'
  intro hS
  have b3 := b2.trans (hb3.mono b2.size)
  refine takeL 6 (.bool true) rfl (by kernel_rfl) (by kernel_rfl) (by kernel_rfl) (fun _ _ _ h => h) (.inl ⟨by rfl, fun w _ => by rfl⟩) hS ?_
  simp only [Act.put, List.setIfInBounds_toArray, List.set_cons_zero, List.set_cons_succ]
  refine takeL 7 (.bool true) rfl (by kernel_rfl) (by kernel_rfl) (by kernel_rfl) (fun _ _ _ h => h) (.inl ⟨by rfl, fun w _ => by rfl⟩) hS ?_
  simp only [Act.put, List.setIfInBounds_toArray, List.set_cons_zero, List.set_cons_succ]
  refine wpAnyH_done (by kernel_rfl) ?_ _
  go_wp2
  go_ret2
  exact ⟨rfl, b3⟩

set_option maxHeartbeats 4000000 in
theorem implInt_yes (oa : Option Addr) (n cap : Nat) (zs : List Int) (w : World) (hzn : zs.length = n) (hcap : n ≤ cap) (hrow : 0 < n → ∃ g o, oa = some ⟨g, o, none⟩ ∧ g < w.heap.size ∧ ∀ j, j < n → w.cell? ⟨g, o + j, none⟩ = some (.int .i64 (zs.getD j 0))) (hok : okL zs) (hsm : num zs ≤ 9223372036854775807) :
    Calls Try.prog 23 #[.slice oa n cap] w fun e w' => e = .returned (.tuple #[.int .i64 (num zs : Int), .bool true]) ∧ Below w.heap.size w w' := by
  have hv : RowI w (.slice oa n cap) zs := ⟨oa, cap, by rw [hzn], by omega, fun h => by rw [hzn] at h ⊢; exact hrow h⟩
  have hn16 : n ≤ 16 := by have := hok.1; omega
  have c1 := limbs_of (.slice oa n cap) zs w hv (by omega)
  rw [decide_eq_true hok, show pv zs = num zs from if_pos hok] at c1
  have ht := okL_num_lt zs hok
  have hcm : cmpN (num zs) 9223372036854775807 ≤ 0 := by unfold cmpN; split; omega; split <;> omega
  have c3 := fun W => cmp_any (num zs) 9223372036854775807 W ht (by unfold top; omega)
  generalize cmpN (num zs) 9223372036854775807 = C at c3 hcm
  have c2 := fun W => ofInt_any 9223372036854775807 W (Nat.le_refl _)
  have HSUM : Hid (foldB (upTo (backAt n zs) n) = ((num zs : Nat) : Int)) := by
    show _ = _
    have h1 := okL_up zs hok
    have h2 : (nats zs).length = n := by rw [← hzn]; simp [nats]
    have h3 := fold_back (nats zs) hsm (nats zs).length (Nat.le_refl _)
    rw [Nat.sub_self, List.drop_zero, ← h1, h2] at h3
    exact h3
  have HROW : Hid (0 < n → ∃ g o, oa = some ⟨g, o, none⟩ ∧ g < w.heap.size ∧ ∀ j, j < n → w.cell? ⟨g, o + j, none⟩ = some (.int .i64 (zs.getD j 0))) := hrow
  generalize hNUM : num zs = m at c1 c3 HSUM
  have lm := fit_len m
  unfold fitV at c1 c2 c3
  generalize fit 9223372036854775807 = mx at c2 c3
  clear hok hsm ht hv hNUM hrow
  refine (callsIn_wide (n := 5)).1 ?_
  refine callsIn_of_wp_marks Try.func23 rfl trivial ?_ rfl
  simp only [Try.ntmps23, List.size_toArray, List.length_cons, List.length_nil, Nat.reduceAdd, Nat.reduceSub, Array.replicate_succ, Array.replicate_zero, List.push_toArray, List.append_toArray, List.nil_append, List.cons_append]
  refine wpIn_wide.2 ?_
  go_wp2_with (first | (go_at_call 33; refine c1.mono ?_; clear c1; rintro e w1 ⟨rfl, hb1⟩; have A := arr_1 39 w1 (fit m)) | (with_reducible refine wp_arr_init rfl _ _ rfl ?_; refine ⟨_, rfl, by simp, fit m, rfl, lm, ?_⟩))
  refine wp_region_noPanic ?_
  refine wp_region_held_drew (S := fun w' => Arr w' w1.heap.size (fit m)) (by kernel_rfl) A.1 ?_
  intro hS
  refine takeL 0 (.bool true) rfl (by kernel_rfl) (by kernel_rfl) (by kernel_rfl) (fun _ _ _ h => h) (.inl ⟨by rfl, fun w _ => by rfl⟩) hS ?_
  simp only [Act.put, List.setIfInBounds_toArray, List.set_cons_zero, List.set_cons_succ]
  refine takeL 1 (.bool false) rfl (by kernel_rfl) (by kernel_rfl) (by kernel_rfl) (fun _ _ _ h => h) (.inl ⟨by rfl, fun w _ => by rfl⟩) hS ?_
  simp only [Act.put, List.setIfInBounds_toArray, List.set_cons_zero, List.set_cons_succ]
  refine takeL 2 (.bool false) rfl (by kernel_rfl) (by kernel_rfl) (by kernel_rfl) (fun _ _ _ h => h) (.inl ⟨by rfl, fun w _ => by rfl⟩) hS ?_
  simp only [Act.put, List.setIfInBounds_toArray, List.set_cons_zero, List.set_cons_succ]
  refine takeL 3 (.agg (arr (fit m))) rfl (by kernel_rfl) (by kernel_rfl) (by kernel_rfl) (fun _ _ _ h => h) (yields_arr (by rfl) _ rfl w1.heap.size rfl (fit m) (fun _ h => h) lm) hS ?_
  simp only [Act.put, List.setIfInBounds_toArray, List.set_cons_zero, List.set_cons_succ]
  have b1 : Below w.heap.size w (w1.alloc (.cells (arr (fit m)) 39)).drew := (hb1.trans (A.2.mono hb1.size)).drew
  generalize (w1.alloc (.cells (arr (fit m)) 39)).drew = W at hS b1
  refine nextL 4 rfl (by kernel_rfl) (by rfl) fun K hK => ?_
  have c2' := c2 W
  go_simp
  refine c2'.mono ?_
  rintro e W2 ⟨rfl, hb2⟩
  refine hK _ _ (hS.below hb2) ?_
  clear hK K c2'
  intro hS
  have b2 := b1.trans (hb2.mono b1.size)
  refine nextL 5 rfl (by kernel_rfl) (by rfl) fun K hK => ?_
  have c3' := c3 W2
  go_simp
  refine c3'.mono ?_
  rintro e W3 ⟨rfl, hb3⟩
  refine hK _ _ (hS.below hb3) ?_
  clear hK K c3'
  intro hS
  have b3 := b2.trans (hb3.mono b2.size)
  refine takeL 6 (.bool (decide (0 < C))) rfl (by kernel_rfl) (by kernel_rfl) (by kernel_rfl) (fun _ _ _ h => h) (.inl ⟨by rfl, fun w _ => by rfl⟩) hS ?_
  simp only [Act.put, List.setIfInBounds_toArray, List.set_cons_zero, List.set_cons_succ]
  refine takeL 7 (.bool (decide (0 < C))) rfl (by kernel_rfl) (by kernel_rfl) (by kernel_rfl) (fun _ _ _ h => h) (.inl ⟨by rfl, fun w _ => by rfl⟩) hS ?_
  simp only [Act.put, List.setIfInBounds_toArray, List.set_cons_zero, List.set_cons_succ]
  refine wpAnyH_done (by kernel_rfl) (NoPanic.normal ?_) _
  have hdC : decide (0 < C) = false := by simp; omega
  rw [hdC]
  go_wp2_with (go_at_call 36; refine (back_any _ _ _ _).mono ?_; rintro e w' ⟨rfl, rfl⟩)
  have hs3 := b3.size
  have bS := Boxed.new W3 3 (.int .i64 0)
  have bN := Boxed.new (W3.alloc (.cells #[.int .i64 0] 3)) 24 (.slice oa n cap)
  rw [World.size_alloc] at bN
  have hBW : Below W3.heap.size W3 ((W3.alloc (.cells #[.int .i64 0] 3)).alloc (.cells #[.slice oa n cap] 24)) := ((Below.refl _ W3).alloc (Nat.le_refl _) _).alloc (by simp) _
  have hB0 : Below w.heap.size w ((W3.alloc (.cells #[.int .i64 0] 3)).alloc (.cells #[.slice oa n cap] 24)) := b3.trans (hBW.mono hs3)
  have hseq : ∃ b, b < W3.heap.size + 1 + 1 ∧ b ≠ W3.heap.size ∧ SeqStopsK Fence.wide 4 Try.prog 45 #[.pointer (some ⟨W3.heap.size + 1, 0, none⟩)] (fun x : Int × Int => #[Value.int .i64 x.1, Value.int .i64 x.2]) (KeepsRow (W3.heap.size + 1) b) (fun ys => ys = upTo (backAt n zs) n) (fun _ => True) n ((W3.alloc (.cells #[.int .i64 0] 3)).alloc (.cells #[.slice oa n cap] 24)) := by
    by_cases h0 : 0 < n
    · obtain ⟨g, o, rfl, hg, hc⟩ := HROW.out h0
      refine ⟨g, by omega, by omega, back_stops 4 (by decide) _ g o n cap zs hn16 _ (by simp) (by simp; omega) bN.cell (fun j hj => ?_)⟩
      rw [← List.getD_eq_getElem?_getD]
      exact (hB0.cell (p := ⟨g, o + j, none⟩) hg).trans (hc j hj)
    · obtain rfl : n = 0 := by omega
      exact ⟨W3.heap.size + 1, by omega, by omega, back_stops0 4 _ oa cap zs _ (by simp) bN.cell⟩
  obtain ⟨bb, hbb1, hbb2, hseq⟩ := hseq
  refine (wpIn_wide (n := 5)).1 ?_
  refine wpIn_rangeFunc_ownG (F := Fence.wide) rfl (by decide) (gf := 45) (lb := #[.pointer (some ⟨W3.heap.size + 1, 0, none⟩)]) rfl trivial (enters_of Try.func45 (by kernel_rfl) rfl)
    hseq (fun h k => h.trans k) (keepsRow_b (by simp) (by simp; omega)) (Below.refl _ _) (fun _ => rfl)
    (fun pre W => (W.cell? ⟨W3.heap.size, 0, none⟩ = some (.int .i64 (foldB pre)) ∧ W.frozen? ⟨W3.heap.size, 0, none⟩ = false) ∧ Below w.heap.size w W)
    (fun _ _ _ => False)
    (OwnFrom.and (Own.from (fun s A B row hs hg hr => ⟨cell_kept hs.1 hg hr, (frozen_kept hs.1 hg hr).trans hs.2⟩) _) (ownFrom_below (Nat.le_refl _) (by simp; omega)))
    (fun _ _ _ _ _ hs _ _ => hs)
    ⟨⟨(bS.alloc _).cell, (bS.alloc _).frozen⟩, hB0⟩
    (fun x => { tmps := #[.slice oa n cap, undef, .int .i64 0, .bool false, .pointer (some ⟨w1.heap.size, 0, none⟩), .bool true, .pointer (some ⟨W3.heap.size, 0, none⟩), undef, .int .i64 x.2, .tuple #[.agg (arr (fit m)), .bool true], .slice oa n cap, .tuple #[.agg (arr (fit m)), .bool true], .agg (arr (fit m)), .bool true, .bool true, .bool false, .bool false, .agg (arr (fit m)), .agg (arr mx), .int .i64 C, .bool false, .bool false, .slice oa n cap, .func (.func 45) #[] #[.pointer (some ⟨W3.heap.size + 1, 0, none⟩)], .int .i64 x.1, .int .i64 x.2, undef, undef, undef, undef, undef], defers := [] }) ?assign ?body ?done ?stop
  case assign =>
    intro l x W K hK
    gi_wp2
    exact hK
  case body =>
    rintro l pre x W ⟨⟨hc, hf⟩, hB⟩ _
    gi_wp2
    refine ⟨(KeepsOthers.setCell _ _ _).from _, fun p hp => ?_, ⟨by rw [foldB_snoc]; exact World.cell?_setCell_same' _ _ _ (by rw [hc]; rfl), by rw [World.frozen?_setCell]; exact hf⟩, hB.setCell (p := ⟨W3.heap.size, 0, none⟩) hs3 _⟩
    refine World.cell?_setCell_other W _ _ _ (fun e => ?_)
    have e2 := congrArg Addr.block e
    simp at e2
    rcases hp with h | h <;> omega
  case done =>
    rintro D ys W hD rfl ⟨⟨hc, _⟩, hB⟩ hK
    gi_wp2
    go_wp2
    refine ⟨by simp, .inl ⟨_, _, rfl, run_takeDeferred hK, ?_⟩⟩
    exact ⟨_, results_tmp2 rfl _ _ _, by rw [← HSUM.out]; rfl, hB.trans (belowK_b (w := w) (Nat.le_refl _) W D _ _ (by simp at hD; omega) hK rfl rfl)⟩
  case stop =>
    rintro D c pre W _ _ h _
    exact h.elim

theorem implInt_any (v : Value) (zs : List Int) (w : World) (hv : RowI w v zs) (hn : zs.length ≤ 140737488351232) :
    Calls Try.prog 23 #[v] w fun e w' => e = .returned (.tuple #[.int .i64 (intV zs), .bool (intO zs).isSome]) ∧ Below w.heap.size w w' := by
  unfold intV intO
  by_cases hok : okL zs
  · by_cases hsm : num zs ≤ 9223372036854775807
    · rw [if_pos ⟨hok, hsm⟩]
      obtain ⟨oa, cap, rfl, hcap, hrow⟩ := hv
      exact implInt_yes oa zs.length cap zs w rfl hcap hrow hok hsm
    · rw [if_neg (fun h => hsm h.2)]
      exact implInt_big v zs w hv hn hok hsm
  · rw [if_neg (fun h => hok h.1)]
    exact implInt_no v zs w hv hn hok
end Go.Proofs.Ytohibeiagapodaa
