/- Two lists of integers become great numbers inside. -/
import Derived.Test.YtobnghmadoejjaaLo
import Derived.Deep.RegionHeld3
namespace Go.Proofs.Ytobnghmadoejjaa
open Go.RowKit
set_option maxRecDepth 100000

/-- What a list of integers stands for; 0 where it is no great number. -/
def pv (zs : List Int) : Nat := if okL zs then num zs else 0
theorem pv_lt (zs : List Int) : pv zs < top := by
  unfold pv
  split
  · exact okL_num_lt zs (by assumption)
  · unfold top; omega
theorem limbs_of (v : Value) (zs : List Int) (w : World) (hv : RowI w v zs) (hn : zs.length ≤ 140737488351232) :
    Calls Try.prog 26 #[v] w fun e w' => e = .returned (.tuple #[fitV (pv zs), .bool (decide (okL zs))]) ∧ Below w.heap.size w w' := by
  have h := limbsOf_any v zs w hv hn
  have e : okV zs = .tuple #[fitV (pv zs), .bool (decide (okL zs))] := by
    unfold okV pv
    by_cases h : okL zs
    · rw [if_pos h, if_pos h, decide_eq_true h]
    · rw [if_neg h, if_neg h, decide_eq_false h]
  rw [e] at h; exact h

/-- In a region that draws its order the load of a whole array may be taken first. -/
theorem yields_arr {ops : Array Oper} {S : World → Prop} {op : Oper} {a : Act} (hw : Region.wanted op (yielded ops a.tmps) = true) (x : Operand) (ho : op.op = .load 42 x)
    (g : Nat) (hx : a.eval x = .pointer (some ⟨g, 0, none⟩)) (xs : List Nat) (hS : ∀ w, S w → Arr w g xs) (hl : xs.length = 16) : YieldsIf Try.prog ops S op (.agg (arr xs)) a :=
  .inl ⟨hw, fun w hw' => by
    unfold execOp
    simp only [ho, hx, Instr.loadAt, Instr.sureAddr, Sem.run_bind, Sem.run_pure, Result.andThen_ok, arr_loadVar (hS w hw') hl]⟩
theorem wp_store_arr {o : Oper} {a : Act} {w : World} {K : Act → World → Prop} {Q : Exit → Act → World → Prop} (x y : Operand) (ho : o.op = .store 42 x y)
    (g : Nat) (b : List Nat) (hx : a.eval x = .pointer (some ⟨g, 0, none⟩)) (hy : a.eval y = .agg (arr b)) (hb : b.length = 16) (xs : List Nat) (hA : Arr w g xs) (hl : xs.length = 16)
    (h : K (a.put o.dst undef) (w.setRow g (arr b))) : o.wp Try.prog a w K Q :=
  wp_store_row 42 x y ho g (arr b) hx hy _ _ hA (by rw [limbs_size, arr_size, hb]) (by rw [arr_size, arr_size, hl, hb]) (arr_one b) h

section
variable {Pr : Program} {ops : Array Oper} {Q : Exit → Act → World → Prop} {md : Region.Mode} {S : World → Prop}
/-- An operation that may come up now is taken first; it is read off the list, so that it stands written out. -/
theorem takeL (i : Nat) {oi : Oper} (v : Value) {fuel : Nat} {listed : Array Bool} {a : Act} {w : World} (hi : ops.toList[i]? = some oi)
    (hs : Region.noSelect ops = true) (hf : Region.free md ops listed i = true) (hr : (Region.ready md ops listed).contains i = true)
    (hQ : ∀ c a w, Q (.panic c) (a.put oi.dst v) w → Q (.panic c) a w) (hy : YieldsIf Pr ops S oi v a) (hS : S w)
    (h : wpAnyH Pr md ops Q S fuel (listed.setIfInBounds i true) (a.put oi.dst v) w) : wpAnyH Pr md ops Q S (fuel + 1) listed a w :=
  wpAnyH_take (by simpa using hi) hs hf hr hQ hy hS h
/-- The one operation that may come up now. -/
theorem nextL (i : Nat) {oi : Oper} {fuel : Nat} {listed : Array Bool} {a : Act} {w : World} (hi : ops.toList[i]? = some oi) (hr : Region.ready md ops listed = [i])
    (hw : Region.wanted oi (yielded ops a.tmps) = true)
    (h : ∀ K' : Act → World → Prop, (∀ a w, S w → (S w → wpAnyH Pr md ops Q S fuel (listed.setIfInBounds i true) a w) → K' a w) → Oper.wp Pr oi a w K' Q) : wpAnyH Pr md ops Q S (fuel + 1) listed a w := by
  refine wpAnyH_ready hr (by simp) (AllReadyH.cons (o := oi) (by simpa using hi) (fun K hK => ?_) AllReadyH.nil)
  rw [if_pos hw]
  exact h K hK.out
end

set_option maxHeartbeats 1600000 in
theorem both_any (v1 v2 : Value) (zs ys : List Int) (w : World) (hv1 : RowI w v1 zs) (hv2 : RowI w v2 ys) (hn1 : zs.length ≤ 140737488351232) (hn2 : ys.length ≤ 140737488351232) :
    Calls Try.prog 27 #[v1, v2] w fun e w' => e = .returned (.tuple #[fitV (pv zs), fitV (pv ys), .bool (decide (okL zs) && decide (okL ys))]) ∧ Below w.heap.size w w' := by
  obtain ⟨a4, a5, b5⟩ := arr_2 42 42 w (fit 0) (fit 0)
  rw [← zero_cells] at a4 a5 b5
  have c1 := limbs_of v1 zs _ (hv1.later b5) hn1
  have hv2' := hv2.later b5
  have c2 := fun W h => limbs_of v2 ys W h hn2
  generalize decide (okL zs) = bx at c1
  generalize decide (okL ys) = by' at c2
  have hp1 := pv_lt zs
  have hp2 := pv_lt ys
  generalize pv zs = m at c1 hp1
  generalize pv ys = n at c2 hp2
  go_enter Try.func27, Try.ntmps27
  go_wp2_with (first | (go_at_call 26; refine c1.mono ?_; clear c1; rintro e w1 ⟨rfl, hb1⟩) | (with_reducible refine wp_arr_init rfl _ _ rfl ?_; refine ⟨_, rfl, by simp, fit m, rfl, fit_len _, ?_⟩))
  have hs1 := hb1.size
  rw [World.size_alloc, World.size_alloc] at hs1
  have a4 := (a4.below hb1).alloc (.cells (arr (fit m)) 42)
  have a5 := (a5.below hb1).alloc (.cells (arr (fit m)) 42)
  have ax := ArrT.new 42 w1 (fit m)
  have b1 : Below w.heap.size w (w1.alloc (.cells (arr (fit m)) 42)) := (b5.trans (hb1.mono (by simp; omega))).alloc (by omega) _
  have hv3 := hv2'.later (hb1.alloc hb1.size (.cells (arr (fit m)) 42))
  refine (c2 _ hv3).mono ?_
  clear c2 hv3 hv2' hb1 b5
  rintro e w2 ⟨rfl, hb2⟩
  have hs2 := hb2.size
  rw [World.size_alloc] at hs2
  have a4 := (a4.below hb2).alloc (.cells (arr (fit n)) 42)
  have a5 := (a5.below hb2).alloc (.cells (arr (fit n)) 42)
  have ax := (ax.below hb2).alloc (.cells (arr (fit n)) 42)
  have ay := ArrT.new 42 w2 (fit n)
  have b2 : Below w.heap.size w (w2.alloc (.cells (arr (fit n)) 42)) := (b1.trans (hb2.mono (by simp; omega))).alloc (by omega) _
  clear hb2 b1
  go_wp2_with (with_reducible refine wp_arr_init rfl _ _ rfl ?_; refine ⟨_, rfl, by simp, fit n, rfl, fit_len _, ?_⟩)
  obtain ⟨bx1, hbx⟩ : ∃ b, w1.heap.size = b := ⟨_, rfl⟩
  obtain ⟨by1, hby⟩ : ∃ b, w2.heap.size = b := ⟨_, rfl⟩
  obtain ⟨b41, hb4⟩ : ∃ b, w.heap.size = b := ⟨_, rfl⟩
  rw [hbx] at ax hs1 hs2
  rw [hby] at ay hs2
  rw [hb4] at a4 a5 b2 hs1 
  rw [hbx, hby, hb4]
  generalize w2.alloc (.cells (arr (fit n)) 42) = W at a4 a5 ax ay b2
  clear hbx hby
  unfold fitV
  have l0 := fit_len 0
  have lm := fit_len m
  have ln := fit_len n
  generalize fit 0 = z0 at a4 a5 l0
  generalize hxs : fit m = xs at ax lm
  generalize hys : fit n = ys' at ay ln
  have a4' : Arr W.drew b41 z0 := a4
  have a5' : Arr W.drew (b41 + 1) z0 := a5
  have b2' : Below b41 w W.drew := b2.drew
  cases bx
  · refine wp_region_held_drew (S := fun w' => Arr w' bx1 xs ∧ Arr w' by1 ys') (by kernel_rfl) ⟨ax, ay⟩ ?_
    intro hS
    refine takeL 0 (.agg (arr xs)) rfl (by kernel_rfl) (by kernel_rfl) (by kernel_rfl) (fun _ _ _ h => h) (yields_arr (by rfl) _ rfl bx1 rfl xs (fun w h => h.1) lm) hS ?_
    simp only [Act.put, List.setIfInBounds_toArray, List.set_cons_zero, List.set_cons_succ]
    refine takeL 1 (.agg (arr ys')) rfl (by kernel_rfl) (by kernel_rfl) (by kernel_rfl) (fun _ _ _ h => h) (yields_arr (by rfl) _ rfl by1 rfl ys' (fun w h => h.2) ln) hS ?_
    simp only [Act.put, List.setIfInBounds_toArray, List.set_cons_zero, List.set_cons_succ]
    refine takeL 2 (.bool false) rfl (by kernel_rfl) (by kernel_rfl) (by kernel_rfl) (fun _ _ _ h => h) (.inl ⟨by rfl, fun w _ => by rfl⟩) hS ?_
    simp only [Act.put, List.setIfInBounds_toArray, List.set_cons_zero, List.set_cons_succ]
    refine takeL 3 (.bool false) rfl (by kernel_rfl) (by kernel_rfl) (by kernel_rfl) (fun _ _ _ h => h) (.inl ⟨by rfl, fun w _ => by rfl⟩) hS ?_
    simp only [Act.put, List.setIfInBounds_toArray, List.set_cons_zero, List.set_cons_succ]
    refine takeL 4 (undef) rfl (by kernel_rfl) (by kernel_rfl) (by kernel_rfl) (fun _ _ _ h => h) (.inr ⟨by rfl, rfl⟩) hS ?_
    simp only [Act.put, List.setIfInBounds_toArray, List.set_cons_zero, List.set_cons_succ]
    refine takeL 5 (.bool false) rfl (by kernel_rfl) (by kernel_rfl) (by kernel_rfl) (fun _ _ _ h => h) (.inl ⟨by rfl, fun w _ => by rfl⟩) hS ?_
    simp only [Act.put, List.setIfInBounds_toArray, List.set_cons_zero, List.set_cons_succ]
    refine nextL 6 rfl (by kernel_rfl) (by rfl) fun K hK => ?_
    refine wp_store_arr _ _ rfl b41 xs rfl rfl lm z0 a4' l0 ?_
    simp only [Act.put]
    refine hK _ _ ⟨hS.1.setRow_other _ (by omega), hS.2.setRow_other _ (by omega)⟩ ?_
    clear hK K
    intro hS
    refine nextL 7 rfl (by kernel_rfl) (by rfl) fun K hK => ?_
    refine wp_store_arr _ _ rfl (b41 + 1) ys' rfl rfl ln z0 (a5'.setRow_other _ (by omega)) l0 ?_
    simp only [Act.put]
    refine hK _ _ ⟨hS.1.setRow_other _ (by omega), hS.2.setRow_other _ (by omega)⟩ ?_
    clear hK K
    intro hS
    refine takeL 8 (.bool false) rfl (by kernel_rfl) (by kernel_rfl) (by kernel_rfl) (fun _ _ _ h => h) (.inl ⟨by rfl, fun w _ => by rfl⟩) hS ?_
    simp only [Act.put, List.setIfInBounds_toArray, List.set_cons_zero, List.set_cons_succ]
    refine wpAnyH_done (by kernel_rfl) ?_ _
    go_wp2
    refine bodyPost_ret (res_arr3 rfl _ _ _ _ _ _ rfl rfl ((a4'.setRow xs).setRow_other _ (by omega)) lm ((a5'.setRow_other _ (by omega)).setRow ys') ln) rfl ⟨?_, ?_⟩
    · unfold fitV
      rw [hxs, hys]; rfl
    · rw [hb4]; exact below_setRow (below_setRow b2' (Nat.le_refl _) _) (by omega) _
  · refine wp_region_held_drew (S := fun w' => Arr w' bx1 xs ∧ Arr w' by1 ys') (by kernel_rfl) ⟨ax, ay⟩ ?_
    intro hS
    refine takeL 0 (.agg (arr xs)) rfl (by kernel_rfl) (by kernel_rfl) (by kernel_rfl) (fun _ _ _ h => h) (yields_arr (by rfl) _ rfl bx1 rfl xs (fun w h => h.1) lm) hS ?_
    simp only [Act.put, List.setIfInBounds_toArray, List.set_cons_zero, List.set_cons_succ]
    refine takeL 1 (.agg (arr ys')) rfl (by kernel_rfl) (by kernel_rfl) (by kernel_rfl) (fun _ _ _ h => h) (yields_arr (by rfl) _ rfl by1 rfl ys' (fun w h => h.2) ln) hS ?_
    simp only [Act.put, List.setIfInBounds_toArray, List.set_cons_zero, List.set_cons_succ]
    refine takeL 2 (.bool true) rfl (by kernel_rfl) (by kernel_rfl) (by kernel_rfl) (fun _ _ _ h => h) (.inl ⟨by rfl, fun w _ => by rfl⟩) hS ?_
    simp only [Act.put, List.setIfInBounds_toArray, List.set_cons_zero, List.set_cons_succ]
    refine takeL 3 (.bool true) rfl (by kernel_rfl) (by kernel_rfl) (by kernel_rfl) (fun _ _ _ h => h) (.inl ⟨by rfl, fun w _ => by rfl⟩) hS ?_
    simp only [Act.put, List.setIfInBounds_toArray, List.set_cons_zero, List.set_cons_succ]
    refine takeL 4 (.bool by') rfl (by kernel_rfl) (by kernel_rfl) (by kernel_rfl) (fun _ _ _ h => h) (.inl ⟨by rfl, fun w _ => by rfl⟩) hS ?_
    simp only [Act.put, List.setIfInBounds_toArray, List.set_cons_zero, List.set_cons_succ]
    refine takeL 5 (.bool by') rfl (by kernel_rfl) (by kernel_rfl) (by kernel_rfl) (fun _ _ _ h => h) (.inl ⟨by rfl, fun w _ => by rfl⟩) hS ?_
    simp only [Act.put, List.setIfInBounds_toArray, List.set_cons_zero, List.set_cons_succ]
    refine nextL 6 rfl (by kernel_rfl) (by rfl) fun K hK => ?_
    refine wp_store_arr _ _ rfl b41 xs rfl rfl lm z0 a4' l0 ?_
    simp only [Act.put]
    refine hK _ _ ⟨hS.1.setRow_other _ (by omega), hS.2.setRow_other _ (by omega)⟩ ?_
    clear hK K
    intro hS
    refine nextL 7 rfl (by kernel_rfl) (by rfl) fun K hK => ?_
    refine wp_store_arr _ _ rfl (b41 + 1) ys' rfl rfl ln z0 (a5'.setRow_other _ (by omega)) l0 ?_
    simp only [Act.put]
    refine hK _ _ ⟨hS.1.setRow_other _ (by omega), hS.2.setRow_other _ (by omega)⟩ ?_
    clear hK K
    intro hS
    refine takeL 8 (.bool by') rfl (by kernel_rfl) (by kernel_rfl) (by kernel_rfl) (fun _ _ _ h => h) (.inl ⟨by rfl, fun w _ => by rfl⟩) hS ?_
    simp only [Act.put, List.setIfInBounds_toArray, List.set_cons_zero, List.set_cons_succ]
    refine wpAnyH_done (by kernel_rfl) ?_ _
    go_wp2
    refine bodyPost_ret (res_arr3 rfl _ _ _ _ _ _ rfl rfl ((a4'.setRow xs).setRow_other _ (by omega)) lm ((a5'.setRow_other _ (by omega)).setRow ys') ln) rfl ⟨?_, ?_⟩
    · unfold fitV
      rw [hxs, hys]; rfl
    · rw [hb4]; exact below_setRow (below_setRow b2' (Nat.le_refl _) _) (by omega) _
end Go.Proofs.Ytobnghmadoejjaa
