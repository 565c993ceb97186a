/- The gap of two fractions, by the program. -/
import Derived.Test.YtonimdaimldbgaaGz
import Derived.Test.YtonimdaimldbgaaAc
import Derived.Test.YtonimdaimldbgaaMi
namespace Go.Proofs.Ytonimdaimldbgaa
open Go.RowKit
set_option maxRecDepth 100000

theorem minus_yes {m n : Nat} (W : World) (h : n ≤ m) (hm : m < top) (hn : n < top) :
    Calls Try.prog 27 #[fitV m, fitV n] W fun e w' => e = .returned (.tuple #[fitV (m - n), .bool true]) ∧ Below W.heap.size W w' := by
  refine (minus_any m n W hm hn).mono ?_
  rintro e w' ⟨s, _, rfl, hs, hb⟩
  rw [hs h, decide_eq_true h]
  exact ⟨rfl, hb⟩

set_option maxHeartbeats 3200000 in
theorem gapI_no (a b c d : Int) (w : World) (h : frB a b = false ∨ frB c d = false) :
    Calls Try.prog 14 #[frV a b, frV c d] w fun e w' => e = .returned (.tuple #[.slice none 0 0, .slice none 0 0, .bool false]) ∧ Below w.heap.size w w' := by
  have c1 := fun W => fracOkI a b W
  have c2 := fun W => fracOkI c d W
  obtain ⟨F0, F1, B0⟩ := blk_2 25 25 w #[.int .i64 a, .int .i64 b] #[.int .i64 c, .int .i64 d]
  cases h1 : frB a b
  · rw [h1] at c1
    clear h1 c2 h
    go_enter Try.func14, Try.ntmps14
    go_wp2_with fail
    refine (c1 _).mono ?_
    rintro e w1 ⟨rfl, hb1⟩
    go_wp2
    go_ret3
    exact ⟨rfl, B0.trans (hb1.mono B0.size)⟩
  · rw [h1] at c1
    have h2 : frB c d = false := by
      rcases h with h | h
      · rw [h1] at h; cases h
      · exact h
    rw [h2] at c2
    clear h1 h2 h
    go_enter Try.func14, Try.ntmps14
    go_wp2_with fail
    refine (c1 _).mono ?_
    rintro e w1 ⟨rfl, hb1⟩
    have B1 := B0.trans (hb1.mono B0.size)
    have F1 := F1.below hb1
    have f0 := FrT.c0 F1
    have f1 := FrT.c1 F1
    go_wp2_with fail
    refine (c2 _).mono ?_
    rintro e w2 ⟨rfl, hb2⟩
    clear f0 f1
    go_wp2
    go_ret3
    exact ⟨rfl, B1.trans (hb2.mono B1.size)⟩

set_option maxHeartbeats 3200000 in
theorem gapI_below (a b c d : Nat) (w : World) (h1 : frB a b = true) (h2 : frB c d = true) (ha : a ≤ 4000000000000000) (hb : b ≤ 4000000000000000) (hc : c ≤ 4000000000000000) (hd : d ≤ 4000000000000000) (hlt : ¬ c * b ≤ a * d) :
    Calls Try.prog 14 #[frV a b, frV c d] w fun e w' => e = .returned (.tuple #[.slice none 0 0, .slice none 0 0, .bool false]) ∧ Below w.heap.size w w' := by
  have hX : a * d < top := by have := prod_top ha hd; unfold top; omega
  have hY : c * b < top := by have := prod_top hc hb; unfold top; omega
  have c1 := fun W => fracOkI a b W
  have c2 := fun W => fracOkI c d W
  rw [h1] at c1
  rw [h2] at c2
  have c3 := fun W => across_any a b c d W ha hb hc hd
  have c4 := fun W => minus_any (a * d) (c * b) W hX hY
  rw [decide_eq_false hlt] at c4
  generalize a * d = X at c3 c4
  generalize c * b = Y at c3 c4
  have lX := fit_len X
  have lY := fit_len Y
  clear ha hb hc hd h1 h2 hlt hX hY
  unfold fitV at c3 c4
  obtain ⟨F0, F1, B0⟩ := blk_2 25 25 w #[.int .i64 a, .int .i64 b] #[.int .i64 c, .int .i64 d]
  go_enter Try.func14, Try.ntmps14
  go_wp2_with fail
  refine (c1 _).mono ?_
  rintro e w1 ⟨rfl, hb1⟩
  have B1 := B0.trans (hb1.mono B0.size)
  have F0 := F0.below hb1
  have F1 := F1.below hb1
  have f0 := FrT.c0 F1
  have f1 := FrT.c1 F1
  go_wp2_with fail
  refine (c2 _).mono ?_
  rintro e w2 ⟨rfl, hb2⟩
  clear f0 f1
  have B2 := B1.trans (hb2.mono B1.size)
  have F0 := F0.below hb2
  have F1 := F1.below hb2
  have f0 := FrT.c0 F0
  have f1 := FrT.c1 F0
  have f2 := FrT.c0 F1
  have f3 := FrT.c1 F1
  go_wp2_with fail
  refine (c3 _).mono ?_
  rintro e w3 ⟨rfl, hb3⟩
  clear f0 f1 f2 f3
  have B3 := B2.trans (hb3.mono B2.size)
  obtain ⟨P1, P2, hb4⟩ := arr_2 44 44 w3 (fit X) (fit Y)
  have F0 := (F0.below hb3).below hb4
  have F1 := (F1.below hb3).below hb4
  have B4 := B3.trans (hb4.mono B3.size)
  go_wp2_with (first | (with_reducible refine wp_arr_init2 rfl _ _ rfl ?_; refine ⟨_, rfl, rfl, fit X, rfl, lX, ?_⟩) | (with_reducible refine wp_arr_init rfl _ _ rfl ?_; refine ⟨_, rfl, by simp, fit Y, rfl, lY, ?_⟩) | (with_reducible refine wp_arr_load rfl _ rfl ?_; first | (refine ⟨w3.heap.size, rfl, fit X, P1, lX, ?_⟩) | (refine ⟨w3.heap.size + 1, rfl, fit Y, P2, lY, ?_⟩)))
  refine (c4 _).mono ?_
  rintro e w4 ⟨s, _, rfl, _, hb5⟩
  have ls := fit_len s
  have B5 := B4.trans (hb5.mono B4.size)
  go_wp2_with (with_reducible refine wp_arr_init rfl _ _ rfl ?_; refine ⟨_, rfl, rfl, fit s, rfl, ls, ?_⟩)
  go_ret3
  exact ⟨rfl, B5.alloc B5.size _⟩

set_option maxHeartbeats 6400000 in
theorem gapI_yes (a b c d : Nat) (w : World) (h1 : frB a b = true) (h2 : frB c d = true) (ha : a ≤ 4000000000000000) (hb : b ≤ 4000000000000000) (hc : c ≤ 4000000000000000) (hd : d ≤ 4000000000000000) (hle : c * b ≤ a * d) :
    Calls Try.prog 14 #[frV a b, frV c d] w fun e w' => ∃ v0 v1, e = .returned (.tuple #[v0, v1, .bool true]) ∧ Two w' w.heap.size v0 v1 (some (a * d - c * b)) (some (b * d)) ∧ Below w.heap.size w w' := by
  have hX : a * d < top := by have := prod_top ha hd; unfold top; omega
  have hY : c * b < top := by have := prod_top hc hb; unfold top; omega
  have c1 := fun W => fracOkI a b W
  have c2 := fun W => fracOkI c d W
  rw [h1] at c1
  rw [h2] at c2
  have c3 := fun W => across_any a b c d W ha hb hc hd
  have c4 := fun W => minus_yes (m := a * d) (n := c * b) W hle hX hY
  have c5 := fun W => ofInt_any b W (by omega)
  have c6 := fun W => ofInt_any d W (by omega)
  have c7 := fun W => times_yes (m := b) (n := d) W (by have := prod_top hb hd; unfold top; omega) (by unfold top; omega) (by unfold top; omega)
  have hZ : b * d < top := by have := prod_top hb hd; unfold top; omega
  have hG : a * d - c * b < top := by omega
  have c8 := fun W => list_any (a * d - c * b) W hG
  have c9 := fun W => list_any (b * d) W hZ
  generalize a * d - c * b = s at c4 c8
  generalize a * d = X at c3 c4
  generalize c * b = Y at c3 c4
  generalize b * d = Z at c7 c9
  have lX := fit_len X
  have lY := fit_len Y
  have lG := fit_len s
  have lZ := fit_len Z
  clear ha hb hc hd h1 h2 hle hX hY hZ hG
  unfold fitV at c3 c4 c5 c6 c7 c8 c9
  obtain ⟨F0, F1, B0⟩ := blk_2 25 25 w #[.int .i64 a, .int .i64 b] #[.int .i64 c, .int .i64 d]
  go_enter Try.func14, Try.ntmps14
  go_wp2_with fail
  refine (c1 _).mono ?_
  rintro e w1 ⟨rfl, hb1⟩
  have B1 := B0.trans (hb1.mono B0.size)
  have F0 := F0.below hb1
  have F1 := F1.below hb1
  have f0 := FrT.c0 F1
  have f1 := FrT.c1 F1
  go_wp2_with fail
  refine (c2 _).mono ?_
  rintro e w2 ⟨rfl, hb2⟩
  clear f0 f1
  have B2 := B1.trans (hb2.mono B1.size)
  have F0 := F0.below hb2
  have F1 := F1.below hb2
  have f0 := FrT.c0 F0
  have f1 := FrT.c1 F0
  have f2 := FrT.c0 F1
  have f3 := FrT.c1 F1
  go_wp2_with fail
  refine (c3 _).mono ?_
  rintro e w3 ⟨rfl, hb3⟩
  clear f0 f1 f2 f3
  have B3 := B2.trans (hb3.mono B2.size)
  obtain ⟨P1, P2, hb4⟩ := arr_2 44 44 w3 (fit X) (fit Y)
  have F0 := (F0.below hb3).below hb4
  have F1 := (F1.below hb3).below hb4
  have B4 := B3.trans (hb4.mono B3.size)
  go_wp2_with (first | (with_reducible refine wp_arr_init2 rfl _ _ rfl ?_; refine ⟨_, rfl, rfl, fit X, rfl, lX, ?_⟩) | (with_reducible refine wp_arr_init rfl _ _ rfl ?_; refine ⟨_, rfl, by simp, fit Y, rfl, lY, ?_⟩) | (with_reducible refine wp_arr_load rfl _ rfl ?_; first | (refine ⟨w3.heap.size, rfl, fit X, P1, lX, ?_⟩) | (refine ⟨w3.heap.size + 1, rfl, fit Y, P2, lY, ?_⟩)))
  refine (c4 _).mono ?_
  rintro e w4 ⟨rfl, hb5⟩
  have B5 := B4.trans (hb5.mono B4.size)
  obtain ⟨G1, hb6⟩ := arr_1 44 w4 (fit s)
  have F0 := (F0.below hb5).below hb6
  have F1 := (F1.below hb5).below hb6
  have B6 := B5.trans (hb6.mono B5.size)
  clear P1 P2
  go_wp2_with (with_reducible refine wp_arr_init rfl _ _ rfl ?_; refine ⟨_, rfl, rfl, fit s, rfl, lG, ?_⟩)
  obtain ⟨g, hg⟩ : ∃ g, w4.heap.size = g := ⟨_, rfl⟩
  rw [hg] at G1 ⊢
  generalize w4.alloc (.cells (arr (fit s)) 44) = W at F0 F1 G1 B6
  clear hb1 hb2 hb3 hb4 hb5 hb6 B0 B1 B2 B3 B4 B5 hg c1 c2 c3 c4
  refine wp_region_held_drew (S := fun w' => Fr w' w.heap.size a b ∧ Fr w' (w.heap.size + 1) c d) (by kernel_rfl) ⟨F0, F1⟩ ?_
  intro hS
  have B6 := B6.drew
  have G1 : Arr W.drew g (fit s) := G1
  generalize W.drew = V at hS B6 G1
  refine takeL 0 (.pointer (some ⟨w.heap.size, 1, none⟩)) rfl (by kernel_rfl) (by kernel_rfl) (by kernel_rfl) (fun _ _ _ h => h) (.inl ⟨by rfl, fun w _ => by rfl⟩) hS ?_
  simp only [Act.put, List.setIfInBounds_toArray, List.set_cons_zero, List.set_cons_succ]
  refine takeL 1 (.int .i64 b) rfl (by kernel_rfl) (by kernel_rfl) (by kernel_rfl) (fun _ _ _ h => h) (yields_int (by rfl) _ rfl _ rfl b (fun _ h => FrT.c1 h.1)) hS ?_
  simp only [Act.put, List.setIfInBounds_toArray, List.set_cons_zero, List.set_cons_succ]
  refine takeL 3 (.pointer (some ⟨w.heap.size + 1, 1, none⟩)) rfl (by kernel_rfl) (by kernel_rfl) (by kernel_rfl) (fun _ _ _ h => h) (.inl ⟨by rfl, fun w _ => by rfl⟩) hS ?_
  simp only [Act.put, List.setIfInBounds_toArray, List.set_cons_zero, List.set_cons_succ]
  refine takeL 4 (.int .i64 d) rfl (by kernel_rfl) (by kernel_rfl) (by kernel_rfl) (fun _ _ _ h => h) (yields_int (by rfl) _ rfl _ rfl d (fun _ h => FrT.c1 h.2)) hS ?_
  simp only [Act.put, List.setIfInBounds_toArray, List.set_cons_zero, List.set_cons_succ]
  have l0 := fit_len 0
  have B := B6
  clear B6
  refine next2L 2 10 rfl rfl (by kernel_rfl) (by rfl) (by rfl) (fun K hK => ?_) (fun K hK => ?_)
  · have e1 := c5 V
    go_simp
    refine e1.mono ?_
    rintro e V1 ⟨rfl, hb1⟩
    refine hK _ _ ⟨hS.1.below hb1, hS.2.below hb1⟩ ?_
    clear hK K e1
    intro hS
    have B := B.trans (hb1.mono B.size)
    have G1 := G1.below hb1
    refine next2L 5 10 rfl rfl (by kernel_rfl) (by rfl) (by rfl) (fun K hK => ?_) (fun K hK => ?_)
    · have e1 := c6 V1
      go_simp
      refine e1.mono ?_
      rintro e V2 ⟨rfl, hb2⟩
      refine hK _ _ ⟨hS.1.below hb2, hS.2.below hb2⟩ ?_
      clear hK K e1
      intro hS
      have B := B.trans (hb2.mono B.size)
      have G1 := G1.below hb2
      refine next2L 6 10 rfl rfl (by kernel_rfl) (by rfl) (by rfl) (fun K hK => ?_) (fun K hK => ?_)
      · have e1 := c7 V2
        go_simp
        refine e1.mono ?_
        rintro e V3 ⟨rfl, hb3⟩
        refine hK _ _ ⟨hS.1.below hb3, hS.2.below hb3⟩ ?_
        clear hK K e1
        intro hS
        have B := B.trans (hb3.mono B.size)
        have G1 := G1.below hb3
        refine takeL 7 (.tuple #[.agg (arr (fit Z)), .bool true]) rfl (by kernel_rfl) (by kernel_rfl) (by kernel_rfl) (fun _ _ _ h => h) (.inl ⟨by rfl, fun w _ => by rfl⟩) hS ?_
        simp only [Act.put, List.setIfInBounds_toArray, List.set_cons_zero, List.set_cons_succ]
        refine takeL 8 (.agg (arr (fit Z))) rfl (by kernel_rfl) (by kernel_rfl) (by kernel_rfl) (fun _ _ _ h => h) (.inl ⟨by rfl, fun w _ => by rfl⟩) hS ?_
        simp only [Act.put, List.setIfInBounds_toArray, List.set_cons_zero, List.set_cons_succ]
        refine takeL 9 (.bool true) rfl (by kernel_rfl) (by kernel_rfl) (by kernel_rfl) (fun _ _ _ h => h) (.inl ⟨by rfl, fun w _ => by rfl⟩) hS ?_
        simp only [Act.put, List.setIfInBounds_toArray, List.set_cons_zero, List.set_cons_succ]
        refine nextL 10 rfl (by kernel_rfl) (by rfl) fun K hK => ?_
        go_simp
        rw [zero_cells]
        have T1 := ArrT.new 44 V3 (fit 0)
        have hg1 := G1.lt
        have hp1 := hS.2.lt
        have G1 := G1.alloc (.cells (arr (fit 0)) 44)
        have B := B.alloc B.size (.cells (arr (fit 0)) 44)
        refine hK _ _ ⟨hS.1.alloc _, hS.2.alloc _⟩ ?_
        clear hK K
        intro hS
        obtain ⟨p, hp⟩ : ∃ p, V3.heap.size = p := ⟨_, rfl⟩
        rw [hp] at T1 hg1 hp1 ⊢
        generalize V3.alloc (.cells (arr (fit 0)) 44) = V4 at hS T1 G1 B
        clear hp
        refine nextL 11 rfl (by kernel_rfl) (by rfl) fun K hK => ?_
        refine wp_store_arr _ _ rfl p (fit Z) rfl rfl lZ (fit 0) T1 l0 ?_
        simp only [Act.put]
        have T1 := T1.setRow (fit Z)
        have G1 := G1.setRow_other (arr (fit Z)) (show g ≠ p by omega)
        have B := below_setRow B (show w.heap.size ≤ p by omega) (arr (fit Z))
        refine hK _ _ ⟨Blk.setRow_other hS.1 _ (by omega), Blk.setRow_other hS.2 _ (by omega)⟩ ?_
        clear hK K
        intro hS
        generalize V4.setRow p (arr (fit Z)) = V at hS T1 G1 B
        refine takeL 12 (.bool true) rfl (by kernel_rfl) (by kernel_rfl) (by kernel_rfl) (fun _ _ _ h => h) (.inl ⟨by rfl, fun w _ => by rfl⟩) hS ?_
        simp only [Act.put, List.setIfInBounds_toArray, List.set_cons_zero, List.set_cons_succ]
        refine wpAnyH_done (by kernel_rfl) ?_ _
        clear hS
        go_wp2_with fail
        refine wp_region_held_drew (S := fun w' => Arr w' g (fit s) ∧ Arr w' p (fit Z)) (by kernel_rfl) ⟨G1, T1⟩ ?_
        intro hS
        have B := B.drew
        generalize V.drew = U at hS B
        refine takeL 0 (.agg (arr (fit s))) rfl (by kernel_rfl) (by kernel_rfl) (by kernel_rfl) (fun _ _ _ h => h) (yields_arr (by rfl) _ rfl g rfl (fit s) (fun w h => h.1) lG) hS ?_
        simp only [Act.put, List.setIfInBounds_toArray, List.set_cons_zero, List.set_cons_succ]
        refine takeL 2 (.agg (arr (fit Z))) rfl (by kernel_rfl) (by kernel_rfl) (by kernel_rfl) (fun _ _ _ h => h) (yields_arr (by rfl) _ rfl p rfl (fit Z) (fun w h => h.2) lZ) hS ?_
        simp only [Act.put, List.setIfInBounds_toArray, List.set_cons_zero, List.set_cons_succ]
        refine nextL 1 rfl (by kernel_rfl) (by rfl) fun K hK => ?_
        have e1 := c8 U
        go_simp
        refine e1.mono ?_
        rintro e U1 ⟨v0, rfl, o1, q1⟩
        refine hK _ _ ⟨hS.1.below q1, hS.2.below q1⟩ ?_
        clear hK K e1
        intro hS
        refine nextL 3 rfl (by kernel_rfl) (by rfl) fun K hK => ?_
        have e1 := c9 U1
        go_simp
        refine e1.mono ?_
        rintro e U2 ⟨v1, rfl, o2, q2⟩
        refine hK _ _ ⟨hS.1.below q2, hS.2.below q2⟩ ?_
        clear hK K e1
        intro hS
        have B1 := B.trans (q1.mono B.size)
        have B2 := B1.trans (q2.mono B1.size)
        refine takeL 4 (v0) rfl (by kernel_rfl) (by kernel_rfl) (by kernel_rfl) (fun _ _ _ h => h) (.inl ⟨by rfl, fun w _ => by rfl⟩) hS ?_
        simp only [Act.put, List.setIfInBounds_toArray, List.set_cons_zero, List.set_cons_succ]
        refine takeL 5 (v1) rfl (by kernel_rfl) (by kernel_rfl) (by kernel_rfl) (fun _ _ _ h => h) (.inl ⟨by rfl, fun w _ => by rfl⟩) hS ?_
        simp only [Act.put, List.setIfInBounds_toArray, List.set_cons_zero, List.set_cons_succ]
        refine takeL 6 (.bool true) rfl (by kernel_rfl) (by kernel_rfl) (by kernel_rfl) (fun _ _ _ h => h) (.inl ⟨by rfl, fun w _ => by rfl⟩) hS ?_
        simp only [Act.put, List.setIfInBounds_toArray, List.set_cons_zero, List.set_cons_succ]
        refine wpAnyH_done (by kernel_rfl) ?_ _
        go_wp2
        go_ret3
        exact ⟨v0, v1, rfl, ⟨U1.heap.size, B1.size, (OwnA.of (own_below o1 q2)).base B.size, fun k hk => (o1.lt k hk).2, OwnA.of o2⟩, B2⟩
      · go_simp
        rw [zero_cells]
        have T1 := ArrT.new 44 V2 (fit 0)
        have hg1 := G1.lt
        have hp1 := hS.2.lt
        have G1 := G1.alloc (.cells (arr (fit 0)) 44)
        have B := B.alloc B.size (.cells (arr (fit 0)) 44)
        refine hK _ _ ⟨hS.1.alloc _, hS.2.alloc _⟩ ?_
        clear hK K
        intro hS
        obtain ⟨p, hp⟩ : ∃ p, V2.heap.size = p := ⟨_, rfl⟩
        rw [hp] at T1 hg1 hp1 ⊢
        generalize V2.alloc (.cells (arr (fit 0)) 44) = V5 at hS T1 G1 B
        clear hp
        refine nextL 6 rfl (by kernel_rfl) (by rfl) fun K hK => ?_
        have e1 := c7 V5
        go_simp
        refine e1.mono ?_
        rintro e V6 ⟨rfl, hb6⟩
        refine hK _ _ ⟨hS.1.below hb6, hS.2.below hb6⟩ ?_
        clear hK K e1
        intro hS
        have B := B.trans (hb6.mono B.size)
        have G1 := G1.below hb6
        have T1 := T1.below hb6
        refine takeL 7 (.tuple #[.agg (arr (fit Z)), .bool true]) rfl (by kernel_rfl) (by kernel_rfl) (by kernel_rfl) (fun _ _ _ h => h) (.inl ⟨by rfl, fun w _ => by rfl⟩) hS ?_
        simp only [Act.put, List.setIfInBounds_toArray, List.set_cons_zero, List.set_cons_succ]
        refine takeL 8 (.agg (arr (fit Z))) rfl (by kernel_rfl) (by kernel_rfl) (by kernel_rfl) (fun _ _ _ h => h) (.inl ⟨by rfl, fun w _ => by rfl⟩) hS ?_
        simp only [Act.put, List.setIfInBounds_toArray, List.set_cons_zero, List.set_cons_succ]
        refine takeL 9 (.bool true) rfl (by kernel_rfl) (by kernel_rfl) (by kernel_rfl) (fun _ _ _ h => h) (.inl ⟨by rfl, fun w _ => by rfl⟩) hS ?_
        simp only [Act.put, List.setIfInBounds_toArray, List.set_cons_zero, List.set_cons_succ]
        refine nextL 11 rfl (by kernel_rfl) (by rfl) fun K hK => ?_
        refine wp_store_arr _ _ rfl p (fit Z) rfl rfl lZ (fit 0) T1 l0 ?_
        simp only [Act.put]
        have T1 := T1.setRow (fit Z)
        have G1 := G1.setRow_other (arr (fit Z)) (show g ≠ p by omega)
        have B := below_setRow B (show w.heap.size ≤ p by omega) (arr (fit Z))
        refine hK _ _ ⟨Blk.setRow_other hS.1 _ (by omega), Blk.setRow_other hS.2 _ (by omega)⟩ ?_
        clear hK K
        intro hS
        generalize V6.setRow p (arr (fit Z)) = V at hS T1 G1 B
        refine takeL 12 (.bool true) rfl (by kernel_rfl) (by kernel_rfl) (by kernel_rfl) (fun _ _ _ h => h) (.inl ⟨by rfl, fun w _ => by rfl⟩) hS ?_
        simp only [Act.put, List.setIfInBounds_toArray, List.set_cons_zero, List.set_cons_succ]
        refine wpAnyH_done (by kernel_rfl) ?_ _
        clear hS
        go_wp2_with fail
        refine wp_region_held_drew (S := fun w' => Arr w' g (fit s) ∧ Arr w' p (fit Z)) (by kernel_rfl) ⟨G1, T1⟩ ?_
        intro hS
        have B := B.drew
        generalize V.drew = U at hS B
        refine takeL 0 (.agg (arr (fit s))) rfl (by kernel_rfl) (by kernel_rfl) (by kernel_rfl) (fun _ _ _ h => h) (yields_arr (by rfl) _ rfl g rfl (fit s) (fun w h => h.1) lG) hS ?_
        simp only [Act.put, List.setIfInBounds_toArray, List.set_cons_zero, List.set_cons_succ]
        refine takeL 2 (.agg (arr (fit Z))) rfl (by kernel_rfl) (by kernel_rfl) (by kernel_rfl) (fun _ _ _ h => h) (yields_arr (by rfl) _ rfl p rfl (fit Z) (fun w h => h.2) lZ) hS ?_
        simp only [Act.put, List.setIfInBounds_toArray, List.set_cons_zero, List.set_cons_succ]
        refine nextL 1 rfl (by kernel_rfl) (by rfl) fun K hK => ?_
        have e1 := c8 U
        go_simp
        refine e1.mono ?_
        rintro e U1 ⟨v0, rfl, o1, q1⟩
        refine hK _ _ ⟨hS.1.below q1, hS.2.below q1⟩ ?_
        clear hK K e1
        intro hS
        refine nextL 3 rfl (by kernel_rfl) (by rfl) fun K hK => ?_
        have e1 := c9 U1
        go_simp
        refine e1.mono ?_
        rintro e U2 ⟨v1, rfl, o2, q2⟩
        refine hK _ _ ⟨hS.1.below q2, hS.2.below q2⟩ ?_
        clear hK K e1
        intro hS
        have B1 := B.trans (q1.mono B.size)
        have B2 := B1.trans (q2.mono B1.size)
        refine takeL 4 (v0) rfl (by kernel_rfl) (by kernel_rfl) (by kernel_rfl) (fun _ _ _ h => h) (.inl ⟨by rfl, fun w _ => by rfl⟩) hS ?_
        simp only [Act.put, List.setIfInBounds_toArray, List.set_cons_zero, List.set_cons_succ]
        refine takeL 5 (v1) rfl (by kernel_rfl) (by kernel_rfl) (by kernel_rfl) (fun _ _ _ h => h) (.inl ⟨by rfl, fun w _ => by rfl⟩) hS ?_
        simp only [Act.put, List.setIfInBounds_toArray, List.set_cons_zero, List.set_cons_succ]
        refine takeL 6 (.bool true) rfl (by kernel_rfl) (by kernel_rfl) (by kernel_rfl) (fun _ _ _ h => h) (.inl ⟨by rfl, fun w _ => by rfl⟩) hS ?_
        simp only [Act.put, List.setIfInBounds_toArray, List.set_cons_zero, List.set_cons_succ]
        refine wpAnyH_done (by kernel_rfl) ?_ _
        go_wp2
        go_ret3
        exact ⟨v0, v1, rfl, ⟨U1.heap.size, B1.size, (OwnA.of (own_below o1 q2)).base B.size, fun k hk => (o1.lt k hk).2, OwnA.of o2⟩, B2⟩
    · go_simp
      rw [zero_cells]
      have T1 := ArrT.new 44 V1 (fit 0)
      have hg1 := G1.lt
      have hp1 := hS.2.lt
      have G1 := G1.alloc (.cells (arr (fit 0)) 44)
      have B := B.alloc B.size (.cells (arr (fit 0)) 44)
      refine hK _ _ ⟨hS.1.alloc _, hS.2.alloc _⟩ ?_
      clear hK K
      intro hS
      obtain ⟨p, hp⟩ : ∃ p, V1.heap.size = p := ⟨_, rfl⟩
      rw [hp] at T1 hg1 hp1 ⊢
      generalize V1.alloc (.cells (arr (fit 0)) 44) = V7 at hS T1 G1 B
      clear hp
      refine nextL 5 rfl (by kernel_rfl) (by rfl) fun K hK => ?_
      have e1 := c6 V7
      go_simp
      refine e1.mono ?_
      rintro e V8 ⟨rfl, hb8⟩
      refine hK _ _ ⟨hS.1.below hb8, hS.2.below hb8⟩ ?_
      clear hK K e1
      intro hS
      have B := B.trans (hb8.mono B.size)
      have G1 := G1.below hb8
      have T1 := T1.below hb8
      refine nextL 6 rfl (by kernel_rfl) (by rfl) fun K hK => ?_
      have e1 := c7 V8
      go_simp
      refine e1.mono ?_
      rintro e V9 ⟨rfl, hb9⟩
      refine hK _ _ ⟨hS.1.below hb9, hS.2.below hb9⟩ ?_
      clear hK K e1
      intro hS
      have B := B.trans (hb9.mono B.size)
      have G1 := G1.below hb9
      have T1 := T1.below hb9
      refine takeL 7 (.tuple #[.agg (arr (fit Z)), .bool true]) rfl (by kernel_rfl) (by kernel_rfl) (by kernel_rfl) (fun _ _ _ h => h) (.inl ⟨by rfl, fun w _ => by rfl⟩) hS ?_
      simp only [Act.put, List.setIfInBounds_toArray, List.set_cons_zero, List.set_cons_succ]
      refine takeL 8 (.agg (arr (fit Z))) rfl (by kernel_rfl) (by kernel_rfl) (by kernel_rfl) (fun _ _ _ h => h) (.inl ⟨by rfl, fun w _ => by rfl⟩) hS ?_
      simp only [Act.put, List.setIfInBounds_toArray, List.set_cons_zero, List.set_cons_succ]
      refine takeL 9 (.bool true) rfl (by kernel_rfl) (by kernel_rfl) (by kernel_rfl) (fun _ _ _ h => h) (.inl ⟨by rfl, fun w _ => by rfl⟩) hS ?_
      simp only [Act.put, List.setIfInBounds_toArray, List.set_cons_zero, List.set_cons_succ]
      refine nextL 11 rfl (by kernel_rfl) (by rfl) fun K hK => ?_
      refine wp_store_arr _ _ rfl p (fit Z) rfl rfl lZ (fit 0) T1 l0 ?_
      simp only [Act.put]
      have T1 := T1.setRow (fit Z)
      have G1 := G1.setRow_other (arr (fit Z)) (show g ≠ p by omega)
      have B := below_setRow B (show w.heap.size ≤ p by omega) (arr (fit Z))
      refine hK _ _ ⟨Blk.setRow_other hS.1 _ (by omega), Blk.setRow_other hS.2 _ (by omega)⟩ ?_
      clear hK K
      intro hS
      generalize V9.setRow p (arr (fit Z)) = V at hS T1 G1 B
      refine takeL 12 (.bool true) rfl (by kernel_rfl) (by kernel_rfl) (by kernel_rfl) (fun _ _ _ h => h) (.inl ⟨by rfl, fun w _ => by rfl⟩) hS ?_
      simp only [Act.put, List.setIfInBounds_toArray, List.set_cons_zero, List.set_cons_succ]
      refine wpAnyH_done (by kernel_rfl) ?_ _
      clear hS
      go_wp2_with fail
      refine wp_region_held_drew (S := fun w' => Arr w' g (fit s) ∧ Arr w' p (fit Z)) (by kernel_rfl) ⟨G1, T1⟩ ?_
      intro hS
      have B := B.drew
      generalize V.drew = U at hS B
      refine takeL 0 (.agg (arr (fit s))) rfl (by kernel_rfl) (by kernel_rfl) (by kernel_rfl) (fun _ _ _ h => h) (yields_arr (by rfl) _ rfl g rfl (fit s) (fun w h => h.1) lG) hS ?_
      simp only [Act.put, List.setIfInBounds_toArray, List.set_cons_zero, List.set_cons_succ]
      refine takeL 2 (.agg (arr (fit Z))) rfl (by kernel_rfl) (by kernel_rfl) (by kernel_rfl) (fun _ _ _ h => h) (yields_arr (by rfl) _ rfl p rfl (fit Z) (fun w h => h.2) lZ) hS ?_
      simp only [Act.put, List.setIfInBounds_toArray, List.set_cons_zero, List.set_cons_succ]
      refine nextL 1 rfl (by kernel_rfl) (by rfl) fun K hK => ?_
      have e1 := c8 U
      go_simp
      refine e1.mono ?_
      rintro e U1 ⟨v0, rfl, o1, q1⟩
      refine hK _ _ ⟨hS.1.below q1, hS.2.below q1⟩ ?_
      clear hK K e1
      intro hS
      refine nextL 3 rfl (by kernel_rfl) (by rfl) fun K hK => ?_
      have e1 := c9 U1
      go_simp
      refine e1.mono ?_
      rintro e U2 ⟨v1, rfl, o2, q2⟩
      refine hK _ _ ⟨hS.1.below q2, hS.2.below q2⟩ ?_
      clear hK K e1
      intro hS
      have B1 := B.trans (q1.mono B.size)
      have B2 := B1.trans (q2.mono B1.size)
      refine takeL 4 (v0) rfl (by kernel_rfl) (by kernel_rfl) (by kernel_rfl) (fun _ _ _ h => h) (.inl ⟨by rfl, fun w _ => by rfl⟩) hS ?_
      simp only [Act.put, List.setIfInBounds_toArray, List.set_cons_zero, List.set_cons_succ]
      refine takeL 5 (v1) rfl (by kernel_rfl) (by kernel_rfl) (by kernel_rfl) (fun _ _ _ h => h) (.inl ⟨by rfl, fun w _ => by rfl⟩) hS ?_
      simp only [Act.put, List.setIfInBounds_toArray, List.set_cons_zero, List.set_cons_succ]
      refine takeL 6 (.bool true) rfl (by kernel_rfl) (by kernel_rfl) (by kernel_rfl) (fun _ _ _ h => h) (.inl ⟨by rfl, fun w _ => by rfl⟩) hS ?_
      simp only [Act.put, List.setIfInBounds_toArray, List.set_cons_zero, List.set_cons_succ]
      refine wpAnyH_done (by kernel_rfl) ?_ _
      go_wp2
      go_ret3
      exact ⟨v0, v1, rfl, ⟨U1.heap.size, B1.size, (OwnA.of (own_below o1 q2)).base B.size, fun k hk => (o1.lt k hk).2, OwnA.of o2⟩, B2⟩
  · go_simp
    rw [zero_cells]
    have T1 := ArrT.new 44 V (fit 0)
    have hg1 := G1.lt
    have hp1 := hS.2.lt
    have G1 := G1.alloc (.cells (arr (fit 0)) 44)
    have B := B.alloc B.size (.cells (arr (fit 0)) 44)
    refine hK _ _ ⟨hS.1.alloc _, hS.2.alloc _⟩ ?_
    clear hK K
    intro hS
    obtain ⟨p, hp⟩ : ∃ p, V.heap.size = p := ⟨_, rfl⟩
    rw [hp] at T1 hg1 hp1 ⊢
    generalize V.alloc (.cells (arr (fit 0)) 44) = V10 at hS T1 G1 B
    clear hp
    refine nextL 2 rfl (by kernel_rfl) (by rfl) fun K hK => ?_
    have e1 := c5 V10
    go_simp
    refine e1.mono ?_
    rintro e V11 ⟨rfl, hb11⟩
    refine hK _ _ ⟨hS.1.below hb11, hS.2.below hb11⟩ ?_
    clear hK K e1
    intro hS
    have B := B.trans (hb11.mono B.size)
    have G1 := G1.below hb11
    have T1 := T1.below hb11
    refine nextL 5 rfl (by kernel_rfl) (by rfl) fun K hK => ?_
    have e1 := c6 V11
    go_simp
    refine e1.mono ?_
    rintro e V12 ⟨rfl, hb12⟩
    refine hK _ _ ⟨hS.1.below hb12, hS.2.below hb12⟩ ?_
    clear hK K e1
    intro hS
    have B := B.trans (hb12.mono B.size)
    have G1 := G1.below hb12
    have T1 := T1.below hb12
    refine nextL 6 rfl (by kernel_rfl) (by rfl) fun K hK => ?_
    have e1 := c7 V12
    go_simp
    refine e1.mono ?_
    rintro e V13 ⟨rfl, hb13⟩
    refine hK _ _ ⟨hS.1.below hb13, hS.2.below hb13⟩ ?_
    clear hK K e1
    intro hS
    have B := B.trans (hb13.mono B.size)
    have G1 := G1.below hb13
    have T1 := T1.below hb13
    refine takeL 7 (.tuple #[.agg (arr (fit Z)), .bool true]) rfl (by kernel_rfl) (by kernel_rfl) (by kernel_rfl) (fun _ _ _ h => h) (.inl ⟨by rfl, fun w _ => by rfl⟩) hS ?_
    simp only [Act.put, List.setIfInBounds_toArray, List.set_cons_zero, List.set_cons_succ]
    refine takeL 8 (.agg (arr (fit Z))) rfl (by kernel_rfl) (by kernel_rfl) (by kernel_rfl) (fun _ _ _ h => h) (.inl ⟨by rfl, fun w _ => by rfl⟩) hS ?_
    simp only [Act.put, List.setIfInBounds_toArray, List.set_cons_zero, List.set_cons_succ]
    refine takeL 9 (.bool true) rfl (by kernel_rfl) (by kernel_rfl) (by kernel_rfl) (fun _ _ _ h => h) (.inl ⟨by rfl, fun w _ => by rfl⟩) hS ?_
    simp only [Act.put, List.setIfInBounds_toArray, List.set_cons_zero, List.set_cons_succ]
    refine nextL 11 rfl (by kernel_rfl) (by rfl) fun K hK => ?_
    refine wp_store_arr _ _ rfl p (fit Z) rfl rfl lZ (fit 0) T1 l0 ?_
    simp only [Act.put]
    have T1 := T1.setRow (fit Z)
    have G1 := G1.setRow_other (arr (fit Z)) (show g ≠ p by omega)
    have B := below_setRow B (show w.heap.size ≤ p by omega) (arr (fit Z))
    refine hK _ _ ⟨Blk.setRow_other hS.1 _ (by omega), Blk.setRow_other hS.2 _ (by omega)⟩ ?_
    clear hK K
    intro hS
    generalize V13.setRow p (arr (fit Z)) = V at hS T1 G1 B
    refine takeL 12 (.bool true) rfl (by kernel_rfl) (by kernel_rfl) (by kernel_rfl) (fun _ _ _ h => h) (.inl ⟨by rfl, fun w _ => by rfl⟩) hS ?_
    simp only [Act.put, List.setIfInBounds_toArray, List.set_cons_zero, List.set_cons_succ]
    refine wpAnyH_done (by kernel_rfl) ?_ _
    clear hS
    go_wp2_with fail
    refine wp_region_held_drew (S := fun w' => Arr w' g (fit s) ∧ Arr w' p (fit Z)) (by kernel_rfl) ⟨G1, T1⟩ ?_
    intro hS
    have B := B.drew
    generalize V.drew = U at hS B
    refine takeL 0 (.agg (arr (fit s))) rfl (by kernel_rfl) (by kernel_rfl) (by kernel_rfl) (fun _ _ _ h => h) (yields_arr (by rfl) _ rfl g rfl (fit s) (fun w h => h.1) lG) hS ?_
    simp only [Act.put, List.setIfInBounds_toArray, List.set_cons_zero, List.set_cons_succ]
    refine takeL 2 (.agg (arr (fit Z))) rfl (by kernel_rfl) (by kernel_rfl) (by kernel_rfl) (fun _ _ _ h => h) (yields_arr (by rfl) _ rfl p rfl (fit Z) (fun w h => h.2) lZ) hS ?_
    simp only [Act.put, List.setIfInBounds_toArray, List.set_cons_zero, List.set_cons_succ]
    refine nextL 1 rfl (by kernel_rfl) (by rfl) fun K hK => ?_
    have e1 := c8 U
    go_simp
    refine e1.mono ?_
    rintro e U1 ⟨v0, rfl, o1, q1⟩
    refine hK _ _ ⟨hS.1.below q1, hS.2.below q1⟩ ?_
    clear hK K e1
    intro hS
    refine nextL 3 rfl (by kernel_rfl) (by rfl) fun K hK => ?_
    have e1 := c9 U1
    go_simp
    refine e1.mono ?_
    rintro e U2 ⟨v1, rfl, o2, q2⟩
    refine hK _ _ ⟨hS.1.below q2, hS.2.below q2⟩ ?_
    clear hK K e1
    intro hS
    have B1 := B.trans (q1.mono B.size)
    have B2 := B1.trans (q2.mono B1.size)
    refine takeL 4 (v0) rfl (by kernel_rfl) (by kernel_rfl) (by kernel_rfl) (fun _ _ _ h => h) (.inl ⟨by rfl, fun w _ => by rfl⟩) hS ?_
    simp only [Act.put, List.setIfInBounds_toArray, List.set_cons_zero, List.set_cons_succ]
    refine takeL 5 (v1) rfl (by kernel_rfl) (by kernel_rfl) (by kernel_rfl) (fun _ _ _ h => h) (.inl ⟨by rfl, fun w _ => by rfl⟩) hS ?_
    simp only [Act.put, List.setIfInBounds_toArray, List.set_cons_zero, List.set_cons_succ]
    refine takeL 6 (.bool true) rfl (by kernel_rfl) (by kernel_rfl) (by kernel_rfl) (fun _ _ _ h => h) (.inl ⟨by rfl, fun w _ => by rfl⟩) hS ?_
    simp only [Act.put, List.setIfInBounds_toArray, List.set_cons_zero, List.set_cons_succ]
    refine wpAnyH_done (by kernel_rfl) ?_ _
    go_wp2
    go_ret3
    exact ⟨v0, v1, rfl, ⟨U1.heap.size, B1.size, (OwnA.of (own_below o1 q2)).base B.size, fun k hk => (o1.lt k hk).2, OwnA.of o2⟩, B2⟩

theorem gapI_any (a b c d : Int) (w : World) :
    Calls Try.prog 14 #[frV a b, frV c d] w fun e w' => ∃ v0 v1, e = .returned (.tuple #[v0, v1, .bool (gapB a b c d)]) ∧ Two w' w.heap.size v0 v1 (gapN a b c d) (gapD a b c d) ∧ Below w.heap.size w w' := by
  have no : gapB a b c d = false → (Calls Try.prog 14 #[frV a b, frV c d] w fun e w' => e = .returned (.tuple #[.slice none 0 0, .slice none 0 0, .bool false]) ∧ Below w.heap.size w w') →
      Calls Try.prog 14 #[frV a b, frV c d] w fun e w' => ∃ v0 v1, e = .returned (.tuple #[v0, v1, .bool (gapB a b c d)]) ∧ Two w' w.heap.size v0 v1 (gapN a b c d) (gapD a b c d) ∧ Below w.heap.size w w' := fun h k => by
    rw [h, (gap_no h).1, (gap_no h).2]
    exact k.mono fun _ _ ⟨he, hb⟩ => ⟨_, _, he, Two.nil _ _, hb⟩
  cases h1 : frB a b
  · exact no (gap_no1 h1) (gapI_no a b c d w (.inl h1))
  · cases h2 : frB c d
    · exact no (gap_no2 h2) (gapI_no a b c d w (.inr h2))
    · have y1 := frB_yes h1
      have y2 := frB_yes h2
      obtain ⟨a, rfl⟩ := Int.eq_ofNat_of_zero_le (show 0 ≤ a by omega)
      obtain ⟨b, rfl⟩ := Int.eq_ofNat_of_zero_le (show 0 ≤ b by omega)
      obtain ⟨c, rfl⟩ := Int.eq_ofNat_of_zero_le (show 0 ≤ c by omega)
      obtain ⟨d, rfl⟩ := Int.eq_ofNat_of_zero_le (show 0 ≤ d by omega)
      have e : gapB (a : Int) b c d = decide (c * b ≤ a * d) := by
        unfold gapB
        rw [h1, h2]
        simp only [Int.toNat_natCast, Bool.true_and]
      by_cases hle : c * b ≤ a * d
      · have hy : gapB (a : Int) b c d = true := by rw [e, decide_eq_true hle]
        have k := gapI_yes a b c d w h1 h2 (by omega) (by omega) (by omega) (by omega) hle
        rw [hy, (gap_yes hy).1, (gap_yes hy).2]
        simp only [Int.toNat_natCast]
        exact k
      · exact no (by rw [e, decide_eq_false hle]) (gapI_below a b c d w h1 h2 (by omega) (by omega) (by omega) (by omega) hle)
end Go.Proofs.Ytonimdaimldbgaa
