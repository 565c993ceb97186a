/- The order of fractions, by the specification. -/
import Derived.Test.YtonimdaimldbgabFz
import Derived.Test.YtonimdaimldbgabTk
import Derived.Test.YtonimdaimldbgabSo
import Derived.Test.YtonimdaimldbgabSu
import Derived.Test.YtonimdaimldbgabSc
import Derived.Test.YtonimdaimldbgabNl
namespace Go.Proofs.Ytonimdaimldbgab
open Go.RowKit
set_option maxRecDepth 100000

set_option maxHeartbeats 1600000 in
theorem l3Times_any (x y : Nat) (w : World) (hx : x ≤ 4000000000000000) (hy : y ≤ 4000000000000000) :
    Calls Try.prog 16 #[.int .i64 x, .int .i64 y] w fun e w' => ∃ v, e = .returned v ∧ OwnA w' w.heap.size v (some (x * y)) ∧ Below w.heap.size w w' := by
  have c1 := fun W => specOf_yes x W (by omega)
  have c2 := fun W => specOf_yes y W (by omega)
  have t1 := prod_top hx hy
  have c3 : ∀ v1 v2 W, RowI W v1 (ans (some x)) → RowI W v2 (ans (some y)) → Calls Try.prog 29 #[v1, v2] W fun e w' => ∃ v, e = .returned (.tuple #[v, .bool true]) ∧ OwnA w' W.heap.size v (some (x * y)) ∧ Below W.heap.size W w' := fun v1 v2 W h1 h2 => by
    have hx1 : x < top := by unfold top; omega
    have hy1 : y < top := by unfold top; omega
    have c := specMul_any v1 v2 _ _ W h1 h2 (len_nl hx1) (len_nl hy1)
    rw [mulO_nl hx1 hy1, if_pos (by unfold top; omega)] at c
    exact c
  clear t1 hx hy
  go_enter Try.func16, Try.ntmps16
  go_wp2_with fail
  refine (c1 _).mono ?_
  rintro e w1 ⟨v1, rfl, o1, b1⟩
  go_wp2_with fail
  refine (c2 _).mono ?_
  rintro e w2 ⟨v2, rfl, o2, b2⟩
  have r1 := (o1.below b2).row
  have r2 := o2.row
  have B2 := b1.trans (b2.mono b1.size)
  go_wp2_with fail
  refine (c3 _ _ _ r1 r2).mono ?_
  rintro e w3 ⟨v3, rfl, o3, b3⟩
  go_wp2
  go_ret
  exact ⟨v3, rfl, o3.base B2.size, B2.trans (b3.mono B2.size)⟩

set_option maxHeartbeats 1600000 in
theorem fracCmpS (a b c d : Int) (w : World) :
    Calls Try.prog 14 #[frV a b, frV c d] w fun e w' => e = .returned (.int .i64 (frC a b c d)) ∧ Below w.heap.size w w' := by
  have c1 := fun W => fracOkS a b W
  have c2 := fun W => fracOkS c d W
  obtain ⟨F0, F1, B0⟩ := blk_2 27 27 w #[.int .i64 a, .int .i64 b] #[.int .i64 c, .int .i64 d]
  cases h1 : frB a b
  · rw [frC_no1 h1]
    rw [h1] at c1
    clear h1 c2
    go_enter Try.func14, Try.ntmps14
    go_wp2_with fail
    refine (c1 _).mono ?_
    rintro e w1 ⟨rfl, hb1⟩
    go_wp2
    go_ret
    exact ⟨rfl, B0.trans (hb1.mono B0.size)⟩
  · rw [h1] at c1
    cases h2 : frB c d
    · rw [frC_no2 h2]
      rw [h2] at c2
      clear h1 h2
      go_enter Try.func14, Try.ntmps14
      go_wp2_with fail
      refine (c1 _).mono ?_
      rintro e w1 ⟨rfl, hb1⟩
      have B1 := B0.trans (hb1.mono B0.size)
      have F1 := F1.below hb1
      have f0 := FrT.c0 F1
      have f1 := FrT.c1 F1
      go_wp2_with fail
      refine (c2 _).mono ?_
      rintro e w2 ⟨rfl, hb2⟩
      clear f0 f1
      go_wp2
      go_ret
      exact ⟨rfl, B1.trans (hb2.mono B1.size)⟩
    · rw [h2] at c2
      have y1 := frB_yes h1
      have y2 := frB_yes h2
      have e : frC a b c d = cmpN (a.toNat * d.toNat) (c.toNat * b.toNat) := if_pos ⟨h1, h2⟩
      rw [e]
      obtain ⟨a, rfl⟩ := Int.eq_ofNat_of_zero_le (show 0 ≤ a by omega)
      obtain ⟨b, rfl⟩ := Int.eq_ofNat_of_zero_le (show 0 ≤ b by omega)
      obtain ⟨c, rfl⟩ := Int.eq_ofNat_of_zero_le (show 0 ≤ c by omega)
      obtain ⟨d, rfl⟩ := Int.eq_ofNat_of_zero_le (show 0 ≤ d by omega)
      have c3 := fun W => l3Times_any a d W (by omega) (by omega)
      have c4 := fun W => l3Times_any c b W (by omega) (by omega)
      have t1 := prod_top (m := a) (n := d) (by omega) (by omega)
      have t2 := prod_top (m := c) (n := b) (by omega) (by omega)
      have c5 : ∀ v1 v2 W, RowI W v1 (ans (some (a * d))) → RowI W v2 (ans (some (c * b))) → Calls Try.prog 24 #[v1, v2] W fun e w' => e = .returned (.int .i64 (cmpN (a * d) (c * b))) ∧ w' = W := fun v1 v2 W h1 h2 => by
        have hx1 : a * d < top := by unfold top; omega
        have hy1 : c * b < top := by unfold top; omega
        have c := specCmp_any v1 v2 _ _ W h1 h2 (len_nl hx1) (len_nl hy1)
        rw [cmpL_nl hx1 hy1] at c
        exact c
      simp only [Int.toNat_natCast]
      generalize cmpN (a * d) (c * b) = C at c5
      generalize a * d = X at c3 c5
      generalize c * b = Y at c4 c5
      clear h1 h2 y1 y2 e t1 t2
      go_enter Try.func14, Try.ntmps14
      go_wp2_with fail
      refine (c1 _).mono ?_
      rintro e w1 ⟨rfl, hb1⟩
      have B1 := B0.trans (hb1.mono B0.size)
      have F0 := F0.below hb1
      have F1 := F1.below hb1
      have f0 := FrT.c0 F1
      have f1 := FrT.c1 F1
      go_wp2_with fail
      refine (c2 _).mono ?_
      rintro e w2 ⟨rfl, hb2⟩
      clear f0 f1
      have B2 := B1.trans (hb2.mono B1.size)
      have F0 := F0.below hb2
      have F1 := F1.below hb2
      go_wp2_with fail
      refine wp_region_held_drew (S := fun w' => Fr w' w.heap.size a b ∧ Fr w' (w.heap.size + 1) c d) (by kernel_rfl) ⟨F0, F1⟩ ?_
      intro hS
      have B2 := B2.drew
      generalize w2.drew = V at hS B2
      refine takeL 0 (.pointer (some ⟨w.heap.size, 0, none⟩)) rfl (by kernel_rfl) (by kernel_rfl) (by kernel_rfl) (fun _ _ _ h => h) (.inl ⟨by rfl, fun w _ => by rfl⟩) hS ?_
      simp only [Act.put, List.setIfInBounds_toArray, List.set_cons_zero, List.set_cons_succ]
      refine takeL 1 (.int .i64 a) rfl (by kernel_rfl) (by kernel_rfl) (by kernel_rfl) (fun _ _ _ h => h) (yields_int (by rfl) _ rfl _ rfl a (fun _ h => FrT.c0 h.1)) hS ?_
      simp only [Act.put, List.setIfInBounds_toArray, List.set_cons_zero, List.set_cons_succ]
      refine takeL 2 (.pointer (some ⟨w.heap.size + 1, 1, none⟩)) rfl (by kernel_rfl) (by kernel_rfl) (by kernel_rfl) (fun _ _ _ h => h) (.inl ⟨by rfl, fun w _ => by rfl⟩) hS ?_
      simp only [Act.put, List.setIfInBounds_toArray, List.set_cons_zero, List.set_cons_succ]
      refine takeL 3 (.int .i64 d) rfl (by kernel_rfl) (by kernel_rfl) (by kernel_rfl) (fun _ _ _ h => h) (yields_int (by rfl) _ rfl _ rfl d (fun _ h => FrT.c1 h.2)) hS ?_
      simp only [Act.put, List.setIfInBounds_toArray, List.set_cons_zero, List.set_cons_succ]
      refine takeL 5 (.pointer (some ⟨w.heap.size + 1, 0, none⟩)) rfl (by kernel_rfl) (by kernel_rfl) (by kernel_rfl) (fun _ _ _ h => h) (.inl ⟨by rfl, fun w _ => by rfl⟩) hS ?_
      simp only [Act.put, List.setIfInBounds_toArray, List.set_cons_zero, List.set_cons_succ]
      refine takeL 6 (.int .i64 c) rfl (by kernel_rfl) (by kernel_rfl) (by kernel_rfl) (fun _ _ _ h => h) (yields_int (by rfl) _ rfl _ rfl c (fun _ h => FrT.c0 h.2)) hS ?_
      simp only [Act.put, List.setIfInBounds_toArray, List.set_cons_zero, List.set_cons_succ]
      refine takeL 7 (.pointer (some ⟨w.heap.size, 1, none⟩)) rfl (by kernel_rfl) (by kernel_rfl) (by kernel_rfl) (fun _ _ _ h => h) (.inl ⟨by rfl, fun w _ => by rfl⟩) hS ?_
      simp only [Act.put, List.setIfInBounds_toArray, List.set_cons_zero, List.set_cons_succ]
      refine takeL 8 (.int .i64 b) rfl (by kernel_rfl) (by kernel_rfl) (by kernel_rfl) (fun _ _ _ h => h) (yields_int (by rfl) _ rfl _ rfl b (fun _ h => FrT.c1 h.1)) hS ?_
      simp only [Act.put, List.setIfInBounds_toArray, List.set_cons_zero, List.set_cons_succ]
      refine nextL 4 rfl (by kernel_rfl) (by rfl) fun K hK => ?_
      have d3 := c3 V
      go_simp
      refine d3.mono ?_
      rintro e V1 ⟨v1, rfl, o1, hb3⟩
      refine hK _ _ ⟨hS.1.below hb3, hS.2.below hb3⟩ ?_
      clear hK K d3
      intro hS
      have B3 := B2.trans (hb3.mono B2.size)
      refine nextL 9 rfl (by kernel_rfl) (by rfl) fun K hK => ?_
      have d4 := c4 V1
      go_simp
      refine d4.mono ?_
      rintro e V2 ⟨v2, rfl, o2, hb4⟩
      refine hK _ _ ⟨hS.1.below hb4, hS.2.below hb4⟩ ?_
      clear hK K d4
      intro hS
      have B4 := B3.trans (hb4.mono B3.size)
      refine nextL 10 rfl (by kernel_rfl) (by rfl) fun K hK => ?_
      have d5 := c5 v1 v2 V2 (o1.below hb4).row o2.row
      go_simp
      refine d5.mono ?_
      rintro e V3 ⟨rfl, rfl⟩
      refine hK _ _ hS ?_
      clear hK K d5
      intro hS
      refine takeL 11 (.int .i64 C) rfl (by kernel_rfl) (by kernel_rfl) (by kernel_rfl) (fun _ _ _ h => h) (.inl ⟨by rfl, fun w _ => by rfl⟩) hS ?_
      simp only [Act.put, List.setIfInBounds_toArray, List.set_cons_zero, List.set_cons_succ]
      refine wpAnyH_done (by kernel_rfl) ?_ _
      go_wp2
      go_ret
      exact ⟨rfl, B4⟩
end Go.Proofs.Ytonimdaimldbgab
