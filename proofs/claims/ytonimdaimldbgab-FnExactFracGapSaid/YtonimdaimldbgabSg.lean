/- The gap of two fractions, by the specification. -/
import Derived.Test.YtonimdaimldbgabGz
import Derived.Test.YtonimdaimldbgabSq
import Derived.Test.YtonimdaimldbgabSs
namespace Go.Proofs.Ytonimdaimldbgab
open Go.RowKit
set_option maxRecDepth 100000

theorem lit0A2 (w : World) (b : Nat) (hb : b ≤ w.heap.size) : OwnA ((w.alloc (.cells #[] 3)).alloc (.cells #[] 3)) b (.slice (some ⟨w.heap.size, 0, none⟩) 0 0) none ∧ OwnA ((w.alloc (.cells #[] 3)).alloc (.cells #[] 3)) b (.slice (some ⟨w.heap.size + 1, 0, none⟩) 0 0) none := by
  refine ⟨(lit0A w b hb).below ((Below.refl _ _).alloc (Nat.le_refl _) _), ?_⟩
  have := lit0A (w.alloc (.cells #[] 3)) b (by simp; omega)
  rw [World.size_alloc] at this
  exact this
theorem below_two {w w' : World} (h : Below w.heap.size w w') (o o2 : Obj) : Below w.heap.size w ((w'.alloc o).alloc o2) := (h.alloc h.size o).alloc (by have := h.size; simp; omega) o2

set_option maxHeartbeats 1600000 in
theorem gapS_no1 (a b c d : Int) (w : World) (h1 : frB a b = false) :
    Calls Try.prog 5 #[frV a b, frV c d] w fun e w' => ∃ v0 v1, e = .returned (.tuple #[v0, v1, .bool false]) ∧ (OwnA w' w.heap.size v0 none ∧ OwnA w' w.heap.size v1 none) ∧ Below w.heap.size w w' := by
  have c1 := fun W => fracOkS a b W
  have c2 := fun W => fracOkS c d W
  have c3 := fun W => fracCmpS a b c d W
  obtain ⟨F0, F1, B0⟩ := blk_2 27 27 w #[.int .i64 a, .int .i64 b] #[.int .i64 c, .int .i64 d]
  rw [h1] at c1
  clear h1 c2 c3
  go_enter Try.func5, Try.ntmps5
  go_wp2_with fail
  refine (c1 _).mono ?_
  rintro e w1 ⟨rfl, hb1⟩
  have B1 := B0.trans (hb1.mono B0.size)
  go_wp2
  go_ret3
  exact ⟨_, _, rfl, lit0A2 w1 w.heap.size B1.size, below_two B1 _ _⟩

set_option maxHeartbeats 1600000 in
theorem gapS_no2 (a b c d : Int) (w : World) (h1 : frB a b = true) (h2 : frB c d = false) :
    Calls Try.prog 5 #[frV a b, frV c d] w fun e w' => ∃ v0 v1, e = .returned (.tuple #[v0, v1, .bool false]) ∧ (OwnA w' w.heap.size v0 none ∧ OwnA w' w.heap.size v1 none) ∧ Below w.heap.size w w' := by
  have c1 := fun W => fracOkS a b W
  have c2 := fun W => fracOkS c d W
  have c3 := fun W => fracCmpS a b c d W
  obtain ⟨F0, F1, B0⟩ := blk_2 27 27 w #[.int .i64 a, .int .i64 b] #[.int .i64 c, .int .i64 d]
  rw [h1] at c1
  rw [h2] at c2
  clear h1 h2 c3
  go_enter Try.func5, Try.ntmps5
  go_wp2_with fail
  refine (c1 _).mono ?_
  rintro e w1 ⟨rfl, hb1⟩
  have B1 := B0.trans (hb1.mono B0.size)
  have F0 := F0.below hb1
  have F1 := F1.below hb1
  have f0 := FrT.c0 F1
  have f1 := FrT.c1 F1
  go_wp2_with fail
  refine (c2 _).mono ?_
  rintro e w2 ⟨rfl, hb2⟩
  clear f0 f1
  have B2 := B1.trans (hb2.mono B1.size)
  go_wp2
  go_ret3
  exact ⟨_, _, rfl, lit0A2 w2 w.heap.size B2.size, below_two B2 _ _⟩

set_option maxHeartbeats 1600000 in
theorem gapS_no3 (a b c d : Int) (w : World) (h1 : frB a b = true) (h2 : frB c d = true) (h3 : frC a b c d < 0) :
    Calls Try.prog 5 #[frV a b, frV c d] w fun e w' => ∃ v0 v1, e = .returned (.tuple #[v0, v1, .bool false]) ∧ (OwnA w' w.heap.size v0 none ∧ OwnA w' w.heap.size v1 none) ∧ Below w.heap.size w w' := by
  have c1 := fun W => fracOkS a b W
  have c2 := fun W => fracOkS c d W
  have c3 := fun W => fracCmpS a b c d W
  obtain ⟨F0, F1, B0⟩ := blk_2 27 27 w #[.int .i64 a, .int .i64 b] #[.int .i64 c, .int .i64 d]
  rw [h1] at c1
  rw [h2] at c2
  generalize frC a b c d = C at c3 h3
  clear h1 h2
  go_enter Try.func5, Try.ntmps5
  go_wp2_with fail
  refine (c1 _).mono ?_
  rintro e w1 ⟨rfl, hb1⟩
  have B1 := B0.trans (hb1.mono B0.size)
  have F0 := F0.below hb1
  have F1 := F1.below hb1
  have f0 := FrT.c0 F1
  have f1 := FrT.c1 F1
  go_wp2_with fail
  refine (c2 _).mono ?_
  rintro e w2 ⟨rfl, hb2⟩
  clear f0 f1
  have B2 := B1.trans (hb2.mono B1.size)
  have F0 := F0.below hb2
  have F1 := F1.below hb2
  have f0 := FrT.c0 F0
  have f1 := FrT.c1 F0
  have f2 := FrT.c0 F1
  have f3 := FrT.c1 F1
  go_wp2_with fail
  refine (c3 _).mono ?_
  rintro e w3 ⟨rfl, hb3⟩
  clear f0 f1 f2 f3
  have B3 := B2.trans (hb3.mono B2.size)
  go_wp2
  go_ret3
  exact ⟨_, _, rfl, lit0A2 w3 w.heap.size B3.size, below_two B3 _ _⟩

set_option maxHeartbeats 3200000 in
theorem gapS_yes (a b c d : Nat) (w : World) (h1 : frB a b = true) (h2 : frB c d = true) (ha : a ≤ 4000000000000000) (hb : b ≤ 4000000000000000) (hc : c ≤ 4000000000000000) (hd : d ≤ 4000000000000000) (h3 : ¬ frC a b c d < 0) (hle : c * b ≤ a * d) :
    Calls Try.prog 5 #[frV a b, frV c d] w fun e w' => ∃ v0 v1, e = .returned (.tuple #[v0, v1, .bool true]) ∧ (OwnA w' w.heap.size v0 (some (a * d - c * b)) ∧ OwnA w' w.heap.size v1 (some (b * d))) ∧ Below w.heap.size w w' := by
  have c1 := fun W => fracOkS a b W
  have c2 := fun W => fracOkS c d W
  have c3 := fun W => fracCmpS a b c d W
  obtain ⟨F0, F1, B0⟩ := blk_2 27 27 w #[.int .i64 a, .int .i64 b] #[.int .i64 c, .int .i64 d]
  rw [h1] at c1
  rw [h2] at c2
  generalize frC a b c d = C at c3 h3
  have c4 := fun W => l3Times_any a d W ha hd
  have c5 := fun W => l3Times_any c b W hc hb
  have c6 := fun W => l3Times_any b d W hb hd
  have t1 := prod_top ha hd
  have c7 : ∀ v1 v2 W, RowI W v1 (ans (some (a * d))) → RowI W v2 (ans (some (c * b))) → Calls Try.prog 15 #[v1, v2] W fun e w' => ∃ v, e = .returned (.tuple #[v, .bool true]) ∧ OwnA w' W.heap.size v (some (a * d - c * b)) ∧ Below W.heap.size W w' := fun v1 v2 W h1 h2 => by
    have hx1 : a * d < top := by unfold top; omega
    have hy1 : c * b < top := by unfold top; omega
    have c := specSub_any v1 v2 _ _ W h1 h2 (len_nl hx1) (len_nl hy1)
    rw [subO_nl hx1 hy1 hle] at c
    exact c
  generalize a * d - c * b = G at c7
  generalize a * d = X at c4 c7
  generalize c * b = Y at c5 c7
  generalize b * d = Z at c6
  clear h1 h2 hle t1 ha hb hc hd
  go_enter Try.func5, Try.ntmps5
  go_wp2_with fail
  refine (c1 _).mono ?_
  rintro e w1 ⟨rfl, hb1⟩
  have B1 := B0.trans (hb1.mono B0.size)
  have F0 := F0.below hb1
  have F1 := F1.below hb1
  have f0 := FrT.c0 F1
  have f1 := FrT.c1 F1
  go_wp2_with fail
  refine (c2 _).mono ?_
  rintro e w2 ⟨rfl, hb2⟩
  clear f0 f1
  have B2 := B1.trans (hb2.mono B1.size)
  have F0 := F0.below hb2
  have F1 := F1.below hb2
  have f0 := FrT.c0 F0
  have f1 := FrT.c1 F0
  have f2 := FrT.c0 F1
  have f3 := FrT.c1 F1
  go_wp2_with fail
  refine (c3 _).mono ?_
  rintro e w3 ⟨rfl, hb3⟩
  clear f0 f1 f2 f3
  have B3 := B2.trans (hb3.mono B2.size)
  have F0 := F0.below hb3
  have F1 := F1.below hb3
  go_wp2_with fail
  refine wp_region_held_drew (S := fun w' => Fr w' w.heap.size a b ∧ Fr w' (w.heap.size + 1) c d) (by kernel_rfl) ⟨F0, F1⟩ ?_
  intro hS
  have B3 := B3.drew
  generalize w3.drew = V at hS B3
  refine takeL 0 (.pointer (some ⟨w.heap.size, 0, none⟩)) rfl (by kernel_rfl) (by kernel_rfl) (by kernel_rfl) (fun _ _ _ h => h) (.inl ⟨by rfl, fun w _ => by rfl⟩) hS ?_
  simp only [Act.put, List.setIfInBounds_toArray, List.set_cons_zero, List.set_cons_succ]
  refine takeL 1 (.int .i64 a) rfl (by kernel_rfl) (by kernel_rfl) (by kernel_rfl) (fun _ _ _ h => h) (yields_int (by rfl) _ rfl _ rfl a (fun _ h => FrT.c0 h.1)) hS ?_
  simp only [Act.put, List.setIfInBounds_toArray, List.set_cons_zero, List.set_cons_succ]
  refine takeL 2 (.pointer (some ⟨w.heap.size + 1, 1, none⟩)) rfl (by kernel_rfl) (by kernel_rfl) (by kernel_rfl) (fun _ _ _ h => h) (.inl ⟨by rfl, fun w _ => by rfl⟩) hS ?_
  simp only [Act.put, List.setIfInBounds_toArray, List.set_cons_zero, List.set_cons_succ]
  refine takeL 3 (.int .i64 d) rfl (by kernel_rfl) (by kernel_rfl) (by kernel_rfl) (fun _ _ _ h => h) (yields_int (by rfl) _ rfl _ rfl d (fun _ h => FrT.c1 h.2)) hS ?_
  simp only [Act.put, List.setIfInBounds_toArray, List.set_cons_zero, List.set_cons_succ]
  refine takeL 5 (.pointer (some ⟨w.heap.size + 1, 0, none⟩)) rfl (by kernel_rfl) (by kernel_rfl) (by kernel_rfl) (fun _ _ _ h => h) (.inl ⟨by rfl, fun w _ => by rfl⟩) hS ?_
  simp only [Act.put, List.setIfInBounds_toArray, List.set_cons_zero, List.set_cons_succ]
  refine takeL 6 (.int .i64 c) rfl (by kernel_rfl) (by kernel_rfl) (by kernel_rfl) (fun _ _ _ h => h) (yields_int (by rfl) _ rfl _ rfl c (fun _ h => FrT.c0 h.2)) hS ?_
  simp only [Act.put, List.setIfInBounds_toArray, List.set_cons_zero, List.set_cons_succ]
  refine takeL 7 (.pointer (some ⟨w.heap.size, 1, none⟩)) rfl (by kernel_rfl) (by kernel_rfl) (by kernel_rfl) (fun _ _ _ h => h) (.inl ⟨by rfl, fun w _ => by rfl⟩) hS ?_
  simp only [Act.put, List.setIfInBounds_toArray, List.set_cons_zero, List.set_cons_succ]
  refine takeL 8 (.int .i64 b) rfl (by kernel_rfl) (by kernel_rfl) (by kernel_rfl) (fun _ _ _ h => h) (yields_int (by rfl) _ rfl _ rfl b (fun _ h => FrT.c1 h.1)) hS ?_
  simp only [Act.put, List.setIfInBounds_toArray, List.set_cons_zero, List.set_cons_succ]
  refine nextL 4 rfl (by kernel_rfl) (by rfl) fun K hK => ?_
  have d3 := c4 V
  go_simp
  refine d3.mono ?_
  rintro e V1 ⟨v1, rfl, o1, hb3⟩
  refine hK _ _ ⟨hS.1.below hb3, hS.2.below hb3⟩ ?_
  clear hK K d3
  intro hS
  have B4 := B3.trans (hb3.mono B3.size)
  refine nextL 9 rfl (by kernel_rfl) (by rfl) fun K hK => ?_
  have d4 := c5 V1
  go_simp
  refine d4.mono ?_
  rintro e V2 ⟨v2, rfl, o2, hb4⟩
  refine hK _ _ ⟨hS.1.below hb4, hS.2.below hb4⟩ ?_
  clear hK K d4
  intro hS
  have B5 := B4.trans (hb4.mono B4.size)
  refine nextL 10 rfl (by kernel_rfl) (by rfl) fun K hK => ?_
  have d5 := c7 v1 v2 V2 (o1.below hb4).row o2.row
  go_simp
  refine d5.mono ?_
  rintro e V3 ⟨v3, rfl, o3, hb5⟩
  refine hK _ _ ⟨hS.1.below hb5, hS.2.below hb5⟩ ?_
  clear hK K d5
  intro hS
  have B6 := B5.trans (hb5.mono B5.size)
  refine takeL 11 (.tuple #[v3, .bool true]) rfl (by kernel_rfl) (by kernel_rfl) (by kernel_rfl) (fun _ _ _ h => h) (.inl ⟨by rfl, fun w _ => by rfl⟩) hS ?_
  simp only [Act.put, List.setIfInBounds_toArray, List.set_cons_zero, List.set_cons_succ]
  refine takeL 12 (v3) rfl (by kernel_rfl) (by kernel_rfl) (by kernel_rfl) (fun _ _ _ h => h) (.inl ⟨by rfl, fun w _ => by rfl⟩) hS ?_
  simp only [Act.put, List.setIfInBounds_toArray, List.set_cons_zero, List.set_cons_succ]
  refine takeL 13 (.bool true) rfl (by kernel_rfl) (by kernel_rfl) (by kernel_rfl) (fun _ _ _ h => h) (.inl ⟨by rfl, fun w _ => by rfl⟩) hS ?_
  simp only [Act.put, List.setIfInBounds_toArray, List.set_cons_zero, List.set_cons_succ]
  refine takeL 14 (v3) rfl (by kernel_rfl) (by kernel_rfl) (by kernel_rfl) (fun _ _ _ h => h) (.inl ⟨by rfl, fun w _ => by rfl⟩) hS ?_
  simp only [Act.put, List.setIfInBounds_toArray, List.set_cons_zero, List.set_cons_succ]
  refine takeL 15 (.bool true) rfl (by kernel_rfl) (by kernel_rfl) (by kernel_rfl) (fun _ _ _ h => h) (.inl ⟨by rfl, fun w _ => by rfl⟩) hS ?_
  simp only [Act.put, List.setIfInBounds_toArray, List.set_cons_zero, List.set_cons_succ]
  refine wpAnyH_done (by kernel_rfl) ?_ _
  have f0 := FrT.c1 hS.1
  have f1 := FrT.c1 hS.2
  go_wp2_with fail
  refine (c6 _).mono ?_
  rintro e V4 ⟨v4, rfl, o4, hb6⟩
  clear f0 f1
  have B7 := B6.trans (hb6.mono B6.size)
  go_wp2
  go_ret3
  exact ⟨v3, v4, rfl, ⟨(o3.below hb6).base B5.size, o4.base B6.size⟩, B7⟩

theorem gapS_any (a b c d : Int) (w : World) :
    Calls Try.prog 5 #[frV a b, frV c d] w fun e w' => ∃ v0 v1, e = .returned (.tuple #[v0, v1, .bool (gapB a b c d)]) ∧ (OwnA w' w.heap.size v0 (gapN a b c d) ∧ OwnA w' w.heap.size v1 (gapD a b c d)) ∧ Below w.heap.size w w' := by
  have no : gapB a b c d = false → (Calls Try.prog 5 #[frV a b, frV c d] w fun e w' => ∃ v0 v1, e = .returned (.tuple #[v0, v1, .bool false]) ∧ (OwnA w' w.heap.size v0 none ∧ OwnA w' w.heap.size v1 none) ∧ Below w.heap.size w w') →
      Calls Try.prog 5 #[frV a b, frV c d] w fun e w' => ∃ v0 v1, e = .returned (.tuple #[v0, v1, .bool (gapB a b c d)]) ∧ (OwnA w' w.heap.size v0 (gapN a b c d) ∧ OwnA w' w.heap.size v1 (gapD a b c d)) ∧ Below w.heap.size w w' := fun h k => by
    rw [h, (gap_no h).1, (gap_no h).2]
    exact k
  cases h1 : frB a b
  · exact no (gap_no1 h1) (gapS_no1 a b c d w h1)
  · cases h2 : frB c d
    · exact no (gap_no2 h2) (gapS_no2 a b c d w h1 h2)
    · have y1 := frB_yes h1
      have y2 := frB_yes h2
      obtain ⟨a, rfl⟩ := Int.eq_ofNat_of_zero_le (show 0 ≤ a by omega)
      obtain ⟨b, rfl⟩ := Int.eq_ofNat_of_zero_le (show 0 ≤ b by omega)
      obtain ⟨c, rfl⟩ := Int.eq_ofNat_of_zero_le (show 0 ≤ c by omega)
      obtain ⟨d, rfl⟩ := Int.eq_ofNat_of_zero_le (show 0 ≤ d by omega)
      have e : gapB (a : Int) b c d = decide (c * b ≤ a * d) := by
        unfold gapB
        rw [h1, h2]
        simp only [Int.toNat_natCast, Bool.true_and]
      have hC : frC (a : Int) b c d = cmpN (a * d) (c * b) := by
        unfold frC
        rw [if_pos ⟨h1, h2⟩]
        simp only [Int.toNat_natCast]
      by_cases hle : c * b ≤ a * d
      · have hy : gapB (a : Int) b c d = true := by rw [e, decide_eq_true hle]
        have h3 : ¬ frC (a : Int) b c d < 0 := by
          rw [hC]; unfold cmpN; rw [if_neg (by omega)]; split <;> omega
        have k := gapS_yes a b c d w h1 h2 (by omega) (by omega) (by omega) (by omega) h3 hle
        rw [hy, (gap_yes hy).1, (gap_yes hy).2]
        simp only [Int.toNat_natCast]
        exact k
      · have h3 : frC (a : Int) b c d < 0 := by
          rw [hC]; unfold cmpN; rw [if_pos (by omega)]; omega
        exact no (by rw [e, decide_eq_false hle]) (gapS_no3 a b c d w h1 h2 h3)
end Go.Proofs.Ytonimdaimldbgab
