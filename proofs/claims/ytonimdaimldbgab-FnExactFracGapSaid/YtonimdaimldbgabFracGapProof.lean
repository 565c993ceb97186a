/- For every two fractions the exact law of FracGap returns true: the program and the specification tell the same gap, as two great numbers in memory of its own, twice. No condition. -/
import Derived.Test.YtonimdaimldbgabRows
import Derived.WalkKit
import Derived.ProofKit
import Derived.OpenShut
import Derived.Test.YtonimdaimldbgabGg
import Derived.Test.YtonimdaimldbgabSg
import Derived.Test.YtonimdaimldbgabFo
import Derived.Test.YtonimdaimldbgabIm
namespace Go.Proofs.Ytonimdaimldbgab.fnExactFracGap
open Go.ChangeShapes Go.WideShapes Go.ChangeAt Go.RowKit
set_option linter.unusedVariables false

theorem own : ownKnob Try.prog.godebug = none := by kernel_rfl
theorem laidOut : laidOutB Try.prog = true := by kernel_rfl


theorem own_drew {w : World} {b e s n : Nat} {v : Value} {xs : List Value} (h : w.ownsRow b e s v n xs) : w.drew.ownsRow b e s v n xs := h
theorem blk_grown {t : TypeId} {w w' : World} {g : Nat} {cs : Array Value} {r : Option Nat} (h : Blk t w g cs) (hg : w.grownBy w' r) (hr : ∀ k, r = some k → g < k) : Blk t w' g cs := by
  have hl := h.lt
  unfold Blk at h ⊢
  rw [hg.block g hl (fun e => by have := hr g e.symm; omega)]; exact h
theorem gapN_len (a b c d : Int) : (ans (gapN a b c d)).length ≤ 16 := by
  cases h : gapB a b c d
  · rw [(gap_no h).1]; simp [ans]
  · rw [(gap_yes h).1]
    show (up (digs _)).length ≤ 16
    rw [up_len]
    refine (digs_len 16 _).2 ?_
    have hf : frB a b = true ∧ frB c d = true := by unfold gapB at h; simp at h; exact h.1
    have y1 := frB_yes hf.1
    have y2 := frB_yes hf.2
    have := prod_top (m := a.toNat) (n := d.toNat) (by omega) (by omega)
    omega
theorem gapD_len (a b c d : Int) : (ans (gapD a b c d)).length ≤ 16 := by
  cases h : gapB a b c d
  · rw [(gap_no h).2]; simp [ans]
  · rw [(gap_yes h).2]
    show (up (digs _)).length ≤ 16
    rw [up_len]
    refine (digs_len 16 _).2 ?_
    have hf : frB a b = true ∧ frB c d = true := by unfold gapB at h; simp at h; exact h.1
    have y1 := frB_yes hf.1
    have y2 := frB_yes hf.2
    have := prod_top (m := b.toNat) (n := d.toNat) (by omega) (by omega)
    omega

set_option maxRecDepth 100000
set_option maxHeartbeats 6400000 in
theorem walk (n0 m0 n1 m1 : Int) (w : World) (l0 : -9223372036854775808 ≤ n0) (u0 : n0 ≤ 9223372036854775807) (x0 : -9223372036854775808 ≤ m0) (y0 : m0 ≤ 9223372036854775807) (l1 : -9223372036854775808 ≤ n1) (u1 : n1 ≤ 9223372036854775807) (x1 : -9223372036854775808 ≤ m1) (y1 : m1 ≤ 9223372036854775807) :
    Calls Try.prog 3 #[frV n0 m0, frV n1 m1] w fun e w' => e = .returned (.bool true) ∧ Below w.heap.size w w' := by
  have c1 := fun W => gapS_any n0 m0 n1 m1 W
  have c2 := fun W => gapI_any n0 m0 n1 m1 W
  have hN := gapN_len n0 m0 n1 m1
  have hD := gapD_len n0 m0 n1 m1
  generalize gapN n0 m0 n1 m1 = r0 at c1 c2 hN
  generalize gapD n0 m0 n1 m1 = r1 at c1 c2 hD
  generalize gapB n0 m0 n1 m1 = G at c1 c2
  obtain ⟨F0, F1, B⟩ := blk_2 23 23 w #[.int .i64 n0, .int .i64 m0] #[.int .i64 n1, .int .i64 m1]
  go_enter Try.func3, Try.ntmps3
  go_wp2_with fail
  generalize (w.alloc (.cells #[.int .i64 n0, .int .i64 m0] 23)).alloc (.cells #[.int .i64 n1, .int .i64 m1] 23) = W0 at F0 F1 B
  refine wp_region_held_drew (S := fun w' => FrT 23 w' w.heap.size n0 m0 ∧ FrT 23 w' (w.heap.size + 1) n1 m1) (by kernel_rfl) ⟨F0, F1⟩ ?_
  intro hS
  have B := B.drew
  have hsW0 := Blk.lt F0
  have hsU0 := Blk.lt F1
  have hsV0 : W0.drew.heap.size = W0.heap.size := rfl
  generalize W0.drew = V0 at hS hsV0 B
  refine takeL 0 (frV n0 m0) rfl (by kernel_rfl) (by kernel_rfl) (by kernel_rfl) (fun _ _ _ h => h) (yields_lfr (by rfl) _ rfl _ rfl n0 m0 (fun _ h => h.1)) hS ?_
  simp only [Act.put, List.setIfInBounds_toArray, List.set_cons_zero, List.set_cons_succ]
  refine takeL 2 (frV n1 m1) rfl (by kernel_rfl) (by kernel_rfl) (by kernel_rfl) (fun _ _ _ h => h) (yields_lfr (by rfl) _ rfl _ rfl n1 m1 (fun _ h => h.2)) hS ?_
  simp only [Act.put, List.setIfInBounds_toArray, List.set_cons_zero, List.set_cons_succ]
  refine nextL 1 rfl (by kernel_rfl) (by rfl) fun K hK => ?_
  have d := toFrac_any n0 m0 V0
  go_simp
  refine d.mono ?_
  rintro e x0 ⟨rfl, hbx0⟩
  refine hK _ _ ⟨hS.1.below hbx0, hS.2.below hbx0⟩ ?_
  clear hK K d
  intro hS
  have hsx0 := hbx0.size
  have B := B.trans (hbx0.mono B.size)
  refine nextL 3 rfl (by kernel_rfl) (by rfl) fun K hK => ?_
  have d := toFrac_any n1 m1 x0
  go_simp
  refine d.mono ?_
  rintro e y0 ⟨rfl, hby0⟩
  refine hK _ _ ⟨hS.1.below hby0, hS.2.below hby0⟩ ?_
  clear hK K d
  intro hS
  have hsy0 := hby0.size
  have B := B.trans (hby0.mono B.size)
  refine nextL 4 rfl (by kernel_rfl) (by rfl) fun K hK => ?_
  have d := c1 y0
  go_simp
  refine d.mono ?_
  rintro e z0 ⟨v0, v1, rfl, ⟨o0, o1⟩, hbz0⟩
  refine hK _ _ ⟨hS.1.below hbz0, hS.2.below hbz0⟩ ?_
  clear hK K d
  intro hS
  have hsz0 := hbz0.size
  have B := B.trans (hbz0.mono B.size)
  refine takeL 5 (.tuple #[v0, v1, .bool G]) rfl (by kernel_rfl) (by kernel_rfl) (by kernel_rfl) (fun _ _ _ h => h) (.inl ⟨by rfl, fun w _ => by rfl⟩) hS ?_
  simp only [Act.put, List.setIfInBounds_toArray, List.set_cons_zero, List.set_cons_succ]
  refine takeL 6 (v0) rfl (by kernel_rfl) (by kernel_rfl) (by kernel_rfl) (fun _ _ _ h => h) (.inl ⟨by rfl, fun w _ => by rfl⟩) hS ?_
  simp only [Act.put, List.setIfInBounds_toArray, List.set_cons_zero, List.set_cons_succ]
  refine takeL 7 (v1) rfl (by kernel_rfl) (by kernel_rfl) (by kernel_rfl) (fun _ _ _ h => h) (.inl ⟨by rfl, fun w _ => by rfl⟩) hS ?_
  simp only [Act.put, List.setIfInBounds_toArray, List.set_cons_zero, List.set_cons_succ]
  refine takeL 8 (.bool G) rfl (by kernel_rfl) (by kernel_rfl) (by kernel_rfl) (fun _ _ _ h => h) (.inl ⟨by rfl, fun w _ => by rfl⟩) hS ?_
  simp only [Act.put, List.setIfInBounds_toArray, List.set_cons_zero, List.set_cons_succ]
  refine takeL 9 (v0) rfl (by kernel_rfl) (by kernel_rfl) (by kernel_rfl) (fun _ _ _ h => h) (.inl ⟨by rfl, fun w _ => by rfl⟩) hS ?_
  simp only [Act.put, List.setIfInBounds_toArray, List.set_cons_zero, List.set_cons_succ]
  refine takeL 10 (v1) rfl (by kernel_rfl) (by kernel_rfl) (by kernel_rfl) (fun _ _ _ h => h) (.inl ⟨by rfl, fun w _ => by rfl⟩) hS ?_
  simp only [Act.put, List.setIfInBounds_toArray, List.set_cons_zero, List.set_cons_succ]
  refine takeL 11 (.bool G) rfl (by kernel_rfl) (by kernel_rfl) (by kernel_rfl) (fun _ _ _ h => h) (.inl ⟨by rfl, fun w _ => by rfl⟩) hS ?_
  simp only [Act.put, List.setIfInBounds_toArray, List.set_cons_zero, List.set_cons_succ]
  refine wpAnyH_done (by kernel_rfl) ?_ _
  have F0 := hS.1
  have F1 := hS.2
  clear hS
  have o0 : z0.ownsRow w.heap.size 3 1 v0 (ans r0).length ((ans r0).map (Value.int .i64)) := own_base o0 (by omega)
  have o1 : z0.ownsRow w.heap.size 3 1 v1 (ans r1).length ((ans r1).map (Value.int .i64)) := own_base o1 (by omega)
  have lt0 := fun k hk => (o0.lt k hk).2
  have lt1 := fun k hk => (o1.lt k hk).2
  go_wp2_with fail
  refine wp_region_held_drew (S := fun w' => FrT 23 w' w.heap.size n0 m0 ∧ FrT 23 w' (w.heap.size + 1) n1 m1) (by kernel_rfl) ⟨F0, F1⟩ ?_
  intro hS
  have B := B.drew
  have hsW1 := Blk.lt F0
  have hsU1 := Blk.lt F1
  have hsV1 : z0.drew.heap.size = z0.heap.size := rfl
  have o0 := own_drew o0
  have o1 := own_drew o1
  generalize z0.drew = V1 at hS hsV1 B o0 o1
  refine takeL 0 (frV n0 m0) rfl (by kernel_rfl) (by kernel_rfl) (by kernel_rfl) (fun _ _ _ h => h) (yields_lfr (by rfl) _ rfl _ rfl n0 m0 (fun _ h => h.1)) hS ?_
  simp only [Act.put, List.setIfInBounds_toArray, List.set_cons_zero, List.set_cons_succ]
  refine takeL 2 (frV n1 m1) rfl (by kernel_rfl) (by kernel_rfl) (by kernel_rfl) (fun _ _ _ h => h) (yields_lfr (by rfl) _ rfl _ rfl n1 m1 (fun _ h => h.2)) hS ?_
  simp only [Act.put, List.setIfInBounds_toArray, List.set_cons_zero, List.set_cons_succ]
  refine nextL 1 rfl (by kernel_rfl) (by rfl) fun K hK => ?_
  have d := toFrac_any n0 m0 V1
  go_simp
  refine d.mono ?_
  rintro e x1 ⟨rfl, hbx1⟩
  refine hK _ _ ⟨hS.1.below hbx1, hS.2.below hbx1⟩ ?_
  clear hK K d
  intro hS
  have hsx1 := hbx1.size
  have B := B.trans (hbx1.mono B.size)
  have o0 := own_below o0 hbx1
  have o1 := own_below o1 hbx1
  refine nextL 3 rfl (by kernel_rfl) (by rfl) fun K hK => ?_
  have d := toFrac_any n1 m1 x1
  go_simp
  refine d.mono ?_
  rintro e y1 ⟨rfl, hby1⟩
  refine hK _ _ ⟨hS.1.below hby1, hS.2.below hby1⟩ ?_
  clear hK K d
  intro hS
  have hsy1 := hby1.size
  have B := B.trans (hby1.mono B.size)
  have o0 := own_below o0 hby1
  have o1 := own_below o1 hby1
  refine nextL 4 rfl (by kernel_rfl) (by rfl) fun K hK => ?_
  have d := c2 y1
  go_simp
  refine d.mono ?_
  rintro e z1 ⟨v2, v3, rfl, ⟨mid, hmid, p0, hlt, p1⟩, hbz1⟩
  refine hK _ _ ⟨hS.1.below hbz1, hS.2.below hbz1⟩ ?_
  clear hK K d
  intro hS
  have hsz1 := hbz1.size
  have B := B.trans (hbz1.mono B.size)
  have o0 := own_below o0 hbz1
  have o1 := own_below o1 hbz1
  refine takeL 5 (.tuple #[v2, v3, .bool G]) rfl (by kernel_rfl) (by kernel_rfl) (by kernel_rfl) (fun _ _ _ h => h) (.inl ⟨by rfl, fun w _ => by rfl⟩) hS ?_
  simp only [Act.put, List.setIfInBounds_toArray, List.set_cons_zero, List.set_cons_succ]
  refine takeL 6 (v2) rfl (by kernel_rfl) (by kernel_rfl) (by kernel_rfl) (fun _ _ _ h => h) (.inl ⟨by rfl, fun w _ => by rfl⟩) hS ?_
  simp only [Act.put, List.setIfInBounds_toArray, List.set_cons_zero, List.set_cons_succ]
  refine takeL 7 (v3) rfl (by kernel_rfl) (by kernel_rfl) (by kernel_rfl) (fun _ _ _ h => h) (.inl ⟨by rfl, fun w _ => by rfl⟩) hS ?_
  simp only [Act.put, List.setIfInBounds_toArray, List.set_cons_zero, List.set_cons_succ]
  refine takeL 8 (.bool G) rfl (by kernel_rfl) (by kernel_rfl) (by kernel_rfl) (fun _ _ _ h => h) (.inl ⟨by rfl, fun w _ => by rfl⟩) hS ?_
  simp only [Act.put, List.setIfInBounds_toArray, List.set_cons_zero, List.set_cons_succ]
  refine takeL 9 (v2) rfl (by kernel_rfl) (by kernel_rfl) (by kernel_rfl) (fun _ _ _ h => h) (.inl ⟨by rfl, fun w _ => by rfl⟩) hS ?_
  simp only [Act.put, List.setIfInBounds_toArray, List.set_cons_zero, List.set_cons_succ]
  refine takeL 10 (v3) rfl (by kernel_rfl) (by kernel_rfl) (by kernel_rfl) (fun _ _ _ h => h) (.inl ⟨by rfl, fun w _ => by rfl⟩) hS ?_
  simp only [Act.put, List.setIfInBounds_toArray, List.set_cons_zero, List.set_cons_succ]
  refine takeL 11 (.bool G) rfl (by kernel_rfl) (by kernel_rfl) (by kernel_rfl) (fun _ _ _ h => h) (.inl ⟨by rfl, fun w _ => by rfl⟩) hS ?_
  simp only [Act.put, List.setIfInBounds_toArray, List.set_cons_zero, List.set_cons_succ]
  refine wpAnyH_done (by kernel_rfl) ?_ _
  have F0 := hS.1
  have F1 := hS.2
  clear hS
  have p0 : z1.ownsRow y1.heap.size 3 1 v2 (ans r0).length ((ans r0).map (Value.int .i64)) := p0
  have p1 : z1.ownsRow mid 3 1 v3 (ans r1).length ((ans r1).map (Value.int .i64)) := p1
  go_wp2_with fail
  refine (eqI_at rfl (by omega) p0 o0).mono ?_
  rintro e u1 ⟨rfl, he1⟩
  have hse1 := he1.size
  have o0 := own_below o0 he1
  have o1 := own_below o1 he1
  have p0 := own_below p0 he1
  have p1 := own_below p1 he1
  have F0 := Blk.below F0 he1
  have F1 := Blk.below F1 he1
  have B := B.trans (he1.mono B.size)
  go_wp2_with fail
  refine (eqI_at rfl (by omega) p1 o1).mono ?_
  rintro e u2 ⟨rfl, he2⟩
  have hse2 := he2.size
  have o0 := own_below o0 he2
  have o1 := own_below o1 he2
  have p0 := own_below p0 he2
  have p1 := own_below p1 he2
  have F0 := Blk.below F0 he2
  have F1 := Blk.below F1 he2
  have B := B.trans (he2.mono B.size)
  go_wp2_with fail
  refine (markI_any _ _ v2 1 _ _ (by omega) (by omega) (by omega) p0).mono ?_
  rintro e u3 ⟨rfl, ⟨ys3, p0', hy3⟩, hg3⟩
  have hsg3 := hg3.size
  have o0 := o0.kept hg3 (apart' o0 p0 lt0)
  have o1 := o1.kept hg3 (apart' o1 p0 lt1)
  have p1 := p1.kept hg3 (apart2 p1 p0 hlt (Nat.le_refl _))
  have F0 := blk_grown F0 hg3 (fun k hk => by have := (p0.lt k hk).1; omega)
  have F1 := blk_grown F1 hg3 (fun k hk => by have := (p0.lt k hk).1; omega)
  have B := B.grown hg3 B.size (fun k hk => by have := (p0.lt k hk).1; omega)
  clear p0
  go_wp2_with fail
  refine (markI_any _ _ v3 (1 + ((ans r0).length : Int)) _ _ (by omega) (by omega) (by omega) p1).mono ?_
  rintro e u4 ⟨rfl, ⟨ys4, p1', hy4⟩, hg4⟩
  have hsg4 := hg4.size
  have o0 := o0.kept hg4 (apart' o0 p1 lt0)
  have o1 := o1.kept hg4 (apart' o1 p1 lt1)
  have p0' := p0'.kept hg4 (apart' p0' p1 hlt (Nat.le_refl _))
  have F0 := blk_grown F0 hg4 (fun k hk => by have := (p1.lt k hk).1; omega)
  have F1 := blk_grown F1 hg4 (fun k hk => by have := (p1.lt k hk).1; omega)
  have B := B.grown hg4 B.size (fun k hk => by have := (p1.lt k hk).1; omega)
  clear p1
  go_wp2_with fail
  refine (heldI_any _ _ v2 1 ys3 _ (by omega) (by omega) (by omega) p0' hy3).mono ?_
  rintro e ux ⟨rfl, rfl⟩
  go_wp2_with fail
  refine (heldI_any _ _ v3 (1 + ((ans r0).length : Int)) ys4 _ (by omega) (by omega) (by omega) p1' hy4).mono ?_
  rintro e ux ⟨rfl, rfl⟩
  go_wp2_with fail
  refine wp_region_held_drew (S := fun w' => FrT 23 w' w.heap.size n0 m0 ∧ FrT 23 w' (w.heap.size + 1) n1 m1) (by kernel_rfl) ⟨F0, F1⟩ ?_
  intro hS
  have B := B.drew
  have hsW2 := Blk.lt F0
  have hsU2 := Blk.lt F1
  have hsV2 : ux.drew.heap.size = ux.heap.size := rfl
  have o0 := own_drew o0
  have o1 := own_drew o1
  have p0' := own_drew p0'
  have p1' := own_drew p1'
  generalize ux.drew = V2 at hS hsV2 B o0 o1 p0' p1'
  refine takeL 0 (frV n0 m0) rfl (by kernel_rfl) (by kernel_rfl) (by kernel_rfl) (fun _ _ _ h => h) (yields_lfr (by rfl) _ rfl _ rfl n0 m0 (fun _ h => h.1)) hS ?_
  simp only [Act.put, List.setIfInBounds_toArray, List.set_cons_zero, List.set_cons_succ]
  refine takeL 2 (frV n1 m1) rfl (by kernel_rfl) (by kernel_rfl) (by kernel_rfl) (fun _ _ _ h => h) (yields_lfr (by rfl) _ rfl _ rfl n1 m1 (fun _ h => h.2)) hS ?_
  simp only [Act.put, List.setIfInBounds_toArray, List.set_cons_zero, List.set_cons_succ]
  refine nextL 1 rfl (by kernel_rfl) (by rfl) fun K hK => ?_
  have d := toFrac_any n0 m0 V2
  go_simp
  refine d.mono ?_
  rintro e x2 ⟨rfl, hbx2⟩
  refine hK _ _ ⟨hS.1.below hbx2, hS.2.below hbx2⟩ ?_
  clear hK K d
  intro hS
  have hsx2 := hbx2.size
  have B := B.trans (hbx2.mono B.size)
  have o0 := own_below o0 hbx2
  have o1 := own_below o1 hbx2
  have p0' := own_below p0' hbx2
  have p1' := own_below p1' hbx2
  refine nextL 3 rfl (by kernel_rfl) (by rfl) fun K hK => ?_
  have d := toFrac_any n1 m1 x2
  go_simp
  refine d.mono ?_
  rintro e y2 ⟨rfl, hby2⟩
  refine hK _ _ ⟨hS.1.below hby2, hS.2.below hby2⟩ ?_
  clear hK K d
  intro hS
  have hsy2 := hby2.size
  have B := B.trans (hby2.mono B.size)
  have o0 := own_below o0 hby2
  have o1 := own_below o1 hby2
  have p0' := own_below p0' hby2
  have p1' := own_below p1' hby2
  refine nextL 4 rfl (by kernel_rfl) (by rfl) fun K hK => ?_
  have d := c2 y2
  go_simp
  refine d.mono ?_
  rintro e z2 ⟨v4, v5, rfl, ⟨mid2, hmid2, s0, hlt2, s1⟩, hbz2⟩
  refine hK _ _ ⟨hS.1.below hbz2, hS.2.below hbz2⟩ ?_
  clear hK K d
  intro hS
  have hsz2 := hbz2.size
  have B := B.trans (hbz2.mono B.size)
  have o0 := own_below o0 hbz2
  have o1 := own_below o1 hbz2
  have p0' := own_below p0' hbz2
  have p1' := own_below p1' hbz2
  refine takeL 5 (.tuple #[v4, v5, .bool G]) rfl (by kernel_rfl) (by kernel_rfl) (by kernel_rfl) (fun _ _ _ h => h) (.inl ⟨by rfl, fun w _ => by rfl⟩) hS ?_
  simp only [Act.put, List.setIfInBounds_toArray, List.set_cons_zero, List.set_cons_succ]
  refine takeL 6 (v4) rfl (by kernel_rfl) (by kernel_rfl) (by kernel_rfl) (fun _ _ _ h => h) (.inl ⟨by rfl, fun w _ => by rfl⟩) hS ?_
  simp only [Act.put, List.setIfInBounds_toArray, List.set_cons_zero, List.set_cons_succ]
  refine takeL 7 (v5) rfl (by kernel_rfl) (by kernel_rfl) (by kernel_rfl) (fun _ _ _ h => h) (.inl ⟨by rfl, fun w _ => by rfl⟩) hS ?_
  simp only [Act.put, List.setIfInBounds_toArray, List.set_cons_zero, List.set_cons_succ]
  refine takeL 8 (.bool G) rfl (by kernel_rfl) (by kernel_rfl) (by kernel_rfl) (fun _ _ _ h => h) (.inl ⟨by rfl, fun w _ => by rfl⟩) hS ?_
  simp only [Act.put, List.setIfInBounds_toArray, List.set_cons_zero, List.set_cons_succ]
  refine takeL 9 (v4) rfl (by kernel_rfl) (by kernel_rfl) (by kernel_rfl) (fun _ _ _ h => h) (.inl ⟨by rfl, fun w _ => by rfl⟩) hS ?_
  simp only [Act.put, List.setIfInBounds_toArray, List.set_cons_zero, List.set_cons_succ]
  refine takeL 10 (v5) rfl (by kernel_rfl) (by kernel_rfl) (by kernel_rfl) (fun _ _ _ h => h) (.inl ⟨by rfl, fun w _ => by rfl⟩) hS ?_
  simp only [Act.put, List.setIfInBounds_toArray, List.set_cons_zero, List.set_cons_succ]
  refine takeL 11 (.bool G) rfl (by kernel_rfl) (by kernel_rfl) (by kernel_rfl) (fun _ _ _ h => h) (.inl ⟨by rfl, fun w _ => by rfl⟩) hS ?_
  simp only [Act.put, List.setIfInBounds_toArray, List.set_cons_zero, List.set_cons_succ]
  refine wpAnyH_done (by kernel_rfl) ?_ _
  have F0 := hS.1
  have F1 := hS.2
  clear hS
  have s0 : z2.ownsRow y2.heap.size 3 1 v4 (ans r0).length ((ans r0).map (Value.int .i64)) := s0
  have s1 : z2.ownsRow mid2 3 1 v5 (ans r1).length ((ans r1).map (Value.int .i64)) := s1
  go_wp2_with fail
  refine (eqI_at rfl (by omega) s0 o0).mono ?_
  rintro e u5 ⟨rfl, he5⟩
  have hse5 := he5.size
  have o1 := own_below o1 he5
  have s1 := own_below s1 he5
  have p0' := own_below p0' he5
  have p1' := own_below p1' he5
  have B := B.trans (he5.mono B.size)
  go_wp2_with fail
  refine (eqI_at rfl (by omega) s1 o1).mono ?_
  rintro e u6 ⟨rfl, he6⟩
  have hse6 := he6.size
  have p0' := own_below p0' he6
  have p1' := own_below p1' he6
  have B := B.trans (he6.mono B.size)
  go_wp2_with fail
  refine (heldI_any _ _ v2 1 ys3 _ (by omega) (by omega) (by omega) p0' hy3).mono ?_
  rintro e ux ⟨rfl, rfl⟩
  go_wp2_with fail
  refine (heldI_any _ _ v3 (1 + ((ans r0).length : Int)) ys4 _ (by omega) (by omega) (by omega) p1' hy4).mono ?_
  rintro e ux ⟨rfl, rfl⟩
  go_wp2
  go_ret
  exact ⟨rfl, B⟩

/-! ### THE ROW's STEP -/
set_option maxRecDepth 100000 in
theorem lifted (os : Os) (started : os.Started) (H : Type) (enc : TypeId × Value → H) :
    ReturnsInHanded {} Try.checked os 3 .any (Rows.fnExactFracGapSpec.pre6 enc Try.prog Try.f3 Rows.fnExactFracGapRow.domain false) (Rows.fnExactFracGapSpec.post enc Try.prog Try.f3 false true false false) := by
  refine returnsInHanded_of_change (C := Try.checked) own started (by kernel_rfl) Try.func3
    (ChangeSpec.witness6 (enc := enc) (C := Try.checked) false ⟨#[], #[.agg #[.int .i64 0, .int .i64 0], .agg #[.int .i64 0, .int .i64 0]], []⟩ 8 (by kernel_rfl) (by kernel_rfl) (by kernel_rfl) (by kernel_rfl)) ?_
  intro W base args ds gs before hval0 hW hcnd _
  have hval : ∀ (j : Nat) t v, Try.f3.params[j]? = some t → args[j]? = some v → Value.okWide Try.prog W .any base t v := hval0
  have hW' := hW
  obtain ⟨p, q, hA0, hV, rfl, hfz, hnd⟩ := hW
  have hA : DataW.TrodAll enc Try.prog W 0 (fun _ => true) true Try.f3.params.toList args.toList ds p := hA0
  rw [Try.params3] at hA hval
  obtain ⟨v0, vs0, d0, ds0, p0, q0, hargs, rfl, rfl, h0, r0⟩ := trodAll_cons hA
  obtain ⟨v1, vs1, d1, ds1, p1, q1, rfl, rfl, rfl, h1, r1⟩ := trodAll_cons r0
  obtain ⟨rfl, rfl, rfl⟩ := trodAll_nil r1
  obtain rfl : args = #[v0, v1] := by cases args; simp_all
  obtain ⟨rfl, rfl⟩ := trodVars_none hV
  have k0 := h0
  have lt0 : ∀ x ∈ p0, x.block < W.heap.size := by obtain ⟨m, hm⟩ := k0; exact DataW.trod_lt m _ _ _ hm
  obtain ⟨n0, m0, rfl, wn0, wm0⟩ := open_frac (hval 0 23 v0 rfl rfl) h0
  have k1 := h1
  have lt1 : ∀ x ∈ p1, x.block < W.heap.size := by obtain ⟨m, hm⟩ := k1; exact DataW.trod_lt m _ _ _ hm
  obtain ⟨n1, m1, rfl, wn1, wm1⟩ := open_frac (hval 1 23 v1 rfl rfl) h1
  clear hA0 hval0
  refine (walk n0 m0 n1 m1 W (bounds_i64 wn0).1 (bounds_i64 wn0).2 (bounds_i64 wm0).1 (bounds_i64 wm0).2 (bounds_i64 wn1).1 (bounds_i64 wn1).2 (bounds_i64 wm1).1 (bounds_i64 wm1).2).mono fun e W' ⟨he, bel⟩ => ?_
  subst he
  exact ⟨_, rfl, _, _, _, [], _, [], hW', trodAll_mk1 (shut_bool Try.underlying4 _), (trodAll_cons_mk (Below.trod laidOut (by kernel_rfl) (of_decide_eq_true (by kernel_rfl)) k0 bel lt0) (trodAll_cons_mk (Below.trod laidOut (by kernel_rfl) (of_decide_eq_true (by kernel_rfl)) k1 bel lt1) trodAll_mk0)), rfl, bel.frame _, fun h => by cases h⟩

theorem over : Rows.fnExactFracGapRow.holds Try.pinned (OpenSpec.ofChange Rows.fnExactFracGapSpec) :=
  OpenClaim.holds_of_wide 3 Try.f3 rfl rfl rfl rfl rfl rfl rfl ⟨rfl, rfl, rfl, rfl, rfl⟩ rfl rfl rfl rfl rfl (by kernel_rfl) Try.func3 (by kernel_rfl)
    (of_decide_eq_true (by kernel_rfl)) (by unfold Func.isWrapper; first | (rw [if_pos (by decide +kernel)]; kernel_rfl) | (rw [if_neg (by decide +kernel)]; exact ⟨rfl, rfl⟩))
    (fun os started H enc _ => lifted os started H enc)

theorem proved : Rows.FnExactFracGapSaid :=
  over
end Go.Proofs.Ytonimdaimldbgab.fnExactFracGap
namespace Go.Proofs.Ytonimdaimldbgab
theorem fracGap_holds : Rows.FnExactFracGapSaid := fnExactFracGap.proved
#print axioms fracGap_holds
end Go.Proofs.Ytonimdaimldbgab
