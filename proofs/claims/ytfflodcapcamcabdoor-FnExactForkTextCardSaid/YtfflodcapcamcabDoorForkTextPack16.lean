/- Texts of this claim, put together: part 16. -/
import Derived.Test.YtfflodcapcamcabDoorForkTextPack7
import Derived.Test.YtfflodcapcamcabDoorForkTextPack15
import Derived.Test.YtfflodcapcamcabDoorForkTextPack12
import Derived.Test.YtfflodcapcamcabDoorForkTextPack10
import Derived.Test.YtfflodcapcamcabDoorForkTextPack8
import Derived.Test.YtfflodcapcamcabDoorRows
import Derived.WalkKit
import Derived.ProofKit
import Derived.OpenShut
import Derived.Laws.BytesArg
import Derived.Lib.ItoaNum
import Derived.Test.YtfflodcapcamcabDoorForkTextPack9
import Derived.Test.YtfflodcapcamcabDoorForkTextPack3
/- Whether a question is right, by the specification. -/
namespace Go.Proofs.YtfflodcapcamcabDoor
open Go.RowKit
set_option maxRecDepth 100000
set_option linter.unusedSimpArgs false
set_option maxHeartbeats 3200000 in
theorem specForkOk_any (vs : Value) (s : SchemaD) (f : ForkD) (w : World) (hs : SchemaAt w vs s) (hn : okSch s) :
    Calls Tryd.prog 12 #[vs, forkV f] w fun e w' => e = .returned (.bool (forkOk s f)) ∧ Below w.heap.size w w' := by
  unfold forkV
  have HS : Hid (∀ W, Below w.heap.size w W → SchemaAt W vs s) := fun W h => hs.later h
  have HOK : Hid (okSch s) := hn
  obtain ⟨va, vc, rfl, ra, -⟩ := hs
  obtain ⟨oa, ka, rfl, -, -⟩ := id ra
  clear ra hn
  have la := HOK.out.attrs
  obtain ⟨KS, KF, B⟩ := blk_2 32 34 w #[.slice oa s.attrs.length ka, vc] #[.int .i64 f.attr, .int .i64 f.pos]
  have cc := specSchemaOk_any _ s _ (HS.out _ B) HOK.out
  cases hk : schemaOk s with
  | false =>
    have HE : forkOk s f = false := by unfold forkOk; rw [hk]; rfl
    rw [hk] at cc
    rw [HE]
    clear hk HE
    go_enter Tryd.func12, Tryd.ntmps12
    have kS0 : ((w.alloc (.cells #[.slice oa s.attrs.length ka, vc] 32)).alloc (.cells #[.int .i64 f.attr, .int .i64 f.pos] 34)).cell? ⟨w.heap.size, 0, none⟩ = some (.slice oa s.attrs.length ka) := KS.cell 0
    have kS1 : ((w.alloc (.cells #[.slice oa s.attrs.length ka, vc] 32)).alloc (.cells #[.int .i64 f.attr, .int .i64 f.pos] 34)).cell? ⟨w.heap.size, 1, none⟩ = some (vc) := KS.cell 1
    go_wp2_with fail
    refine cc.mono ?_
    clear cc
    clear kS0 kS1
    rintro e w1 ⟨rfl, hb⟩
    replace KS := KS.below hb
    replace KF := KF.below hb
    replace B := B.trans (hb.mono B.size)
    go_wp2
    go_ret
    exact ⟨rfl, B⟩
  | true =>
    have HX : Hid (forkOk s f = (decide (0 ≤ f.attr ∧ f.attr ≤ (s.attrs.length : Int) - 1) && decide (-1 ≤ f.pos ∧ f.pos ≤ forkTop s f))) := by unfold forkOk; rw [hk]; rfl
    rw [hk] at cc
    clear hk
    go_enter Tryd.func12, Tryd.ntmps12
    have kS0 : ((w.alloc (.cells #[.slice oa s.attrs.length ka, vc] 32)).alloc (.cells #[.int .i64 f.attr, .int .i64 f.pos] 34)).cell? ⟨w.heap.size, 0, none⟩ = some (.slice oa s.attrs.length ka) := KS.cell 0
    have kS1 : ((w.alloc (.cells #[.slice oa s.attrs.length ka, vc] 32)).alloc (.cells #[.int .i64 f.attr, .int .i64 f.pos] 34)).cell? ⟨w.heap.size, 1, none⟩ = some (vc) := KS.cell 1
    go_wp2_with fail
    refine cc.mono ?_
    clear cc
    clear kS0 kS1
    rintro e w1 ⟨rfl, hb⟩
    replace KS := KS.below hb
    replace KF := KF.below hb
    replace B := B.trans (hb.mono B.size)
    clear hb
    have cc := in_any f.attr 0 ((s.attrs.length : Int) - 1) w1
    by_cases ha : 0 ≤ f.attr ∧ f.attr ≤ (s.attrs.length : Int) - 1
    rotate_left
    · rw [decide_eq_false ha] at cc
      have HE : Hid (forkOk s f = false) := by show _ = _; rw [HX.out, decide_eq_false ha]; rfl
      clear ha HX
      have kS0 : w1.cell? ⟨w.heap.size, 0, none⟩ = some (.slice oa s.attrs.length ka) := KS.cell 0
      have kS1 : w1.cell? ⟨w.heap.size, 1, none⟩ = some (vc) := KS.cell 1
      have kF0 : w1.cell? ⟨w.heap.size + 1, 0, none⟩ = some (.int .i64 f.attr) := KF.cell 0
      have kF1 : w1.cell? ⟨w.heap.size + 1, 1, none⟩ = some (.int .i64 f.pos) := KF.cell 1
      go_wp2_with fail
      refine cc.mono ?_
      clear cc
      rintro e w2 ⟨rfl, e2⟩
      rw [e2]
      go_wp2
      go_ret
      exact ⟨by rw [HE.out]; rfl, B⟩
    rw [decide_eq_true ha] at cc
    have HX2 : Hid (forkOk s f = decide (-1 ≤ f.pos ∧ f.pos ≤ forkTop s f)) := by show _ = _; rw [HX.out, decide_eq_true ha, Bool.true_and]
    clear HX
    obtain ⟨k, hk⟩ := Int.eq_ofNat_of_zero_le ha.1
    have hlt : k < s.attrs.length := by omega
    have HK : Hid (f.attr = (k : Int)) := hk
    have HFA : Hid (forkAttr s f = ad s.attrs k) := by show _ = _; unfold forkAttr; rw [hk]; rfl
    generalize f.attr = fa0 at *
    subst hk
    have kS0 : w1.cell? ⟨w.heap.size, 0, none⟩ = some (.slice oa s.attrs.length ka) := KS.cell 0
    have kS1 : w1.cell? ⟨w.heap.size, 1, none⟩ = some (vc) := KS.cell 1
    have kF0 : w1.cell? ⟨w.heap.size + 1, 0, none⟩ = some (.int .i64 (k : Int)) := KF.cell 0
    have kF1 : w1.cell? ⟨w.heap.size + 1, 1, none⟩ = some (.int .i64 f.pos) := KF.cell 1
    go_wp2_with fail
    refine cc.mono ?_
    clear cc
    clear kS0 kS1 kF0 kF1
    rintro e w2 ⟨rfl, e2⟩
    rw [e2]
    clear e2 w2
    obtain ⟨ga, fa, y1, z1, y2, z2, rfl, hat⟩ := attr_at (HS.out _ B) hlt
    have HAT : Hid _ := hat
    clear hat
    have c1 := (HAT.out _ (Below.refl _ _)).2.1
    have HB : Hid (okA (ad s.attrs k)) := HOK.out.each _ (ad_mem hlt)
    obtain ⟨nb, hnb⟩ : ∃ nb, bins (ad s.attrs k) = nb := ⟨_, rfl⟩
    have hb4 := small_bins (ad s.attrs k)
    rw [hnb] at hb4
    by_cases hc : 0 < (ad s.attrs k).cuts.length
    · have hci : (0 : Int) < ((ad s.attrs k).cuts.length : Int) := by omega
      have HE : Hid (forkOk s f = decide (-1 ≤ f.pos ∧ f.pos ≤ nb - 2)) := by show _ = _; rw [HX2.out]; unfold forkTop; rw [HFA.out, if_pos hc, hnb]
      clear HX2 hc
      have kS0 : w1.cell? ⟨w.heap.size, 0, none⟩ = some (.slice (some ⟨ga, fa, none⟩) s.attrs.length ka) := KS.cell 0
      have kS1 : w1.cell? ⟨w.heap.size, 1, none⟩ = some (vc) := KS.cell 1
      have kF0 : w1.cell? ⟨w.heap.size + 1, 0, none⟩ = some (.int .i64 (k : Int)) := KF.cell 0
      have kF1 : w1.cell? ⟨w.heap.size + 1, 1, none⟩ = some (.int .i64 f.pos) := KF.cell 1
      go_wp2_with fail
      clear kS0 kS1 kF0 kF1
      clear c1 hci
      have bd : Below w1.heap.size w1 w1.drew := below_drewN (Below.refl _ _) 1
      have hat := HAT.out _ bd
      refine wp_region_held_drew (S := fun w' => Blk 32 w' w.heap.size #[.slice (some ⟨ga, fa, none⟩) s.attrs.length ka, vc] ∧ Blk 34 w' (w.heap.size + 1) #[.int .i64 (k : Int), .int .i64 f.pos] ∧ (w'.cell? ⟨ga, fa + k * 3, none⟩ = some (.string (ad s.attrs k).name) ∧ w'.cell? ⟨ga, fa + k * 3 + 1, none⟩ = some (.slice y1 (ad s.attrs k).cuts.length z1) ∧ w'.cell? ⟨ga, fa + k * 3 + 2, none⟩ = some (.slice y2 (ad s.attrs k).vals.length z2))) (by kernel_rfl) ⟨KS.below bd, KF.below bd, hat.1, hat.2.1, hat.2.2.1⟩ ?_
      intro hS
      have cB := specBins_any _ _ _ hat.2.2.2 HB.out
      rw [hnb] at cB
      clear hat
      replace KS := KS.below bd
      replace KF := KF.below bd
      replace B := B.trans (bd.mono B.size)
      clear bd
      generalize w1.drew = w3 at KS KF B cB hS ⊢
      refine takeL 0 (.pointer (some ⟨w.heap.size + 1, 1, none⟩)) rfl (by kernel_rfl) (by kernel_rfl) (by kernel_rfl) (fun _ _ _ h => h) (.inl ⟨by rfl, fun w hw => by (unfold execOp; go_simp)⟩) hS ?_
      try simp only [Act.put, List.setIfInBounds_toArray, List.set_cons_zero, List.set_cons_succ]
      refine takeL 1 (.int .i64 f.pos) rfl (by kernel_rfl) (by kernel_rfl) (by kernel_rfl) (fun _ _ _ h => h) (.inl ⟨by rfl, fun w hw => by (have h0 := (hw.2.1).cell 1; unfold execOp; go_simp)⟩) hS ?_
      try simp only [Act.put, List.setIfInBounds_toArray, List.set_cons_zero, List.set_cons_succ]
      refine takeL 2 (.pointer (some ⟨w.heap.size, 0, none⟩)) rfl (by kernel_rfl) (by kernel_rfl) (by kernel_rfl) (fun _ _ _ h => h) (.inl ⟨by rfl, fun w hw => by (unfold execOp; go_simp)⟩) hS ?_
      try simp only [Act.put, List.setIfInBounds_toArray, List.set_cons_zero, List.set_cons_succ]
      refine takeL 3 (.slice (some ⟨ga, fa, none⟩) s.attrs.length ka) rfl (by kernel_rfl) (by kernel_rfl) (by kernel_rfl) (fun _ _ _ h => h) (.inl ⟨by rfl, fun w hw => by (have h0 := (hw.1).cell 0; unfold execOp; go_simp)⟩) hS ?_
      try simp only [Act.put, List.setIfInBounds_toArray, List.set_cons_zero, List.set_cons_succ]
      refine takeL 4 (.pointer (some ⟨w.heap.size + 1, 0, none⟩)) rfl (by kernel_rfl) (by kernel_rfl) (by kernel_rfl) (fun _ _ _ h => h) (.inl ⟨by rfl, fun w hw => by (unfold execOp; go_simp)⟩) hS ?_
      try simp only [Act.put, List.setIfInBounds_toArray, List.set_cons_zero, List.set_cons_succ]
      refine takeL 5 (.int .i64 ((k : Int))) rfl (by kernel_rfl) (by kernel_rfl) (by kernel_rfl) (fun _ _ _ h => h) (.inl ⟨by rfl, fun w hw => by (have h0 := (hw.2.1).cell 0; unfold execOp; go_simp)⟩) hS ?_
      try simp only [Act.put, List.setIfInBounds_toArray, List.set_cons_zero, List.set_cons_succ]
      refine takeL 6 (.pointer (some ⟨ga, fa + k * 3, none⟩)) rfl (by kernel_rfl) (by kernel_rfl) (by kernel_rfl) (fun _ _ _ h => h) (.inl ⟨by rfl, fun w hw => by (unfold execOp; go_simp; all_goals omega)⟩) hS ?_
      try simp only [Act.put, List.setIfInBounds_toArray, List.set_cons_zero, List.set_cons_succ]
      refine takeL 7 (.agg #[.string (ad s.attrs k).name, .slice y1 (ad s.attrs k).cuts.length z1, .slice y2 (ad s.attrs k).vals.length z2]) rfl (by kernel_rfl) (by kernel_rfl) (by kernel_rfl) (fun _ _ _ h => h) (.inl ⟨by rfl, fun w hw => by (have h0 := hw.2.2.1; have h1 := hw.2.2.2.1; have h2 := hw.2.2.2.2; unfold execOp; go_simp)⟩) hS ?_
      try simp only [Act.put, List.setIfInBounds_toArray, List.set_cons_zero, List.set_cons_succ]
      refine nextL 8 rfl (by kernel_rfl) (by rfl) fun K hK => ?_
      go_simp
      refine cB.mono ?_
      clear cB
      rintro e w4 ⟨rfl, hb⟩
      replace hS : (fun w' => Blk 32 w' w.heap.size #[.slice (some ⟨ga, fa, none⟩) s.attrs.length ka, vc] ∧ Blk 34 w' (w.heap.size + 1) #[.int .i64 (k : Int), .int .i64 f.pos] ∧ (w'.cell? ⟨ga, fa + k * 3, none⟩ = some (.string (ad s.attrs k).name) ∧ w'.cell? ⟨ga, fa + k * 3 + 1, none⟩ = some (.slice y1 (ad s.attrs k).cuts.length z1) ∧ w'.cell? ⟨ga, fa + k * 3 + 2, none⟩ = some (.slice y2 (ad s.attrs k).vals.length z2))) w4 := ⟨hS.1.below hb, hS.2.1.below hb, (hb.cell (p := ⟨ga, fa + k * 3, none⟩) (World.block_lt_of_cell? _ _ (by rw [hS.2.2.1]))).trans hS.2.2.1, (hb.cell (p := ⟨ga, fa + k * 3 + 1, none⟩) (World.block_lt_of_cell? _ _ (by rw [hS.2.2.2.1]))).trans hS.2.2.2.1, (hb.cell (p := ⟨ga, fa + k * 3 + 2, none⟩) (World.block_lt_of_cell? _ _ (by rw [hS.2.2.2.2]))).trans hS.2.2.2.2⟩
      replace B := B.trans (hb.mono B.size)
      clear KS KF hb
      refine hK _ _ hS ?_
      clear hK K hS
      intro hS
      refine takeL 9 (.int .i64 (nb - 2)) rfl (by kernel_rfl) (by kernel_rfl) (by kernel_rfl) (fun _ _ _ h => h) (.inl ⟨by rfl, fun w hw => by (unfold execOp; go_simp; all_goals (rw [IntKind.wrap_i64]; omega))⟩) hS ?_
      try simp only [Act.put, List.setIfInBounds_toArray, List.set_cons_zero, List.set_cons_succ]
      have cI := in_any f.pos (-1) (nb - 2) w4
      refine nextL 10 rfl (by kernel_rfl) (by rfl) fun K hK => ?_
      go_simp
      refine cI.mono ?_
      clear cI
      rintro e w5 ⟨rfl, e5⟩
      rw [e5]
      clear e5 w5
      refine hK _ _ hS ?_
      clear hK K hS
      intro hS
      refine takeL 11 (.bool (decide (-1 ≤ f.pos ∧ f.pos ≤ nb - 2))) rfl (by kernel_rfl) (by kernel_rfl) (by kernel_rfl) (fun _ _ _ h => h) (.inl ⟨by rfl, fun w _ => by rfl⟩) hS ?_
      try simp only [Act.put, List.setIfInBounds_toArray, List.set_cons_zero, List.set_cons_succ]
      refine wpAnyH_done (by kernel_rfl) ?_ _
      clear hS
      go_wp2
      go_ret
      exact ⟨by rw [HE.out]; rfl, B⟩
    · have hci : ¬ (0 : Int) < ((ad s.attrs k).cuts.length : Int) := by omega
      have HE : Hid (forkOk s f = decide (-1 ≤ f.pos ∧ f.pos ≤ nb - 1)) := by show _ = _; rw [HX2.out]; unfold forkTop; rw [HFA.out, if_neg hc, hnb]
      clear HX2 hc
      have kS0 : w1.cell? ⟨w.heap.size, 0, none⟩ = some (.slice (some ⟨ga, fa, none⟩) s.attrs.length ka) := KS.cell 0
      have kS1 : w1.cell? ⟨w.heap.size, 1, none⟩ = some (vc) := KS.cell 1
      have kF0 : w1.cell? ⟨w.heap.size + 1, 0, none⟩ = some (.int .i64 (k : Int)) := KF.cell 0
      have kF1 : w1.cell? ⟨w.heap.size + 1, 1, none⟩ = some (.int .i64 f.pos) := KF.cell 1
      go_wp2_with fail
      clear kS0 kS1 kF0 kF1
      clear c1 hci
      have bd : Below w1.heap.size w1 w1.drew := below_drewN (Below.refl _ _) 1
      have hat := HAT.out _ bd
      refine wp_region_held_drew (S := fun w' => Blk 32 w' w.heap.size #[.slice (some ⟨ga, fa, none⟩) s.attrs.length ka, vc] ∧ Blk 34 w' (w.heap.size + 1) #[.int .i64 (k : Int), .int .i64 f.pos] ∧ (w'.cell? ⟨ga, fa + k * 3, none⟩ = some (.string (ad s.attrs k).name) ∧ w'.cell? ⟨ga, fa + k * 3 + 1, none⟩ = some (.slice y1 (ad s.attrs k).cuts.length z1) ∧ w'.cell? ⟨ga, fa + k * 3 + 2, none⟩ = some (.slice y2 (ad s.attrs k).vals.length z2))) (by kernel_rfl) ⟨KS.below bd, KF.below bd, hat.1, hat.2.1, hat.2.2.1⟩ ?_
      intro hS
      have cB := specBins_any _ _ _ hat.2.2.2 HB.out
      rw [hnb] at cB
      clear hat
      replace KS := KS.below bd
      replace KF := KF.below bd
      replace B := B.trans (bd.mono B.size)
      clear bd
      generalize w1.drew = w3 at KS KF B cB hS ⊢
      refine takeL 0 (.pointer (some ⟨w.heap.size + 1, 1, none⟩)) rfl (by kernel_rfl) (by kernel_rfl) (by kernel_rfl) (fun _ _ _ h => h) (.inl ⟨by rfl, fun w hw => by (unfold execOp; go_simp)⟩) hS ?_
      try simp only [Act.put, List.setIfInBounds_toArray, List.set_cons_zero, List.set_cons_succ]
      refine takeL 1 (.int .i64 f.pos) rfl (by kernel_rfl) (by kernel_rfl) (by kernel_rfl) (fun _ _ _ h => h) (.inl ⟨by rfl, fun w hw => by (have h0 := (hw.2.1).cell 1; unfold execOp; go_simp)⟩) hS ?_
      try simp only [Act.put, List.setIfInBounds_toArray, List.set_cons_zero, List.set_cons_succ]
      refine takeL 2 (.pointer (some ⟨w.heap.size, 0, none⟩)) rfl (by kernel_rfl) (by kernel_rfl) (by kernel_rfl) (fun _ _ _ h => h) (.inl ⟨by rfl, fun w hw => by (unfold execOp; go_simp)⟩) hS ?_
      try simp only [Act.put, List.setIfInBounds_toArray, List.set_cons_zero, List.set_cons_succ]
      refine takeL 3 (.slice (some ⟨ga, fa, none⟩) s.attrs.length ka) rfl (by kernel_rfl) (by kernel_rfl) (by kernel_rfl) (fun _ _ _ h => h) (.inl ⟨by rfl, fun w hw => by (have h0 := (hw.1).cell 0; unfold execOp; go_simp)⟩) hS ?_
      try simp only [Act.put, List.setIfInBounds_toArray, List.set_cons_zero, List.set_cons_succ]
      refine takeL 4 (.pointer (some ⟨w.heap.size + 1, 0, none⟩)) rfl (by kernel_rfl) (by kernel_rfl) (by kernel_rfl) (fun _ _ _ h => h) (.inl ⟨by rfl, fun w hw => by (unfold execOp; go_simp)⟩) hS ?_
      try simp only [Act.put, List.setIfInBounds_toArray, List.set_cons_zero, List.set_cons_succ]
      refine takeL 5 (.int .i64 ((k : Int))) rfl (by kernel_rfl) (by kernel_rfl) (by kernel_rfl) (fun _ _ _ h => h) (.inl ⟨by rfl, fun w hw => by (have h0 := (hw.2.1).cell 0; unfold execOp; go_simp)⟩) hS ?_
      try simp only [Act.put, List.setIfInBounds_toArray, List.set_cons_zero, List.set_cons_succ]
      refine takeL 6 (.pointer (some ⟨ga, fa + k * 3, none⟩)) rfl (by kernel_rfl) (by kernel_rfl) (by kernel_rfl) (fun _ _ _ h => h) (.inl ⟨by rfl, fun w hw => by (unfold execOp; go_simp; all_goals omega)⟩) hS ?_
      try simp only [Act.put, List.setIfInBounds_toArray, List.set_cons_zero, List.set_cons_succ]
      refine takeL 7 (.agg #[.string (ad s.attrs k).name, .slice y1 (ad s.attrs k).cuts.length z1, .slice y2 (ad s.attrs k).vals.length z2]) rfl (by kernel_rfl) (by kernel_rfl) (by kernel_rfl) (fun _ _ _ h => h) (.inl ⟨by rfl, fun w hw => by (have h0 := hw.2.2.1; have h1 := hw.2.2.2.1; have h2 := hw.2.2.2.2; unfold execOp; go_simp)⟩) hS ?_
      try simp only [Act.put, List.setIfInBounds_toArray, List.set_cons_zero, List.set_cons_succ]
      refine nextL 8 rfl (by kernel_rfl) (by rfl) fun K hK => ?_
      go_simp
      refine cB.mono ?_
      clear cB
      rintro e w4 ⟨rfl, hb⟩
      replace hS : (fun w' => Blk 32 w' w.heap.size #[.slice (some ⟨ga, fa, none⟩) s.attrs.length ka, vc] ∧ Blk 34 w' (w.heap.size + 1) #[.int .i64 (k : Int), .int .i64 f.pos] ∧ (w'.cell? ⟨ga, fa + k * 3, none⟩ = some (.string (ad s.attrs k).name) ∧ w'.cell? ⟨ga, fa + k * 3 + 1, none⟩ = some (.slice y1 (ad s.attrs k).cuts.length z1) ∧ w'.cell? ⟨ga, fa + k * 3 + 2, none⟩ = some (.slice y2 (ad s.attrs k).vals.length z2))) w4 := ⟨hS.1.below hb, hS.2.1.below hb, (hb.cell (p := ⟨ga, fa + k * 3, none⟩) (World.block_lt_of_cell? _ _ (by rw [hS.2.2.1]))).trans hS.2.2.1, (hb.cell (p := ⟨ga, fa + k * 3 + 1, none⟩) (World.block_lt_of_cell? _ _ (by rw [hS.2.2.2.1]))).trans hS.2.2.2.1, (hb.cell (p := ⟨ga, fa + k * 3 + 2, none⟩) (World.block_lt_of_cell? _ _ (by rw [hS.2.2.2.2]))).trans hS.2.2.2.2⟩
      replace B := B.trans (hb.mono B.size)
      clear KS KF hb
      refine hK _ _ hS ?_
      clear hK K hS
      intro hS
      refine takeL 9 (.int .i64 (nb - 1)) rfl (by kernel_rfl) (by kernel_rfl) (by kernel_rfl) (fun _ _ _ h => h) (.inl ⟨by rfl, fun w hw => by (unfold execOp; go_simp; all_goals (rw [IntKind.wrap_i64]; omega))⟩) hS ?_
      try simp only [Act.put, List.setIfInBounds_toArray, List.set_cons_zero, List.set_cons_succ]
      have cI := in_any f.pos (-1) (nb - 1) w4
      refine nextL 10 rfl (by kernel_rfl) (by rfl) fun K hK => ?_
      go_simp
      refine cI.mono ?_
      clear cI
      rintro e w5 ⟨rfl, e5⟩
      rw [e5]
      clear e5 w5
      refine hK _ _ hS ?_
      clear hK K hS
      intro hS
      refine takeL 11 (.bool (decide (-1 ≤ f.pos ∧ f.pos ≤ nb - 1))) rfl (by kernel_rfl) (by kernel_rfl) (by kernel_rfl) (fun _ _ _ h => h) (.inl ⟨by rfl, fun w _ => by rfl⟩) hS ?_
      try simp only [Act.put, List.setIfInBounds_toArray, List.set_cons_zero, List.set_cons_succ]
      refine wpAnyH_done (by kernel_rfl) ?_ _
      clear hS
      go_wp2
      go_ret
      exact ⟨by rw [HE.out]; rfl, B⟩
end Go.Proofs.YtfflodcapcamcabDoor
/- The decimal digits of a number, one by one. -/
namespace Go.Proofs.YtfflodcapcamcabDoor
open Go.RowKit
set_option maxRecDepth 100000

def ds (u : Nat) : List UInt8 := if u = 0 then [] else Lib.decDigits u
theorem ds_pos (u : Nat) (h : 0 < u) : ds u = ds (u / 10) ++ [UInt8.ofNat (48 + u % 10)] := by
  unfold ds
  rw [if_neg (by omega), Lib.decDigits]
  by_cases h10 : u < 10
  · rw [dif_pos h10, if_pos (by omega), Nat.mod_eq_of_lt h10]; rfl
  · rw [dif_neg h10, if_neg (by omega)]
theorem ds_zero : ds 0 = [] := rfl
theorem ds_of (u : Nat) (h : 0 < u) : ds u = Lib.decDigits u := if_neg (by omega)

theorem one_text (wx : World) (b : Int) : (convert 59 9 (.slice (some ⟨wx.heap.size, 0, none⟩) 1 1)).run Tryd.prog (wx.alloc (.cells #[.int .u8 b] 5)) = .ok (.string ⟨#[UInt8.ofNat b.toNat]⟩) (wx.alloc (.cells #[.int .u8 b] 5)) :=
  run_convert_bytes_arg (P := Tryd.prog) _ 59 5 Tryd.underlying59 Tryd.underlying5 wx.heap.size 0 1 1 [b] rfl (fun i hi => by
    obtain rfl : i = 0 := by omega
    simp) _ Tryd.underlying9

theorem one_text_drew (wx : World) (b : Int) : (convert 59 9 (.slice (some ⟨wx.heap.size, 0, none⟩) 1 1)).run Tryd.prog (wx.alloc (.cells #[.int .u8 b] 5)).drew = .ok (.string ⟨#[UInt8.ofNat b.toNat]⟩) (wx.alloc (.cells #[.int .u8 b] 5)).drew :=
  run_convert_bytes_arg (P := Tryd.prog) _ 59 5 Tryd.underlying59 Tryd.underlying5 wx.heap.size 0 1 1 [b] rfl (fun i hi => by
    obtain rfl : i = 0 := by omega
    show (wx.alloc (.cells #[.int .u8 b] 5)).cell? _ = _
    simp) _ Tryd.underlying9

theorem pow_step (u k : Nat) (h0 : 0 < u) (h : u < 10 ^ (19 - k)) : k < 19 ∧ u / 10 < 10 ^ (19 - (k + 1)) := by
  have hk : k < 19 := by
    rcases Nat.lt_or_ge k 19 with h1 | h1
    · exact h1
    · rw [show 19 - k = 0 by omega] at h; simp at h; omega
  refine ⟨hk, Nat.div_lt_of_lt_mul ?_⟩
  rw [show 19 - k = 19 - (k + 1) + 1 by omega, Nat.pow_succ, Nat.mul_comm] at h
  exact h

theorem cat1 (b c : UInt8) (done : List UInt8) (h : b = c) : Value.string ((⟨#[b]⟩ : ByteArray) ++ ⟨done.toArray⟩) = .string ⟨(c :: done).toArray⟩ := by
  subst h
  congr 1

end Go.Proofs.YtfflodcapcamcabDoor
/- The decimal digits of a number, by the specification's own loop. -/
namespace Go.Proofs.YtfflodcapcamcabDoor
open Go.RowKit
set_option maxRecDepth 100000

set_option maxHeartbeats 800000 in
theorem digits_neg (u0 : Nat) (w : World) (h0 : 0 < u0) (h1 : u0 ≤ 9223372036854775808) :
    Calls Tryd.prog 13 #[.int .i64 (-(u0 : Int))] w fun e w' => e = .returned (.string ⟨(45 :: ds u0).toArray⟩) ∧ Below w.heap.size w w' := by
  have ot := one_text
  have hz0 : (-(u0 : Int) == 0) = false := by simp; omega
  have hn0 : decide (-(u0 : Int) < 0) = true := by simp; omega
  go_enter Tryd.func13, Tryd.ntmps13
  go_wp2
  go_loopw [0, 4, 5] (fun n v _ wr => ∃ (u : Nat) (done : List UInt8), n = .int .i64 (-(u : Int)) ∧ u ≤ 9223372036854775808 ∧ v = .string ⟨done.toArray⟩ ∧ done.length ≤ 19 ∧ u < 10 ^ (19 - done.length) ∧ ds u ++ done = ds u0 ∧ Below w.heap.size w wr) (fun n _ _ _ => (-(intOf n)).toNat)
  case atStart => exact ⟨u0, [], rfl, h1, rfl, by simp, by simp; omega, by simp, Below.refl _ _⟩
  case round =>
    obtain ⟨u, done, rfl, hu, rfl, hlen, hdn, hE, hb⟩ := hrel
    have HE : Hid (ds u ++ done = ds u0) := hE
    have HD : Hid (u < 10 ^ (19 - done.length)) := hdn
    clear hE hdn
    by_cases hz : 0 < u
    · have hm : (-(u : Int)).tmod 10 = -((u % 10 : Nat) : Int) := by rw [Int.neg_tmod, Int.tmod_eq_emod_of_nonneg (by omega)]; omega
      have hq : (-(u : Int)).tdiv 10 = -((u / 10 : Nat) : Int) := by rw [Int.neg_tdiv, Int.tdiv_eq_ediv_of_nonneg (by omega)]; omega
      have hne : (-(u : Int) != 0) = true := by simp; omega
      by_cases hr : 0 < u % 10
      all_goals
        go_wp2
        go_roundw
        case rel =>
          obtain ⟨p1, p2⟩ := pow_step u done.length hz HD.out
          refine ⟨u / 10, UInt8.ofNat (48 + u % 10) :: done, by go_num, by omega, ?_, by simp; omega, by simpa using p2, ?_, ?_⟩
          · exact cat1 _ _ _ (by first | (simp; done) | (congr 1; omega))
          · rw [← HE.out, ds_pos u hz]; simp
          · exact hb.alloc hb.size _
        case measure => simp [intOf]; omega
    · obtain rfl : u = 0 := by omega
      go_wp2
      go_ret
      refine ⟨?_, hb⟩
      have hE := HE.out
      rw [ds_zero, List.nil_append] at hE
      rw [← hE]
      exact congrArg Ending.returned (cat1 45 45 done rfl)

set_option maxHeartbeats 800000 in
theorem digits_pos (u0 : Nat) (w : World) (h0 : 0 < u0) (h1 : u0 ≤ 9223372036854775807) :
    Calls Tryd.prog 13 #[.int .i64 ((u0 : Int))] w fun e w' => e = .returned (.string ⟨(ds u0).toArray⟩) ∧ Below w.heap.size w w' := by
  have ot := one_text
  have hz0 : ((u0 : Int) == 0) = false := by simp; omega
  have hn0 : decide ((u0 : Int) < 0) = false := by simp
  go_enter Tryd.func13, Tryd.ntmps13
  go_wp2
  go_loopw [0, 4, 5] (fun n v _ wr => ∃ (u : Nat) (done : List UInt8), n = .int .i64 (u : Int) ∧ u ≤ 9223372036854775807 ∧ v = .string ⟨done.toArray⟩ ∧ done.length ≤ 19 ∧ u < 10 ^ (19 - done.length) ∧ ds u ++ done = ds u0 ∧ Below w.heap.size w wr) (fun n _ _ _ => (intOf n).toNat)
  case atStart => exact ⟨u0, [], rfl, h1, rfl, by simp, by simp; omega, by simp, Below.refl _ _⟩
  case round =>
    obtain ⟨u, done, rfl, hu, rfl, hlen, hdn, hE, hb⟩ := hrel
    have HE : Hid (ds u ++ done = ds u0) := hE
    have HD : Hid (u < 10 ^ (19 - done.length)) := hdn
    clear hE hdn
    by_cases hz : 0 < u
    · have hne : ((u : Int) != 0) = true := by simp; omega
      all_goals
        go_wp2
        go_roundw
        case rel =>
          obtain ⟨p1, p2⟩ := pow_step u done.length hz HD.out
          refine ⟨u / 10, UInt8.ofNat (48 + u % 10) :: done, by go_num, by omega, ?_, by simp; omega, by simpa using p2, ?_, ?_⟩
          · exact cat1 _ _ _ (by first | (simp; done) | (congr 1; omega))
          · rw [← HE.out, ds_pos u hz]; simp
          · exact hb.alloc hb.size _
        case measure => simp [intOf]; omega
    · obtain rfl : u = 0 := by omega
      go_wp2
      go_ret
      refine ⟨?_, hb⟩
      have hE := HE.out
      rw [ds_zero, List.nil_append] at hE
      rw [← hE]
      rfl

/-- Whatever the number. -/
theorem digits_any (n : Int) (w : World) (h0 : -9223372036854775808 ≤ n) (h1 : n ≤ 9223372036854775807) :
    Calls Tryd.prog 13 #[.int .i64 n] w fun e w' => e = .returned (.string ⟨(Lib.itoa n).toArray⟩) ∧ Below w.heap.size w w' := by
  by_cases hn : n < 0
  · obtain ⟨u, rfl⟩ : ∃ u : Nat, n = -(u : Int) := ⟨n.natAbs, by omega⟩
    have e : Lib.itoa (-(u : Int)) = 45 :: ds u := by rw [Lib.itoa, if_pos hn, ds_of u (by omega)]; simp
    rw [e]
    exact digits_neg u w (by omega) (by omega)
  · obtain ⟨u, rfl⟩ := Int.eq_ofNat_of_zero_le (show 0 ≤ n by omega)
    by_cases hu : u = 0
    · subst hu
      have e : Lib.itoa ((0 : Nat) : Int) = [48] := by rw [Lib.itoa, if_neg hn]; rw [Lib.decDigits]; rfl
      rw [e]
      go_enter Tryd.func13, Tryd.ntmps13
      go_wp2
      go_ret
      exact ⟨rfl, Below.refl _ _⟩
    · have e : Lib.itoa (u : Int) = ds u := by rw [Lib.itoa, if_neg hn, ds_of u (by omega)]; simp
      rw [e]
      exact digits_pos u w (by omega) (by omega)
end Go.Proofs.YtfflodcapcamcabDoor
/- The text of a question, by the specification. -/
namespace Go.Proofs.YtfflodcapcamcabDoor
open Go.RowKit
set_option maxRecDepth 100000
set_option linter.unusedSimpArgs false
set_option maxHeartbeats 3200000 in
theorem specForkText_any (vs : Value) (s : SchemaD) (f : ForkD) (w : World) (hs : SchemaAt w vs s) (hn : okSch s) :
    Calls Tryd.prog 5 #[vs, forkV f] w fun e w' => e = .returned (.string (forkText s f)) ∧ Below w.heap.size w w' := by
  unfold forkV
  have HS : Hid (∀ W, Below w.heap.size w W → SchemaAt W vs s) := fun W h => hs.later h
  obtain ⟨va, vc, rfl, ra, -⟩ := id hs
  obtain ⟨oa, ka, rfl, -, -⟩ := id ra
  have la := hn.attrs
  clear ra
  obtain ⟨KS, KF, B⟩ := blk_2 32 34 w #[.slice oa s.attrs.length ka, vc] #[.int .i64 f.attr, .int .i64 f.pos]
  have cc := specForkOk_any _ s f _ (HS.out _ B) hn
  unfold forkV at cc
  clear hn hs
  cases hk : forkOk s f with
  | false =>
    have HE : Hid (forkText s f = ⟨#[]⟩) := text_no hk
    rw [hk] at cc
    clear hk
    go_enter Tryd.func5, Tryd.ntmps5
    go_wp2_with fail
    refine cc.mono ?_
    clear cc
    rintro e w1 ⟨rfl, hb⟩
    replace B := B.trans (hb.mono B.size)
    go_wp2
    go_ret
    exact ⟨by rw [HE.out]; rfl, B⟩
  | true =>
    rw [hk] at cc
    have HQ : Hid (forkOk s f = true) := hk
    obtain ⟨-, ⟨k, hfa, hlt, hat⟩, -, -⟩ := fork_parts hk
    have HAT : Hid (forkAttr s f = ad s.attrs k) := hat
    clear hk hat
    rw [hfa] at cc KF B KS ⊢
    clear hfa
    go_enter Tryd.func5, Tryd.ntmps5
    go_wp2_with fail
    refine cc.mono ?_
    clear cc
    rintro e w1 ⟨rfl, hb⟩
    replace B := B.trans (hb.mono B.size)
    replace KS := KS.below hb
    replace KF := KF.below hb
    clear hb
    obtain ⟨ga, fa, y1, z1, y2, z2, rfl, hat⟩ := attr_at (HS.out _ B) hlt
    obtain ⟨c0, c1, c2, hA⟩ := hat _ (Below.refl _ _)
    have hok : attrOk (ad s.attrs k) = true := by have h2 := fork_parts HQ.out; exact sch_attr h2.1 hlt
    have hnm := (word_size (ok_name hok)).2
    have kS0 : w1.cell? ⟨w.heap.size, 0, none⟩ = some (.slice (some ⟨ga, fa, none⟩) s.attrs.length ka) := KS.cell 0
    have kF0 : w1.cell? ⟨w.heap.size + 1, 0, none⟩ = some (.int .i64 (k : Int)) := KF.cell 0
    have bA : Below w1.heap.size w1 (w1.alloc (.cells #[.string (ad s.attrs k).name, .slice y1 (ad s.attrs k).cuts.length z1, .slice y2 (ad s.attrs k).vals.length z2] 43)) := (Below.refl _ _).alloc (Nat.le_refl _) _
    have KA := Blk.new 43 w1 #[.string (ad s.attrs k).name, .slice y1 (ad s.attrs k).cuts.length z1, .slice y2 (ad s.attrs k).vals.length z2]
    obtain ⟨vc', vv', e', rcA, rvA⟩ := hA
    cases e'
    obtain ⟨oc', cc', e', -, hcr⟩ := rcA
    cases e'
    obtain ⟨ov', cv', e', -, hvr⟩ := rvA
    cases e'
    have kF1 := (KF.below bA).cell 1
    simp only [List.getElem?_toArray, List.getElem?_cons_zero, List.getElem?_cons_succ] at kF1
    replace B := B.trans (bA.mono B.size)
    by_cases hp : f.pos = -1
    · have HE : Hid (forkText s f = (ad s.attrs k).name ++ ⟨#[42]⟩) := text_each HQ.out HAT.out hp
      have hpe : (f.pos == -1) = true := by rw [hp]; rfl
      have kA0 := KA.cell 0
      simp only [List.getElem?_toArray, List.getElem?_cons_zero] at kA0
      have hs9 : ((ad s.attrs k).name ++ ⟨#[42]⟩).size ≤ 9 := by rw [ByteArray.size_append]; have : (⟨#[42]⟩ : ByteArray).size = 1 := rfl; omega
      clear hp hcr hvr hat KS KF KA HS hok HQ
      generalize (ad s.attrs k).name = nm at *
      go_wp2
      go_ret
      exact ⟨by rw [HE.out]; rfl, B⟩
    have hpe : (f.pos == -1) = false := by rw [beq_eq_false_iff_ne]; exact hp
    obtain ⟨p, hpp, hpw, -⟩ := pos_place HQ.out HAT.out hp
    have hkd := ok_kind hok
    by_cases hc : 0 < (ad s.attrs k).cuts.length
    · have HE : Hid (forkText s f = (ad s.attrs k).name ++ ⟨#[60, 61]⟩ ++ itB ((ad s.attrs k).cuts.getD p 0)) := by show _ = _; rw [text_most HQ.out HAT.out hp hc, hpp]; rfl
      have hlp : p < (ad s.attrs k).cuts.length := by unfold wayN at hpw; rw [if_neg (by omega)] at hpw; exact hpw
      obtain ⟨-, hc3, hri⟩ := ok_cuts hok (by omega)
      have hx := rise_all hri hlp
      obtain ⟨g, o, rfl, hg, hj⟩ := hcr (by omega)
      have hcell := hj p hlp
      have hsz := itB_size hx.1 (by omega)
      have hci : (0 : Int) < ((ad s.attrs k).cuts.length : Int) := by omega
      clear hri hj
      generalize (ad s.attrs k).cuts.getD p 0 = x at hx hcell hsz HE
      have hcel2 := (bA.cell (p := ⟨g, o + p, none⟩) hg).trans hcell
      have KF2 := KF.below bA
      rw [hpp] at KF2 kF1
      rw [hpp] at hpe
      have HPP : Hid (f.pos = (p : Int)) := hpp
      clear hcr hvr hat KS KF HS hok HQ hp hpw hkd hc hpp hcell HAT
      generalize (ad s.attrs k).name = nm at *
      have e2 : (⟨#[60, 61]⟩ : ByteArray).size = 2 := rfl
      have HSZ1 : Hid (nm.size + (⟨#[60, 61]⟩ : ByteArray).size ≤ 1000000) := by show _ ≤ _; omega
      have HSZ2 : Hid ((nm ++ ⟨#[60, 61]⟩).size + (itB x).size ≤ 1000000) := by show _ ≤ _; rw [ByteArray.size_append]; omega
      have kA1 := KA.cell 1
      simp only [List.getElem?_toArray, List.getElem?_cons_zero, List.getElem?_cons_succ] at kA1
      clear hsz e2 bA
      go_wp2_with fail
      have bd : Below (w1.alloc (.cells #[.string nm, .slice (some ⟨g, o, none⟩) (ad s.attrs k).cuts.length z1, .slice y2 (ad s.attrs k).vals.length z2] 43)).heap.size (w1.alloc (.cells #[.string nm, .slice (some ⟨g, o, none⟩) (ad s.attrs k).cuts.length z1, .slice y2 (ad s.attrs k).vals.length z2] 43)) (w1.alloc (.cells #[.string nm, .slice (some ⟨g, o, none⟩) (ad s.attrs k).cuts.length z1, .slice y2 (ad s.attrs k).vals.length z2] 43)).drew := (Below.refl _ _).drew
      refine wp_region_held_drew (S := fun w' => Blk 43 w' w1.heap.size #[.string nm, .slice (some ⟨g, o, none⟩) (ad s.attrs k).cuts.length z1, .slice y2 (ad s.attrs k).vals.length z2] ∧ Blk 34 w' (w.heap.size + 1) #[.int .i64 (k : Int), .int .i64 (p : Int)] ∧ w'.cell? ⟨g, o + p, none⟩ = some (.int .i64 x)) (by kernel_rfl) ⟨KA.below bd, KF2.below bd, (bd.cell (p := ⟨g, o + p, none⟩) (World.block_lt_of_cell? _ _ (by rw [hcel2]))).trans hcel2⟩ ?_
      intro hS
      replace B := B.trans (bd.mono B.size)
      clear bd KA KF2 hcel2
      generalize (w1.alloc (.cells #[.string nm, .slice (some ⟨g, o, none⟩) (ad s.attrs k).cuts.length z1, .slice y2 (ad s.attrs k).vals.length z2] 43)).drew = w3 at B hS ⊢
      refine takeL 0 (.pointer (some ⟨w1.heap.size, 0, none⟩)) rfl (by kernel_rfl) (by kernel_rfl) (by kernel_rfl) (fun _ _ _ h => h) (.inl ⟨by rfl, fun w hw => by (unfold execOp; go_simp)⟩) hS ?_
      try simp only [Act.put, List.setIfInBounds_toArray, List.set_cons_zero, List.set_cons_succ]
      refine takeL 1 (.string nm) rfl (by kernel_rfl) (by kernel_rfl) (by kernel_rfl) (fun _ _ _ h => h) (.inl ⟨by rfl, fun w hw => by (have h0 := (hw.1).cell 0; unfold execOp; go_simp)⟩) hS ?_
      try simp only [Act.put, List.setIfInBounds_toArray, List.set_cons_zero, List.set_cons_succ]
      refine takeL 2 (.string (nm ++ ⟨#[60, 61]⟩)) rfl (by kernel_rfl) (by kernel_rfl) (by kernel_rfl) (fun _ _ _ h => h) (yields_cat (by rfl) _ _ rfl (nm) (⟨#[60, 61]⟩) rfl rfl (by first | exact HSZ1.out | exact HSZ2.out)) hS ?_
      try simp only [Act.put, List.setIfInBounds_toArray, List.set_cons_zero, List.set_cons_succ]
      refine takeL 3 (.pointer (some ⟨w1.heap.size, 1, none⟩)) rfl (by kernel_rfl) (by kernel_rfl) (by kernel_rfl) (fun _ _ _ h => h) (.inl ⟨by rfl, fun w hw => by (unfold execOp; go_simp)⟩) hS ?_
      try simp only [Act.put, List.setIfInBounds_toArray, List.set_cons_zero, List.set_cons_succ]
      refine takeL 4 (.slice (some ⟨g, o, none⟩) ((ad s.attrs k).cuts.length) z1) rfl (by kernel_rfl) (by kernel_rfl) (by kernel_rfl) (fun _ _ _ h => h) (.inl ⟨by rfl, fun w hw => by (have h0 := (hw.1).cell 1; unfold execOp; go_simp)⟩) hS ?_
      try simp only [Act.put, List.setIfInBounds_toArray, List.set_cons_zero, List.set_cons_succ]
      refine takeL 5 (.pointer (some ⟨w.heap.size + 1, 1, none⟩)) rfl (by kernel_rfl) (by kernel_rfl) (by kernel_rfl) (fun _ _ _ h => h) (.inl ⟨by rfl, fun w hw => by (unfold execOp; go_simp)⟩) hS ?_
      try simp only [Act.put, List.setIfInBounds_toArray, List.set_cons_zero, List.set_cons_succ]
      refine takeL 6 (.int .i64 ((p : Int))) rfl (by kernel_rfl) (by kernel_rfl) (by kernel_rfl) (fun _ _ _ h => h) (.inl ⟨by rfl, fun w hw => by (have h0 := (hw.2.1).cell 1; unfold execOp; go_simp)⟩) hS ?_
      try simp only [Act.put, List.setIfInBounds_toArray, List.set_cons_zero, List.set_cons_succ]
      refine takeL 7 (.pointer (some ⟨g, o + p, none⟩)) rfl (by kernel_rfl) (by kernel_rfl) (by kernel_rfl) (fun _ _ _ h => h) (.inl ⟨by rfl, fun w hw => by (unfold execOp; go_simp; all_goals omega)⟩) hS ?_
      try simp only [Act.put, List.setIfInBounds_toArray, List.set_cons_zero, List.set_cons_succ]
      refine takeL 8 (.int .i64 x) rfl (by kernel_rfl) (by kernel_rfl) (by kernel_rfl) (fun _ _ _ h => h) (.inl ⟨by rfl, fun w hw => by (have h0 := hw.2.2; unfold execOp; go_simp)⟩) hS ?_
      try simp only [Act.put, List.setIfInBounds_toArray, List.set_cons_zero, List.set_cons_succ]
      refine nextL 9 rfl (by kernel_rfl) (by rfl) fun K hK => ?_
      have dd := digits_any x w3 (by omega) (by omega)
      go_simp
      refine dd.mono ?_
      clear dd
      rintro e w9 ⟨rfl, hb⟩
      refine hK _ _ ⟨hS.1.below hb, hS.2.1.below hb, (hb.cell (p := ⟨g, o + p, none⟩) (World.block_lt_of_cell? _ _ (by rw [hS.2.2]))).trans hS.2.2⟩ ?_
      clear hK K hS
      intro hS
      replace B := B.trans (hb.mono B.size)
      clear hb
      refine takeL 10 (.string (nm ++ ⟨#[60, 61]⟩ ++ itB x)) rfl (by kernel_rfl) (by kernel_rfl) (by kernel_rfl) (fun _ _ _ h => h) (yields_cat (by rfl) _ _ rfl (nm ++ ⟨#[60, 61]⟩) (itB x) rfl rfl (by first | exact HSZ1.out | exact HSZ2.out)) hS ?_
      try simp only [Act.put, List.setIfInBounds_toArray, List.set_cons_zero, List.set_cons_succ]
      refine takeL 11 (.string (nm ++ ⟨#[60, 61]⟩ ++ itB x)) rfl (by kernel_rfl) (by kernel_rfl) (by kernel_rfl) (fun _ _ _ h => h) (.inl ⟨by rfl, fun w _ => by rfl⟩) hS ?_
      try simp only [Act.put, List.setIfInBounds_toArray, List.set_cons_zero, List.set_cons_succ]
      refine wpAnyH_done (by kernel_rfl) ?_ _
      clear hS
      go_wp2
      go_ret
      exact ⟨by rw [HE.out]; rfl, B⟩
    · have HE : Hid (forkText s f = (ad s.attrs k).name ++ ⟨#[61]⟩ ++ tx (ad s.attrs k).vals p) := by show _ = _; rw [text_just HQ.out HAT.out hp hc, hpp]; rfl
      have hlp : p < (ad s.attrs k).vals.length := by unfold wayN at hpw; rw [if_pos (by omega)] at hpw; exact hpw
      obtain ⟨-, -, hv4, hwo⟩ := ok_vals hok (by omega)
      have hsz := (word_size (words_all hwo _ (tx_mem hlp))).2
      obtain ⟨g, o, rfl, hg, hj⟩ := hvr (by omega)
      have hcell := hj p hlp
      have hci : ¬ (0 : Int) < ((ad s.attrs k).cuts.length : Int) := by omega
      clear hwo hj
      generalize tx (ad s.attrs k).vals p = vt at hcell hsz HE
      have hcel2 := (bA.cell (p := ⟨g, o + p, none⟩) hg).trans hcell
      have KF2 := KF.below bA
      rw [hpp] at KF2 kF1
      rw [hpp] at hpe
      have HPP : Hid (f.pos = (p : Int)) := hpp
      clear hcr hvr hat KS KF HS hok HQ hp hpw hkd hc hpp hcell HAT
      generalize (ad s.attrs k).name = nm at *
      have e2 : (⟨#[61]⟩ : ByteArray).size = 1 := rfl
      have HSZ1 : Hid (nm.size + (⟨#[61]⟩ : ByteArray).size ≤ 1000000) := by show _ ≤ _; omega
      have HSZ2 : Hid ((nm ++ ⟨#[61]⟩).size + (vt).size ≤ 1000000) := by show _ ≤ _; rw [ByteArray.size_append]; omega
      have kA1 := KA.cell 1
      simp only [List.getElem?_toArray, List.getElem?_cons_zero, List.getElem?_cons_succ] at kA1
      clear hsz e2 bA
      go_wp2_with fail
      have bd : Below (w1.alloc (.cells #[.string nm, .slice y1 (ad s.attrs k).cuts.length z1, .slice (some ⟨g, o, none⟩) (ad s.attrs k).vals.length z2] 43)).heap.size (w1.alloc (.cells #[.string nm, .slice y1 (ad s.attrs k).cuts.length z1, .slice (some ⟨g, o, none⟩) (ad s.attrs k).vals.length z2] 43)) (w1.alloc (.cells #[.string nm, .slice y1 (ad s.attrs k).cuts.length z1, .slice (some ⟨g, o, none⟩) (ad s.attrs k).vals.length z2] 43)).drew := (Below.refl _ _).drew
      refine wp_region_held_drew (S := fun w' => Blk 43 w' w1.heap.size #[.string nm, .slice y1 (ad s.attrs k).cuts.length z1, .slice (some ⟨g, o, none⟩) (ad s.attrs k).vals.length z2] ∧ Blk 34 w' (w.heap.size + 1) #[.int .i64 (k : Int), .int .i64 (p : Int)] ∧ w'.cell? ⟨g, o + p, none⟩ = some (.string vt)) (by kernel_rfl) ⟨KA.below bd, KF2.below bd, (bd.cell (p := ⟨g, o + p, none⟩) (World.block_lt_of_cell? _ _ (by rw [hcel2]))).trans hcel2⟩ ?_
      intro hS
      replace B := B.trans (bd.mono B.size)
      clear bd KA KF2 hcel2
      generalize (w1.alloc (.cells #[.string nm, .slice y1 (ad s.attrs k).cuts.length z1, .slice (some ⟨g, o, none⟩) (ad s.attrs k).vals.length z2] 43)).drew = w3 at B hS ⊢
      refine takeL 0 (.pointer (some ⟨w1.heap.size, 0, none⟩)) rfl (by kernel_rfl) (by kernel_rfl) (by kernel_rfl) (fun _ _ _ h => h) (.inl ⟨by rfl, fun w hw => by (unfold execOp; go_simp)⟩) hS ?_
      try simp only [Act.put, List.setIfInBounds_toArray, List.set_cons_zero, List.set_cons_succ]
      refine takeL 1 (.string nm) rfl (by kernel_rfl) (by kernel_rfl) (by kernel_rfl) (fun _ _ _ h => h) (.inl ⟨by rfl, fun w hw => by (have h0 := (hw.1).cell 0; unfold execOp; go_simp)⟩) hS ?_
      try simp only [Act.put, List.setIfInBounds_toArray, List.set_cons_zero, List.set_cons_succ]
      refine takeL 2 (.string (nm ++ ⟨#[61]⟩)) rfl (by kernel_rfl) (by kernel_rfl) (by kernel_rfl) (fun _ _ _ h => h) (yields_cat (by rfl) _ _ rfl (nm) (⟨#[61]⟩) rfl rfl (by first | exact HSZ1.out | exact HSZ2.out)) hS ?_
      try simp only [Act.put, List.setIfInBounds_toArray, List.set_cons_zero, List.set_cons_succ]
      refine takeL 3 (.pointer (some ⟨w1.heap.size, 2, none⟩)) rfl (by kernel_rfl) (by kernel_rfl) (by kernel_rfl) (fun _ _ _ h => h) (.inl ⟨by rfl, fun w hw => by (unfold execOp; go_simp)⟩) hS ?_
      try simp only [Act.put, List.setIfInBounds_toArray, List.set_cons_zero, List.set_cons_succ]
      refine takeL 4 (.slice (some ⟨g, o, none⟩) ((ad s.attrs k).vals.length) z2) rfl (by kernel_rfl) (by kernel_rfl) (by kernel_rfl) (fun _ _ _ h => h) (.inl ⟨by rfl, fun w hw => by (have h0 := (hw.1).cell 2; unfold execOp; go_simp)⟩) hS ?_
      try simp only [Act.put, List.setIfInBounds_toArray, List.set_cons_zero, List.set_cons_succ]
      refine takeL 5 (.pointer (some ⟨w.heap.size + 1, 1, none⟩)) rfl (by kernel_rfl) (by kernel_rfl) (by kernel_rfl) (fun _ _ _ h => h) (.inl ⟨by rfl, fun w hw => by (unfold execOp; go_simp)⟩) hS ?_
      try simp only [Act.put, List.setIfInBounds_toArray, List.set_cons_zero, List.set_cons_succ]
      refine takeL 6 (.int .i64 ((p : Int))) rfl (by kernel_rfl) (by kernel_rfl) (by kernel_rfl) (fun _ _ _ h => h) (.inl ⟨by rfl, fun w hw => by (have h0 := (hw.2.1).cell 1; unfold execOp; go_simp)⟩) hS ?_
      try simp only [Act.put, List.setIfInBounds_toArray, List.set_cons_zero, List.set_cons_succ]
      refine takeL 7 (.pointer (some ⟨g, o + p, none⟩)) rfl (by kernel_rfl) (by kernel_rfl) (by kernel_rfl) (fun _ _ _ h => h) (.inl ⟨by rfl, fun w hw => by (unfold execOp; go_simp; all_goals omega)⟩) hS ?_
      try simp only [Act.put, List.setIfInBounds_toArray, List.set_cons_zero, List.set_cons_succ]
      refine takeL 8 (.string vt) rfl (by kernel_rfl) (by kernel_rfl) (by kernel_rfl) (fun _ _ _ h => h) (.inl ⟨by rfl, fun w hw => by (have h0 := hw.2.2; unfold execOp; go_simp)⟩) hS ?_
      try simp only [Act.put, List.setIfInBounds_toArray, List.set_cons_zero, List.set_cons_succ]
      refine takeL 9 (.string (nm ++ ⟨#[61]⟩ ++ vt)) rfl (by kernel_rfl) (by kernel_rfl) (by kernel_rfl) (fun _ _ _ h => h) (yields_cat (by rfl) _ _ rfl (nm ++ ⟨#[61]⟩) (vt) rfl rfl (by first | exact HSZ1.out | exact HSZ2.out)) hS ?_
      try simp only [Act.put, List.setIfInBounds_toArray, List.set_cons_zero, List.set_cons_succ]
      refine takeL 10 (.string (nm ++ ⟨#[61]⟩ ++ vt)) rfl (by kernel_rfl) (by kernel_rfl) (by kernel_rfl) (fun _ _ _ h => h) (.inl ⟨by rfl, fun w _ => by rfl⟩) hS ?_
      try simp only [Act.put, List.setIfInBounds_toArray, List.set_cons_zero, List.set_cons_succ]
      refine wpAnyH_done (by kernel_rfl) ?_ _
      clear hS
      go_wp2
      go_ret
      exact ⟨by rw [HE.out]; rfl, B⟩
end Go.Proofs.YtfflodcapcamcabDoor
