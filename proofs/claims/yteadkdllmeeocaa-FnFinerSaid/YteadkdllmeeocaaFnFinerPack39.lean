/- Texts of this claim, put together: part 39. -/
import Derived.Test.YteadkdllmeeocaaFnFinerPack23
import Derived.Test.YteadkdllmeeocaaFnFinerPack29
import Derived.Test.YteadkdllmeeocaaFnFinerPack36
import Derived.Test.YteadkdllmeeocaaFnFinerPack6
import Derived.Test.YteadkdllmeeocaaFnFinerPack20
import Derived.Test.YteadkdllmeeocaaFnFinerPack38
import Derived.BigGuardPart
/- For every code the law FnFiner returns true (the walk). -/
namespace Go.Proofs.Yteadkdllmeeocaa
open Go.RowKit
set_option maxRecDepth 100000
set_option linter.unusedSimpArgs false
set_option maxHeartbeats 6400000 in
theorem fnFiner_in (a0 : Option Addr) (len0 cap0 : Nat) (z0 : List Int) (w : World) (h0 : IsRow .u8 w a0 len0 cap0 z0) (hlen : len0 ≤ 1048576) :
    Calls Try.prog 5 #[.slice a0 len0 cap0] w fun e w' => e = .returned (.bool true) ∧ Below w.heap.size w w' := by
  have c1 := big_any a0 len0 cap0 w (by omega)
  rw [decide_eq_false (by omega)] at c1
  go_enter Try.func5, Try.ntmps5
  go_wp2_with fail
  refine c1.mono ?_
  clear c1
  rintro e w0 ⟨rfl, e0⟩
  rw [e0]; clear e0 w0
  go_wp2_with fail
  refine (drawMerit_any a0 len0 cap0 z0 w h0 hlen).mono ?_
  clear h0
  rintro e w1 ⟨vs, d, ve, x, f, rfl, hx, htn, he, htx, B⟩
  have HOK : Hid (okSch d) := htn.ok8
  have HOX : Hid (okSt x) := htx.ok (by omega)
  have HTN : Hid (tinyS d) := htn
  have HTX : Hid (tinySt 20 x) := htx
  have ld := htn.attrs
  have lx := HOX.out.cells
  clear htn htx
  obtain ⟨fa, fp⟩ := f
  simp only [forkV]
  obtain ⟨y1, y2, rfl, rr1, rr2⟩ := id hx
  obtain ⟨oa, oka, rfl, -, -⟩ := id rr1
  obtain ⟨oc, okc, rfl, -, -⟩ := id rr2
  clear rr1 rr2
  obtain ⟨y1, y2, rfl, rr1, rr2⟩ := id he
  obtain ⟨q1, qk1, rfl, -, -⟩ := id rr1
  obtain ⟨q2, qk2, rfl, -, -⟩ := id rr2
  clear rr1 rr2
  obtain ⟨KS, KT, KF, BN⟩ := blk_3 33 36 38 w1 #[.slice none 0 0, .slice none 0 0] #[.slice none 0 0, .slice none 0 0] #[.int .i64 0, .int .i64 0]
  have ZS := KS
  replace KS := KS.setRow #[.slice oa d.attrs.length oka, .slice oc d.classes.length okc]
  replace KT := Blk.setRow_other KT #[.slice oa d.attrs.length oka, .slice oc d.classes.length okc] (show w1.heap.size + 1 ≠ w1.heap.size by omega)
  replace KF := Blk.setRow_other KF #[.slice oa d.attrs.length oka, .slice oc d.classes.length okc] (show w1.heap.size + 1 + 1 ≠ w1.heap.size by omega)
  have ZT := KT
  replace KS := Blk.setRow_other KS #[.slice q1 x.totals.length qk1, .slice q2 x.cells.length qk2] (show w1.heap.size ≠ w1.heap.size + 1 by omega)
  replace KT := KT.setRow #[.slice q1 x.totals.length qk1, .slice q2 x.cells.length qk2]
  replace KF := Blk.setRow_other KF #[.slice q1 x.totals.length qk1, .slice q2 x.cells.length qk2] (show w1.heap.size + 1 + 1 ≠ w1.heap.size + 1 by omega)
  have ZF := KF
  replace KS := Blk.setRow_other KS #[.int .i64 fa, .int .i64 fp] (show w1.heap.size ≠ w1.heap.size + 1 + 1 by omega)
  replace KT := Blk.setRow_other KT #[.int .i64 fa, .int .i64 fp] (show w1.heap.size + 1 ≠ w1.heap.size + 1 + 1 by omega)
  replace KF := KF.setRow #[.int .i64 fa, .int .i64 fp]
  have BM : Below w1.heap.size w1 ((((((w1.alloc (.cells #[.slice none 0 0, .slice none 0 0] 33)).alloc (.cells #[.slice none 0 0, .slice none 0 0] 36)).alloc (.cells #[.int .i64 0, .int .i64 0] 38)).setRow w1.heap.size #[.slice oa d.attrs.length oka, .slice oc d.classes.length okc]).setRow (w1.heap.size + 1) #[.slice q1 x.totals.length qk1, .slice q2 x.cells.length qk2]).setRow (w1.heap.size + 1 + 1) #[.int .i64 fa, .int .i64 fp]) := (below_row (below_row (below_row BN (by omega) #[.slice oa d.attrs.length oka, .slice oc d.classes.length okc]) (by omega) #[.slice q1 x.totals.length qk1, .slice q2 x.cells.length qk2]) (by omega) #[.int .i64 fa, .int .i64 fp])
  replace hx := hx.later BM
  replace he := he.later BM
  replace B := B.trans (BM.mono B.size)
  clear BM BN
  have cc := specStatsOk_any _ _ d x ((((((w1.alloc (.cells #[.slice none 0 0, .slice none 0 0] 33)).alloc (.cells #[.slice none 0 0, .slice none 0 0] 36)).alloc (.cells #[.int .i64 0, .int .i64 0] 38)).setRow w1.heap.size #[.slice oa d.attrs.length oka, .slice oc d.classes.length okc]).setRow (w1.heap.size + 1) #[.slice q1 x.totals.length qk1, .slice q2 x.cells.length qk2]).setRow (w1.heap.size + 1 + 1) #[.int .i64 fa, .int .i64 fp]) hx he HOK.out HOX.out
  have kS0 : ((((((w1.alloc (.cells #[.slice none 0 0, .slice none 0 0] 33)).alloc (.cells #[.slice none 0 0, .slice none 0 0] 36)).alloc (.cells #[.int .i64 0, .int .i64 0] 38)).setRow w1.heap.size #[.slice oa d.attrs.length oka, .slice oc d.classes.length okc]).setRow (w1.heap.size + 1) #[.slice q1 x.totals.length qk1, .slice q2 x.cells.length qk2]).setRow (w1.heap.size + 1 + 1) #[.int .i64 fa, .int .i64 fp]).cell? ⟨w1.heap.size, 0, none⟩ = some (.slice oa d.attrs.length oka) := KS.cell 0
  have kS1 : ((((((w1.alloc (.cells #[.slice none 0 0, .slice none 0 0] 33)).alloc (.cells #[.slice none 0 0, .slice none 0 0] 36)).alloc (.cells #[.int .i64 0, .int .i64 0] 38)).setRow w1.heap.size #[.slice oa d.attrs.length oka, .slice oc d.classes.length okc]).setRow (w1.heap.size + 1) #[.slice q1 x.totals.length qk1, .slice q2 x.cells.length qk2]).setRow (w1.heap.size + 1 + 1) #[.int .i64 fa, .int .i64 fp]).cell? ⟨w1.heap.size, 1, none⟩ = some (.slice oc d.classes.length okc) := KS.cell 1
  have kT0 : ((((((w1.alloc (.cells #[.slice none 0 0, .slice none 0 0] 33)).alloc (.cells #[.slice none 0 0, .slice none 0 0] 36)).alloc (.cells #[.int .i64 0, .int .i64 0] 38)).setRow w1.heap.size #[.slice oa d.attrs.length oka, .slice oc d.classes.length okc]).setRow (w1.heap.size + 1) #[.slice q1 x.totals.length qk1, .slice q2 x.cells.length qk2]).setRow (w1.heap.size + 1 + 1) #[.int .i64 fa, .int .i64 fp]).cell? ⟨w1.heap.size + 1, 0, none⟩ = some (.slice q1 x.totals.length qk1) := KT.cell 0
  have kT1 : ((((((w1.alloc (.cells #[.slice none 0 0, .slice none 0 0] 33)).alloc (.cells #[.slice none 0 0, .slice none 0 0] 36)).alloc (.cells #[.int .i64 0, .int .i64 0] 38)).setRow w1.heap.size #[.slice oa d.attrs.length oka, .slice oc d.classes.length okc]).setRow (w1.heap.size + 1) #[.slice q1 x.totals.length qk1, .slice q2 x.cells.length qk2]).setRow (w1.heap.size + 1 + 1) #[.int .i64 fa, .int .i64 fp]).cell? ⟨w1.heap.size + 1, 1, none⟩ = some (.slice q2 x.cells.length qk2) := KT.cell 1
  have kF0 : ((((((w1.alloc (.cells #[.slice none 0 0, .slice none 0 0] 33)).alloc (.cells #[.slice none 0 0, .slice none 0 0] 36)).alloc (.cells #[.int .i64 0, .int .i64 0] 38)).setRow w1.heap.size #[.slice oa d.attrs.length oka, .slice oc d.classes.length okc]).setRow (w1.heap.size + 1) #[.slice q1 x.totals.length qk1, .slice q2 x.cells.length qk2]).setRow (w1.heap.size + 1 + 1) #[.int .i64 fa, .int .i64 fp]).cell? ⟨w1.heap.size + 1 + 1, 0, none⟩ = some (.int .i64 fa) := KF.cell 0
  have kF1 : ((((((w1.alloc (.cells #[.slice none 0 0, .slice none 0 0] 33)).alloc (.cells #[.slice none 0 0, .slice none 0 0] 36)).alloc (.cells #[.int .i64 0, .int .i64 0] 38)).setRow w1.heap.size #[.slice oa d.attrs.length oka, .slice oc d.classes.length okc]).setRow (w1.heap.size + 1) #[.slice q1 x.totals.length qk1, .slice q2 x.cells.length qk2]).setRow (w1.heap.size + 1 + 1) #[.int .i64 fa, .int .i64 fp]).cell? ⟨w1.heap.size + 1 + 1, 1, none⟩ = some (.int .i64 fp) := KF.cell 1
  go_wp2_with (first | (with_reducible refine wp_sc_store rfl _ _ rfl ?_; refine ⟨_, rfl, _, _, _, _, _, _, rfl, _, _, ZS, ?_⟩) | (with_reducible refine wp_st_store rfl _ _ rfl ?_; refine ⟨_, rfl, _, _, _, _, _, _, rfl, _, _, ZT, ?_⟩) | (with_reducible refine wp_fk_store rfl _ _ rfl ?_; refine ⟨_, rfl, _, _, rfl, _, _, ZF, ?_⟩))
  refine cc.mono ?_
  clear cc
  clear kS0 kS1 kT0 kT1 kF0 kF1
  clear ZS ZT ZF
  rintro e w2 ⟨rfl, hb⟩
  replace hx := hx.later hb
  replace he := he.later hb
  replace B := B.trans (hb.mono B.size)
  replace KS := KS.below hb
  replace KT := KT.below hb
  replace KF := KF.below hb
  clear hb
  cases hk : statsOk d x with
  | false =>
    have HMO : meritOk d x ⟨fa, fp⟩ = false := by unfold meritOk; rw [hk]; rfl
    obtain ⟨e1, e2⟩ := merit_none HMO
    have cc := implMerit_any _ _ d x ⟨fa, fp⟩ w2 hx he HOK.out HOX.out
    rw [e1, e2] at cc
    clear e1 e2 HMO
    simp only [forkV] at cc
    have kS0 : w2.cell? ⟨w1.heap.size, 0, none⟩ = some (.slice oa d.attrs.length oka) := KS.cell 0
    have kS1 : w2.cell? ⟨w1.heap.size, 1, none⟩ = some (.slice oc d.classes.length okc) := KS.cell 1
    have kT0 : w2.cell? ⟨w1.heap.size + 1, 0, none⟩ = some (.slice q1 x.totals.length qk1) := KT.cell 0
    have kT1 : w2.cell? ⟨w1.heap.size + 1, 1, none⟩ = some (.slice q2 x.cells.length qk2) := KT.cell 1
    have kF0 : w2.cell? ⟨w1.heap.size + 1 + 1, 0, none⟩ = some (.int .i64 fa) := KF.cell 0
    have kF1 : w2.cell? ⟨w1.heap.size + 1 + 1, 1, none⟩ = some (.int .i64 fp) := KF.cell 1
    go_wp2_with fail
    refine cc.mono ?_
    clear cc
    clear kS0 kS1 kT0 kT1 kF0 kF1
    rintro e w3 ⟨rfl, hb⟩
    replace hx := hx.later hb
    replace he := he.later hb
    replace B := B.trans (hb.mono B.size)
    replace KS := KS.below hb
    replace KT := KT.below hb
    replace KF := KF.below hb
    clear hb
    go_wp2
    go_ret
    exact ⟨rfl, B⟩
  | true =>
    have HST : Hid (statsOk d x = true) := hk
    clear hk
    by_cases h0 : x.cells.length = 0
    · have hq : ((x.cells.length : Int) == 0) = true := by rw [h0]; rfl
      have HMO : meritOk d x ⟨fa, fp⟩ = false := by unfold meritOk; rw [decide_eq_false (fun h => h h0)]; simp
      have HH0 : Hid (x.cells.length = 0) := h0
      clear h0
      obtain ⟨e1, e2⟩ := merit_none HMO
      have cc := implMerit_any _ _ d x ⟨fa, fp⟩ w2 hx he HOK.out HOX.out
      rw [e1, e2] at cc
      clear e1 e2 HMO
      simp only [forkV] at cc
      have kS0 : w2.cell? ⟨w1.heap.size, 0, none⟩ = some (.slice oa d.attrs.length oka) := KS.cell 0
      have kS1 : w2.cell? ⟨w1.heap.size, 1, none⟩ = some (.slice oc d.classes.length okc) := KS.cell 1
      have kT0 : w2.cell? ⟨w1.heap.size + 1, 0, none⟩ = some (.slice q1 x.totals.length qk1) := KT.cell 0
      have kT1 : w2.cell? ⟨w1.heap.size + 1, 1, none⟩ = some (.slice q2 x.cells.length qk2) := KT.cell 1
      have kF0 : w2.cell? ⟨w1.heap.size + 1 + 1, 0, none⟩ = some (.int .i64 fa) := KF.cell 0
      have kF1 : w2.cell? ⟨w1.heap.size + 1 + 1, 1, none⟩ = some (.int .i64 fp) := KF.cell 1
      go_wp2_with fail
      refine cc.mono ?_
      clear cc
      clear kS0 kS1 kT0 kT1 kF0 kF1
      rintro e w3 ⟨rfl, hb⟩
      replace hx := hx.later hb
      replace he := he.later hb
      replace B := B.trans (hb.mono B.size)
      replace KS := KS.below hb
      replace KT := KT.below hb
      replace KF := KF.below hb
      clear hb
      go_wp2
      go_ret
      exact ⟨rfl, B⟩
    have hq : ((x.cells.length : Int) == 0) = false := by rw [beq_eq_false_iff_ne]; omega
    have HN0 : Hid (x.cells.length ≠ 0) := h0
    clear h0
    have cc := specForkOk_any _ d ⟨fa, fp⟩ w2 hx HOK.out
    simp only [forkV] at cc
    have kS0 : w2.cell? ⟨w1.heap.size, 0, none⟩ = some (.slice oa d.attrs.length oka) := KS.cell 0
    have kS1 : w2.cell? ⟨w1.heap.size, 1, none⟩ = some (.slice oc d.classes.length okc) := KS.cell 1
    have kT0 : w2.cell? ⟨w1.heap.size + 1, 0, none⟩ = some (.slice q1 x.totals.length qk1) := KT.cell 0
    have kT1 : w2.cell? ⟨w1.heap.size + 1, 1, none⟩ = some (.slice q2 x.cells.length qk2) := KT.cell 1
    have kF0 : w2.cell? ⟨w1.heap.size + 1 + 1, 0, none⟩ = some (.int .i64 fa) := KF.cell 0
    have kF1 : w2.cell? ⟨w1.heap.size + 1 + 1, 1, none⟩ = some (.int .i64 fp) := KF.cell 1
    go_wp2_with fail
    refine cc.mono ?_
    clear cc
    clear kS0 kS1 kT0 kT1 kF0 kF1
    rintro e w3 ⟨rfl, hb⟩
    replace hx := hx.later hb
    replace he := he.later hb
    replace B := B.trans (hb.mono B.size)
    replace KS := KS.below hb
    replace KT := KT.below hb
    replace KF := KF.below hb
    clear hb
    cases hk : forkOk d ⟨fa, fp⟩ with
    | false =>
      have HMO : meritOk d x ⟨fa, fp⟩ = false := by unfold meritOk; rw [hk]; simp
      obtain ⟨e1, e2⟩ := merit_none HMO
      have cc := implMerit_any _ _ d x ⟨fa, fp⟩ w3 hx he HOK.out HOX.out
      rw [e1, e2] at cc
      clear e1 e2 HMO
      simp only [forkV] at cc
      have kS0 : w3.cell? ⟨w1.heap.size, 0, none⟩ = some (.slice oa d.attrs.length oka) := KS.cell 0
      have kS1 : w3.cell? ⟨w1.heap.size, 1, none⟩ = some (.slice oc d.classes.length okc) := KS.cell 1
      have kT0 : w3.cell? ⟨w1.heap.size + 1, 0, none⟩ = some (.slice q1 x.totals.length qk1) := KT.cell 0
      have kT1 : w3.cell? ⟨w1.heap.size + 1, 1, none⟩ = some (.slice q2 x.cells.length qk2) := KT.cell 1
      have kF0 : w3.cell? ⟨w1.heap.size + 1 + 1, 0, none⟩ = some (.int .i64 fa) := KF.cell 0
      have kF1 : w3.cell? ⟨w1.heap.size + 1 + 1, 1, none⟩ = some (.int .i64 fp) := KF.cell 1
      go_wp2_with fail
      refine cc.mono ?_
      clear cc
      clear kS0 kS1 kT0 kT1 kF0 kF1
      rintro e w4 ⟨rfl, hb⟩
      replace hx := hx.later hb
      replace he := he.later hb
      replace B := B.trans (hb.mono B.size)
      replace KS := KS.below hb
      replace KT := KT.below hb
      replace KF := KF.below hb
      clear hb
      go_wp2
      go_ret
      exact ⟨rfl, B⟩
    | true =>
      have HMO0 : meritOk d x ⟨fa, fp⟩ = true := by unfold meritOk; rw [HST.out, decide_eq_true HN0.out, hk]; rfl
      obtain ⟨-, ⟨k, hfa, -, -⟩, -, -⟩ := fork_parts hk
      have hfa2 : fa = (k : Int) := hfa
      clear hfa hq hk
      subst hfa2
      have HFI : Hid _ := merit_finer HMO0
      clear HMO0
      go_wp2_with fail
      have bd : Below w3.heap.size w3 w3.drew := below_drewN (Below.refl _ _) 1
      replace hx := hx.later bd
      replace he := he.later bd
      replace B := B.trans (bd.mono B.size)
      replace KS := KS.below bd
      replace KT := KT.below bd
      replace KF := KF.below bd
      refine wp_region_held_drew (S := fun w' => Blk 33 w' (w1.heap.size) #[.slice oa d.attrs.length oka, .slice oc d.classes.length okc] ∧ Blk 36 w' (w1.heap.size + 1) #[.slice q1 x.totals.length qk1, .slice q2 x.cells.length qk2] ∧ Blk 38 w' (w1.heap.size + 1 + 1) #[.int .i64 (k : Int), .int .i64 fp]) (by kernel_rfl) ⟨KS, KT, KF⟩ ?_
      intro hS
      clear bd KS KT KF
      generalize w3.drew = w30 at hx he B hS ⊢
      obtain ⟨z, hz⟩ : ∃ z, frC (meritN d x ⟨(k : Int), -1⟩) (meritD d x ⟨(k : Int), -1⟩) (meritN d x ⟨(k : Int), fp⟩) (meritD d x ⟨(k : Int), fp⟩) = z := ⟨_, rfl⟩
      have HZ := HFI.out
      rw [hz] at HZ
      have cA := implMerit_any _ _ d x ⟨(k : Int), -1⟩ w30 hx he HOK.out HOX.out
      have cB := fun W hW => implMerit_any _ _ d x ⟨(k : Int), fp⟩ W (hx.later hW) (he.later hW) HOK.out HOX.out
      have cC := fun W => fracCmpI (meritN d x ⟨(k : Int), -1⟩) (meritD d x ⟨(k : Int), -1⟩) (meritN d x ⟨(k : Int), fp⟩) (meritD d x ⟨(k : Int), fp⟩) W
      rw [hz] at cC
      simp only [forkV] at cA cB
      clear hz HFI hx he
      generalize meritN d x ⟨(k : Int), -1⟩ = n1 at *
      generalize meritD d x ⟨(k : Int), -1⟩ = n2 at *
      generalize meritN d x ⟨(k : Int), fp⟩ = n3 at *
      generalize meritD d x ⟨(k : Int), fp⟩ = n4 at *
      refine takeL 0 (.agg #[.slice oa d.attrs.length oka, .slice oc d.classes.length okc]) rfl (by kernel_rfl) (by kernel_rfl) (by kernel_rfl) (fun _ _ _ h => h) (yields_row Try.underlying33 (by kernel_rfl) (by rfl) _ rfl _ rfl (fun _ h => h.1)) hS ?_
      try simp only [Act.put, List.setIfInBounds_toArray, List.set_cons_zero, List.set_cons_succ]
      refine takeL 1 (.agg #[.slice q1 x.totals.length qk1, .slice q2 x.cells.length qk2]) rfl (by kernel_rfl) (by kernel_rfl) (by kernel_rfl) (fun _ _ _ h => h) (yields_row Try.underlying36 (by kernel_rfl) (by rfl) _ rfl _ rfl (fun _ h => h.2.1)) hS ?_
      try simp only [Act.put, List.setIfInBounds_toArray, List.set_cons_zero, List.set_cons_succ]
      refine takeL 2 (.pointer (some ⟨w1.heap.size + 1 + 1, 0, none⟩)) rfl (by kernel_rfl) (by kernel_rfl) (by kernel_rfl) (fun _ _ _ h => h) (.inl ⟨by rfl, fun w hw => by (unfold execOp; go_simp)⟩) hS ?_
      try simp only [Act.put, List.setIfInBounds_toArray, List.set_cons_zero, List.set_cons_succ]
      refine takeL 3 (.int .i64 ((k : Int))) rfl (by kernel_rfl) (by kernel_rfl) (by kernel_rfl) (fun _ _ _ h => h) (.inl ⟨by rfl, fun w hw => by (have h0 := (hw.2.2).cell 0; unfold execOp; go_simp)⟩) hS ?_
      try simp only [Act.put, List.setIfInBounds_toArray, List.set_cons_zero, List.set_cons_succ]
      refine takeL 4 (.agg #[.int .i64 ((k : Int)), .int .i64 ((-1))]) rfl (by kernel_rfl) (by kernel_rfl) (by kernel_rfl) (fun _ _ _ h => h) (.inl ⟨by rfl, fun w hw => by (unfold execOp; go_simp)⟩) hS ?_
      try simp only [Act.put, List.setIfInBounds_toArray, List.set_cons_zero, List.set_cons_succ]
      refine takeL 6 (.agg #[.slice oa d.attrs.length oka, .slice oc d.classes.length okc]) rfl (by kernel_rfl) (by kernel_rfl) (by kernel_rfl) (fun _ _ _ h => h) (yields_row Try.underlying33 (by kernel_rfl) (by rfl) _ rfl _ rfl (fun _ h => h.1)) hS ?_
      try simp only [Act.put, List.setIfInBounds_toArray, List.set_cons_zero, List.set_cons_succ]
      refine takeL 7 (.agg #[.slice q1 x.totals.length qk1, .slice q2 x.cells.length qk2]) rfl (by kernel_rfl) (by kernel_rfl) (by kernel_rfl) (fun _ _ _ h => h) (yields_row Try.underlying36 (by kernel_rfl) (by rfl) _ rfl _ rfl (fun _ h => h.2.1)) hS ?_
      try simp only [Act.put, List.setIfInBounds_toArray, List.set_cons_zero, List.set_cons_succ]
      refine takeL 8 (.agg #[.int .i64 ((k : Int)), .int .i64 fp]) rfl (by kernel_rfl) (by kernel_rfl) (by kernel_rfl) (fun _ _ _ h => h) (yields_row Try.underlying38 (by kernel_rfl) (by rfl) _ rfl _ rfl (fun _ h => h.2.2)) hS ?_
      try simp only [Act.put, List.setIfInBounds_toArray, List.set_cons_zero, List.set_cons_succ]
      refine nextL 5 rfl (by kernel_rfl) (by rfl) fun K hK => ?_
      go_simp
      refine (cA).mono ?_
      rintro e w31 ⟨rfl, hb⟩
      replace B := B.trans (hb.mono B.size)
      have hS2 : (fun w' => Blk 33 w' (w1.heap.size) #[.slice oa d.attrs.length oka, .slice oc d.classes.length okc] ∧ Blk 36 w' (w1.heap.size + 1) #[.slice q1 x.totals.length qk1, .slice q2 x.cells.length qk2] ∧ Blk 38 w' (w1.heap.size + 1 + 1) #[.int .i64 (k : Int), .int .i64 fp]) w31 := ⟨hS.1.below hb, hS.2.1.below hb, hS.2.2.below hb⟩
      refine hK _ _ hS2 ?_
      clear hK K hS hS2
      intro hS
      replace cB := cB w31 hb
      clear hb cA
      refine nextL 9 rfl (by kernel_rfl) (by rfl) fun K hK => ?_
      go_simp
      refine (cB).mono ?_
      rintro e w32 ⟨rfl, hb⟩
      replace B := B.trans (hb.mono B.size)
      have hS2 : (fun w' => Blk 33 w' (w1.heap.size) #[.slice oa d.attrs.length oka, .slice oc d.classes.length okc] ∧ Blk 36 w' (w1.heap.size + 1) #[.slice q1 x.totals.length qk1, .slice q2 x.cells.length qk2] ∧ Blk 38 w' (w1.heap.size + 1 + 1) #[.int .i64 (k : Int), .int .i64 fp]) w32 := ⟨hS.1.below hb, hS.2.1.below hb, hS.2.2.below hb⟩
      refine hK _ _ hS2 ?_
      clear hK K hS hS2
      intro hS
      clear hb cB
      refine nextL 10 rfl (by kernel_rfl) (by rfl) fun K hK => ?_
      go_simp
      refine (cC w32).mono ?_
      rintro e w33 ⟨rfl, hb⟩
      replace B := B.trans (hb.mono B.size)
      have hS2 : (fun w' => Blk 33 w' (w1.heap.size) #[.slice oa d.attrs.length oka, .slice oc d.classes.length okc] ∧ Blk 36 w' (w1.heap.size + 1) #[.slice q1 x.totals.length qk1, .slice q2 x.cells.length qk2] ∧ Blk 38 w' (w1.heap.size + 1 + 1) #[.int .i64 (k : Int), .int .i64 fp]) w33 := ⟨hS.1.below hb, hS.2.1.below hb, hS.2.2.below hb⟩
      refine hK _ _ hS2 ?_
      clear hK K hS hS2
      intro hS
      clear hb cC
      refine takeL 11 (.int .i64 z) rfl (by kernel_rfl) (by kernel_rfl) (by kernel_rfl) (fun _ _ _ h => h) (.inl ⟨by rfl, fun w _ => by rfl⟩) hS ?_
      try simp only [Act.put, List.setIfInBounds_toArray, List.set_cons_zero, List.set_cons_succ]
      refine wpAnyH_done (by kernel_rfl) ?_ _
      clear hS
      rcases HZ with rfl | rfl
      · go_wp2
        go_ret
        exact ⟨rfl, B⟩
      · go_wp2
        go_ret
        exact ⟨rfl, B⟩
end Go.Proofs.Yteadkdllmeeocaa
