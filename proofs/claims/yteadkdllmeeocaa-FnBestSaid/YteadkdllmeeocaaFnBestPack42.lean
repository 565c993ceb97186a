/- Texts of this claim, put together: part 42. -/
import Derived.Test.YteadkdllmeeocaaFnBestPack24
import Derived.Test.YteadkdllmeeocaaFnBestPack30
import Derived.Test.YteadkdllmeeocaaFnBestPack41
import Derived.Test.YteadkdllmeeocaaFnBestPack8
import Derived.Test.YteadkdllmeeocaaFnBestPack21
import Derived.Test.YteadkdllmeeocaaFnBestPack6
import Derived.Test.YteadkdllmeeocaaFnBestPack22
import Derived.BigGuardPart
/- For every code the law FnBest returns true (the walk). -/
namespace Go.Proofs.Yteadkdllmeeocaa
open Go.RowKit
set_option maxRecDepth 100000
set_option linter.unusedSimpArgs false
set_option maxHeartbeats 6400000 in
theorem fnBest_in (a0 : Option Addr) (len0 cap0 : Nat) (z0 : List Int) (w : World) (h0 : IsRow .u8 w a0 len0 cap0 z0) (hlen : len0 ≤ 1048576) :
    Calls Try.prog 8 #[.slice a0 len0 cap0] w fun e w' => e = .returned (.bool true) ∧ Below w.heap.size w w' := by
  have c1 := big_any a0 len0 cap0 w (by omega)
  rw [decide_eq_false (by omega)] at c1
  go_enter Try.func8, Try.ntmps8
  go_wp2_with fail
  refine c1.mono ?_
  clear c1
  rintro e w0 ⟨rfl, e0⟩
  rw [e0]; clear e0 w0
  go_wp2_with fail
  refine (drawBest_any a0 len0 cap0 z0 w h0 hlen).mono ?_
  clear h0
  rintro e w1 ⟨vs, d, ve, x, a, two, rfl, hx, htn, he, htx, haz, haz2, B⟩
  have HOK : Hid (okSch d) := htn.ok8
  have HOX : Hid (okSt x) := htx.ok (by omega)
  have ld := htn.attrs
  have lx := HOX.out.cells
  clear htn htx
  obtain ⟨y1, y2, rfl, rr1, rr2⟩ := id hx
  obtain ⟨oa, oka, rfl, -, -⟩ := id rr1
  obtain ⟨oc, okc, rfl, -, -⟩ := id rr2
  clear rr1 rr2
  obtain ⟨y1, y2, rfl, rr1, rr2⟩ := id he
  obtain ⟨q1, qk1, rfl, -, -⟩ := id rr1
  obtain ⟨q2, qk2, rfl, -, -⟩ := id rr2
  clear rr1 rr2
  obtain ⟨KS, KT, BN⟩ := blk_2 33 36 w1 #[.slice none 0 0, .slice none 0 0] #[.slice none 0 0, .slice none 0 0]
  have ZS := KS
  replace KS := KS.setRow #[.slice oa d.attrs.length oka, .slice oc d.classes.length okc]
  replace KT := Blk.setRow_other KT #[.slice oa d.attrs.length oka, .slice oc d.classes.length okc] (show w1.heap.size + 1 ≠ w1.heap.size by omega)
  have ZT := KT
  replace KS := Blk.setRow_other KS #[.slice q1 x.totals.length qk1, .slice q2 x.cells.length qk2] (show w1.heap.size ≠ w1.heap.size + 1 by omega)
  replace KT := KT.setRow #[.slice q1 x.totals.length qk1, .slice q2 x.cells.length qk2]
  have BM : Below w1.heap.size w1 ((((w1.alloc (.cells #[.slice none 0 0, .slice none 0 0] 33)).alloc (.cells #[.slice none 0 0, .slice none 0 0] 36)).setRow w1.heap.size #[.slice oa d.attrs.length oka, .slice oc d.classes.length okc]).setRow (w1.heap.size + 1) #[.slice q1 x.totals.length qk1, .slice q2 x.cells.length qk2]) := (below_row (below_row BN (by omega) #[.slice oa d.attrs.length oka, .slice oc d.classes.length okc]) (by omega) #[.slice q1 x.totals.length qk1, .slice q2 x.cells.length qk2])
  replace hx := hx.later BM
  replace he := he.later BM
  replace B := B.trans (BM.mono B.size)
  clear BM BN
  have cc := implBestOf_any _ _ d x a two ((((w1.alloc (.cells #[.slice none 0 0, .slice none 0 0] 33)).alloc (.cells #[.slice none 0 0, .slice none 0 0] 36)).setRow w1.heap.size #[.slice oa d.attrs.length oka, .slice oc d.classes.length okc]).setRow (w1.heap.size + 1) #[.slice q1 x.totals.length qk1, .slice q2 x.cells.length qk2]) hx he HOK.out HOX.out
  simp only [forkV] at cc
  have kS0 : ((((w1.alloc (.cells #[.slice none 0 0, .slice none 0 0] 33)).alloc (.cells #[.slice none 0 0, .slice none 0 0] 36)).setRow w1.heap.size #[.slice oa d.attrs.length oka, .slice oc d.classes.length okc]).setRow (w1.heap.size + 1) #[.slice q1 x.totals.length qk1, .slice q2 x.cells.length qk2]).cell? ⟨w1.heap.size, 0, none⟩ = some (.slice oa d.attrs.length oka) := KS.cell 0
  have kS1 : ((((w1.alloc (.cells #[.slice none 0 0, .slice none 0 0] 33)).alloc (.cells #[.slice none 0 0, .slice none 0 0] 36)).setRow w1.heap.size #[.slice oa d.attrs.length oka, .slice oc d.classes.length okc]).setRow (w1.heap.size + 1) #[.slice q1 x.totals.length qk1, .slice q2 x.cells.length qk2]).cell? ⟨w1.heap.size, 1, none⟩ = some (.slice oc d.classes.length okc) := KS.cell 1
  have kT0 : ((((w1.alloc (.cells #[.slice none 0 0, .slice none 0 0] 33)).alloc (.cells #[.slice none 0 0, .slice none 0 0] 36)).setRow w1.heap.size #[.slice oa d.attrs.length oka, .slice oc d.classes.length okc]).setRow (w1.heap.size + 1) #[.slice q1 x.totals.length qk1, .slice q2 x.cells.length qk2]).cell? ⟨w1.heap.size + 1, 0, none⟩ = some (.slice q1 x.totals.length qk1) := KT.cell 0
  have kT1 : ((((w1.alloc (.cells #[.slice none 0 0, .slice none 0 0] 33)).alloc (.cells #[.slice none 0 0, .slice none 0 0] 36)).setRow w1.heap.size #[.slice oa d.attrs.length oka, .slice oc d.classes.length okc]).setRow (w1.heap.size + 1) #[.slice q1 x.totals.length qk1, .slice q2 x.cells.length qk2]).cell? ⟨w1.heap.size + 1, 1, none⟩ = some (.slice q2 x.cells.length qk2) := KT.cell 1
  go_wp2_with (first | (with_reducible refine wp_sc_store rfl _ _ rfl ?_; refine ⟨_, rfl, _, _, _, _, _, _, rfl, _, _, ZS, ?_⟩) | (with_reducible refine wp_st_store rfl _ _ rfl ?_; refine ⟨_, rfl, _, _, _, _, _, _, rfl, _, _, ZT, ?_⟩))
  refine cc.mono ?_
  clear cc
  clear kS0 kS1 kT0 kT1
  clear ZS ZT
  rintro e w2 ⟨rfl, hb⟩
  replace hx := hx.later hb
  replace he := he.later hb
  replace B := B.trans (hb.mono B.size)
  replace KS := KS.below hb
  replace KT := KT.below hb
  clear hb
  obtain ⟨KF, KM, BN⟩ := blk_2 38 27 w2 #[.int .i64 0, .int .i64 0] #[.int .i64 0, .int .i64 0]
  have Z1 := KF
  replace KM := Blk.setRow_other KM #[.int .i64 (bestOf d x a two).1.attr, .int .i64 (bestOf d x a two).1.pos] (show w2.heap.size + 1 ≠ w2.heap.size by omega)
  have Z2 := KM
  replace KF := Blk.setRow_other (KF.setRow #[.int .i64 (bestOf d x a two).1.attr, .int .i64 (bestOf d x a two).1.pos]) #[.int .i64 (bestOf d x a two).2.1, .int .i64 (bestOf d x a two).2.2] (show w2.heap.size ≠ w2.heap.size + 1 by omega)
  replace KM := KM.setRow #[.int .i64 (bestOf d x a two).2.1, .int .i64 (bestOf d x a two).2.2]
  have BM : Below w2.heap.size w2 ((((w2.alloc (.cells #[.int .i64 0, .int .i64 0] 38)).alloc (.cells #[.int .i64 0, .int .i64 0] 27)).setRow w2.heap.size #[.int .i64 (bestOf d x a two).1.attr, .int .i64 (bestOf d x a two).1.pos]).setRow (w2.heap.size + 1) #[.int .i64 (bestOf d x a two).2.1, .int .i64 (bestOf d x a two).2.2]) := below_row (below_row BN (Nat.le_refl _) _) (by omega) _
  replace hx := hx.later BM
  replace he := he.later BM
  replace B := B.trans (BM.mono B.size)
  replace KS := KS.below BM
  replace KT := KT.below BM
  clear BM BN
  have cc := specStatsOk_any _ _ d x ((((w2.alloc (.cells #[.int .i64 0, .int .i64 0] 38)).alloc (.cells #[.int .i64 0, .int .i64 0] 27)).setRow w2.heap.size #[.int .i64 (bestOf d x a two).1.attr, .int .i64 (bestOf d x a two).1.pos]).setRow (w2.heap.size + 1) #[.int .i64 (bestOf d x a two).2.1, .int .i64 (bestOf d x a two).2.2]) hx he HOK.out HOX.out
  have kS0 : ((((w2.alloc (.cells #[.int .i64 0, .int .i64 0] 38)).alloc (.cells #[.int .i64 0, .int .i64 0] 27)).setRow w2.heap.size #[.int .i64 (bestOf d x a two).1.attr, .int .i64 (bestOf d x a two).1.pos]).setRow (w2.heap.size + 1) #[.int .i64 (bestOf d x a two).2.1, .int .i64 (bestOf d x a two).2.2]).cell? ⟨w1.heap.size, 0, none⟩ = some (.slice oa d.attrs.length oka) := KS.cell 0
  have kS1 : ((((w2.alloc (.cells #[.int .i64 0, .int .i64 0] 38)).alloc (.cells #[.int .i64 0, .int .i64 0] 27)).setRow w2.heap.size #[.int .i64 (bestOf d x a two).1.attr, .int .i64 (bestOf d x a two).1.pos]).setRow (w2.heap.size + 1) #[.int .i64 (bestOf d x a two).2.1, .int .i64 (bestOf d x a two).2.2]).cell? ⟨w1.heap.size, 1, none⟩ = some (.slice oc d.classes.length okc) := KS.cell 1
  have kT0 : ((((w2.alloc (.cells #[.int .i64 0, .int .i64 0] 38)).alloc (.cells #[.int .i64 0, .int .i64 0] 27)).setRow w2.heap.size #[.int .i64 (bestOf d x a two).1.attr, .int .i64 (bestOf d x a two).1.pos]).setRow (w2.heap.size + 1) #[.int .i64 (bestOf d x a two).2.1, .int .i64 (bestOf d x a two).2.2]).cell? ⟨w1.heap.size + 1, 0, none⟩ = some (.slice q1 x.totals.length qk1) := KT.cell 0
  have kT1 : ((((w2.alloc (.cells #[.int .i64 0, .int .i64 0] 38)).alloc (.cells #[.int .i64 0, .int .i64 0] 27)).setRow w2.heap.size #[.int .i64 (bestOf d x a two).1.attr, .int .i64 (bestOf d x a two).1.pos]).setRow (w2.heap.size + 1) #[.int .i64 (bestOf d x a two).2.1, .int .i64 (bestOf d x a two).2.2]).cell? ⟨w1.heap.size + 1, 1, none⟩ = some (.slice q2 x.cells.length qk2) := KT.cell 1
  go_wp2_with (first | (with_reducible refine wp_fk_store rfl _ _ rfl ?_; refine ⟨_, rfl, _, _, rfl, _, _, Z1, ?_⟩) | (refine wp_fr_store rfl _ _ rfl ?_; refine ⟨_, rfl, _, _, rfl, _, _, Z2, ?_⟩))
  refine cc.mono ?_
  clear cc Z1 Z2
  clear kS0 kS1 kT0 kT1
  rintro e w3 ⟨rfl, hb⟩
  replace hx := hx.later hb
  replace he := he.later hb
  replace B := B.trans (hb.mono B.size)
  replace KS := KS.below hb
  replace KT := KT.below hb
  replace KF := KF.below hb
  replace KM := KM.below hb
  clear hb
  obtain ⟨gF, hgF⟩ : ∃ gF, w2.heap.size = gF := ⟨_, rfl⟩
  have hFM : gF < gF + 1 := Nat.lt_succ_self _
  rw [hgF] at KF KM ⊢
  clear hgF
  cases hk : statsOk d x with
  | false =>
    have HBN : Hid (bestOf d x a two = (⟨0, 0⟩, (0, 0))) := best_none (by rw [hk]; rfl)
    clear hk
    rw [HBN.out] at KF KM
    have kF0 : w3.cell? ⟨gF, 0, none⟩ = some (.int .i64 0) := KF.cell 0
    have kF1 : w3.cell? ⟨gF, 1, none⟩ = some (.int .i64 0) := KF.cell 1
    have kM0 : w3.cell? ⟨gF + 1, 0, none⟩ = some (.int .i64 0) := KM.cell 0
    have kM1 : w3.cell? ⟨gF + 1, 1, none⟩ = some (.int .i64 0) := KM.cell 1
    go_wp2
    go_ret
    exact ⟨rfl, B⟩
  | true =>
    have HST : Hid (statsOk d x = true) := hk
    clear hk
    by_cases h0 : x.cells.length = 0
    · have hq : ((x.cells.length : Int) == 0) = true := by rw [h0]; rfl
      have HBN : Hid (bestOf d x a two = (⟨0, 0⟩, (0, 0))) := best_none (by rw [decide_eq_false (fun h => h h0)]; simp)
      have HH0 : Hid (x.cells.length = 0) := h0
      clear h0
      rw [HBN.out] at KF KM
      have kF0 : w3.cell? ⟨gF, 0, none⟩ = some (.int .i64 0) := KF.cell 0
      have kF1 : w3.cell? ⟨gF, 1, none⟩ = some (.int .i64 0) := KF.cell 1
      have kM0 : w3.cell? ⟨gF + 1, 0, none⟩ = some (.int .i64 0) := KM.cell 0
      have kM1 : w3.cell? ⟨gF + 1, 1, none⟩ = some (.int .i64 0) := KM.cell 1
      have kT0 : w3.cell? ⟨w1.heap.size + 1, 0, none⟩ = some (.slice q1 x.totals.length qk1) := KT.cell 0
      have kT1 : w3.cell? ⟨w1.heap.size + 1, 1, none⟩ = some (.slice q2 x.cells.length qk2) := KT.cell 1
      go_wp2
      go_ret
      exact ⟨rfl, B⟩
    have hq : ((x.cells.length : Int) == 0) = false := by rw [beq_eq_false_iff_ne]; omega
    have HN0 : Hid (x.cells.length ≠ 0) := h0
    clear h0
    have HE0 : Hid (bestOf d x a two = bestSt d x (candidates d [a] two) (candidates d [a] two).length) := best_some (by rw [HST.out, decide_eq_true HN0.out]; rfl)
    have hpl := places_one (a := a) (statsOk_parts HST.out).1
    have HPL : Hid (placesOk d [a] = decide (0 ≤ a ∧ a ≤ (d.attrs.length : Int) - 1)) := hpl
    clear hpl
    have hnone : ¬ (0 ≤ a ∧ a ≤ (d.attrs.length : Int) - 1) → bestOf d x a two = (⟨0, 0⟩, (0, 0)) := fun h => by
      have hc0 : candidates d [a] two = [] := by unfold candidates; rw [HPL.out, decide_eq_false h]; rfl
      rw [HE0.out, hc0]; rfl
    have HNONE : Hid (¬ (0 ≤ a ∧ a ≤ (d.attrs.length : Int) - 1) → bestOf d x a two = (⟨0, 0⟩, (0, 0))) := hnone
    clear hnone
    by_cases ha0 : a < 0
    · have HBN : Hid (bestOf d x a two = (⟨0, 0⟩, (0, 0))) := HNONE.out (by omega)
      rw [HBN.out] at KF KM
      have kF0 : w3.cell? ⟨gF, 0, none⟩ = some (.int .i64 0) := KF.cell 0
      have kF1 : w3.cell? ⟨gF, 1, none⟩ = some (.int .i64 0) := KF.cell 1
      have kM0 : w3.cell? ⟨gF + 1, 0, none⟩ = some (.int .i64 0) := KM.cell 0
      have kM1 : w3.cell? ⟨gF + 1, 1, none⟩ = some (.int .i64 0) := KM.cell 1
      have kS0 : w3.cell? ⟨w1.heap.size, 0, none⟩ = some (.slice oa d.attrs.length oka) := KS.cell 0
      have kS1 : w3.cell? ⟨w1.heap.size, 1, none⟩ = some (.slice oc d.classes.length okc) := KS.cell 1
      have kT0 : w3.cell? ⟨w1.heap.size + 1, 0, none⟩ = some (.slice q1 x.totals.length qk1) := KT.cell 0
      have kT1 : w3.cell? ⟨w1.heap.size + 1, 1, none⟩ = some (.slice q2 x.cells.length qk2) := KT.cell 1
      go_wp2
      go_ret
      exact ⟨rfl, B⟩
    by_cases ha1 : (d.attrs.length : Int) ≤ a
    · have HBN : Hid (bestOf d x a two = (⟨0, 0⟩, (0, 0))) := HNONE.out (by omega)
      rw [HBN.out] at KF KM
      have kF0 : w3.cell? ⟨gF, 0, none⟩ = some (.int .i64 0) := KF.cell 0
      have kF1 : w3.cell? ⟨gF, 1, none⟩ = some (.int .i64 0) := KF.cell 1
      have kM0 : w3.cell? ⟨gF + 1, 0, none⟩ = some (.int .i64 0) := KM.cell 0
      have kM1 : w3.cell? ⟨gF + 1, 1, none⟩ = some (.int .i64 0) := KM.cell 1
      have kS0 : w3.cell? ⟨w1.heap.size, 0, none⟩ = some (.slice oa d.attrs.length oka) := KS.cell 0
      have kS1 : w3.cell? ⟨w1.heap.size, 1, none⟩ = some (.slice oc d.classes.length okc) := KS.cell 1
      have kT0 : w3.cell? ⟨w1.heap.size + 1, 0, none⟩ = some (.slice q1 x.totals.length qk1) := KT.cell 0
      have kT1 : w3.cell? ⟨w1.heap.size + 1, 1, none⟩ = some (.slice q2 x.cells.length qk2) := KT.cell 1
      go_wp2
      go_ret
      exact ⟨rfl, B⟩
    have kS0 : w3.cell? ⟨w1.heap.size, 0, none⟩ = some (.slice oa d.attrs.length oka) := KS.cell 0
    have kS1 : w3.cell? ⟨w1.heap.size, 1, none⟩ = some (.slice oc d.classes.length okc) := KS.cell 1
    have kT0 : w3.cell? ⟨w1.heap.size + 1, 0, none⟩ = some (.slice q1 x.totals.length qk1) := KT.cell 0
    have kT1 : w3.cell? ⟨w1.heap.size + 1, 1, none⟩ = some (.slice q2 x.cells.length qk2) := KT.cell 1
    have BL : Below w3.heap.size w3 (w3.alloc (.cells #[.int .i64 a] 3)) := (Below.refl _ _).alloc (Nat.le_refl _) _
    replace hx := hx.later BL
    replace he := he.later BL
    replace B := B.trans (BL.mono B.size)
    replace KS := KS.below BL
    replace KT := KT.below BL
    replace KF := KF.below BL
    replace KM := KM.below BL
    clear BL
    have hrow := row_one (w := w3) a 3
    have cc := specCandidates_any _ _ d [a] two (w3.alloc (.cells #[.int .i64 a] 3)) hx HOK.out hrow (by simp)
    clear hrow
    go_wp2_with fail
    refine cc.mono ?_
    clear cc
    clear kS0 kS1 kT0 kT1
    rintro e w5 ⟨v5, rfl, ho, hb⟩
    replace hx := hx.later hb
    replace he := he.later hb
    replace B := B.trans (hb.mono B.size)
    replace KS := KS.below hb
    replace KT := KT.below hb
    replace KF := KF.below hb
    replace KM := KM.below hb
    clear hb
    have hplt : placesOk d [a] = true := by rw [HPL.out]; exact decide_eq_true (by omega)
    have hcm := cand_more (two := two) hplt
    have hn1 : 1 ≤ (candidates d [a] two).length := hcm
    have hfr := fun i hi => cand_merit (two := two) HST.out HN0.out hplt (i := i) hi
    have hcl := candidates_len (s := d) (l := [a]) two
    have hbf := best_facts (s := d) (t := x) (fs := candidates d [a] two) hfr (candidates d [a] two).length hn1 (Nat.le_refl _)
    rw [← HE0.out] at hbf
    clear hcm HE0 HNONE HPL hplt
    generalize bestOf d x a two = bb at hbf KF KM
    obtain ⟨⟨b1, b2⟩, ⟨m1, m2⟩⟩ := bb
    obtain ⟨fs, hfs⟩ : ∃ fs, candidates d [a] two = fs := ⟨_, rfl⟩
    rw [hfs] at ho hn1 hfr hcl hbf
    clear hfs
    obtain ⟨i0, hi0, hbe, hball⟩ := hbf
    have HFE : Hid (fk fs i0 = ⟨b1, b2⟩ ∧ meritN d x ⟨b1, b2⟩ = m1 ∧ meritD d x ⟨b1, b2⟩ = m2) := by
      injection hbe with e1 e2
      injection e2 with e2 e3
      show _ ∧ _
      rw [← e1] at e2 e3
      exact ⟨e1.symm, e2.symm, e3.symm⟩
    have HALL : Hid (∀ q, q < fs.length → frC m1 m2 (meritN d x (fk fs q)) (meritD d x (fk fs q)) = 0 ∨ frC m1 m2 (meritN d x (fk fs q)) (meritD d x (fk fs q)) = 1) := hball
    clear hbe hball hfr
    simp only at KF KM
    obtain ⟨ol, kl, rfl, hol⟩ := own_fkc10 ho
    obtain ⟨gl, rfl, hgl1, hgl2, hcell⟩ := hol (by omega)
    have HCL : Hid (∀ W, Below w5.heap.size w5 W → ∀ j, j < fs.length → W.cell? ⟨gl, j * 2, none⟩ = some (.int .i64 (fk fs j).attr) ∧ W.cell? ⟨gl, j * 2 + 1, none⟩ = some (.int .i64 (fk fs j).pos)) := fun W h j hj => ⟨(h.cell (p := ⟨gl, j * 2, none⟩) hgl2).trans (hcell j hj).1, (h.cell (p := ⟨gl, j * 2 + 1, none⟩) hgl2).trans (hcell j hj).2⟩
    clear ho hol hcell hgl1 hgl2
    have HB1 : Hid (∀ W, Below w5.heap.size w5 W → (Blk 33 W (w1.heap.size) #[.slice oa d.attrs.length oka, .slice oc d.classes.length okc] ∧ Blk 36 W (w1.heap.size + 1) #[.slice q1 x.totals.length qk1, .slice q2 x.cells.length qk2] ∧ Blk 38 W gF #[.int .i64 b1, .int .i64 b2] ∧ Blk 27 W (gF + 1) #[.int .i64 m1, .int .i64 m2]) ∧ SchemaAt W (.agg #[.slice oa d.attrs.length oka, .slice oc d.classes.length okc]) d ∧ StatsAt W (.agg #[.slice q1 x.totals.length qk1, .slice q2 x.cells.length qk2]) x ∧ Below w.heap.size w W) := fun W h => ⟨⟨KS.below h, KT.below h, KF.below h, KM.below h⟩, hx.later h, he.later h, B.trans (h.mono B.size)⟩
    clear KS KT KF KM hx he B
    go_wp2
    go_loopw [10, 11] (fun th i wr => ∃ (j : Nat) (bt : Bool), i = .int .i64 j ∧ th = .bool bt ∧ j ≤ fs.length ∧ (i0 < j → bt = true) ∧ Hid (Below w5.heap.size w5 wr)) (fun _ i _ => fs.length - (intOf i).toNat)
    case atStart => exact ⟨0, false, rfl, rfl, by omega, by omega, Below.refl _ _⟩
    case round =>
      obtain ⟨j, bt, rfl, rfl, hj, hbt, HBR⟩ := hrel
      have hbr := HBR.out
      by_cases hlt : j < fs.length
      rotate_left
      · have hbt2 : bt = true := hbt (by omega)
        subst hbt2
        obtain ⟨⟨KS, KT, KF, KM⟩, hx, he, B⟩ := HB1.out wr hbr
        go_wp2_with fail
        have bd : Below wr.heap.size wr wr.drew := below_drewN (Below.refl _ _) 1
        refine wp_region_held_drew (S := fun w' => Blk 33 w' (w1.heap.size) #[.slice oa d.attrs.length oka, .slice oc d.classes.length okc] ∧ Blk 36 w' (w1.heap.size + 1) #[.slice q1 x.totals.length qk1, .slice q2 x.cells.length qk2] ∧ Blk 38 w' gF #[.int .i64 b1, .int .i64 b2] ∧ Blk 27 w' (gF + 1) #[.int .i64 m1, .int .i64 m2]) (by kernel_rfl) ⟨KS.below bd, KT.below bd, KF.below bd, KM.below bd⟩ ?_
        intro hS
        replace hx := hx.later bd
        replace he := he.later bd
        replace B := B.trans (bd.mono B.size)
        clear KS KT KF KM bd hbr HBR
        generalize wr.drew = w30 at hx he B hS ⊢
        have cA := implMerit_any _ _ d x ⟨b1, b2⟩ w30 hx he HOK.out HOX.out
        rw [HFE.out.2.1, HFE.out.2.2] at cA
        simp only [forkV] at cA
        clear hx he
        refine takeL 0 (.bool true) rfl (by kernel_rfl) (by kernel_rfl) (by kernel_rfl) (fun _ _ _ h => h) (.inl ⟨by rfl, fun w _ => by rfl⟩) hS ?_
        try simp only [Act.put, List.setIfInBounds_toArray, List.set_cons_zero, List.set_cons_succ]
        refine takeL 1 (.bool true) rfl (by kernel_rfl) (by kernel_rfl) (by kernel_rfl) (fun _ _ _ h => h) (.inl ⟨by rfl, fun w _ => by rfl⟩) hS ?_
        try simp only [Act.put, List.setIfInBounds_toArray, List.set_cons_zero, List.set_cons_succ]
        refine takeL 2 (.agg #[.int .i64 m1, .int .i64 m2]) rfl (by kernel_rfl) (by kernel_rfl) (by kernel_rfl) (fun _ _ _ h => h) (yields_row Try.underlying27 (by kernel_rfl) (by rfl) _ rfl _ rfl (fun _ h => h.2.2.2)) hS ?_
        try simp only [Act.put, List.setIfInBounds_toArray, List.set_cons_zero, List.set_cons_succ]
        refine takeL 3 (.agg #[.slice oa d.attrs.length oka, .slice oc d.classes.length okc]) rfl (by kernel_rfl) (by kernel_rfl) (by kernel_rfl) (fun _ _ _ h => h) (yields_row Try.underlying33 (by kernel_rfl) (by rfl) _ rfl _ rfl (fun _ h => h.1)) hS ?_
        try simp only [Act.put, List.setIfInBounds_toArray, List.set_cons_zero, List.set_cons_succ]
        refine takeL 4 (.agg #[.slice q1 x.totals.length qk1, .slice q2 x.cells.length qk2]) rfl (by kernel_rfl) (by kernel_rfl) (by kernel_rfl) (fun _ _ _ h => h) (yields_row Try.underlying36 (by kernel_rfl) (by rfl) _ rfl _ rfl (fun _ h => h.2.1)) hS ?_
        try simp only [Act.put, List.setIfInBounds_toArray, List.set_cons_zero, List.set_cons_succ]
        refine takeL 5 (.agg #[.int .i64 b1, .int .i64 b2]) rfl (by kernel_rfl) (by kernel_rfl) (by kernel_rfl) (fun _ _ _ h => h) (yields_row Try.underlying38 (by kernel_rfl) (by rfl) _ rfl _ rfl (fun _ h => h.2.2.1)) hS ?_
        try simp only [Act.put, List.setIfInBounds_toArray, List.set_cons_zero, List.set_cons_succ]
        refine nextL 6 rfl (by kernel_rfl) (by rfl) fun K hK => ?_
        go_simp
        refine cA.mono ?_
        clear cA
        rintro e w31 ⟨rfl, hb⟩
        replace B := B.trans (hb.mono B.size)
        replace hS : (fun w' => Blk 33 w' (w1.heap.size) #[.slice oa d.attrs.length oka, .slice oc d.classes.length okc] ∧ Blk 36 w' (w1.heap.size + 1) #[.slice q1 x.totals.length qk1, .slice q2 x.cells.length qk2] ∧ Blk 38 w' gF #[.int .i64 b1, .int .i64 b2] ∧ Blk 27 w' (gF + 1) #[.int .i64 m1, .int .i64 m2]) w31 := ⟨hS.1.below hb, hS.2.1.below hb, hS.2.2.1.below hb, hS.2.2.2.below hb⟩
        refine hK _ _ hS ?_
        clear hK K hb
        intro _
        refine takeL 7 (.bool true) rfl (by kernel_rfl) (by kernel_rfl) (by kernel_rfl) (fun _ _ _ h => h) (.inl ⟨by rfl, fun w hw => by (unfold execOp; go_simp; all_goals simp)⟩) hS ?_
        try simp only [Act.put, List.setIfInBounds_toArray, List.set_cons_zero, List.set_cons_succ]
        refine takeL 8 (.bool true) rfl (by kernel_rfl) (by kernel_rfl) (by kernel_rfl) (fun _ _ _ h => h) (.inl ⟨by rfl, fun w _ => by rfl⟩) hS ?_
        try simp only [Act.put, List.setIfInBounds_toArray, List.set_cons_zero, List.set_cons_succ]
        refine takeL 9 (.bool true) rfl (by kernel_rfl) (by kernel_rfl) (by kernel_rfl) (fun _ _ _ h => h) (.inl ⟨by rfl, fun w _ => by rfl⟩) hS ?_
        try simp only [Act.put, List.setIfInBounds_toArray, List.set_cons_zero, List.set_cons_succ]
        refine wpAnyH_done (by kernel_rfl) ?_ _
        clear hS
        go_wp2
        go_ret
        exact ⟨rfl, B⟩
      clear hj
      have bd : Below wr.heap.size wr wr.drew := below_drewN (Below.refl _ _) 1
      have hbd := hbr.trans (bd.mono hbr.size)
      obtain ⟨⟨KS, KT, KF, KM⟩, hx, he, B⟩ := HB1.out wr.drew hbd
      obtain ⟨l0, l1⟩ := HCL.out wr.drew hbd j hlt
      obtain ⟨x1, hx1⟩ : ∃ x1, (fk fs j).attr = x1 := ⟨_, rfl⟩
      obtain ⟨x2, hx2⟩ : ∃ x2, (fk fs j).pos = x2 := ⟨_, rfl⟩
      have HFJ : Hid (fk fs j = ⟨x1, x2⟩) := by show _ = _; rw [← hx1, ← hx2]
      have HCJ : Hid (∀ W, Below w5.heap.size w5 W → W.cell? ⟨gl, j * 2, none⟩ = some (.int .i64 x1) ∧ W.cell? ⟨gl, j * 2 + 1, none⟩ = some (.int .i64 x2)) := fun W h => by rw [← hx1, ← hx2]; exact HCL.out W h j hlt
      rw [hx1] at l0
      rw [hx2] at l1
      clear hx1 hx2
      obtain ⟨y1, hy1⟩ : ∃ y1, meritN d x ⟨x1, x2⟩ = y1 := ⟨_, rfl⟩
      obtain ⟨y2, hy2⟩ : ∃ y2, meritD d x ⟨x1, x2⟩ = y2 := ⟨_, rfl⟩
      obtain ⟨z, hz⟩ : ∃ z, frC m1 m2 y1 y2 = z := ⟨_, rfl⟩
      have HZ : z = 0 ∨ z = 1 := by
        have := HALL.out j hlt
        rw [HFJ.out, hy1, hy2, hz] at this
        exact this
      have HY : Hid (meritN d x ⟨x1, x2⟩ = y1 ∧ meritD d x ⟨x1, x2⟩ = y2 ∧ frC m1 m2 y1 y2 = z) := ⟨hy1, hy2, hz⟩
      clear hy1 hy2 hz
      have hii : i0 = j → x1 = b1 ∧ x2 = b2 := fun h => by
        have e1 := HFE.out.1
        rw [h, HFJ.out] at e1
        injection e1 with e1 e2
        exact ⟨e1, e2⟩
      have HII : Hid (i0 = j → x1 = b1 ∧ x2 = b2) := hii
      clear hii hbd
      cases bt with
      | true =>
        go_wp2_with fail
        refine wp_region_held_drew (S := fun w' => Blk 38 w' gF #[.int .i64 b1, .int .i64 b2] ∧ w'.cell? ⟨gl, j * 2, none⟩ = some (.int .i64 x1) ∧ w'.cell? ⟨gl, j * 2 + 1, none⟩ = some (.int .i64 x2)) (by kernel_rfl) ⟨KF, l0, l1⟩ ?_
        intro hS
        clear KS KT KF KM l0 l1 hx he B
        have hbq := hbr.trans (bd.mono hbr.size)
        clear bd hbr HBR
        generalize hwq : wr.drew = wq at hS hbq ⊢
        clear hwq
        refine takeL 0 (.bool true) rfl (by kernel_rfl) (by kernel_rfl) (by kernel_rfl) (fun _ _ _ h => h) (.inl ⟨by rfl, fun w _ => by rfl⟩) hS ?_
        try simp only [Act.put, List.setIfInBounds_toArray, List.set_cons_zero, List.set_cons_succ]
        refine takeL 1 (.bool true) rfl (by kernel_rfl) (by kernel_rfl) (by kernel_rfl) (fun _ _ _ h => h) (.inl ⟨by rfl, fun w _ => by rfl⟩) hS ?_
        try simp only [Act.put, List.setIfInBounds_toArray, List.set_cons_zero, List.set_cons_succ]
        refine takeL 2 (undef) rfl (by kernel_rfl) (by kernel_rfl) (by kernel_rfl) (fun _ _ _ h => h) (.inr ⟨by rfl, rfl⟩) hS ?_
        try simp only [Act.put, List.setIfInBounds_toArray, List.set_cons_zero, List.set_cons_succ]
        refine takeL 3 (undef) rfl (by kernel_rfl) (by kernel_rfl) (by kernel_rfl) (fun _ _ _ h => h) (.inr ⟨by rfl, rfl⟩) hS ?_
        try simp only [Act.put, List.setIfInBounds_toArray, List.set_cons_zero, List.set_cons_succ]
        refine takeL 4 (undef) rfl (by kernel_rfl) (by kernel_rfl) (by kernel_rfl) (fun _ _ _ h => h) (.inr ⟨by rfl, rfl⟩) hS ?_
        try simp only [Act.put, List.setIfInBounds_toArray, List.set_cons_zero, List.set_cons_succ]
        refine takeL 5 (undef) rfl (by kernel_rfl) (by kernel_rfl) (by kernel_rfl) (fun _ _ _ h => h) (.inr ⟨by rfl, rfl⟩) hS ?_
        try simp only [Act.put, List.setIfInBounds_toArray, List.set_cons_zero, List.set_cons_succ]
        refine takeL 6 (undef) rfl (by kernel_rfl) (by kernel_rfl) (by kernel_rfl) (fun _ _ _ h => h) (.inr ⟨by rfl, rfl⟩) hS ?_
        try simp only [Act.put, List.setIfInBounds_toArray, List.set_cons_zero, List.set_cons_succ]
        refine takeL 7 (undef) rfl (by kernel_rfl) (by kernel_rfl) (by kernel_rfl) (fun _ _ _ h => h) (.inr ⟨by rfl, rfl⟩) hS ?_
        try simp only [Act.put, List.setIfInBounds_toArray, List.set_cons_zero, List.set_cons_succ]
        refine takeL 8 (.bool true) rfl (by kernel_rfl) (by kernel_rfl) (by kernel_rfl) (fun _ _ _ h => h) (.inl ⟨by rfl, fun w _ => by rfl⟩) hS ?_
        try simp only [Act.put, List.setIfInBounds_toArray, List.set_cons_zero, List.set_cons_succ]
        refine takeL 9 (.bool true) rfl (by kernel_rfl) (by kernel_rfl) (by kernel_rfl) (fun _ _ _ h => h) (.inl ⟨by rfl, fun w _ => by rfl⟩) hS ?_
        try simp only [Act.put, List.setIfInBounds_toArray, List.set_cons_zero, List.set_cons_succ]
        refine wpAnyH_done (by kernel_rfl) ?_ _
        clear hS
        go_wp2_with fail
        have bd2 : Below wq.heap.size wq wq.drew := below_drewN (Below.refl _ _) 1
        have hbd := hbq.trans (bd2.mono hbq.size)
        obtain ⟨⟨KS, KT, KF, KM⟩, hx, he, B⟩ := HB1.out wq.drew hbd
        obtain ⟨l0, l1⟩ := HCJ.out wq.drew hbd
        have cA := implMerit_any _ _ d x ⟨x1, x2⟩ wq.drew hx he HOK.out HOX.out
        rw [HY.out.1, HY.out.2.1] at cA
        have cC := fun W => fracCmpI m1 m2 y1 y2 W
        rw [HY.out.2.2] at cC
        simp only [forkV] at cA
        refine wp_region_held_drew (S := fun w' => Blk 33 w' (w1.heap.size) #[.slice oa d.attrs.length oka, .slice oc d.classes.length okc] ∧ Blk 36 w' (w1.heap.size + 1) #[.slice q1 x.totals.length qk1, .slice q2 x.cells.length qk2] ∧ Blk 38 w' gF #[.int .i64 b1, .int .i64 b2] ∧ Blk 27 w' (gF + 1) #[.int .i64 m1, .int .i64 m2] ∧ w'.cell? ⟨gl, j * 2, none⟩ = some (.int .i64 x1) ∧ w'.cell? ⟨gl, j * 2 + 1, none⟩ = some (.int .i64 x2)) (by kernel_rfl) ⟨KS, KT, KF, KM, l0, l1⟩ ?_
        intro hS
        clear KS KT KF KM l0 l1 hx he B bd2 hbq
        generalize hwq : wq.drew = w40 at hS cA hbd ⊢
        clear hwq
        refine takeL 0 (.agg #[.int .i64 m1, .int .i64 m2]) rfl (by kernel_rfl) (by kernel_rfl) (by kernel_rfl) (fun _ _ _ h => h) (yields_row Try.underlying27 (by kernel_rfl) (by rfl) _ rfl _ rfl (fun _ h => h.2.2.2.1)) hS ?_
        try simp only [Act.put, List.setIfInBounds_toArray, List.set_cons_zero, List.set_cons_succ]
        refine takeL 1 (.agg #[.slice oa d.attrs.length oka, .slice oc d.classes.length okc]) rfl (by kernel_rfl) (by kernel_rfl) (by kernel_rfl) (fun _ _ _ h => h) (yields_row Try.underlying33 (by kernel_rfl) (by rfl) _ rfl _ rfl (fun _ h => h.1)) hS ?_
        try simp only [Act.put, List.setIfInBounds_toArray, List.set_cons_zero, List.set_cons_succ]
        refine takeL 2 (.agg #[.slice q1 x.totals.length qk1, .slice q2 x.cells.length qk2]) rfl (by kernel_rfl) (by kernel_rfl) (by kernel_rfl) (fun _ _ _ h => h) (yields_row Try.underlying36 (by kernel_rfl) (by rfl) _ rfl _ rfl (fun _ h => h.2.1)) hS ?_
        try simp only [Act.put, List.setIfInBounds_toArray, List.set_cons_zero, List.set_cons_succ]
        refine takeL 3 (.slice (some ⟨gl, 0, none⟩) fs.length kl) rfl (by kernel_rfl) (by kernel_rfl) (by kernel_rfl) (fun _ _ _ h => h) (.inl ⟨by rfl, fun w _ => by rfl⟩) hS ?_
        try simp only [Act.put, List.setIfInBounds_toArray, List.set_cons_zero, List.set_cons_succ]
        refine takeL 4 (.int .i64 ((j : Int))) rfl (by kernel_rfl) (by kernel_rfl) (by kernel_rfl) (fun _ _ _ h => h) (.inl ⟨by rfl, fun w _ => by rfl⟩) hS ?_
        try simp only [Act.put, List.setIfInBounds_toArray, List.set_cons_zero, List.set_cons_succ]
        refine takeL 5 (.pointer (some ⟨gl, j * 2, none⟩)) rfl (by kernel_rfl) (by kernel_rfl) (by kernel_rfl) (fun _ _ _ h => h) (.inl ⟨by rfl, fun w hw => by (unfold execOp; go_simp; all_goals omega)⟩) hS ?_
        try simp only [Act.put, List.setIfInBounds_toArray, List.set_cons_zero, List.set_cons_succ]
        refine takeL 6 (.agg #[.int .i64 x1, .int .i64 x2]) rfl (by kernel_rfl) (by kernel_rfl) (by kernel_rfl) (fun _ _ _ h => h) (.inl ⟨by rfl, fun w hw => by (have h0 := hw.2.2.2.2.1; have h1 := hw.2.2.2.2.2; unfold execOp; go_simp)⟩) hS ?_
        try simp only [Act.put, List.setIfInBounds_toArray, List.set_cons_zero, List.set_cons_succ]
        refine nextL 7 rfl (by kernel_rfl) (by rfl) fun K hK => ?_
        go_simp
        refine (cA).mono ?_
        rintro e w41 ⟨rfl, hb⟩
        replace hbd := hbd.trans (hb.mono hbd.size)
        replace hS : (fun w' => Blk 33 w' (w1.heap.size) #[.slice oa d.attrs.length oka, .slice oc d.classes.length okc] ∧ Blk 36 w' (w1.heap.size + 1) #[.slice q1 x.totals.length qk1, .slice q2 x.cells.length qk2] ∧ Blk 38 w' gF #[.int .i64 b1, .int .i64 b2] ∧ Blk 27 w' (gF + 1) #[.int .i64 m1, .int .i64 m2] ∧ w'.cell? ⟨gl, j * 2, none⟩ = some (.int .i64 x1) ∧ w'.cell? ⟨gl, j * 2 + 1, none⟩ = some (.int .i64 x2)) w41 := ⟨hS.1.below hb, hS.2.1.below hb, hS.2.2.1.below hb, hS.2.2.2.1.below hb, (hb.cell (p := ⟨gl, j * 2, none⟩) (World.block_lt_of_cell? _ _ (by rw [hS.2.2.2.2.1]))).trans hS.2.2.2.2.1, (hb.cell (p := ⟨gl, j * 2 + 1, none⟩) (World.block_lt_of_cell? _ _ (by rw [hS.2.2.2.2.2]))).trans hS.2.2.2.2.2⟩
        refine hK _ _ hS ?_
        clear hK K hb
        intro _
        refine nextL 8 rfl (by kernel_rfl) (by rfl) fun K hK => ?_
        go_simp
        refine (cC w41).mono ?_
        rintro e w42 ⟨rfl, hb⟩
        replace hbd := hbd.trans (hb.mono hbd.size)
        replace hS : (fun w' => Blk 33 w' (w1.heap.size) #[.slice oa d.attrs.length oka, .slice oc d.classes.length okc] ∧ Blk 36 w' (w1.heap.size + 1) #[.slice q1 x.totals.length qk1, .slice q2 x.cells.length qk2] ∧ Blk 38 w' gF #[.int .i64 b1, .int .i64 b2] ∧ Blk 27 w' (gF + 1) #[.int .i64 m1, .int .i64 m2] ∧ w'.cell? ⟨gl, j * 2, none⟩ = some (.int .i64 x1) ∧ w'.cell? ⟨gl, j * 2 + 1, none⟩ = some (.int .i64 x2)) w42 := ⟨hS.1.below hb, hS.2.1.below hb, hS.2.2.1.below hb, hS.2.2.2.1.below hb, (hb.cell (p := ⟨gl, j * 2, none⟩) (World.block_lt_of_cell? _ _ (by rw [hS.2.2.2.2.1]))).trans hS.2.2.2.2.1, (hb.cell (p := ⟨gl, j * 2 + 1, none⟩) (World.block_lt_of_cell? _ _ (by rw [hS.2.2.2.2.2]))).trans hS.2.2.2.2.2⟩
        refine hK _ _ hS ?_
        clear hK K hb
        intro _
        refine takeL 9 (.int .i64 z) rfl (by kernel_rfl) (by kernel_rfl) (by kernel_rfl) (fun _ _ _ h => h) (.inl ⟨by rfl, fun w _ => by rfl⟩) hS ?_
        try simp only [Act.put, List.setIfInBounds_toArray, List.set_cons_zero, List.set_cons_succ]
        refine wpAnyH_done (by kernel_rfl) ?_ _
        clear hS cA cC
        rcases HZ with rfl | rfl
        · go_wp2
          go_roundw
          case rel => exact ⟨j + 1, true, by go_num, rfl, by omega, fun _ => rfl, hbd⟩
          case measure => simp [intOf]; omega
        · go_wp2
          go_roundw
          case rel => exact ⟨j + 1, true, by go_num, rfl, by omega, fun _ => rfl, hbd⟩
          case measure => simp [intOf]; omega
      | false =>
        have hnb : ¬ i0 < j := fun h => by have := hbt h; cases this
        by_cases hne : x1 = b1 ∧ x2 = b2
        · obtain ⟨e1, e2⟩ := hne
          subst e1
          subst e2
          go_wp2_with fail
          refine wp_region_held_drew (S := fun w' => Blk 38 w' gF #[.int .i64 x1, .int .i64 x2] ∧ w'.cell? ⟨gl, j * 2, none⟩ = some (.int .i64 x1) ∧ w'.cell? ⟨gl, j * 2 + 1, none⟩ = some (.int .i64 x2)) (by kernel_rfl) ⟨KF, l0, l1⟩ ?_
          intro hS
          clear KS KT KF KM l0 l1 hx he B
          have hbq := hbr.trans (bd.mono hbr.size)
          clear bd hbr HBR
          generalize hwq : wr.drew = wq at hS hbq ⊢
          clear hwq
          refine takeL 0 (.bool false) rfl (by kernel_rfl) (by kernel_rfl) (by kernel_rfl) (fun _ _ _ h => h) (.inl ⟨by rfl, fun w _ => by rfl⟩) hS ?_
          try simp only [Act.put, List.setIfInBounds_toArray, List.set_cons_zero, List.set_cons_succ]
          refine takeL 1 (.bool false) rfl (by kernel_rfl) (by kernel_rfl) (by kernel_rfl) (fun _ _ _ h => h) (.inl ⟨by rfl, fun w _ => by rfl⟩) hS ?_
          try simp only [Act.put, List.setIfInBounds_toArray, List.set_cons_zero, List.set_cons_succ]
          refine takeL 2 (.slice (some ⟨gl, 0, none⟩) fs.length kl) rfl (by kernel_rfl) (by kernel_rfl) (by kernel_rfl) (fun _ _ _ h => h) (.inl ⟨by rfl, fun w _ => by rfl⟩) hS ?_
          try simp only [Act.put, List.setIfInBounds_toArray, List.set_cons_zero, List.set_cons_succ]
          refine takeL 3 (.int .i64 ((j : Int))) rfl (by kernel_rfl) (by kernel_rfl) (by kernel_rfl) (fun _ _ _ h => h) (.inl ⟨by rfl, fun w _ => by rfl⟩) hS ?_
          try simp only [Act.put, List.setIfInBounds_toArray, List.set_cons_zero, List.set_cons_succ]
          refine takeL 4 (.pointer (some ⟨gl, j * 2, none⟩)) rfl (by kernel_rfl) (by kernel_rfl) (by kernel_rfl) (fun _ _ _ h => h) (.inl ⟨by rfl, fun w hw => by (unfold execOp; go_simp; all_goals omega)⟩) hS ?_
          try simp only [Act.put, List.setIfInBounds_toArray, List.set_cons_zero, List.set_cons_succ]
          refine takeL 5 (.agg #[.int .i64 x1, .int .i64 x2]) rfl (by kernel_rfl) (by kernel_rfl) (by kernel_rfl) (fun _ _ _ h => h) (.inl ⟨by rfl, fun w hw => by (have h0 := hw.2.1; have h1 := hw.2.2; unfold execOp; go_simp)⟩) hS ?_
          try simp only [Act.put, List.setIfInBounds_toArray, List.set_cons_zero, List.set_cons_succ]
          refine takeL 6 (.agg #[.int .i64 x1, .int .i64 x2]) rfl (by kernel_rfl) (by kernel_rfl) (by kernel_rfl) (fun _ _ _ h => h) (yields_row Try.underlying38 (by kernel_rfl) (by rfl) _ rfl _ rfl (fun _ h => h.1)) hS ?_
          try simp only [Act.put, List.setIfInBounds_toArray, List.set_cons_zero, List.set_cons_succ]
          refine takeL 7 (.bool true) rfl (by kernel_rfl) (by kernel_rfl) (by kernel_rfl) (fun _ _ _ h => h) (.inl ⟨by rfl, fun w hw => by (unfold execOp; go_simp; all_goals simp)⟩) hS ?_
          try simp only [Act.put, List.setIfInBounds_toArray, List.set_cons_zero, List.set_cons_succ]
          refine takeL 8 (.bool true) rfl (by kernel_rfl) (by kernel_rfl) (by kernel_rfl) (fun _ _ _ h => h) (.inl ⟨by rfl, fun w _ => by rfl⟩) hS ?_
          try simp only [Act.put, List.setIfInBounds_toArray, List.set_cons_zero, List.set_cons_succ]
          refine takeL 9 (.bool true) rfl (by kernel_rfl) (by kernel_rfl) (by kernel_rfl) (fun _ _ _ h => h) (.inl ⟨by rfl, fun w _ => by rfl⟩) hS ?_
          try simp only [Act.put, List.setIfInBounds_toArray, List.set_cons_zero, List.set_cons_succ]
          refine wpAnyH_done (by kernel_rfl) ?_ _
          clear hS
          go_wp2_with fail
          have bd2 : Below wq.heap.size wq wq.drew := below_drewN (Below.refl _ _) 1
          have hbd := hbq.trans (bd2.mono hbq.size)
          obtain ⟨⟨KS, KT, KF, KM⟩, hx, he, B⟩ := HB1.out wq.drew hbd
          obtain ⟨l0, l1⟩ := HCJ.out wq.drew hbd
          have cA := implMerit_any _ _ d x ⟨x1, x2⟩ wq.drew hx he HOK.out HOX.out
          rw [HY.out.1, HY.out.2.1] at cA
          have cC := fun W => fracCmpI m1 m2 y1 y2 W
          rw [HY.out.2.2] at cC
          simp only [forkV] at cA
          refine wp_region_held_drew (S := fun w' => Blk 33 w' (w1.heap.size) #[.slice oa d.attrs.length oka, .slice oc d.classes.length okc] ∧ Blk 36 w' (w1.heap.size + 1) #[.slice q1 x.totals.length qk1, .slice q2 x.cells.length qk2] ∧ Blk 38 w' gF #[.int .i64 x1, .int .i64 x2] ∧ Blk 27 w' (gF + 1) #[.int .i64 m1, .int .i64 m2] ∧ w'.cell? ⟨gl, j * 2, none⟩ = some (.int .i64 x1) ∧ w'.cell? ⟨gl, j * 2 + 1, none⟩ = some (.int .i64 x2)) (by kernel_rfl) ⟨KS, KT, KF, KM, l0, l1⟩ ?_
          intro hS
          clear KS KT KF KM l0 l1 hx he B bd2 hbq
          generalize hwq : wq.drew = w40 at hS cA hbd ⊢
          clear hwq
          refine takeL 0 (.agg #[.int .i64 m1, .int .i64 m2]) rfl (by kernel_rfl) (by kernel_rfl) (by kernel_rfl) (fun _ _ _ h => h) (yields_row Try.underlying27 (by kernel_rfl) (by rfl) _ rfl _ rfl (fun _ h => h.2.2.2.1)) hS ?_
          try simp only [Act.put, List.setIfInBounds_toArray, List.set_cons_zero, List.set_cons_succ]
          refine takeL 1 (.agg #[.slice oa d.attrs.length oka, .slice oc d.classes.length okc]) rfl (by kernel_rfl) (by kernel_rfl) (by kernel_rfl) (fun _ _ _ h => h) (yields_row Try.underlying33 (by kernel_rfl) (by rfl) _ rfl _ rfl (fun _ h => h.1)) hS ?_
          try simp only [Act.put, List.setIfInBounds_toArray, List.set_cons_zero, List.set_cons_succ]
          refine takeL 2 (.agg #[.slice q1 x.totals.length qk1, .slice q2 x.cells.length qk2]) rfl (by kernel_rfl) (by kernel_rfl) (by kernel_rfl) (fun _ _ _ h => h) (yields_row Try.underlying36 (by kernel_rfl) (by rfl) _ rfl _ rfl (fun _ h => h.2.1)) hS ?_
          try simp only [Act.put, List.setIfInBounds_toArray, List.set_cons_zero, List.set_cons_succ]
          refine takeL 3 (.slice (some ⟨gl, 0, none⟩) fs.length kl) rfl (by kernel_rfl) (by kernel_rfl) (by kernel_rfl) (fun _ _ _ h => h) (.inl ⟨by rfl, fun w _ => by rfl⟩) hS ?_
          try simp only [Act.put, List.setIfInBounds_toArray, List.set_cons_zero, List.set_cons_succ]
          refine takeL 4 (.int .i64 ((j : Int))) rfl (by kernel_rfl) (by kernel_rfl) (by kernel_rfl) (fun _ _ _ h => h) (.inl ⟨by rfl, fun w _ => by rfl⟩) hS ?_
          try simp only [Act.put, List.setIfInBounds_toArray, List.set_cons_zero, List.set_cons_succ]
          refine takeL 5 (.pointer (some ⟨gl, j * 2, none⟩)) rfl (by kernel_rfl) (by kernel_rfl) (by kernel_rfl) (fun _ _ _ h => h) (.inl ⟨by rfl, fun w hw => by (unfold execOp; go_simp; all_goals omega)⟩) hS ?_
          try simp only [Act.put, List.setIfInBounds_toArray, List.set_cons_zero, List.set_cons_succ]
          refine takeL 6 (.agg #[.int .i64 x1, .int .i64 x2]) rfl (by kernel_rfl) (by kernel_rfl) (by kernel_rfl) (fun _ _ _ h => h) (.inl ⟨by rfl, fun w hw => by (have h0 := hw.2.2.2.2.1; have h1 := hw.2.2.2.2.2; unfold execOp; go_simp)⟩) hS ?_
          try simp only [Act.put, List.setIfInBounds_toArray, List.set_cons_zero, List.set_cons_succ]
          refine nextL 7 rfl (by kernel_rfl) (by rfl) fun K hK => ?_
          go_simp
          refine (cA).mono ?_
          rintro e w41 ⟨rfl, hb⟩
          replace hbd := hbd.trans (hb.mono hbd.size)
          replace hS : (fun w' => Blk 33 w' (w1.heap.size) #[.slice oa d.attrs.length oka, .slice oc d.classes.length okc] ∧ Blk 36 w' (w1.heap.size + 1) #[.slice q1 x.totals.length qk1, .slice q2 x.cells.length qk2] ∧ Blk 38 w' gF #[.int .i64 x1, .int .i64 x2] ∧ Blk 27 w' (gF + 1) #[.int .i64 m1, .int .i64 m2] ∧ w'.cell? ⟨gl, j * 2, none⟩ = some (.int .i64 x1) ∧ w'.cell? ⟨gl, j * 2 + 1, none⟩ = some (.int .i64 x2)) w41 := ⟨hS.1.below hb, hS.2.1.below hb, hS.2.2.1.below hb, hS.2.2.2.1.below hb, (hb.cell (p := ⟨gl, j * 2, none⟩) (World.block_lt_of_cell? _ _ (by rw [hS.2.2.2.2.1]))).trans hS.2.2.2.2.1, (hb.cell (p := ⟨gl, j * 2 + 1, none⟩) (World.block_lt_of_cell? _ _ (by rw [hS.2.2.2.2.2]))).trans hS.2.2.2.2.2⟩
          refine hK _ _ hS ?_
          clear hK K hb
          intro _
          refine nextL 8 rfl (by kernel_rfl) (by rfl) fun K hK => ?_
          go_simp
          refine (cC w41).mono ?_
          rintro e w42 ⟨rfl, hb⟩
          replace hbd := hbd.trans (hb.mono hbd.size)
          replace hS : (fun w' => Blk 33 w' (w1.heap.size) #[.slice oa d.attrs.length oka, .slice oc d.classes.length okc] ∧ Blk 36 w' (w1.heap.size + 1) #[.slice q1 x.totals.length qk1, .slice q2 x.cells.length qk2] ∧ Blk 38 w' gF #[.int .i64 x1, .int .i64 x2] ∧ Blk 27 w' (gF + 1) #[.int .i64 m1, .int .i64 m2] ∧ w'.cell? ⟨gl, j * 2, none⟩ = some (.int .i64 x1) ∧ w'.cell? ⟨gl, j * 2 + 1, none⟩ = some (.int .i64 x2)) w42 := ⟨hS.1.below hb, hS.2.1.below hb, hS.2.2.1.below hb, hS.2.2.2.1.below hb, (hb.cell (p := ⟨gl, j * 2, none⟩) (World.block_lt_of_cell? _ _ (by rw [hS.2.2.2.2.1]))).trans hS.2.2.2.2.1, (hb.cell (p := ⟨gl, j * 2 + 1, none⟩) (World.block_lt_of_cell? _ _ (by rw [hS.2.2.2.2.2]))).trans hS.2.2.2.2.2⟩
          refine hK _ _ hS ?_
          clear hK K hb
          intro _
          refine takeL 9 (.int .i64 z) rfl (by kernel_rfl) (by kernel_rfl) (by kernel_rfl) (fun _ _ _ h => h) (.inl ⟨by rfl, fun w _ => by rfl⟩) hS ?_
          try simp only [Act.put, List.setIfInBounds_toArray, List.set_cons_zero, List.set_cons_succ]
          refine wpAnyH_done (by kernel_rfl) ?_ _
          clear hS cA cC
          rcases HZ with rfl | rfl
          · go_wp2
            go_roundw
            case rel => exact ⟨j + 1, true, by go_num, rfl, by omega, fun _ => rfl, hbd⟩
            case measure => simp [intOf]; omega
          · go_wp2
            go_roundw
            case rel => exact ⟨j + 1, true, by go_num, rfl, by omega, fun _ => rfl, hbd⟩
            case measure => simp [intOf]; omega
        have hij : ¬ i0 = j := fun h => hne (HII.out h)
        go_wp2_with fail
        refine wp_region_held_drew (S := fun w' => Blk 38 w' gF #[.int .i64 b1, .int .i64 b2] ∧ w'.cell? ⟨gl, j * 2, none⟩ = some (.int .i64 x1) ∧ w'.cell? ⟨gl, j * 2 + 1, none⟩ = some (.int .i64 x2)) (by kernel_rfl) ⟨KF, l0, l1⟩ ?_
        intro hS
        clear KS KT KF KM l0 l1 hx he B
        have hbq := hbr.trans (bd.mono hbr.size)
        clear bd hbr HBR
        generalize hwq : wr.drew = wq at hS hbq ⊢
        clear hwq
        refine takeL 0 (.bool false) rfl (by kernel_rfl) (by kernel_rfl) (by kernel_rfl) (fun _ _ _ h => h) (.inl ⟨by rfl, fun w _ => by rfl⟩) hS ?_
        try simp only [Act.put, List.setIfInBounds_toArray, List.set_cons_zero, List.set_cons_succ]
        refine takeL 1 (.bool false) rfl (by kernel_rfl) (by kernel_rfl) (by kernel_rfl) (fun _ _ _ h => h) (.inl ⟨by rfl, fun w _ => by rfl⟩) hS ?_
        try simp only [Act.put, List.setIfInBounds_toArray, List.set_cons_zero, List.set_cons_succ]
        refine takeL 2 (.slice (some ⟨gl, 0, none⟩) fs.length kl) rfl (by kernel_rfl) (by kernel_rfl) (by kernel_rfl) (fun _ _ _ h => h) (.inl ⟨by rfl, fun w _ => by rfl⟩) hS ?_
        try simp only [Act.put, List.setIfInBounds_toArray, List.set_cons_zero, List.set_cons_succ]
        refine takeL 3 (.int .i64 ((j : Int))) rfl (by kernel_rfl) (by kernel_rfl) (by kernel_rfl) (fun _ _ _ h => h) (.inl ⟨by rfl, fun w _ => by rfl⟩) hS ?_
        try simp only [Act.put, List.setIfInBounds_toArray, List.set_cons_zero, List.set_cons_succ]
        refine takeL 4 (.pointer (some ⟨gl, j * 2, none⟩)) rfl (by kernel_rfl) (by kernel_rfl) (by kernel_rfl) (fun _ _ _ h => h) (.inl ⟨by rfl, fun w hw => by (unfold execOp; go_simp; all_goals omega)⟩) hS ?_
        try simp only [Act.put, List.setIfInBounds_toArray, List.set_cons_zero, List.set_cons_succ]
        refine takeL 5 (.agg #[.int .i64 x1, .int .i64 x2]) rfl (by kernel_rfl) (by kernel_rfl) (by kernel_rfl) (fun _ _ _ h => h) (.inl ⟨by rfl, fun w hw => by (have h0 := hw.2.1; have h1 := hw.2.2; unfold execOp; go_simp)⟩) hS ?_
        try simp only [Act.put, List.setIfInBounds_toArray, List.set_cons_zero, List.set_cons_succ]
        refine takeL 6 (.agg #[.int .i64 b1, .int .i64 b2]) rfl (by kernel_rfl) (by kernel_rfl) (by kernel_rfl) (fun _ _ _ h => h) (yields_row Try.underlying38 (by kernel_rfl) (by rfl) _ rfl _ rfl (fun _ h => h.1)) hS ?_
        try simp only [Act.put, List.setIfInBounds_toArray, List.set_cons_zero, List.set_cons_succ]
        refine takeL 7 (.bool false) rfl (by kernel_rfl) (by kernel_rfl) (by kernel_rfl) (fun _ _ _ h => h) (.inl ⟨by rfl, fun w hw => by (unfold execOp; go_simp; all_goals (first | exact (fun h1 h2 => hne ⟨h1, h2⟩) | simp | (simp; exact hne) | (simp; intro h1 h2; exact hne ⟨h1, h2⟩) | (simp; intro h1; exact fun h2 => hne ⟨h1, h2⟩)))⟩) hS ?_
        try simp only [Act.put, List.setIfInBounds_toArray, List.set_cons_zero, List.set_cons_succ]
        refine takeL 8 (.bool false) rfl (by kernel_rfl) (by kernel_rfl) (by kernel_rfl) (fun _ _ _ h => h) (.inl ⟨by rfl, fun w _ => by rfl⟩) hS ?_
        try simp only [Act.put, List.setIfInBounds_toArray, List.set_cons_zero, List.set_cons_succ]
        refine takeL 9 (.bool false) rfl (by kernel_rfl) (by kernel_rfl) (by kernel_rfl) (fun _ _ _ h => h) (.inl ⟨by rfl, fun w _ => by rfl⟩) hS ?_
        try simp only [Act.put, List.setIfInBounds_toArray, List.set_cons_zero, List.set_cons_succ]
        refine wpAnyH_done (by kernel_rfl) ?_ _
        clear hS
        go_wp2_with fail
        have bd2 : Below wq.heap.size wq wq.drew := below_drewN (Below.refl _ _) 1
        have hbd := hbq.trans (bd2.mono hbq.size)
        obtain ⟨⟨KS, KT, KF, KM⟩, hx, he, B⟩ := HB1.out wq.drew hbd
        obtain ⟨l0, l1⟩ := HCJ.out wq.drew hbd
        have cA := implMerit_any _ _ d x ⟨x1, x2⟩ wq.drew hx he HOK.out HOX.out
        rw [HY.out.1, HY.out.2.1] at cA
        have cC := fun W => fracCmpI m1 m2 y1 y2 W
        rw [HY.out.2.2] at cC
        simp only [forkV] at cA
        refine wp_region_held_drew (S := fun w' => Blk 33 w' (w1.heap.size) #[.slice oa d.attrs.length oka, .slice oc d.classes.length okc] ∧ Blk 36 w' (w1.heap.size + 1) #[.slice q1 x.totals.length qk1, .slice q2 x.cells.length qk2] ∧ Blk 38 w' gF #[.int .i64 b1, .int .i64 b2] ∧ Blk 27 w' (gF + 1) #[.int .i64 m1, .int .i64 m2] ∧ w'.cell? ⟨gl, j * 2, none⟩ = some (.int .i64 x1) ∧ w'.cell? ⟨gl, j * 2 + 1, none⟩ = some (.int .i64 x2)) (by kernel_rfl) ⟨KS, KT, KF, KM, l0, l1⟩ ?_
        intro hS
        clear KS KT KF KM l0 l1 hx he B bd2 hbq
        generalize hwq : wq.drew = w40 at hS cA hbd ⊢
        clear hwq
        refine takeL 0 (.agg #[.int .i64 m1, .int .i64 m2]) rfl (by kernel_rfl) (by kernel_rfl) (by kernel_rfl) (fun _ _ _ h => h) (yields_row Try.underlying27 (by kernel_rfl) (by rfl) _ rfl _ rfl (fun _ h => h.2.2.2.1)) hS ?_
        try simp only [Act.put, List.setIfInBounds_toArray, List.set_cons_zero, List.set_cons_succ]
        refine takeL 1 (.agg #[.slice oa d.attrs.length oka, .slice oc d.classes.length okc]) rfl (by kernel_rfl) (by kernel_rfl) (by kernel_rfl) (fun _ _ _ h => h) (yields_row Try.underlying33 (by kernel_rfl) (by rfl) _ rfl _ rfl (fun _ h => h.1)) hS ?_
        try simp only [Act.put, List.setIfInBounds_toArray, List.set_cons_zero, List.set_cons_succ]
        refine takeL 2 (.agg #[.slice q1 x.totals.length qk1, .slice q2 x.cells.length qk2]) rfl (by kernel_rfl) (by kernel_rfl) (by kernel_rfl) (fun _ _ _ h => h) (yields_row Try.underlying36 (by kernel_rfl) (by rfl) _ rfl _ rfl (fun _ h => h.2.1)) hS ?_
        try simp only [Act.put, List.setIfInBounds_toArray, List.set_cons_zero, List.set_cons_succ]
        refine takeL 3 (.slice (some ⟨gl, 0, none⟩) fs.length kl) rfl (by kernel_rfl) (by kernel_rfl) (by kernel_rfl) (fun _ _ _ h => h) (.inl ⟨by rfl, fun w _ => by rfl⟩) hS ?_
        try simp only [Act.put, List.setIfInBounds_toArray, List.set_cons_zero, List.set_cons_succ]
        refine takeL 4 (.int .i64 ((j : Int))) rfl (by kernel_rfl) (by kernel_rfl) (by kernel_rfl) (fun _ _ _ h => h) (.inl ⟨by rfl, fun w _ => by rfl⟩) hS ?_
        try simp only [Act.put, List.setIfInBounds_toArray, List.set_cons_zero, List.set_cons_succ]
        refine takeL 5 (.pointer (some ⟨gl, j * 2, none⟩)) rfl (by kernel_rfl) (by kernel_rfl) (by kernel_rfl) (fun _ _ _ h => h) (.inl ⟨by rfl, fun w hw => by (unfold execOp; go_simp; all_goals omega)⟩) hS ?_
        try simp only [Act.put, List.setIfInBounds_toArray, List.set_cons_zero, List.set_cons_succ]
        refine takeL 6 (.agg #[.int .i64 x1, .int .i64 x2]) rfl (by kernel_rfl) (by kernel_rfl) (by kernel_rfl) (fun _ _ _ h => h) (.inl ⟨by rfl, fun w hw => by (have h0 := hw.2.2.2.2.1; have h1 := hw.2.2.2.2.2; unfold execOp; go_simp)⟩) hS ?_
        try simp only [Act.put, List.setIfInBounds_toArray, List.set_cons_zero, List.set_cons_succ]
        refine nextL 7 rfl (by kernel_rfl) (by rfl) fun K hK => ?_
        go_simp
        refine (cA).mono ?_
        rintro e w41 ⟨rfl, hb⟩
        replace hbd := hbd.trans (hb.mono hbd.size)
        replace hS : (fun w' => Blk 33 w' (w1.heap.size) #[.slice oa d.attrs.length oka, .slice oc d.classes.length okc] ∧ Blk 36 w' (w1.heap.size + 1) #[.slice q1 x.totals.length qk1, .slice q2 x.cells.length qk2] ∧ Blk 38 w' gF #[.int .i64 b1, .int .i64 b2] ∧ Blk 27 w' (gF + 1) #[.int .i64 m1, .int .i64 m2] ∧ w'.cell? ⟨gl, j * 2, none⟩ = some (.int .i64 x1) ∧ w'.cell? ⟨gl, j * 2 + 1, none⟩ = some (.int .i64 x2)) w41 := ⟨hS.1.below hb, hS.2.1.below hb, hS.2.2.1.below hb, hS.2.2.2.1.below hb, (hb.cell (p := ⟨gl, j * 2, none⟩) (World.block_lt_of_cell? _ _ (by rw [hS.2.2.2.2.1]))).trans hS.2.2.2.2.1, (hb.cell (p := ⟨gl, j * 2 + 1, none⟩) (World.block_lt_of_cell? _ _ (by rw [hS.2.2.2.2.2]))).trans hS.2.2.2.2.2⟩
        refine hK _ _ hS ?_
        clear hK K hb
        intro _
        refine nextL 8 rfl (by kernel_rfl) (by rfl) fun K hK => ?_
        go_simp
        refine (cC w41).mono ?_
        rintro e w42 ⟨rfl, hb⟩
        replace hbd := hbd.trans (hb.mono hbd.size)
        replace hS : (fun w' => Blk 33 w' (w1.heap.size) #[.slice oa d.attrs.length oka, .slice oc d.classes.length okc] ∧ Blk 36 w' (w1.heap.size + 1) #[.slice q1 x.totals.length qk1, .slice q2 x.cells.length qk2] ∧ Blk 38 w' gF #[.int .i64 b1, .int .i64 b2] ∧ Blk 27 w' (gF + 1) #[.int .i64 m1, .int .i64 m2] ∧ w'.cell? ⟨gl, j * 2, none⟩ = some (.int .i64 x1) ∧ w'.cell? ⟨gl, j * 2 + 1, none⟩ = some (.int .i64 x2)) w42 := ⟨hS.1.below hb, hS.2.1.below hb, hS.2.2.1.below hb, hS.2.2.2.1.below hb, (hb.cell (p := ⟨gl, j * 2, none⟩) (World.block_lt_of_cell? _ _ (by rw [hS.2.2.2.2.1]))).trans hS.2.2.2.2.1, (hb.cell (p := ⟨gl, j * 2 + 1, none⟩) (World.block_lt_of_cell? _ _ (by rw [hS.2.2.2.2.2]))).trans hS.2.2.2.2.2⟩
        refine hK _ _ hS ?_
        clear hK K hb
        intro _
        refine takeL 9 (.int .i64 z) rfl (by kernel_rfl) (by kernel_rfl) (by kernel_rfl) (fun _ _ _ h => h) (.inl ⟨by rfl, fun w _ => by rfl⟩) hS ?_
        try simp only [Act.put, List.setIfInBounds_toArray, List.set_cons_zero, List.set_cons_succ]
        refine wpAnyH_done (by kernel_rfl) ?_ _
        clear hS cA cC
        rcases HZ with rfl | rfl
        · go_wp2
          go_roundw
          case rel => exact ⟨j + 1, false, by go_num, rfl, by omega, fun h => absurd (show i0 < j by omega) hnb, hbd⟩
          case measure => simp [intOf]; omega
        · go_wp2
          go_roundw
          case rel => exact ⟨j + 1, false, by go_num, rfl, by omega, fun h => absurd (show i0 < j by omega) hnb, hbd⟩
          case measure => simp [intOf]; omega
end Go.Proofs.Yteadkdllmeeocaa
