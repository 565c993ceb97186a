/- Texts of this claim, put together: part 27. -/
import Derived.Test.YtobimpgapfecoaaFnPromisePack22
import Derived.Test.YtobimpgapfecoaaFnPromisePack9
import Derived.Test.YtobimpgapfecoaaFnPromisePack21
import Derived.Test.YtobimpgapfecoaaFnPromisePack26
import Derived.Test.YtobimpgapfecoaaFnPromisePack19
import Derived.Test.YtobimpgapfecoaaFnPromisePack8
import Derived.BigGuardPart
/- Counts without their cells, by the program. -/
namespace Go.Proofs.Ytobimpgapfecoaa
open Go.RowKit
set_option maxRecDepth 100000
set_option linter.unusedSimpArgs false
set_option maxHeartbeats 400000 in
theorem implThin_at (v : Value) (t : StatsD) (w : World) (h : StatsAt w v t) (hn : okSt t) :
    Calls Try.prog 22 #[v] w fun e w' => ∃ v1, e = .returned (.agg #[v1, .slice none 0 0]) ∧ w'.ownsRow (w.heap.size + 2) 3 1 v1 t.totals.length (t.totals.map (Value.int .i64)) ∧ Below w.heap.size w w' := by
  obtain ⟨vt, vc, rfl, ht, -⟩ := h
  have HT : Hid (RowI w vt t.totals) := ht
  have hl := hn.totals
  clear ht hn
  go_enter Try.func22, Try.ntmps22
  go_wp2_with fail
  obtain ⟨K1, K2, B0⟩ := blk_2 31 31 w #[vt, vc] #[.slice none 0 0, .slice none 0 0]
  refine (listCopy_any vt t.totals _ (HT.out.later B0) hl).mono ?_
  rintro e w1 ⟨v1, rfl, ho1, hb1⟩
  replace K2 := K2.below hb1
  have B1 := B0.trans (hb1.mono (by simp; omega))
  have ho1 := own_base ho1 (b' := w.heap.size + 2) (by simp)
  clear K1 hb1 B0 HT
  obtain ⟨o1, k1, rfl⟩ := own_slice ho1
  have HO : Hid (w1.ownsRow (w.heap.size + 2) 3 1 (.slice o1 t.totals.length k1) t.totals.length (t.totals.map (Value.int .i64))) := ho1
  clear ho1
  go_wp2_with (with_reducible refine wp_st_store rfl _ _ rfl ?_; refine ⟨w.heap.size + 1, rfl, _, _, _, _, _, _, rfl, _, _, K2, ?_⟩)
  refine bodyPost_ret (res_st Try.results22 _ _ _ _ _ rfl (K2.setRow _)) rfl ⟨_, rfl, own_setRow HO.out _ _ (by omega), below_row B1 (by omega) _⟩
theorem implThin_any (v : Value) (t : StatsD) (w : World) (h : StatsAt w v t) (hn : okSt t) :
    Calls Try.prog 22 #[v] w fun e w' => ∃ v', e = .returned v' ∧ OwnSt w.heap.size w' v' (thinS t) ∧ Below w.heap.size w w' := by
  refine (implThin_at v t w h hn).mono ?_
  rintro e w' ⟨v1, rfl, ho, hb⟩
  exact ⟨_, rfl, ownSt_thin (own_base ho (by omega)), hb⟩
end Go.Proofs.Ytobimpgapfecoaa
/- For every code the law FnPromise returns true (the walk). -/
namespace Go.Proofs.Ytobimpgapfecoaa
open Go.RowKit
set_option maxRecDepth 100000
set_option linter.unusedSimpArgs false
theorem okThin {x : StatsD} (h : okSt x) : okSt (thinS x) := ⟨h.totals, by simp [thinS], fun c hc => by simp [thinS] at hc⟩
theorem rowT {w : World} {v vc : Value} {x : StatsD} (h : StatsAt w (.agg #[v, vc]) x) : RowI w v x.totals := by
  obtain ⟨a, b, e, h1, -⟩ := h
  cases e
  exact h1
theorem row_cell {w : World} {o : Option Addr} {n c k : Nat} {l : List Int} (h : RowI w (.slice o n c) l) (hk : k < l.length) : ∃ go fo, o = some ⟨go, fo, none⟩ ∧ w.cell? ⟨go, fo + k, none⟩ = some (.int .i64 (l.getD k 0)) := by
  obtain ⟨oa, cap, e, -, hr⟩ := h
  cases e
  obtain ⟨g, f, rfl, -, hj⟩ := hr (by omega)
  exact ⟨g, f, rfl, hj k hk⟩
theorem thin_ok {d : SchemaD} {x : StatsD} (h : statsOk d x = true) : statsOk d (thinS x) = true := by
  obtain ⟨h1, h2, h3, h4⟩ := statsOk_parts h
  unfold statsOk thinS
  simp [h1, h2, h3, h4]
theorem promise_facts {d : SchemaD} {x : StatsD} (h : statsOk d x = true) :
    ∃ k : Nat, topOf x.totals = (k : Int) ∧ k < x.totals.length ∧ promise d x = statsTotal d x - x.totals.getD k 0 ∧ statsPure d x = decide (promise d x = 0) ∧ 0 ≤ x.totals.getD k 0 ∧ x.totals.getD k 0 ≤ 999 ∧ 0 ≤ statsTotal d x ∧ statsTotal d x ≤ 999 ∧ promise d (thinS x) = promise d x := by
  obtain ⟨h1, h2, h3, h4⟩ := statsOk_parts h
  have hc := (sch_classes h1).1
  obtain ⟨t0, t1⟩ := topOf_range (l := x.totals) (by omega)
  obtain ⟨k, hk⟩ := Int.eq_ofNat_of_zero_le t0
  have hkl : k < x.totals.length := by omega
  obtain ⟨a0, a1⟩ := allW_at h3 hkl
  obtain ⟨b0, b1⟩ := total_bounds d x
  refine ⟨k, hk, hkl, ?_, ?_, a0, a1, b0, b1, ?_⟩
  · unfold promise; rw [if_pos h, hk]; rfl
  · unfold statsPure; rw [h]; rfl
  · unfold promise statsTotal; rw [if_pos h, if_pos (thin_ok h), if_pos h, if_pos (thin_ok h)]; rfl
set_option maxHeartbeats 6400000 in
theorem promise_in (a0 : Option Addr) (len0 cap0 : Nat) (z0 : List Int) (w : World) (h0 : IsRow .u8 w a0 len0 cap0 z0) (hlen : len0 ≤ 1048576) :
    Calls Try.prog 5 #[.slice a0 len0 cap0] w fun e w' => e = .returned (.bool true) ∧ Below w.heap.size w w' := by
  have c1 := big_any a0 len0 cap0 w (by omega)
  rw [decide_eq_false (by omega)] at c1
  go_enter Try.func5, Try.ntmps5
  go_wp2_with fail
  refine c1.mono ?_
  clear c1
  rintro e w0 ⟨rfl, e0⟩
  rw [e0]; clear e0 w0
  go_wp2_with fail
  refine (drawPromise_any a0 len0 cap0 z0 w h0 hlen).mono ?_
  clear h0
  rintro e w1 ⟨vs, d, ve, x, rfl, hO, htn, hOT, htx, B⟩
  have HOK : Hid (okSch d) := htn.ok8
  have HOX : Hid (okSt x) := htx.ok (by omega)
  have hx := hO.at
  have he := hOT.at
  obtain ⟨y1, y2, rfl, rr1, rr2⟩ := id hx
  obtain ⟨oa, oka, rfl, -, -⟩ := id rr1
  obtain ⟨oc, okc, rfl, -, -⟩ := id rr2
  clear rr1 rr2
  obtain ⟨q1, qk1, q2, qk2, rfl⟩ := hOT.form
  clear hO htn hOT htx
  obtain ⟨KS, KT, BN⟩ := blk_2 27 31 w1 #[.slice none 0 0, .slice none 0 0] #[.slice none 0 0, .slice none 0 0]
  have ZS := KS
  replace KS := KS.setRow #[.slice oa d.attrs.length oka, .slice oc d.classes.length okc]
  replace KT := Blk.setRow_other KT #[.slice oa d.attrs.length oka, .slice oc d.classes.length okc] (show w1.heap.size + 1 ≠ w1.heap.size by omega)
  have ZT := KT
  replace KS := Blk.setRow_other KS #[.slice q1 x.totals.length qk1, .slice q2 x.cells.length qk2] (show w1.heap.size ≠ w1.heap.size + 1 by omega)
  replace KT := KT.setRow #[.slice q1 x.totals.length qk1, .slice q2 x.cells.length qk2]
  have BM : Below w1.heap.size w1 ((((w1.alloc (.cells #[.slice none 0 0, .slice none 0 0] 27)).alloc (.cells #[.slice none 0 0, .slice none 0 0] 31)).setRow w1.heap.size #[.slice oa d.attrs.length oka, .slice oc d.classes.length okc]).setRow (w1.heap.size + 1) #[.slice q1 x.totals.length qk1, .slice q2 x.cells.length qk2]) := (below_row (below_row BN (by omega) #[.slice oa d.attrs.length oka, .slice oc d.classes.length okc]) (by omega) #[.slice q1 x.totals.length qk1, .slice q2 x.cells.length qk2])
  replace hx := hx.later BM
  replace he := he.later BM
  replace B := B.trans (BM.mono B.size)
  clear BM BN
  have kS0 : ((((w1.alloc (.cells #[.slice none 0 0, .slice none 0 0] 27)).alloc (.cells #[.slice none 0 0, .slice none 0 0] 31)).setRow w1.heap.size #[.slice oa d.attrs.length oka, .slice oc d.classes.length okc]).setRow (w1.heap.size + 1) #[.slice q1 x.totals.length qk1, .slice q2 x.cells.length qk2]).cell? ⟨w1.heap.size, 0, none⟩ = some (.slice oa d.attrs.length oka) := KS.cell 0
  have kS1 : ((((w1.alloc (.cells #[.slice none 0 0, .slice none 0 0] 27)).alloc (.cells #[.slice none 0 0, .slice none 0 0] 31)).setRow w1.heap.size #[.slice oa d.attrs.length oka, .slice oc d.classes.length okc]).setRow (w1.heap.size + 1) #[.slice q1 x.totals.length qk1, .slice q2 x.cells.length qk2]).cell? ⟨w1.heap.size, 1, none⟩ = some (.slice oc d.classes.length okc) := KS.cell 1
  have kT0 : ((((w1.alloc (.cells #[.slice none 0 0, .slice none 0 0] 27)).alloc (.cells #[.slice none 0 0, .slice none 0 0] 31)).setRow w1.heap.size #[.slice oa d.attrs.length oka, .slice oc d.classes.length okc]).setRow (w1.heap.size + 1) #[.slice q1 x.totals.length qk1, .slice q2 x.cells.length qk2]).cell? ⟨w1.heap.size + 1, 0, none⟩ = some (.slice q1 x.totals.length qk1) := KT.cell 0
  have kT1 : ((((w1.alloc (.cells #[.slice none 0 0, .slice none 0 0] 27)).alloc (.cells #[.slice none 0 0, .slice none 0 0] 31)).setRow w1.heap.size #[.slice oa d.attrs.length oka, .slice oc d.classes.length okc]).setRow (w1.heap.size + 1) #[.slice q1 x.totals.length qk1, .slice q2 x.cells.length qk2]).cell? ⟨w1.heap.size + 1, 1, none⟩ = some (.slice q2 x.cells.length qk2) := KT.cell 1
  go_wp2_with (first | (with_reducible refine wp_sc_store rfl _ _ rfl ?_; refine ⟨_, rfl, _, _, _, _, _, _, rfl, _, _, ZS, ?_⟩) | (with_reducible refine wp_st_store rfl _ _ rfl ?_; refine ⟨_, rfl, _, _, _, _, _, _, rfl, _, _, ZT, ?_⟩))
  clear kS0 kS1 kT0 kT1
  clear ZS ZT
  generalize ((((w1.alloc (.cells #[.slice none 0 0, .slice none 0 0] 27)).alloc (.cells #[.slice none 0 0, .slice none 0 0] 31)).setRow w1.heap.size #[.slice oa d.attrs.length oka, .slice oc d.classes.length okc]).setRow (w1.heap.size + 1) #[.slice q1 x.totals.length qk1, .slice q2 x.cells.length qk2]) = w2 at hx he B KS KT ⊢
  have cO := specStatsOk_any _ _ d x w2 hx he HOK.out HOX.out
  cases hk : statsOk d x with
  | false =>
    rw [hk] at cO
    have hp0 : promise d x = 0 := by unfold promise; rw [hk]; rfl
    have hq0 : statsPure d x = false := by unfold statsPure; rw [hk]; rfl
    clear hk
    refine cO.mono ?_
    clear cO
    rintro e w90 ⟨rfl, hb⟩
    replace hx := hx.later hb
    replace he := he.later hb
    replace B := B.trans (hb.mono B.size)
    replace KS := KS.below hb
    replace KT := KT.below hb
    clear hb
    have cc := implPromise_any _ _ d x w90 hx he HOK.out HOX.out
    have kS0 : w90.cell? ⟨w1.heap.size, 0, none⟩ = some (.slice oa d.attrs.length oka) := KS.cell 0
    have kS1 : w90.cell? ⟨w1.heap.size, 1, none⟩ = some (.slice oc d.classes.length okc) := KS.cell 1
    have kT0 : w90.cell? ⟨w1.heap.size + 1, 0, none⟩ = some (.slice q1 x.totals.length qk1) := KT.cell 0
    have kT1 : w90.cell? ⟨w1.heap.size + 1, 1, none⟩ = some (.slice q2 x.cells.length qk2) := KT.cell 1
    go_wp2_with fail
    refine cc.mono ?_
    clear cc
    clear kS0 kS1 kT0 kT1
    rintro e w3 ⟨rfl, hb⟩
    replace hx := hx.later hb
    replace he := he.later hb
    replace B := B.trans (hb.mono B.size)
    replace KS := KS.below hb
    replace KT := KT.below hb
    clear hb
    rw [hp0]
    have cc := implPure_any _ _ d x w3 hx he HOK.out HOX.out
    have kS0 : w3.cell? ⟨w1.heap.size, 0, none⟩ = some (.slice oa d.attrs.length oka) := KS.cell 0
    have kS1 : w3.cell? ⟨w1.heap.size, 1, none⟩ = some (.slice oc d.classes.length okc) := KS.cell 1
    have kT0 : w3.cell? ⟨w1.heap.size + 1, 0, none⟩ = some (.slice q1 x.totals.length qk1) := KT.cell 0
    have kT1 : w3.cell? ⟨w1.heap.size + 1, 1, none⟩ = some (.slice q2 x.cells.length qk2) := KT.cell 1
    go_wp2_with fail
    refine cc.mono ?_
    clear cc
    clear kS0 kS1 kT0 kT1
    rintro e w4 ⟨rfl, hb⟩
    replace hx := hx.later hb
    replace he := he.later hb
    replace B := B.trans (hb.mono B.size)
    replace KS := KS.below hb
    replace KT := KT.below hb
    clear hb
    rw [hq0]
    go_wp2
    go_ret
    exact ⟨rfl, B⟩
  | true =>
    rw [hk] at cO
    have HF : Hid _ := promise_facts hk
    clear hk
    refine cO.mono ?_
    clear cO
    rintro e w91 ⟨rfl, hb⟩
    replace hx := hx.later hb
    replace he := he.later hb
    replace B := B.trans (hb.mono B.size)
    replace KS := KS.below hb
    replace KT := KT.below hb
    clear hb
    have cc := implPromise_any _ _ d x w91 hx he HOK.out HOX.out
    have kS0 : w91.cell? ⟨w1.heap.size, 0, none⟩ = some (.slice oa d.attrs.length oka) := KS.cell 0
    have kS1 : w91.cell? ⟨w1.heap.size, 1, none⟩ = some (.slice oc d.classes.length okc) := KS.cell 1
    have kT0 : w91.cell? ⟨w1.heap.size + 1, 0, none⟩ = some (.slice q1 x.totals.length qk1) := KT.cell 0
    have kT1 : w91.cell? ⟨w1.heap.size + 1, 1, none⟩ = some (.slice q2 x.cells.length qk2) := KT.cell 1
    go_wp2_with fail
    refine cc.mono ?_
    clear cc
    clear kS0 kS1 kT0 kT1
    rintro e w3 ⟨rfl, hb⟩
    replace hx := hx.later hb
    replace he := he.later hb
    replace B := B.trans (hb.mono B.size)
    replace KS := KS.below hb
    replace KT := KT.below hb
    clear hb
    have cc := implTop_any (.slice q1 x.totals.length qk1) x.totals w3 (rowT he) HOX.out.totals
    have kT0 : w3.cell? ⟨w1.heap.size + 1, 0, none⟩ = some (.slice q1 x.totals.length qk1) := KT.cell 0
    have kT1 : w3.cell? ⟨w1.heap.size + 1, 1, none⟩ = some (.slice q2 x.cells.length qk2) := KT.cell 1
    go_wp2_with fail
    refine cc.mono ?_
    clear cc
    clear kT0 kT1
    rintro e w4 ⟨rfl, hb⟩
    replace hx := hx.later hb
    replace he := he.later hb
    replace B := B.trans (hb.mono B.size)
    replace KS := KS.below hb
    replace KT := KT.below hb
    clear hb
    obtain ⟨k, hk, hkl, hP, hQ, hy0, hy1, hT0, hT1, hTh⟩ := HF.out
    clear HF
    rw [hk]
    obtain ⟨go, fo, rfl, hcell⟩ : ∃ go fo, q1 = some ⟨go, fo, none⟩ ∧ w4.cell? ⟨go, fo + k, none⟩ = some (.int .i64 (x.totals.getD k 0)) := row_cell (rowT he) hkl
    have HCT : Hid (∀ w', Below w4.heap.size w4 w' → w'.cell? ⟨go, fo + k, none⟩ = some (.int .i64 (x.totals.getD k 0))) := fun w' h => (h.cell (p := ⟨go, fo + k, none⟩) (World.block_lt_of_cell? w4 _ (by rw [hcell]))).trans hcell
    clear hk hcell
    generalize x.totals.getD k 0 = y at hP hy0 hy1 HCT
    generalize hTT : statsTotal d x = TT at hP hT0 hT1
    generalize hPP : promise d x = PP at hP hQ hTh ⊢
    generalize hBB : statsPure d x = BB at hQ
    have HTT : Hid (statsTotal d x = TT) := hTT
    have HPP : Hid (promise d (thinS x) = PP) := hTh
    have HBB : Hid (statsPure d x = BB) := hBB
    have HP : Hid (PP = TT - y) := hP
    have HQ : Hid (BB = decide (PP = 0)) := hQ
    clear hTT hTh hBB hPP hP hQ
    go_wp2_with fail
    have bd : Below w4.heap.size w4 w4.drew := below_drewN (Below.refl _ _) 1
    refine wp_region_held_drew (S := fun w' => Blk 27 w' (w1.heap.size) #[.slice oa d.attrs.length oka, .slice oc d.classes.length okc] ∧ Blk 31 w' (w1.heap.size + 1) #[.slice (some ⟨go, fo, none⟩) x.totals.length qk1, .slice q2 x.cells.length qk2] ∧ w'.cell? ⟨go, fo + k, none⟩ = some (.int .i64 y)) (by kernel_rfl) ⟨KS.below bd, KT.below bd, HCT.out _ bd⟩ ?_
    intro hS
    have HW : Hid (Below w4.heap.size w4 w4.drew) := bd
    replace hx := hx.later bd
    replace he := he.later bd
    replace B := B.trans (bd.mono B.size)
    replace KS := KS.below bd
    replace KT := KT.below bd
    clear bd
    generalize w4.drew = w5 at hx he B KS KT HW hS ⊢
    refine takeL 0 (.int .i64 (k : Int)) rfl (by kernel_rfl) (by kernel_rfl) (by kernel_rfl) (fun _ _ _ h => h) (.inl ⟨by rfl, fun w _ => by rfl⟩) hS ?_
    try simp only [Act.put, List.setIfInBounds_toArray, List.set_cons_zero, List.set_cons_succ]
    refine takeL 1 (.bool true) rfl (by kernel_rfl) (by kernel_rfl) (by kernel_rfl) (fun _ _ _ h => h) (.inl ⟨by rfl, fun w hw => by (unfold execOp; go_simp; all_goals omega)⟩) hS ?_
    try simp only [Act.put, List.setIfInBounds_toArray, List.set_cons_zero, List.set_cons_succ]
    refine takeL 2 (.bool true) rfl (by kernel_rfl) (by kernel_rfl) (by kernel_rfl) (fun _ _ _ h => h) (.inl ⟨by rfl, fun w _ => by rfl⟩) hS ?_
    try simp only [Act.put, List.setIfInBounds_toArray, List.set_cons_zero, List.set_cons_succ]
    refine takeL 3 (.int .i64 (k : Int)) rfl (by kernel_rfl) (by kernel_rfl) (by kernel_rfl) (fun _ _ _ h => h) (.inl ⟨by rfl, fun w _ => by rfl⟩) hS ?_
    try simp only [Act.put, List.setIfInBounds_toArray, List.set_cons_zero, List.set_cons_succ]
    refine takeL 4 (.pointer (some ⟨w1.heap.size + 1, 0, none⟩)) rfl (by kernel_rfl) (by kernel_rfl) (by kernel_rfl) (fun _ _ _ h => h) (.inl ⟨by rfl, fun w hw => by (unfold execOp; go_simp)⟩) hS ?_
    try simp only [Act.put, List.setIfInBounds_toArray, List.set_cons_zero, List.set_cons_succ]
    refine takeL 5 (.slice (some ⟨go, fo, none⟩) x.totals.length qk1) rfl (by kernel_rfl) (by kernel_rfl) (by kernel_rfl) (fun _ _ _ h => h) (.inl ⟨by rfl, fun w hw => by (have h := hw.2.1.cell 0; unfold execOp; go_simp)⟩) hS ?_
    try simp only [Act.put, List.setIfInBounds_toArray, List.set_cons_zero, List.set_cons_succ]
    refine takeL 6 (.int .i64 x.totals.length) rfl (by kernel_rfl) (by kernel_rfl) (by kernel_rfl) (fun _ _ _ h => h) (.inl ⟨by rfl, fun w hw => by (unfold execOp; go_simp)⟩) hS ?_
    try simp only [Act.put, List.setIfInBounds_toArray, List.set_cons_zero, List.set_cons_succ]
    refine takeL 7 (.bool true) rfl (by kernel_rfl) (by kernel_rfl) (by kernel_rfl) (fun _ _ _ h => h) (.inl ⟨by rfl, fun w hw => by (unfold execOp; go_simp; all_goals omega)⟩) hS ?_
    try simp only [Act.put, List.setIfInBounds_toArray, List.set_cons_zero, List.set_cons_succ]
    refine takeL 8 (.bool true) rfl (by kernel_rfl) (by kernel_rfl) (by kernel_rfl) (fun _ _ _ h => h) (.inl ⟨by rfl, fun w _ => by rfl⟩) hS ?_
    try simp only [Act.put, List.setIfInBounds_toArray, List.set_cons_zero, List.set_cons_succ]
    refine takeL 9 (.bool true) rfl (by kernel_rfl) (by kernel_rfl) (by kernel_rfl) (fun _ _ _ h => h) (.inl ⟨by rfl, fun w _ => by rfl⟩) hS ?_
    try simp only [Act.put, List.setIfInBounds_toArray, List.set_cons_zero, List.set_cons_succ]
    refine takeL 10 (.int .i64 PP) rfl (by kernel_rfl) (by kernel_rfl) (by kernel_rfl) (fun _ _ _ h => h) (.inl ⟨by rfl, fun w _ => by rfl⟩) hS ?_
    try simp only [Act.put, List.setIfInBounds_toArray, List.set_cons_zero, List.set_cons_succ]
    refine takeL 11 (.agg #[.slice oa d.attrs.length oka, .slice oc d.classes.length okc]) rfl (by kernel_rfl) (by kernel_rfl) (by kernel_rfl) (fun _ _ _ h => h) (yields_row Try.underlying27 (by kernel_rfl) (by rfl) _ rfl _ rfl (fun _ h => h.1)) hS ?_
    try simp only [Act.put, List.setIfInBounds_toArray, List.set_cons_zero, List.set_cons_succ]
    refine takeL 12 (.agg #[.slice (some ⟨go, fo, none⟩) x.totals.length qk1, .slice q2 x.cells.length qk2]) rfl (by kernel_rfl) (by kernel_rfl) (by kernel_rfl) (fun _ _ _ h => h) (yields_row Try.underlying31 (by kernel_rfl) (by rfl) _ rfl _ rfl (fun _ h => h.2.1)) hS ?_
    try simp only [Act.put, List.setIfInBounds_toArray, List.set_cons_zero, List.set_cons_succ]
    refine takeL 14 (.pointer (some ⟨w1.heap.size + 1, 0, none⟩)) rfl (by kernel_rfl) (by kernel_rfl) (by kernel_rfl) (fun _ _ _ h => h) (.inl ⟨by rfl, fun w hw => by (unfold execOp; go_simp)⟩) hS ?_
    try simp only [Act.put, List.setIfInBounds_toArray, List.set_cons_zero, List.set_cons_succ]
    refine takeL 15 (.slice (some ⟨go, fo, none⟩) x.totals.length qk1) rfl (by kernel_rfl) (by kernel_rfl) (by kernel_rfl) (fun _ _ _ h => h) (.inl ⟨by rfl, fun w hw => by (have h := hw.2.1.cell 0; unfold execOp; go_simp)⟩) hS ?_
    try simp only [Act.put, List.setIfInBounds_toArray, List.set_cons_zero, List.set_cons_succ]
    refine takeL 16 (.int .i64 (k : Int)) rfl (by kernel_rfl) (by kernel_rfl) (by kernel_rfl) (fun _ _ _ h => h) (.inl ⟨by rfl, fun w _ => by rfl⟩) hS ?_
    try simp only [Act.put, List.setIfInBounds_toArray, List.set_cons_zero, List.set_cons_succ]
    refine takeL 17 (.pointer (some ⟨go, fo + k, none⟩)) rfl (by kernel_rfl) (by kernel_rfl) (by kernel_rfl) (fun _ _ _ h => h) (.inl ⟨by rfl, fun w hw => by (unfold execOp; go_simp; all_goals omega)⟩) hS ?_
    try simp only [Act.put, List.setIfInBounds_toArray, List.set_cons_zero, List.set_cons_succ]
    refine takeL 18 (.int .i64 y) rfl (by kernel_rfl) (by kernel_rfl) (by kernel_rfl) (fun _ _ _ h => h) (.inl ⟨by rfl, fun w hw => by (have h := hw.2.2; unfold execOp; go_simp)⟩) hS ?_
    try simp only [Act.put, List.setIfInBounds_toArray, List.set_cons_zero, List.set_cons_succ]
    refine nextL 13 rfl (by kernel_rfl) (by rfl) fun K hK => ?_
    have dd := implTotal_any (.agg #[.slice oa d.attrs.length oka, .slice oc d.classes.length okc]) (.agg #[.slice (some ⟨go, fo, none⟩) x.totals.length qk1, .slice q2 x.cells.length qk2]) d x w5 hx he HOK.out HOX.out
    go_simp
    refine dd.mono ?_
    rintro e w6 ⟨rfl, hb⟩
    have HW2 : Hid (Below w4.heap.size w4 w6) := HW.out.trans (hb.mono HW.out.size)
    clear HW
    replace hx := hx.later hb
    replace he := he.later hb
    replace B := B.trans (hb.mono B.size)
    replace KS := KS.below hb
    replace KT := KT.below hb
    have HW : Hid (Below w4.heap.size w4 w6) := HW2.out
    clear HW2
    replace hS := And.intro KS (And.intro KT (HCT.out _ HW.out))
    refine hK _ _ hS ?_
    clear hK K dd
    intro hS
    rw [HTT.out]
    refine takeL 19 (.int .i64 PP) rfl (by kernel_rfl) (by kernel_rfl) (by kernel_rfl) (fun _ _ _ h => h) (.inl ⟨by rfl, fun w hw => by (unfold execOp; go_simp; all_goals (rw [HP.out]; first | done | (rw [IntKind.wrap_i64]; omega)))⟩) hS ?_
    try simp only [Act.put, List.setIfInBounds_toArray, List.set_cons_zero, List.set_cons_succ]
    refine takeL 20 (.bool true) rfl (by kernel_rfl) (by kernel_rfl) (by kernel_rfl) (fun _ _ _ h => h) (.inl ⟨by rfl, fun w hw => by (unfold execOp; go_simp; all_goals omega)⟩) hS ?_
    try simp only [Act.put, List.setIfInBounds_toArray, List.set_cons_zero, List.set_cons_succ]
    refine takeL 21 (.bool true) rfl (by kernel_rfl) (by kernel_rfl) (by kernel_rfl) (fun _ _ _ h => h) (.inl ⟨by rfl, fun w _ => by rfl⟩) hS ?_
    try simp only [Act.put, List.setIfInBounds_toArray, List.set_cons_zero, List.set_cons_succ]
    refine takeL 22 (.bool true) rfl (by kernel_rfl) (by kernel_rfl) (by kernel_rfl) (fun _ _ _ h => h) (.inl ⟨by rfl, fun w _ => by rfl⟩) hS ?_
    try simp only [Act.put, List.setIfInBounds_toArray, List.set_cons_zero, List.set_cons_succ]
    refine takeL 23 (.agg #[.slice oa d.attrs.length oka, .slice oc d.classes.length okc]) rfl (by kernel_rfl) (by kernel_rfl) (by kernel_rfl) (fun _ _ _ h => h) (yields_row Try.underlying27 (by kernel_rfl) (by rfl) _ rfl _ rfl (fun _ h => h.1)) hS ?_
    try simp only [Act.put, List.setIfInBounds_toArray, List.set_cons_zero, List.set_cons_succ]
    refine takeL 24 (.agg #[.slice (some ⟨go, fo, none⟩) x.totals.length qk1, .slice q2 x.cells.length qk2]) rfl (by kernel_rfl) (by kernel_rfl) (by kernel_rfl) (fun _ _ _ h => h) (yields_row Try.underlying31 (by kernel_rfl) (by rfl) _ rfl _ rfl (fun _ h => h.2.1)) hS ?_
    try simp only [Act.put, List.setIfInBounds_toArray, List.set_cons_zero, List.set_cons_succ]
    refine takeL 26 (.int .i64 PP) rfl (by kernel_rfl) (by kernel_rfl) (by kernel_rfl) (fun _ _ _ h => h) (.inl ⟨by rfl, fun w _ => by rfl⟩) hS ?_
    try simp only [Act.put, List.setIfInBounds_toArray, List.set_cons_zero, List.set_cons_succ]
    refine takeL 27 (.bool (decide (PP = 0))) rfl (by kernel_rfl) (by kernel_rfl) (by kernel_rfl) (fun _ _ _ h => h) (.inl ⟨by rfl, fun w hw => by (unfold execOp; go_simp; all_goals rfl)⟩) hS ?_
    try simp only [Act.put, List.setIfInBounds_toArray, List.set_cons_zero, List.set_cons_succ]
    refine nextL 25 rfl (by kernel_rfl) (by rfl) fun K hK => ?_
    have dd := implPure_any (.agg #[.slice oa d.attrs.length oka, .slice oc d.classes.length okc]) (.agg #[.slice (some ⟨go, fo, none⟩) x.totals.length qk1, .slice q2 x.cells.length qk2]) d x w6 hx he HOK.out HOX.out
    go_simp
    refine dd.mono ?_
    rintro e w7 ⟨rfl, hb⟩
    have HW2 : Hid (Below w4.heap.size w4 w7) := HW.out.trans (hb.mono HW.out.size)
    clear HW
    replace hx := hx.later hb
    replace he := he.later hb
    replace B := B.trans (hb.mono B.size)
    replace KS := KS.below hb
    replace KT := KT.below hb
    have HW : Hid (Below w4.heap.size w4 w7) := HW2.out
    clear HW2
    replace hS := And.intro KS (And.intro KT (HCT.out _ HW.out))
    refine hK _ _ hS ?_
    clear hK K dd
    intro hS
    rw [HBB.out, HQ.out]
    refine takeL 28 (.bool true) rfl (by kernel_rfl) (by kernel_rfl) (by kernel_rfl) (fun _ _ _ h => h) (.inl ⟨by rfl, fun w hw => by (unfold execOp; go_simp)⟩) hS ?_
    try simp only [Act.put, List.setIfInBounds_toArray, List.set_cons_zero, List.set_cons_succ]
    refine takeL 29 (.bool true) rfl (by kernel_rfl) (by kernel_rfl) (by kernel_rfl) (fun _ _ _ h => h) (.inl ⟨by rfl, fun w _ => by rfl⟩) hS ?_
    try simp only [Act.put, List.setIfInBounds_toArray, List.set_cons_zero, List.set_cons_succ]
    refine takeL 30 (.bool true) rfl (by kernel_rfl) (by kernel_rfl) (by kernel_rfl) (fun _ _ _ h => h) (.inl ⟨by rfl, fun w _ => by rfl⟩) hS ?_
    try simp only [Act.put, List.setIfInBounds_toArray, List.set_cons_zero, List.set_cons_succ]
    refine takeL 31 (.agg #[.slice oa d.attrs.length oka, .slice oc d.classes.length okc]) rfl (by kernel_rfl) (by kernel_rfl) (by kernel_rfl) (fun _ _ _ h => h) (yields_row Try.underlying27 (by kernel_rfl) (by rfl) _ rfl _ rfl (fun _ h => h.1)) hS ?_
    try simp only [Act.put, List.setIfInBounds_toArray, List.set_cons_zero, List.set_cons_succ]
    refine takeL 32 (.agg #[.slice (some ⟨go, fo, none⟩) x.totals.length qk1, .slice q2 x.cells.length qk2]) rfl (by kernel_rfl) (by kernel_rfl) (by kernel_rfl) (fun _ _ _ h => h) (yields_row Try.underlying31 (by kernel_rfl) (by rfl) _ rfl _ rfl (fun _ h => h.2.1)) hS ?_
    try simp only [Act.put, List.setIfInBounds_toArray, List.set_cons_zero, List.set_cons_succ]
    refine takeL 35 (.int .i64 PP) rfl (by kernel_rfl) (by kernel_rfl) (by kernel_rfl) (fun _ _ _ h => h) (.inl ⟨by rfl, fun w _ => by rfl⟩) hS ?_
    try simp only [Act.put, List.setIfInBounds_toArray, List.set_cons_zero, List.set_cons_succ]
    refine nextL 33 rfl (by kernel_rfl) (by rfl) fun K hK => ?_
    have dd := implThin_any (.agg #[.slice (some ⟨go, fo, none⟩) x.totals.length qk1, .slice q2 x.cells.length qk2]) x w7 he HOX.out
    go_simp
    refine dd.mono ?_
    rintro e w8 ⟨vt, rfl, hOt, hb⟩
    have HW2 : Hid (Below w4.heap.size w4 w8) := HW.out.trans (hb.mono HW.out.size)
    clear HW
    replace hx := hx.later hb
    replace he := he.later hb
    replace B := B.trans (hb.mono B.size)
    replace KS := KS.below hb
    replace KT := KT.below hb
    have HW : Hid (Below w4.heap.size w4 w8) := HW2.out
    clear HW2
    replace hS := And.intro KS (And.intro KT (HCT.out _ HW.out))
    refine hK _ _ hS ?_
    clear hK K dd
    intro hS
    refine nextL 34 rfl (by kernel_rfl) (by rfl) fun K hK => ?_
    have dd := implPromise_any (.agg #[.slice oa d.attrs.length oka, .slice oc d.classes.length okc]) vt d (thinS x) w8 hx hOt.at HOK.out (okThin HOX.out)
    go_simp
    refine dd.mono ?_
    rintro e w9 ⟨rfl, hb⟩
    have HW2 : Hid (Below w4.heap.size w4 w9) := HW.out.trans (hb.mono HW.out.size)
    clear HW
    replace hx := hx.later hb
    replace he := he.later hb
    replace B := B.trans (hb.mono B.size)
    replace KS := KS.below hb
    replace KT := KT.below hb
    have HW : Hid (Below w4.heap.size w4 w9) := HW2.out
    clear HW2
    replace hS := And.intro KS (And.intro KT (HCT.out _ HW.out))
    refine hK _ _ hS ?_
    clear hK K dd
    intro hS
    rw [HPP.out]
    refine takeL 36 (.bool true) rfl (by kernel_rfl) (by kernel_rfl) (by kernel_rfl) (fun _ _ _ h => h) (.inl ⟨by rfl, fun w hw => by (unfold execOp; go_simp)⟩) hS ?_
    try simp only [Act.put, List.setIfInBounds_toArray, List.set_cons_zero, List.set_cons_succ]
    refine takeL 37 (.bool true) rfl (by kernel_rfl) (by kernel_rfl) (by kernel_rfl) (fun _ _ _ h => h) (.inl ⟨by rfl, fun w _ => by rfl⟩) hS ?_
    try simp only [Act.put, List.setIfInBounds_toArray, List.set_cons_zero, List.set_cons_succ]
    refine takeL 38 (.bool true) rfl (by kernel_rfl) (by kernel_rfl) (by kernel_rfl) (fun _ _ _ h => h) (.inl ⟨by rfl, fun w _ => by rfl⟩) hS ?_
    try simp only [Act.put, List.setIfInBounds_toArray, List.set_cons_zero, List.set_cons_succ]
    refine wpAnyH_done (by kernel_rfl) ?_ _
    go_wp2
    go_ret
    exact ⟨rfl, B⟩
end Go.Proofs.Ytobimpgapfecoaa
