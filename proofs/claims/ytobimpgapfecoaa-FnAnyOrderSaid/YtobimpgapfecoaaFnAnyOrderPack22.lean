/- Texts of this claim, put together: part 22. -/
import Derived.Test.YtobimpgapfecoaaFnAnyOrderPack21
import Derived.Test.YtobimpgapfecoaaFnAnyOrderPack17
import Derived.Test.YtobimpgapfecoaaFnAnyOrderPack10
import Derived.Test.YtobimpgapfecoaaFnAnyOrderPack5
import Derived.Test.YtobimpgapfecoaaRows
import Derived.WalkKit
import Derived.ProofKit
import Derived.OpenShut
/- What the laws on examples draw: DrawExOk. -/
namespace Go.Proofs.Ytobimpgapfecoaa
open Go.RowKit
set_option maxRecDepth 100000
set_option linter.unusedSimpArgs false
set_option maxHeartbeats 3200000 in
theorem drawExOk_any (a : Option Addr) (len cap : Nat) (zs : List Int) (w : World) (hr : IsRow .u8 w a len cap zs) (hn : len ≤ 1048576) :
    Calls Try.prog 47 #[.slice a len cap] w fun e w' => ∃ vs d ve x, e = .returned (.tuple #[vs, ve]) ∧ OwnS w.heap.size w' vs d ∧ tinyS d ∧ OwnE w.heap.size w' ve x ∧ x.bins.length ≤ 7 ∧ Below w.heap.size w w' := by
  obtain ⟨R1, Q1, B1⟩ := blk_2 27 33 w #[.slice none 0 0, .slice none 0 0] #[.slice none 0 0, .int .i64 0]
  have e1 := l1New_any a len cap zs ((w.alloc (.cells #[.slice none 0 0, .slice none 0 0] 27)).alloc (.cells #[.slice none 0 0, .int .i64 0] 33)) (hr.later B1) hn
  have HR1 := hr.later B1
  rw [show ((w.alloc (.cells #[.slice none 0 0, .slice none 0 0] 27)).alloc (.cells #[.slice none 0 0, .int .i64 0] 33)).heap.size = w.heap.size + 2 by simp] at e1
  clear hr
  go_enter Try.func47, Try.ntmps47
  go_wp2_with fail
  refine e1.mono ?_
  clear e1
  rintro e w2 ⟨rfl, c2, hb2, -⟩
  have hr2 := HR1.later (hb2.mono (by simp))
  have R2 := R1.below (hb2.mono (by simp))
  have Q2 := Q1.below (hb2.mono (by simp))
  have B2 : Below w.heap.size w w2 := B1.trans (hb2.mono (by omega))
  have hg2 := c2.lt
  clear HR1 R1 Q1 B1 hb2
  go_wp2_with fail
  refine (draw5_any (w.heap.size + 2) a len cap zs w2 c2 hr2).mono ?_
  rintro e w3 ⟨v, d, rfl, os, htn, c3, h3⟩
  have R3 := R2.kept h3 (by intro e; injection e; omega)
  have Q3 := Q2.kept h3 (by intro e; injection e; omega)
  have B3 : Below w.heap.size w w3 := B2.grown h3 B2.size (fun k hk => by injection hk; omega)
  have hr3 := hr2.aside c2 h3
  have HTN : Hid (tinyS d) := htn
  clear h3 c2 R2 Q2 B2 hr2 htn
  obtain ⟨y1, y2, rfl, rr1, rr2⟩ := id os.at
  obtain ⟨oa, ka, rfl, -, -⟩ := id rr1
  obtain ⟨oc, kc, rfl, -, -⟩ := id rr2
  clear rr1 rr2
  obtain ⟨P3, BP⟩ := blk_1 27 w3 #[.slice oa d.attrs.length ka, .slice oc d.classes.length kc]
  have R4 := R3.below BP
  have Q4 := Q3.below BP
  have os4 := os.below7 BP
  have c4 := c3.kept (grown_of_below BP none) (by intro e; cases e)
  have hr4 := hr3.later BP
  have B4 := B3.trans (BP.mono B3.size)
  have hp : w.heap.size + 2 < w3.heap.size := by have := c3.lt; omega
  clear R3 Q3 os c3 hr3 B3 BP
  go_wp2_with fail
  refine wp_region_held_drew (S := fun w' => Blk 27 w' w3.heap.size #[.slice oa d.attrs.length ka, .slice oc d.classes.length kc] ∧ (∃ c0 c1, Blk 27 w' w.heap.size #[c0, c1]) ∧ ∃ c0 c1, Blk 33 w' (w.heap.size + 1) #[c0, c1]) (by kernel_rfl) ⟨P3, ⟨_, _, R4⟩, _, _, Q4⟩ ?_
  intro hS
  have R5 : Blk 27 (w3.alloc (.cells #[.slice oa d.attrs.length ka, .slice oc d.classes.length kc] 27)).drew w.heap.size #[.slice none 0 0, .slice none 0 0] := R4
  have Q5 : Blk 33 (w3.alloc (.cells #[.slice oa d.attrs.length ka, .slice oc d.classes.length kc] 27)).drew (w.heap.size + 1) #[.slice none 0 0, .int .i64 0] := Q4
  have P5 : Blk 27 (w3.alloc (.cells #[.slice oa d.attrs.length ka, .slice oc d.classes.length kc] 27)).drew w3.heap.size #[.slice oa d.attrs.length ka, .slice oc d.classes.length kc] := P3
  have bd : Below (w3.alloc (.cells #[.slice oa d.attrs.length ka, .slice oc d.classes.length kc] 27)).heap.size (w3.alloc (.cells #[.slice oa d.attrs.length ka, .slice oc d.classes.length kc] 27)) (w3.alloc (.cells #[.slice oa d.attrs.length ka, .slice oc d.classes.length kc] 27)).drew := below_drewN (Below.refl _ _) 1
  have os5 := os4.below7 bd
  have c5 := c4.kept (grown_of_below bd none) (by intro e; cases e)
  have hr5 := hr4.later bd
  have B5 := B4.trans (bd.mono B4.size)
  clear R4 Q4 P3 os4 c4 hr4 B4 bd
  generalize (w3.alloc (.cells #[.slice oa d.attrs.length ka, .slice oc d.classes.length kc] 27)).drew = W at hS R5 Q5 P5 os5 c5 hr5 B5
  refine takeL 0 (.agg #[.slice oa d.attrs.length ka, .slice oc d.classes.length kc]) rfl (by kernel_rfl) (by kernel_rfl) (by kernel_rfl) (fun _ _ _ h => h) (yields_row Try.underlying27 (by kernel_rfl) (by rfl) _ rfl _ rfl (fun _ h => h.1)) hS ?_
  simp only [Act.put, List.setIfInBounds_toArray, List.set_cons_zero, List.set_cons_succ]
  refine takeL 1 (.pointer (some ⟨w.heap.size + 2, 0, none⟩)) rfl (by kernel_rfl) (by kernel_rfl) (by kernel_rfl) (fun _ _ _ h => h) (yields_mvX (by rfl) _ rfl _ rfl) hS ?_
  simp only [Act.put, List.setIfInBounds_toArray, List.set_cons_zero, List.set_cons_succ]
  refine takeL 2 (.agg #[.slice oa d.attrs.length ka, .slice oc d.classes.length kc]) rfl (by kernel_rfl) (by kernel_rfl) (by kernel_rfl) (fun _ _ _ h => h) (yields_row Try.underlying27 (by kernel_rfl) (by rfl) _ rfl _ rfl (fun _ h => h.1)) hS ?_
  simp only [Act.put, List.setIfInBounds_toArray, List.set_cons_zero, List.set_cons_succ]
  refine nextL 3 rfl (by kernel_rfl) (by rfl) fun K hK => ?_
  have dd := draw7_any (w.heap.size + 2) a len cap zs _ d w2.heap.size W c5 hr5 os5 hg2 HTN.out
  go_simp
  refine dd.mono ?_
  rintro e w5 ⟨v5, x, rfl, ⟨vb, rfl, oE⟩, hxl, c6, h6⟩
  obtain ⟨ob, kb, rfl⟩ := own_slice oE
  have R6 := R5.kept h6 (by intro e; injection e; omega)
  have Q6 := Q5.kept h6 (by intro e; injection e; omega)
  have P6 := P5.kept h6 (by intro e; injection e; omega)
  have os6 := os5.curW7 hg2 h6
  have B6 : Below w.heap.size w w5 := B5.grown h6 B5.size (fun k hk => by injection hk; omega)
  have hWl := P5.lt
  refine hK _ _ ⟨P6, ⟨_, _, R6⟩, _, _, Q6⟩ ?_
  clear hK K dd hS R5 Q5 P5 os5 B5 h6 c5 c6 hr5
  intro hS
  refine nextL 4 rfl (by kernel_rfl) (by rfl) fun K hK => ?_
  refine wp_store_row 27 _ _ rfl w.heap.size #[.slice oa d.attrs.length ka, .slice oc d.classes.length kc] rfl rfl _ _ R6 sch_size rfl (by simp [Value.oneCell']) ?_
  have P7 := P6.setRow_other #[.slice oa d.attrs.length ka, .slice oc d.classes.length kc] (show w3.heap.size ≠ w.heap.size by omega)
  have R7 := R6.setRow #[.slice oa d.attrs.length ka, .slice oc d.classes.length kc]
  have Q7 := Q6.setRow_other #[.slice oa d.attrs.length ka, .slice oc d.classes.length kc] (show w.heap.size + 1 ≠ w.heap.size by omega)
  have os7 := os6.rowX #[.slice oa d.attrs.length ka, .slice oc d.classes.length kc] (show w.heap.size < w2.heap.size by omega)
  have oE7 := own_setRow oE w.heap.size #[.slice oa d.attrs.length ka, .slice oc d.classes.length kc] (by omega)
  have B7 := below_row B6 (Nat.le_refl _) #[.slice oa d.attrs.length ka, .slice oc d.classes.length kc]
  refine hK _ _ ⟨P7, ⟨_, _, R7⟩, _, _, Q7⟩ ?_
  clear hK K hS P6 R6 Q6 os6 oE B6
  intro hS
  refine nextL 5 rfl (by kernel_rfl) (by rfl) fun K hK => ?_
  refine wp_store_row 33 _ _ rfl (w.heap.size + 1) #[.slice ob x.bins.length kb, .int .i64 x.cls] rfl rfl _ _ Q7 ex_size rfl (by simp [Value.oneCell']) ?_
  have P8 := P7.setRow_other #[.slice ob x.bins.length kb, .int .i64 x.cls] (show w3.heap.size ≠ w.heap.size + 1 by omega)
  have R8 := R7.setRow_other #[.slice ob x.bins.length kb, .int .i64 x.cls] (show w.heap.size ≠ w.heap.size + 1 by omega)
  have Q8 := Q7.setRow #[.slice ob x.bins.length kb, .int .i64 x.cls]
  have os8 := os7.rowX #[.slice ob x.bins.length kb, .int .i64 x.cls] (show w.heap.size + 1 < w2.heap.size by omega)
  have oE8 := own_setRow oE7 (w.heap.size + 1) #[.slice ob x.bins.length kb, .int .i64 x.cls] (by omega)
  have B8 := below_row B7 (show w.heap.size ≤ w.heap.size + 1 by omega) #[.slice ob x.bins.length kb, .int .i64 x.cls]
  refine hK _ _ ⟨P8, ⟨_, _, R8⟩, _, _, Q8⟩ ?_
  clear hK K hS P7 R7 Q7 os7 oE7 B7
  intro hS
  clear hS
  refine wpAnyH_done (by kernel_rfl) ?_ _
  go_wp2
  exact bodyPost_ret (res_se rfl _ _ _ _ _ _ _ _ rfl rfl R8 Q8) rfl ⟨_, d, _, x, rfl, os8.baseX (by omega), HTN.out, ⟨_, rfl, own_base oE8 (by omega)⟩, hxl, B8⟩
end Go.Proofs.Ytobimpgapfecoaa
/- The laws' at0. -/
namespace Go.Proofs.Ytobimpgapfecoaa
open Go.RowKit
set_option maxRecDepth 100000
theorem at0_any (a : Option Addr) (len cap : Nat) (zs : List Int) (i : Nat) (w : World) (hr : IsRow .u8 w a len cap zs) (hn : len ≤ 1048576) (hi : i ≤ 1000) :
    Calls Try.prog 48 #[.slice a len cap, .int .i64 (i : Int)] w fun e w' => ∃ x : Int, e = .returned (.int .i64 x) ∧ 0 ≤ x ∧ x ≤ 255 ∧ w' = w := by
  by_cases hlt : i < len
  · obtain ⟨b, o, rfl, hbl, hcs⟩ := hr.at (by omega)
    have hcell := hcs i hlt
    have hbd := hr.bytes i
    generalize (zs.take len).getD i 0 = d at hcell hbd
    clear hcs hr
    obtain ⟨d0, d1⟩ := hbd
    go_enter Try.func48, Try.ntmps48
    go_wp2
    go_ret
    exact ⟨d, rfl, d0, d1, rfl⟩
  · clear hr
    go_enter Try.func48, Try.ntmps48
    go_wp2
    go_ret
    exact ⟨_, rfl, by omega, by omega, rfl⟩
end Go.Proofs.Ytobimpgapfecoaa
/- The laws' second example and weight. -/
namespace Go.Proofs.Ytobimpgapfecoaa
open Go.RowKit
set_option maxRecDepth 100000
set_option linter.unusedSimpArgs false
theorem res_exi {fn : Func} {p t : Tmp} (h : fn.results = #[.cell p 33, .tmp t]) (tmps : Array Value) (w : World) (g : Nat) (c0 c1 v : Value)
    (hp : tmps.getD p undef = .pointer (some ⟨g, 0, none⟩)) (ht : tmps.getD t undef = v) (hg : Blk 33 w g #[c0, c1]) : (results fn tmps).run Try.prog w = .ok (.tuple #[.agg #[c0, c1], v]) w := by
  have hp' : tmps[p]?.getD undef = .pointer (some ⟨g, 0, none⟩) := by simpa using hp
  have ht' : tmps[t]?.getD undef = v := by simpa using ht
  simp [results, h, hp', ht', asAddr, run_loadVar_row w g _ 33 _ _ _ hg Try.underlying33 rfl ex_size]
set_option maxHeartbeats 6400000 in
theorem secondOf_any (a : Option Addr) (len cap : Nat) (zs : List Int) (w : World) (hr : IsRow .u8 w a len cap zs) (hn : len ≤ 1048576) :
    Calls Try.prog 11 #[.slice a len cap] w fun e w' => ∃ ve y n, e = .returned (.tuple #[ve, .int .i64 n]) ∧ OwnE w.heap.size w' ve y ∧ y.bins.length ≤ 7 ∧ (0 ≤ n ∧ n ≤ 8) ∧ Below w.heap.size w w' := by
  obtain ⟨RE, B⟩ := blk_1 33 w #[.slice none 0 0, .int .i64 0]
  have hr0 := hr.later B
  clear hr
  generalize hW : w.alloc (.cells #[.slice none 0 0, .int .i64 0] 33) = w0 at RE B hr0
  have hs0 : w0.heap.size = w.heap.size + 1 := by rw [← hW]; simp
  have e1 := drawExOk_any a len cap zs w0 hr0 hn
  go_enter Try.func11, Try.ntmps11
  go_wp2_with fail
  refine e1.mono ?_
  clear e1 hW
  rintro e w1 ⟨vs, d, ve, y, rfl, os, htn, ⟨vb, rfl, oe⟩, hyl, hb⟩
  replace RE := RE.below hb
  replace hr0 := hr0.later hb
  replace B := B.trans (hb.mono B.size)
  have hs1 := hb.size
  clear hb
  obtain ⟨y1, y2, rfl, rr1, rr2⟩ := id os.at
  obtain ⟨oa, oka, rfl, -, -⟩ := id rr1
  obtain ⟨oc, okc, rfl, -, -⟩ := id rr2
  clear rr1 rr2 os htn
  obtain ⟨ob, kb, rfl⟩ := own_slice oe
  replace oe := own_base oe (show w.heap.size + 1 ≤ w0.heap.size by omega)
  have HR0 : Hid (∀ W, Below w1.heap.size w1 W → IsRow .u8 W a len cap zs) := fun W h => hr0.later h
  clear hr0
  have HB1 : Hid (Below w1.heap.size w1 w1) := Below.refl _ _
  obtain ⟨KS, KE, BN⟩ := blk_2 27 33 w1 #[.slice none 0 0, .slice none 0 0] #[.slice none 0 0, .int .i64 0]
  replace RE := RE.below BN
  replace B := B.trans (BN.mono B.size)
  replace oe := own_below oe BN
  clear BN
  have ZS := KS
  replace RE := Blk.setRow_other RE #[.slice oa d.attrs.length oka, .slice oc d.classes.length okc] (show w.heap.size ≠ w1.heap.size by omega)
  replace B := below_row B (show w.heap.size ≤ w1.heap.size by omega) #[.slice oa d.attrs.length oka, .slice oc d.classes.length okc]
  replace oe := own_setRowN oe _ #[.slice oa d.attrs.length oka, .slice oc d.classes.length okc] (own_ne_blk oe ZS (by decide))
  replace KS := KS.setRow #[.slice oa d.attrs.length oka, .slice oc d.classes.length okc]
  replace KE := Blk.setRow_other KE #[.slice oa d.attrs.length oka, .slice oc d.classes.length okc] (show w1.heap.size + 1 ≠ w1.heap.size by omega)
  have ZE := KE
  replace RE := Blk.setRow_other RE #[.slice ob y.bins.length kb, .int .i64 y.cls] (show w.heap.size ≠ w1.heap.size + 1 by omega)
  replace B := below_row B (show w.heap.size ≤ w1.heap.size + 1 by omega) #[.slice ob y.bins.length kb, .int .i64 y.cls]
  replace oe := own_setRowN oe _ #[.slice ob y.bins.length kb, .int .i64 y.cls] (own_ne_blk oe ZE (by decide))
  replace KS := Blk.setRow_other KS #[.slice ob y.bins.length kb, .int .i64 y.cls] (show w1.heap.size ≠ w1.heap.size + 1 by omega)
  replace KE := KE.setRow #[.slice ob y.bins.length kb, .int .i64 y.cls]
  have hr1 := HR0.out _ (below_row (below_row ((blk_2 27 33 w1 #[.slice none 0 0, .slice none 0 0] #[.slice none 0 0, .int .i64 0]).2.2) (Nat.le_refl _) #[.slice oa d.attrs.length oka, .slice oc d.classes.length okc]) (show w1.heap.size ≤ w1.heap.size + 1 by omega) #[.slice ob y.bins.length kb, .int .i64 y.cls])
  clear HR0 HB1
  have kE0 : ((((w1.alloc (.cells #[.slice none 0 0, .slice none 0 0] 27)).alloc (.cells #[.slice none 0 0, .int .i64 0] 33)).setRow w1.heap.size #[.slice oa d.attrs.length oka, .slice oc d.classes.length okc]).setRow (w1.heap.size + 1) #[.slice ob y.bins.length kb, .int .i64 y.cls]).cell? ⟨w1.heap.size + 1, 0, none⟩ = some (.slice ob y.bins.length kb) := KE.cell 0
  have kE1 : ((((w1.alloc (.cells #[.slice none 0 0, .slice none 0 0] 27)).alloc (.cells #[.slice none 0 0, .int .i64 0] 33)).setRow w1.heap.size #[.slice oa d.attrs.length oka, .slice oc d.classes.length okc]).setRow (w1.heap.size + 1) #[.slice ob y.bins.length kb, .int .i64 y.cls]).cell? ⟨w1.heap.size + 1, 1, none⟩ = some (.int .i64 y.cls) := KE.cell 1
  go_wp2_with (first | (with_reducible refine wp_sc_store rfl _ _ rfl ?_; refine ⟨_, rfl, _, _, _, _, _, _, rfl, _, _, ZS, ?_⟩) | (with_reducible refine wp_ex_store rfl _ _ rfl ?_; refine ⟨_, rfl, _, _, _, _, rfl, _, _, ZE, ?_⟩))
  clear kE0 kE1
  clear ZS ZE
  generalize ((((w1.alloc (.cells #[.slice none 0 0, .slice none 0 0] 27)).alloc (.cells #[.slice none 0 0, .int .i64 0] 33)).setRow w1.heap.size #[.slice oa d.attrs.length oka, .slice oc d.classes.length okc]).setRow (w1.heap.size + 1) #[.slice ob y.bins.length kb, .int .i64 y.cls]) = w2 at RE B oe KS KE hr1 ⊢
  refine wp_region_held_drew (S := fun w' => Blk 33 w' (w1.heap.size + 1) #[.slice ob y.bins.length kb, .int .i64 y.cls]) (by kernel_rfl) KE ?_
  intro hS
  have bd : Below w2.heap.size w2 w2.drew := below_drewN (Below.refl _ _) 1
  replace RE := RE.below bd
  replace B := B.trans (bd.mono B.size)
  replace oe := own_below oe bd
  replace KS := KS.below bd
  replace KE := KE.below bd
  replace hr1 := hr1.later bd
  clear bd
  generalize w2.drew = w3 at RE B oe KS KE hr1 hS ⊢
  refine takeL 0 (.agg #[.slice ob y.bins.length kb, .int .i64 y.cls]) rfl (by kernel_rfl) (by kernel_rfl) (by kernel_rfl) (fun _ _ _ h => h) (yields_row Try.underlying33 (by kernel_rfl) (by rfl) _ rfl _ rfl (fun _ h => h)) hS ?_
  try simp only [Act.put, List.setIfInBounds_toArray, List.set_cons_zero, List.set_cons_succ]
  refine takeL 1 (.slice a len cap) rfl (by kernel_rfl) (by kernel_rfl) (by kernel_rfl) (fun _ _ _ h => h) (.inl ⟨by rfl, fun w _ => by rfl⟩) hS ?_
  try simp only [Act.put, List.setIfInBounds_toArray, List.set_cons_zero, List.set_cons_succ]
  refine nextL 2 rfl (by kernel_rfl) (by rfl) fun K hK => ?_
  have dd := at0_any a len cap zs 2 w3 hr1 hn (by omega)
  go_simp
  refine dd.mono ?_
  rintro e w9 ⟨x, rfl, hx0, hx1, e9⟩
  subst e9
  refine hK _ _ hS ?_
  clear hK K dd
  clear hS
  intro hS
  refine takeL 3 (.int .i64 (x % 9)) rfl (by kernel_rfl) (by kernel_rfl) (by kernel_rfl) (fun _ _ _ h => h) (.inl ⟨by rfl, fun w hw => by (unfold execOp; go_simp; all_goals (first | done | exact Int.tmod_eq_emod_of_nonneg hx0))⟩) hS ?_
  try simp only [Act.put, List.setIfInBounds_toArray, List.set_cons_zero, List.set_cons_succ]
  refine nextL 4 rfl (by kernel_rfl) (by rfl) fun K hK => ?_
  refine wp_store_row 33 _ _ rfl w.heap.size #[.slice ob y.bins.length kb, .int .i64 y.cls] rfl rfl _ _ RE ex_size rfl (by simp [Value.oneCell']) ?_
  replace KE := Blk.setRow_other KE #[.slice ob y.bins.length kb, .int .i64 y.cls] (show w1.heap.size + 1 ≠ w.heap.size by omega)
  replace RE := RE.setRow #[.slice ob y.bins.length kb, .int .i64 y.cls]
  replace oe := own_setRow oe w.heap.size #[.slice ob y.bins.length kb, .int .i64 y.cls] (by omega)
  replace B := below_row B (Nat.le_refl _) #[.slice ob y.bins.length kb, .int .i64 y.cls]
  refine hK _ _ KE ?_
  clear hK K hS
  intro hS
  refine takeL 5 (.int .i64 (x % 9)) rfl (by kernel_rfl) (by kernel_rfl) (by kernel_rfl) (fun _ _ _ h => h) (.inl ⟨by rfl, fun w _ => by rfl⟩) hS ?_
  try simp only [Act.put, List.setIfInBounds_toArray, List.set_cons_zero, List.set_cons_succ]
  refine wpAnyH_done (by kernel_rfl) ?_ _
  go_wp2
  exact bodyPost_ret (res_exi rfl _ _ _ _ _ _ rfl rfl RE) rfl ⟨_, y, x % 9, rfl, ⟨_, rfl, own_base oe (by omega)⟩, hyl, by omega, B⟩
end Go.Proofs.Ytobimpgapfecoaa
/- Whether a code is too great. -/
namespace Go.Proofs.Ytobimpgapfecoaa
open Go.RowKit
set_option maxRecDepth 100000

theorem big_any (a : Option Addr) (len cap : Nat) (w : World) (hn : len ≤ 9223372036854775807) : Calls Try.prog 9 #[.slice a len cap] w fun e w' => e = .returned (.bool (decide (1048576 < len))) ∧ w' = w := by
  by_cases h : 1048576 < len
  all_goals
    go_enter Try.func9, Try.ntmps9
    go_wp2
    go_ret
    exact ⟨by simp; omega, rfl⟩
end Go.Proofs.Ytobimpgapfecoaa
