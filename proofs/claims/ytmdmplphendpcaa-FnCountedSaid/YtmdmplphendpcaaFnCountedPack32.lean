/- Texts of this claim, put together: part 32. -/
import Derived.Test.YtmdmplphendpcaaFnCountedPack24
import Derived.Test.YtmdmplphendpcaaFnCountedPack30
import Derived.Test.YtmdmplphendpcaaFnCountedPack19
import Derived.Test.YtmdmplphendpcaaFnCountedPack31
import Derived.Test.YtmdmplphendpcaaFnCountedPack17
import Derived.BigGuardPart
/- For every code the law FnCounted returns true (the walk). -/
namespace Go.Proofs.Ytmdmplphendpcaa
open Go.RowKit
set_option maxRecDepth 100000
set_option linter.unusedSimpArgs false
theorem rowT {w : World} {v vc : Value} {x : StatsD} (h : StatsAt w (.agg #[v, vc]) x) : RowI w v x.totals := by
  obtain ⟨a, b, e, h1, -⟩ := h
  cases e
  exact h1
theorem row_cell {w : World} {o : Option Addr} {n c k : Nat} {l : List Int} (h : RowI w (.slice o n c) l) (hk : k < l.length) : ∃ go fo, o = some ⟨go, fo, none⟩ ∧ w.cell? ⟨go, fo + k, none⟩ = some (.int .i64 (l.getD k 0)) := by
  obtain ⟨oa, cap, e, -, hr⟩ := h
  cases e
  obtain ⟨g, f, rfl, -, hj⟩ := hr (by omega)
  exact ⟨g, f, rfl, hj k hk⟩
theorem counted (d : SchemaD) (x : StatsD) (y : ExD) (n : Int) :
    (addOk d x y n = false → statsAdd d x y n = x) ∧ (addOk d x y n = true → statsOk d (statsAdd d x y n) = true ∧ statsTotal d (statsAdd d x y n) = statsTotal d x + n ∧ (statsAdd d x y n).cells.length = x.cells.length ∧ (statsAdd d x y n).totals.length = x.totals.length ∧
      0 ≤ statsTotal d x ∧ statsTotal d x ≤ 999 ∧ (1 ≤ n ∧ n ≤ 7) ∧ ∀ k, k < (statsAdd d x y n).totals.length → 0 ≤ x.totals.getD k 0 ∧ x.totals.getD k 0 ≤ 999 ∧ ((k : Int) = y.cls → (statsAdd d x y n).totals.getD k 0 = x.totals.getD k 0 + n) ∧ (¬ (k : Int) = y.cls → (statsAdd d x y n).totals.getD k 0 = x.totals.getD k 0)) := by
  refine ⟨add_no, fun h => ?_⟩
  have hF := add_facts h
  have hb := total_bounds d x
  rw [add_yes h]
  have hlen : (addSt d x y n).totals.length = x.totals.length := put_len _ _ _
  refine ⟨add_right h, add_total h, addTo_len _ _ _ _ _, hlen, hb.1, hb.2, hF.unit, fun k hk => ?_⟩
  rw [hlen] at hk
  have hq : y.cls.toNat < x.totals.length := by have := hF.cls; have := hF.len; omega
  have hat := allW_at hF.tot hk
  have hg : (addSt d x y n).totals.getD k 0 = if k = y.cls.toNat then x.totals.getD y.cls.toNat 0 + n else x.totals.getD k 0 := put_get _ _ _ _ hq
  have hc := hF.cls
  refine ⟨hat.1, hat.2, fun e => ?_, fun e => ?_⟩
  · have e2 : k = y.cls.toNat := by omega
    rw [hg, if_pos e2, e2]
  · rw [hg, if_neg (by omega)]
set_option maxHeartbeats 6400000 in
theorem counted_in (a0 : Option Addr) (len0 cap0 : Nat) (z0 : List Int) (w : World) (h0 : IsRow .u8 w a0 len0 cap0 z0) (hlen : len0 ≤ 1048576) :
    Calls Try.prog 4 #[.slice a0 len0 cap0] w fun e w' => e = .returned (.bool true) ∧ Below w.heap.size w w' := by
  have c1 := big_any a0 len0 cap0 w (by omega)
  rw [decide_eq_false (by omega)] at c1
  go_enter Try.func4, Try.ntmps4
  go_wp2_with fail
  refine c1.mono ?_
  clear c1
  rintro e w0 ⟨rfl, e0⟩
  rw [e0]; clear e0 w0
  go_wp2_with fail
  refine (drawStatsAdd_any a0 len0 cap0 z0 w h0 hlen).mono ?_
  clear h0
  rintro e w1 ⟨vs, d, vt, x, ve, y, n, rfl, hO, htn, hOT, htx, hOE, hyl, hn, B⟩
  have HOK : Hid (okSch d) := htn.ok8
  have HOX : Hid (okSt x) := htx.ok (by omega)
  have hx := hO.at
  have he := hOT.at
  have hy := hOE.at
  obtain ⟨y1, y2, rfl, rr1, rr2⟩ := id hx
  obtain ⟨oa, oka, rfl, -, -⟩ := id rr1
  obtain ⟨oc, okc, rfl, -, -⟩ := id rr2
  clear rr1 rr2
  obtain ⟨q1, qk1, q2, qk2, rfl⟩ := hOT.form
  obtain ⟨yb, rfl, rrb⟩ := id hy
  obtain ⟨rb, rkb, rfl, -, -⟩ := id rrb
  clear rrb
  clear hO htn hOT hOE
  obtain ⟨KS, KT, KE, BN⟩ := blk_3 27 31 33 w1 #[.slice none 0 0, .slice none 0 0] #[.slice none 0 0, .slice none 0 0] #[.slice none 0 0, .int .i64 0]
  have ZS := KS
  replace KS := KS.setRow #[.slice oa d.attrs.length oka, .slice oc d.classes.length okc]
  replace KT := Blk.setRow_other KT #[.slice oa d.attrs.length oka, .slice oc d.classes.length okc] (show w1.heap.size + 1 ≠ w1.heap.size by omega)
  replace KE := Blk.setRow_other KE #[.slice oa d.attrs.length oka, .slice oc d.classes.length okc] (show w1.heap.size + 1 + 1 ≠ w1.heap.size by omega)
  have ZT := KT
  replace KS := Blk.setRow_other KS #[.slice q1 x.totals.length qk1, .slice q2 x.cells.length qk2] (show w1.heap.size ≠ w1.heap.size + 1 by omega)
  replace KT := KT.setRow #[.slice q1 x.totals.length qk1, .slice q2 x.cells.length qk2]
  replace KE := Blk.setRow_other KE #[.slice q1 x.totals.length qk1, .slice q2 x.cells.length qk2] (show w1.heap.size + 1 + 1 ≠ w1.heap.size + 1 by omega)
  have ZE := KE
  replace KS := Blk.setRow_other KS #[.slice rb y.bins.length rkb, .int .i64 y.cls] (show w1.heap.size ≠ w1.heap.size + 1 + 1 by omega)
  replace KT := Blk.setRow_other KT #[.slice rb y.bins.length rkb, .int .i64 y.cls] (show w1.heap.size + 1 ≠ w1.heap.size + 1 + 1 by omega)
  replace KE := KE.setRow #[.slice rb y.bins.length rkb, .int .i64 y.cls]
  have BM : Below w1.heap.size w1 ((((((w1.alloc (.cells #[.slice none 0 0, .slice none 0 0] 27)).alloc (.cells #[.slice none 0 0, .slice none 0 0] 31)).alloc (.cells #[.slice none 0 0, .int .i64 0] 33)).setRow w1.heap.size #[.slice oa d.attrs.length oka, .slice oc d.classes.length okc]).setRow (w1.heap.size + 1) #[.slice q1 x.totals.length qk1, .slice q2 x.cells.length qk2]).setRow (w1.heap.size + 1 + 1) #[.slice rb y.bins.length rkb, .int .i64 y.cls]) := (below_row (below_row (below_row BN (by omega) #[.slice oa d.attrs.length oka, .slice oc d.classes.length okc]) (by omega) #[.slice q1 x.totals.length qk1, .slice q2 x.cells.length qk2]) (by omega) #[.slice rb y.bins.length rkb, .int .i64 y.cls])
  replace hx := hx.later BM
  replace he := he.later BM
  replace hy := hy.later BM
  replace B := B.trans (BM.mono B.size)
  clear BM BN
  generalize hXX : ((((((w1.alloc (.cells #[.slice none 0 0, .slice none 0 0] 27)).alloc (.cells #[.slice none 0 0, .slice none 0 0] 31)).alloc (.cells #[.slice none 0 0, .int .i64 0] 33)).setRow w1.heap.size #[.slice oa d.attrs.length oka, .slice oc d.classes.length okc]).setRow (w1.heap.size + 1) #[.slice q1 x.totals.length qk1, .slice q2 x.cells.length qk2]).setRow (w1.heap.size + 1 + 1) #[.slice rb y.bins.length rkb, .int .i64 y.cls]) = w2 at hx he hy B KS KT KE
  have HP1 : Hid (okSt (statsAdd d x y n)) := (tiny_add d x y n htx).ok (by omega)
  have HC := counted d x y n
  clear htx
  generalize hb1 : addOk d x y n = b1 at HC
  generalize hp1 : statsAdd d x y n = p1 at HC HP1
  have HCC : Hid _ := HC
  clear HC
  have cc := implStatsAdd_any _ _ _ d x y n w2 hx he hy HOK.out HOX.out (by omega)
  rw [hb1, hp1] at cc
  have kS0 : w2.cell? ⟨w1.heap.size, 0, none⟩ = some (.slice oa d.attrs.length oka) := KS.cell 0
  have kS1 : w2.cell? ⟨w1.heap.size, 1, none⟩ = some (.slice oc d.classes.length okc) := KS.cell 1
  have kT0 : w2.cell? ⟨w1.heap.size + 1, 0, none⟩ = some (.slice q1 x.totals.length qk1) := KT.cell 0
  have kT1 : w2.cell? ⟨w1.heap.size + 1, 1, none⟩ = some (.slice q2 x.cells.length qk2) := KT.cell 1
  have kE0 : w2.cell? ⟨w1.heap.size + 1 + 1, 0, none⟩ = some (.slice rb y.bins.length rkb) := KE.cell 0
  have kE1 : w2.cell? ⟨w1.heap.size + 1 + 1, 1, none⟩ = some (.int .i64 y.cls) := KE.cell 1
  go_wp2_with (first | (with_reducible refine wp_sc_store rfl _ _ rfl ?_; refine ⟨_, rfl, _, _, _, _, _, _, rfl, _, _, ZS, ?_⟩) | (with_reducible refine wp_st_store rfl _ _ rfl ?_; refine ⟨_, rfl, _, _, _, _, _, _, rfl, _, _, ZT, ?_⟩) | (with_reducible refine wp_ex_store rfl _ _ rfl ?_; refine ⟨_, rfl, _, _, _, _, rfl, _, _, ZE, ?_⟩))
  clear ZS ZT ZE
  refine cc.mono ?_
  clear cc hXX
  clear kS0 kS1 kT0 kT1 kE0 kE1
  rintro e w3 ⟨va, rfl, za, hb⟩
  replace hx := hx.later hb
  replace he := he.later hb
  replace hy := hy.later hb
  replace B := B.trans (hb.mono B.size)
  replace KS := KS.below hb
  replace KT := KT.below hb
  replace KE := KE.below hb
  clear hb
  obtain ⟨a1, ak1, a2, ak2, rfl⟩ := za.form
  have ba9 : w1.heap.size + 1 + 1 < w3.heap.size := KE.lt
  have ba8B := B.size
  obtain ⟨KA, BX⟩ := blk_1 31 w3 #[.slice a1 p1.totals.length ak1, .slice a2 p1.cells.length ak2]
  replace hx := hx.later BX
  replace he := he.later BX
  replace hy := hy.later BX
  replace B := B.trans (BX.mono B.size)
  replace KS := KS.below BX
  replace KT := KT.below BX
  replace KE := KE.below BX
  replace za := za.below BX
  clear BX
  obtain ⟨ba, hba⟩ : ∃ b, w3.heap.size = b := ⟨_, rfl⟩
  rw [hba] at KA ba9 ba8B
  generalize hXA : (w3.alloc (.cells #[.slice a1 p1.totals.length ak1, .slice a2 p1.cells.length ak2] 31)) = w4 at hx he hy B KS KT KE za KA
  have cc := specStatsAdd_any _ _ _ d x y n w4 hx he hy HOK.out HOX.out (by omega)
  rw [hb1, hp1] at cc
  clear hb1 hp1
  have kS0 : w4.cell? ⟨w1.heap.size, 0, none⟩ = some (.slice oa d.attrs.length oka) := KS.cell 0
  have kS1 : w4.cell? ⟨w1.heap.size, 1, none⟩ = some (.slice oc d.classes.length okc) := KS.cell 1
  have kT0 : w4.cell? ⟨w1.heap.size + 1, 0, none⟩ = some (.slice q1 x.totals.length qk1) := KT.cell 0
  have kT1 : w4.cell? ⟨w1.heap.size + 1, 1, none⟩ = some (.slice q2 x.cells.length qk2) := KT.cell 1
  have kE0 : w4.cell? ⟨w1.heap.size + 1 + 1, 0, none⟩ = some (.slice rb y.bins.length rkb) := KE.cell 0
  have kE1 : w4.cell? ⟨w1.heap.size + 1 + 1, 1, none⟩ = some (.int .i64 y.cls) := KE.cell 1
  go_wp2_with fail
  refine cc.mono ?_
  clear cc hba hXA
  clear kS0 kS1 kT0 kT1 kE0 kE1
  rintro e w5 ⟨vb, rfl, zb, hb⟩
  replace hx := hx.later hb
  replace he := he.later hb
  replace hy := hy.later hb
  replace B := B.trans (hb.mono B.size)
  replace KS := KS.below hb
  replace KT := KT.below hb
  replace KE := KE.below hb
  replace za := za.below hb
  replace KA := KA.below hb
  clear hb
  obtain ⟨c1, ck1, c2, ck2, rfl⟩ := zb.form
  have bc9 : ba < w5.heap.size := KA.lt
  have bc8B := B.size
  obtain ⟨KY, BX⟩ := blk_1 31 w5 #[.slice c1 p1.totals.length ck1, .slice c2 p1.cells.length ck2]
  replace hx := hx.later BX
  replace he := he.later BX
  replace hy := hy.later BX
  replace B := B.trans (BX.mono B.size)
  replace KS := KS.below BX
  replace KT := KT.below BX
  replace KE := KE.below BX
  replace za := za.below BX
  replace KA := KA.below BX
  replace zb := zb.below BX
  clear BX
  obtain ⟨bc, hbc⟩ : ∃ b, w5.heap.size = b := ⟨_, rfl⟩
  rw [hbc] at KY bc9 bc8B
  generalize hXY : (w5.alloc (.cells #[.slice c1 p1.totals.length ck1, .slice c2 p1.cells.length ck2] 31)) = w6 at hx he hy B KS KT KE za KA zb KY
  clear zb KY
  cases b1 with
  | false =>
    obtain rfl := HCC.out.1 rfl
    clear HCC
    have cc := specStatsSame_any _ _ p1 p1 w6 za.at he HP1.out
    rw [statsSame_self] at cc
    have kA0 : w6.cell? ⟨ba, 0, none⟩ = some (.slice a1 p1.totals.length ak1) := KA.cell 0
    have kA1 : w6.cell? ⟨ba, 1, none⟩ = some (.slice a2 p1.cells.length ak2) := KA.cell 1
    have kT0 : w6.cell? ⟨w1.heap.size + 1, 0, none⟩ = some (.slice q1 p1.totals.length qk1) := KT.cell 0
    have kT1 : w6.cell? ⟨w1.heap.size + 1, 1, none⟩ = some (.slice q2 p1.cells.length qk2) := KT.cell 1
    go_wp2_with fail
    refine cc.mono ?_
    clear cc hbc hXY
    rintro e w99 ⟨rfl, hb⟩
    replace hx := hx.later hb
    replace he := he.later hb
    replace hy := hy.later hb
    replace B := B.trans (hb.mono B.size)
    replace KS := KS.below hb
    replace KT := KT.below hb
    replace KE := KE.below hb
    replace za := za.below hb
    replace KA := KA.below hb
    go_wp2
    go_ret
    exact ⟨rfl, B⟩
  | true =>
    obtain ⟨hok, htt, hcl, htl, hT0, hT1, hn2, hat⟩ := HCC.out.2 rfl
    clear HCC
    have HAT : Hid _ := hat
    have HCL : Hid (p1.cells.length = x.cells.length) := hcl
    have HTL : Hid (p1.totals.length = x.totals.length) := htl
    clear hat hcl htl
    go_wp2_with fail
    clear hbc hXY
    have ha := za.at
    clear za
    have bd : Below w6.heap.size w6 w6.drew := below_drewN (Below.refl _ _) 1
    refine wp_region_held_drew (S := fun w' => Blk 27 w' (w1.heap.size) #[.slice oa d.attrs.length oka, .slice oc d.classes.length okc] ∧ Blk 31 w' (w1.heap.size + 1) #[.slice q1 x.totals.length qk1, .slice q2 x.cells.length qk2] ∧ Blk 31 w' ba #[.slice a1 p1.totals.length ak1, .slice a2 p1.cells.length ak2]) (by kernel_rfl) ⟨KS.below bd, KT.below bd, KA.below bd⟩ ?_
    intro hS
    replace hx := hx.later bd
    replace he := he.later bd
    replace hy := hy.later bd
    replace B := B.trans (bd.mono B.size)
    replace KS := KS.below bd
    replace KT := KT.below bd
    replace KE := KE.below bd
    replace KA := KA.below bd
    replace ha := ha.later bd
    clear bd
    generalize w6.drew = w7 at hx he hy B KS KT KE KA ha hS ⊢
    refine takeL 0 (.agg #[.slice oa d.attrs.length oka, .slice oc d.classes.length okc]) rfl (by kernel_rfl) (by kernel_rfl) (by kernel_rfl) (fun _ _ _ h => h) (yields_row Try.underlying27 (by kernel_rfl) (by rfl) _ rfl _ rfl (fun _ h => h.1)) hS ?_
    try simp only [Act.put, List.setIfInBounds_toArray, List.set_cons_zero, List.set_cons_succ]
    refine takeL 1 (.agg #[.slice a1 p1.totals.length ak1, .slice a2 p1.cells.length ak2]) rfl (by kernel_rfl) (by kernel_rfl) (by kernel_rfl) (fun _ _ _ h => h) (yields_row Try.underlying31 (by kernel_rfl) (by rfl) _ rfl _ rfl (fun _ h => h.2.2)) hS ?_
    try simp only [Act.put, List.setIfInBounds_toArray, List.set_cons_zero, List.set_cons_succ]
    refine nextL 2 rfl (by kernel_rfl) (by rfl) fun K hK => ?_
    have dd := implStatsOk_any (.agg #[.slice oa d.attrs.length oka, .slice oc d.classes.length okc]) (.agg #[.slice a1 p1.totals.length ak1, .slice a2 p1.cells.length ak2]) d p1 w7 hx ha HOK.out HP1.out
    go_simp
    refine dd.mono ?_
    rintro e w8 ⟨rfl, hb⟩
    replace hx := hx.later hb
    replace he := he.later hb
    replace hy := hy.later hb
    replace B := B.trans (hb.mono B.size)
    replace KS := KS.below hb
    replace KT := KT.below hb
    replace KE := KE.below hb
    replace KA := KA.below hb
    replace ha := ha.later hb
    replace hS := And.intro KS (And.intro KT KA)
    refine hK _ _ hS ?_
    clear hK K dd hb
    clear hS
    intro hS
    rw [hok]
    refine takeL 3 (.bool false) rfl (by kernel_rfl) (by kernel_rfl) (by kernel_rfl) (fun _ _ _ h => h) (.inl ⟨by rfl, fun w hw => by (unfold execOp; go_simp)⟩) hS ?_
    try simp only [Act.put, List.setIfInBounds_toArray, List.set_cons_zero, List.set_cons_succ]
    refine takeL 4 (.bool false) rfl (by kernel_rfl) (by kernel_rfl) (by kernel_rfl) (fun _ _ _ h => h) (.inl ⟨by rfl, fun w _ => by rfl⟩) hS ?_
    try simp only [Act.put, List.setIfInBounds_toArray, List.set_cons_zero, List.set_cons_succ]
    refine takeL 5 (.agg #[.slice oa d.attrs.length oka, .slice oc d.classes.length okc]) rfl (by kernel_rfl) (by kernel_rfl) (by kernel_rfl) (fun _ _ _ h => h) (yields_row Try.underlying27 (by kernel_rfl) (by rfl) _ rfl _ rfl (fun _ h => h.1)) hS ?_
    try simp only [Act.put, List.setIfInBounds_toArray, List.set_cons_zero, List.set_cons_succ]
    refine takeL 6 (.agg #[.slice a1 p1.totals.length ak1, .slice a2 p1.cells.length ak2]) rfl (by kernel_rfl) (by kernel_rfl) (by kernel_rfl) (fun _ _ _ h => h) (yields_row Try.underlying31 (by kernel_rfl) (by rfl) _ rfl _ rfl (fun _ h => h.2.2)) hS ?_
    try simp only [Act.put, List.setIfInBounds_toArray, List.set_cons_zero, List.set_cons_succ]
    refine takeL 8 (.agg #[.slice oa d.attrs.length oka, .slice oc d.classes.length okc]) rfl (by kernel_rfl) (by kernel_rfl) (by kernel_rfl) (fun _ _ _ h => h) (yields_row Try.underlying27 (by kernel_rfl) (by rfl) _ rfl _ rfl (fun _ h => h.1)) hS ?_
    try simp only [Act.put, List.setIfInBounds_toArray, List.set_cons_zero, List.set_cons_succ]
    refine takeL 9 (.agg #[.slice q1 x.totals.length qk1, .slice q2 x.cells.length qk2]) rfl (by kernel_rfl) (by kernel_rfl) (by kernel_rfl) (fun _ _ _ h => h) (yields_row Try.underlying31 (by kernel_rfl) (by rfl) _ rfl _ rfl (fun _ h => h.2.1)) hS ?_
    try simp only [Act.put, List.setIfInBounds_toArray, List.set_cons_zero, List.set_cons_succ]
    refine takeL 11 (.int .i64 n) rfl (by kernel_rfl) (by kernel_rfl) (by kernel_rfl) (fun _ _ _ h => h) (.inl ⟨by rfl, fun w _ => by rfl⟩) hS ?_
    try simp only [Act.put, List.setIfInBounds_toArray, List.set_cons_zero, List.set_cons_succ]
    refine nextL 7 rfl (by kernel_rfl) (by rfl) fun K hK => ?_
    have dd := implTotal_any (.agg #[.slice oa d.attrs.length oka, .slice oc d.classes.length okc]) (.agg #[.slice a1 p1.totals.length ak1, .slice a2 p1.cells.length ak2]) d p1 w8 hx ha HOK.out HP1.out
    go_simp
    refine dd.mono ?_
    rintro e w9 ⟨rfl, hb⟩
    replace hx := hx.later hb
    replace he := he.later hb
    replace hy := hy.later hb
    replace B := B.trans (hb.mono B.size)
    replace KS := KS.below hb
    replace KT := KT.below hb
    replace KE := KE.below hb
    replace KA := KA.below hb
    replace ha := ha.later hb
    replace hS := And.intro KS (And.intro KT KA)
    refine hK _ _ hS ?_
    clear hK K dd hb
    clear hS
    intro hS
    rw [htt]
    refine nextL 10 rfl (by kernel_rfl) (by rfl) fun K hK => ?_
    have dd := implTotal_any (.agg #[.slice oa d.attrs.length oka, .slice oc d.classes.length okc]) (.agg #[.slice q1 x.totals.length qk1, .slice q2 x.cells.length qk2]) d x w9 hx he HOK.out HOX.out
    go_simp
    refine dd.mono ?_
    rintro e w10 ⟨rfl, hb⟩
    replace hx := hx.later hb
    replace he := he.later hb
    replace hy := hy.later hb
    replace B := B.trans (hb.mono B.size)
    replace KS := KS.below hb
    replace KT := KT.below hb
    replace KE := KE.below hb
    replace KA := KA.below hb
    replace ha := ha.later hb
    replace hS := And.intro KS (And.intro KT KA)
    refine hK _ _ hS ?_
    clear hK K dd hb
    clear hS
    intro hS
    refine takeL 12 (.int .i64 (statsTotal d x + n)) rfl (by kernel_rfl) (by kernel_rfl) (by kernel_rfl) (fun _ _ _ h => h) (.inl ⟨by rfl, fun w hw => by (unfold execOp; go_simp; all_goals (rw [IntKind.wrap_i64]; omega))⟩) hS ?_
    try simp only [Act.put, List.setIfInBounds_toArray, List.set_cons_zero, List.set_cons_succ]
    refine takeL 13 (.bool false) rfl (by kernel_rfl) (by kernel_rfl) (by kernel_rfl) (fun _ _ _ h => h) (.inl ⟨by rfl, fun w hw => by (unfold execOp; go_simp)⟩) hS ?_
    try simp only [Act.put, List.setIfInBounds_toArray, List.set_cons_zero, List.set_cons_succ]
    refine takeL 14 (.bool false) rfl (by kernel_rfl) (by kernel_rfl) (by kernel_rfl) (fun _ _ _ h => h) (.inl ⟨by rfl, fun w _ => by rfl⟩) hS ?_
    try simp only [Act.put, List.setIfInBounds_toArray, List.set_cons_zero, List.set_cons_succ]
    refine takeL 15 (.bool false) rfl (by kernel_rfl) (by kernel_rfl) (by kernel_rfl) (fun _ _ _ h => h) (.inl ⟨by rfl, fun w _ => by rfl⟩) hS ?_
    try simp only [Act.put, List.setIfInBounds_toArray, List.set_cons_zero, List.set_cons_succ]
    refine takeL 16 (.pointer (some ⟨ba, 1, none⟩)) rfl (by kernel_rfl) (by kernel_rfl) (by kernel_rfl) (fun _ _ _ h => h) (.inl ⟨by rfl, fun w hw => by (unfold execOp; go_simp)⟩) hS ?_
    try simp only [Act.put, List.setIfInBounds_toArray, List.set_cons_zero, List.set_cons_succ]
    refine takeL 17 (.slice a2 p1.cells.length ak2) rfl (by kernel_rfl) (by kernel_rfl) (by kernel_rfl) (fun _ _ _ h => h) (.inl ⟨by rfl, fun w hw => by (have h := hw.2.2.cell 1; unfold execOp; go_simp)⟩) hS ?_
    try simp only [Act.put, List.setIfInBounds_toArray, List.set_cons_zero, List.set_cons_succ]
    refine takeL 18 (.int .i64 p1.cells.length) rfl (by kernel_rfl) (by kernel_rfl) (by kernel_rfl) (fun _ _ _ h => h) (.inl ⟨by rfl, fun w hw => by (unfold execOp; go_simp)⟩) hS ?_
    try simp only [Act.put, List.setIfInBounds_toArray, List.set_cons_zero, List.set_cons_succ]
    refine takeL 19 (.pointer (some ⟨w1.heap.size + 1, 1, none⟩)) rfl (by kernel_rfl) (by kernel_rfl) (by kernel_rfl) (fun _ _ _ h => h) (.inl ⟨by rfl, fun w hw => by (unfold execOp; go_simp)⟩) hS ?_
    try simp only [Act.put, List.setIfInBounds_toArray, List.set_cons_zero, List.set_cons_succ]
    refine takeL 20 (.slice q2 x.cells.length qk2) rfl (by kernel_rfl) (by kernel_rfl) (by kernel_rfl) (fun _ _ _ h => h) (.inl ⟨by rfl, fun w hw => by (have h := hw.2.1.cell 1; unfold execOp; go_simp)⟩) hS ?_
    try simp only [Act.put, List.setIfInBounds_toArray, List.set_cons_zero, List.set_cons_succ]
    refine takeL 21 (.int .i64 x.cells.length) rfl (by kernel_rfl) (by kernel_rfl) (by kernel_rfl) (fun _ _ _ h => h) (.inl ⟨by rfl, fun w hw => by (unfold execOp; go_simp)⟩) hS ?_
    try simp only [Act.put, List.setIfInBounds_toArray, List.set_cons_zero, List.set_cons_succ]
    refine takeL 22 (.bool false) rfl (by kernel_rfl) (by kernel_rfl) (by kernel_rfl) (fun _ _ _ h => h) (.inl ⟨by rfl, fun w hw => by (unfold execOp; go_simp; all_goals (rw [HCL.out]; first | done | simp))⟩) hS ?_
    try simp only [Act.put, List.setIfInBounds_toArray, List.set_cons_zero, List.set_cons_succ]
    refine takeL 23 (.bool false) rfl (by kernel_rfl) (by kernel_rfl) (by kernel_rfl) (fun _ _ _ h => h) (.inl ⟨by rfl, fun w _ => by rfl⟩) hS ?_
    try simp only [Act.put, List.setIfInBounds_toArray, List.set_cons_zero, List.set_cons_succ]
    refine wpAnyH_done (by kernel_rfl) ?_ _
    have hpl := HP1.out.totals
    clear hS hok htt KS hx HOK HOX HCL HP1
    have HRT : Hid (∀ W, Below w10.heap.size w10 W → RowI W (.slice q1 x.totals.length qk1) x.totals) := fun W h => rowT (he.later h)
    have HRA : Hid (∀ W, Below w10.heap.size w10 W → RowI W (.slice a1 p1.totals.length ak1) p1.totals) := fun W h => rowT (ha.later h)
    clear he ha hy
    have B2 : Below w10.heap.size w10 w10 := Below.refl _ _
    generalize statsTotal d x = TT at hT0 hT1
    go_wp2
    go_loopw [11] (fun i wr => ∃ k : Nat, i = .int .i64 k ∧ k ≤ p1.totals.length ∧ Blk 31 wr (w1.heap.size + 1) #[.slice q1 x.totals.length qk1, .slice q2 x.cells.length qk2] ∧ Blk 31 wr ba #[.slice a1 p1.totals.length ak1, .slice a2 p1.cells.length ak2] ∧ Blk 33 wr (w1.heap.size + 1 + 1) #[.slice rb y.bins.length rkb, .int .i64 y.cls] ∧ Below w.heap.size w wr ∧ Below w10.heap.size w10 wr) (fun i _ => p1.totals.length - (intOf i).toNat)
    case atStart => exact ⟨0, rfl, by omega, KT, KA, KE, B, B2⟩
    case round =>
      clear KT KA KE B B2
      obtain ⟨k, rfl, hk, KT, KA, KE, B, B2⟩ := hrel
      have k0 : wr.cell? ⟨ba, 0, none⟩ = some (.slice a1 p1.totals.length ak1) := KA.cell 0
      by_cases hlt : k < p1.totals.length
      · obtain ⟨ga, fa, rfl, ca⟩ := row_cell (HRA.out wr B2) hlt
        obtain ⟨gt, ft, rfl, ct⟩ := row_cell (HRT.out wr B2) (show k < x.totals.length by have := HTL.out; omega)
        have hke := HAT.out k hlt
        have k1 : wr.cell? ⟨w1.heap.size + 1, 0, none⟩ = some (.slice (some ⟨gt, ft, none⟩) x.totals.length qk1) := KT.cell 0
        have k2 : wr.cell? ⟨w1.heap.size + 1 + 1, 1, none⟩ = some (.int .i64 y.cls) := KE.cell 1
        have hltt : k < x.totals.length := by have := HTL.out; omega
        have bd : Below wr.heap.size wr wr.drew := below_drewN (Below.refl _ _) 1
        have D1 := KT.below bd
        have D2 := KA.below bd
        have D3 := KE.below bd
        have D4 := B.trans (bd.mono B.size)
        have D5 := B2.trans (bd.mono B2.size)
        clear KT KA KE B B2 bd
        generalize p1.totals.getD k 0 = A at ca hke
        generalize x.totals.getD k 0 = T at ct hke
        generalize y.cls = C at k2 D3 hke ⊢
        by_cases hkc : (k : Int) = C
        · subst hkc
          have hA : A = T + n := hke.2.2.1 rfl
          obtain ⟨hA0, hA1, -⟩ := hke
          go_wp2_with fail
          clear k0 k1 k2
          refine wp_region_held_drew (S := fun w' => Blk 31 w' (w1.heap.size + 1) #[.slice (some ⟨gt, ft, none⟩) x.totals.length qk1, .slice q2 x.cells.length qk2] ∧ Blk 31 w' ba #[.slice (some ⟨ga, fa, none⟩) p1.totals.length ak1, .slice a2 p1.cells.length ak2] ∧ Blk 33 w' (w1.heap.size + 1 + 1) #[.slice rb y.bins.length rkb, .int .i64 (k : Int)] ∧ w'.cell? ⟨ga, fa + k, none⟩ = some (.int .i64 A) ∧ w'.cell? ⟨gt, ft + k, none⟩ = some (.int .i64 T)) (by kernel_rfl) ⟨D1, D2, D3, ca, ct⟩ ?_
          intro hS
          refine takeL 0 (.int .i64 (k : Int)) rfl (by kernel_rfl) (by kernel_rfl) (by kernel_rfl) (fun _ _ _ h => h) (.inl ⟨by rfl, fun w _ => by rfl⟩) hS ?_
          try simp only [Act.put, List.setIfInBounds_toArray, List.set_cons_zero, List.set_cons_succ]
          refine takeL 1 (.pointer (some ⟨w1.heap.size + 1 + 1, 1, none⟩)) rfl (by kernel_rfl) (by kernel_rfl) (by kernel_rfl) (fun _ _ _ h => h) (.inl ⟨by rfl, fun w hw => by (unfold execOp; go_simp)⟩) hS ?_
          try simp only [Act.put, List.setIfInBounds_toArray, List.set_cons_zero, List.set_cons_succ]
          refine takeL 2 (.int .i64 (k : Int)) rfl (by kernel_rfl) (by kernel_rfl) (by kernel_rfl) (fun _ _ _ h => h) (.inl ⟨by rfl, fun w hw => by (have h := hw.2.2.1.cell 1; unfold execOp; go_simp)⟩) hS ?_
          try simp only [Act.put, List.setIfInBounds_toArray, List.set_cons_zero, List.set_cons_succ]
          refine takeL 3 (.bool false) rfl (by kernel_rfl) (by kernel_rfl) (by kernel_rfl) (fun _ _ _ h => h) (.inl ⟨by rfl, fun w hw => by (unfold execOp; go_simp)⟩) hS ?_
          try simp only [Act.put, List.setIfInBounds_toArray, List.set_cons_zero, List.set_cons_succ]
          refine takeL 4 (.bool false) rfl (by kernel_rfl) (by kernel_rfl) (by kernel_rfl) (fun _ _ _ h => h) (.inl ⟨by rfl, fun w _ => by rfl⟩) hS ?_
          try simp only [Act.put, List.setIfInBounds_toArray, List.set_cons_zero, List.set_cons_succ]
          refine takeL 5 (undef) rfl (by kernel_rfl) (by kernel_rfl) (by kernel_rfl) (fun _ _ _ h => h) (.inr ⟨by rfl, rfl⟩) hS ?_
          try simp only [Act.put, List.setIfInBounds_toArray, List.set_cons_zero, List.set_cons_succ]
          refine takeL 6 (undef) rfl (by kernel_rfl) (by kernel_rfl) (by kernel_rfl) (fun _ _ _ h => h) (.inr ⟨by rfl, rfl⟩) hS ?_
          try simp only [Act.put, List.setIfInBounds_toArray, List.set_cons_zero, List.set_cons_succ]
          refine takeL 7 (undef) rfl (by kernel_rfl) (by kernel_rfl) (by kernel_rfl) (fun _ _ _ h => h) (.inr ⟨by rfl, rfl⟩) hS ?_
          try simp only [Act.put, List.setIfInBounds_toArray, List.set_cons_zero, List.set_cons_succ]
          refine takeL 8 (undef) rfl (by kernel_rfl) (by kernel_rfl) (by kernel_rfl) (fun _ _ _ h => h) (.inr ⟨by rfl, rfl⟩) hS ?_
          try simp only [Act.put, List.setIfInBounds_toArray, List.set_cons_zero, List.set_cons_succ]
          refine takeL 9 (undef) rfl (by kernel_rfl) (by kernel_rfl) (by kernel_rfl) (fun _ _ _ h => h) (.inr ⟨by rfl, rfl⟩) hS ?_
          try simp only [Act.put, List.setIfInBounds_toArray, List.set_cons_zero, List.set_cons_succ]
          refine takeL 10 (undef) rfl (by kernel_rfl) (by kernel_rfl) (by kernel_rfl) (fun _ _ _ h => h) (.inr ⟨by rfl, rfl⟩) hS ?_
          try simp only [Act.put, List.setIfInBounds_toArray, List.set_cons_zero, List.set_cons_succ]
          refine takeL 11 (undef) rfl (by kernel_rfl) (by kernel_rfl) (by kernel_rfl) (fun _ _ _ h => h) (.inr ⟨by rfl, rfl⟩) hS ?_
          try simp only [Act.put, List.setIfInBounds_toArray, List.set_cons_zero, List.set_cons_succ]
          refine takeL 12 (undef) rfl (by kernel_rfl) (by kernel_rfl) (by kernel_rfl) (fun _ _ _ h => h) (.inr ⟨by rfl, rfl⟩) hS ?_
          try simp only [Act.put, List.setIfInBounds_toArray, List.set_cons_zero, List.set_cons_succ]
          refine takeL 13 (undef) rfl (by kernel_rfl) (by kernel_rfl) (by kernel_rfl) (fun _ _ _ h => h) (.inr ⟨by rfl, rfl⟩) hS ?_
          try simp only [Act.put, List.setIfInBounds_toArray, List.set_cons_zero, List.set_cons_succ]
          refine takeL 14 (undef) rfl (by kernel_rfl) (by kernel_rfl) (by kernel_rfl) (fun _ _ _ h => h) (.inr ⟨by rfl, rfl⟩) hS ?_
          try simp only [Act.put, List.setIfInBounds_toArray, List.set_cons_zero, List.set_cons_succ]
          refine takeL 15 (undef) rfl (by kernel_rfl) (by kernel_rfl) (by kernel_rfl) (fun _ _ _ h => h) (.inr ⟨by rfl, rfl⟩) hS ?_
          try simp only [Act.put, List.setIfInBounds_toArray, List.set_cons_zero, List.set_cons_succ]
          refine takeL 16 (.bool false) rfl (by kernel_rfl) (by kernel_rfl) (by kernel_rfl) (fun _ _ _ h => h) (.inl ⟨by rfl, fun w _ => by rfl⟩) hS ?_
          try simp only [Act.put, List.setIfInBounds_toArray, List.set_cons_zero, List.set_cons_succ]
          refine takeL 17 (.bool false) rfl (by kernel_rfl) (by kernel_rfl) (by kernel_rfl) (fun _ _ _ h => h) (.inl ⟨by rfl, fun w _ => by rfl⟩) hS ?_
          try simp only [Act.put, List.setIfInBounds_toArray, List.set_cons_zero, List.set_cons_succ]
          refine takeL 18 (.int .i64 (k : Int)) rfl (by kernel_rfl) (by kernel_rfl) (by kernel_rfl) (fun _ _ _ h => h) (.inl ⟨by rfl, fun w _ => by rfl⟩) hS ?_
          try simp only [Act.put, List.setIfInBounds_toArray, List.set_cons_zero, List.set_cons_succ]
          refine takeL 19 (.pointer (some ⟨w1.heap.size + 1 + 1, 1, none⟩)) rfl (by kernel_rfl) (by kernel_rfl) (by kernel_rfl) (fun _ _ _ h => h) (.inl ⟨by rfl, fun w hw => by (unfold execOp; go_simp)⟩) hS ?_
          try simp only [Act.put, List.setIfInBounds_toArray, List.set_cons_zero, List.set_cons_succ]
          refine takeL 20 (.int .i64 (k : Int)) rfl (by kernel_rfl) (by kernel_rfl) (by kernel_rfl) (fun _ _ _ h => h) (.inl ⟨by rfl, fun w hw => by (have h := hw.2.2.1.cell 1; unfold execOp; go_simp)⟩) hS ?_
          try simp only [Act.put, List.setIfInBounds_toArray, List.set_cons_zero, List.set_cons_succ]
          refine takeL 21 (.bool true) rfl (by kernel_rfl) (by kernel_rfl) (by kernel_rfl) (fun _ _ _ h => h) (.inl ⟨by rfl, fun w hw => by (unfold execOp; go_simp)⟩) hS ?_
          try simp only [Act.put, List.setIfInBounds_toArray, List.set_cons_zero, List.set_cons_succ]
          refine takeL 22 (.bool true) rfl (by kernel_rfl) (by kernel_rfl) (by kernel_rfl) (fun _ _ _ h => h) (.inl ⟨by rfl, fun w _ => by rfl⟩) hS ?_
          try simp only [Act.put, List.setIfInBounds_toArray, List.set_cons_zero, List.set_cons_succ]
          refine takeL 23 (.pointer (some ⟨ba, 0, none⟩)) rfl (by kernel_rfl) (by kernel_rfl) (by kernel_rfl) (fun _ _ _ h => h) (.inl ⟨by rfl, fun w hw => by (unfold execOp; go_simp)⟩) hS ?_
          try simp only [Act.put, List.setIfInBounds_toArray, List.set_cons_zero, List.set_cons_succ]
          refine takeL 24 (.slice (some ⟨ga, fa, none⟩) p1.totals.length ak1) rfl (by kernel_rfl) (by kernel_rfl) (by kernel_rfl) (fun _ _ _ h => h) (.inl ⟨by rfl, fun w hw => by (have h := hw.2.1.cell 0; unfold execOp; go_simp)⟩) hS ?_
          try simp only [Act.put, List.setIfInBounds_toArray, List.set_cons_zero, List.set_cons_succ]
          refine takeL 25 (.int .i64 (k : Int)) rfl (by kernel_rfl) (by kernel_rfl) (by kernel_rfl) (fun _ _ _ h => h) (.inl ⟨by rfl, fun w _ => by rfl⟩) hS ?_
          try simp only [Act.put, List.setIfInBounds_toArray, List.set_cons_zero, List.set_cons_succ]
          refine takeL 26 (.pointer (some ⟨ga, fa + k, none⟩)) rfl (by kernel_rfl) (by kernel_rfl) (by kernel_rfl) (fun _ _ _ h => h) (.inl ⟨by rfl, fun w hw => by (unfold execOp; go_simp; all_goals omega)⟩) hS ?_
          try simp only [Act.put, List.setIfInBounds_toArray, List.set_cons_zero, List.set_cons_succ]
          refine takeL 27 (.int .i64 A) rfl (by kernel_rfl) (by kernel_rfl) (by kernel_rfl) (fun _ _ _ h => h) (.inl ⟨by rfl, fun w hw => by (have h := hw.2.2.2.1; unfold execOp; go_simp)⟩) hS ?_
          try simp only [Act.put, List.setIfInBounds_toArray, List.set_cons_zero, List.set_cons_succ]
          refine takeL 28 (.pointer (some ⟨w1.heap.size + 1, 0, none⟩)) rfl (by kernel_rfl) (by kernel_rfl) (by kernel_rfl) (fun _ _ _ h => h) (.inl ⟨by rfl, fun w hw => by (unfold execOp; go_simp)⟩) hS ?_
          try simp only [Act.put, List.setIfInBounds_toArray, List.set_cons_zero, List.set_cons_succ]
          refine takeL 29 (.slice (some ⟨gt, ft, none⟩) x.totals.length qk1) rfl (by kernel_rfl) (by kernel_rfl) (by kernel_rfl) (fun _ _ _ h => h) (.inl ⟨by rfl, fun w hw => by (have h := hw.1.cell 0; unfold execOp; go_simp)⟩) hS ?_
          try simp only [Act.put, List.setIfInBounds_toArray, List.set_cons_zero, List.set_cons_succ]
          refine takeL 30 (.int .i64 (k : Int)) rfl (by kernel_rfl) (by kernel_rfl) (by kernel_rfl) (fun _ _ _ h => h) (.inl ⟨by rfl, fun w _ => by rfl⟩) hS ?_
          try simp only [Act.put, List.setIfInBounds_toArray, List.set_cons_zero, List.set_cons_succ]
          refine takeL 31 (.pointer (some ⟨gt, ft + k, none⟩)) rfl (by kernel_rfl) (by kernel_rfl) (by kernel_rfl) (fun _ _ _ h => h) (.inl ⟨by rfl, fun w hw => by (unfold execOp; go_simp; all_goals omega)⟩) hS ?_
          try simp only [Act.put, List.setIfInBounds_toArray, List.set_cons_zero, List.set_cons_succ]
          refine takeL 32 (.int .i64 T) rfl (by kernel_rfl) (by kernel_rfl) (by kernel_rfl) (fun _ _ _ h => h) (.inl ⟨by rfl, fun w hw => by (have h := hw.2.2.2.2; unfold execOp; go_simp)⟩) hS ?_
          try simp only [Act.put, List.setIfInBounds_toArray, List.set_cons_zero, List.set_cons_succ]
          refine takeL 33 (.int .i64 n) rfl (by kernel_rfl) (by kernel_rfl) (by kernel_rfl) (fun _ _ _ h => h) (.inl ⟨by rfl, fun w _ => by rfl⟩) hS ?_
          try simp only [Act.put, List.setIfInBounds_toArray, List.set_cons_zero, List.set_cons_succ]
          refine takeL 34 (.int .i64 (T + n)) rfl (by kernel_rfl) (by kernel_rfl) (by kernel_rfl) (fun _ _ _ h => h) (.inl ⟨by rfl, fun w hw => by (unfold execOp; go_simp; all_goals (rw [IntKind.wrap_i64]; omega))⟩) hS ?_
          try simp only [Act.put, List.setIfInBounds_toArray, List.set_cons_zero, List.set_cons_succ]
          refine takeL 35 (.bool false) rfl (by kernel_rfl) (by kernel_rfl) (by kernel_rfl) (fun _ _ _ h => h) (.inl ⟨by rfl, fun w hw => by (unfold execOp; go_simp)⟩) hS ?_
          try simp only [Act.put, List.setIfInBounds_toArray, List.set_cons_zero, List.set_cons_succ]
          refine takeL 36 (.bool false) rfl (by kernel_rfl) (by kernel_rfl) (by kernel_rfl) (fun _ _ _ h => h) (.inl ⟨by rfl, fun w _ => by rfl⟩) hS ?_
          try simp only [Act.put, List.setIfInBounds_toArray, List.set_cons_zero, List.set_cons_succ]
          refine takeL 37 (.bool false) rfl (by kernel_rfl) (by kernel_rfl) (by kernel_rfl) (fun _ _ _ h => h) (.inl ⟨by rfl, fun w _ => by rfl⟩) hS ?_
          try simp only [Act.put, List.setIfInBounds_toArray, List.set_cons_zero, List.set_cons_succ]
          refine wpAnyH_done (by kernel_rfl) ?_ _
          clear hS ca ct
          go_wp2
          go_roundw
          case rel => exact ⟨k + 1, by go_num, by omega, D1, D2, D3, D4, D5⟩
          case measure => simp [intOf]; omega
        · have hA : A = T := hke.2.2.2 hkc
          have hA0 := hke.1
          have hA1 := hke.2.1
          clear hke
          go_wp2_with fail
          clear k0 k1 k2
          refine wp_region_held_drew (S := fun w' => Blk 31 w' (w1.heap.size + 1) #[.slice (some ⟨gt, ft, none⟩) x.totals.length qk1, .slice q2 x.cells.length qk2] ∧ Blk 31 w' ba #[.slice (some ⟨ga, fa, none⟩) p1.totals.length ak1, .slice a2 p1.cells.length ak2] ∧ Blk 33 w' (w1.heap.size + 1 + 1) #[.slice rb y.bins.length rkb, .int .i64 C] ∧ w'.cell? ⟨ga, fa + k, none⟩ = some (.int .i64 A) ∧ w'.cell? ⟨gt, ft + k, none⟩ = some (.int .i64 T)) (by kernel_rfl) ⟨D1, D2, D3, ca, ct⟩ ?_
          intro hS
          refine takeL 0 (.int .i64 (k : Int)) rfl (by kernel_rfl) (by kernel_rfl) (by kernel_rfl) (fun _ _ _ h => h) (.inl ⟨by rfl, fun w _ => by rfl⟩) hS ?_
          try simp only [Act.put, List.setIfInBounds_toArray, List.set_cons_zero, List.set_cons_succ]
          refine takeL 1 (.pointer (some ⟨w1.heap.size + 1 + 1, 1, none⟩)) rfl (by kernel_rfl) (by kernel_rfl) (by kernel_rfl) (fun _ _ _ h => h) (.inl ⟨by rfl, fun w hw => by (unfold execOp; go_simp)⟩) hS ?_
          try simp only [Act.put, List.setIfInBounds_toArray, List.set_cons_zero, List.set_cons_succ]
          refine takeL 2 (.int .i64 C) rfl (by kernel_rfl) (by kernel_rfl) (by kernel_rfl) (fun _ _ _ h => h) (.inl ⟨by rfl, fun w hw => by (have h := hw.2.2.1.cell 1; unfold execOp; go_simp)⟩) hS ?_
          try simp only [Act.put, List.setIfInBounds_toArray, List.set_cons_zero, List.set_cons_succ]
          refine takeL 3 (.bool true) rfl (by kernel_rfl) (by kernel_rfl) (by kernel_rfl) (fun _ _ _ h => h) (.inl ⟨by rfl, fun w hw => by (unfold execOp; go_simp)⟩) hS ?_
          try simp only [Act.put, List.setIfInBounds_toArray, List.set_cons_zero, List.set_cons_succ]
          refine takeL 4 (.bool true) rfl (by kernel_rfl) (by kernel_rfl) (by kernel_rfl) (fun _ _ _ h => h) (.inl ⟨by rfl, fun w _ => by rfl⟩) hS ?_
          try simp only [Act.put, List.setIfInBounds_toArray, List.set_cons_zero, List.set_cons_succ]
          refine takeL 5 (.pointer (some ⟨ba, 0, none⟩)) rfl (by kernel_rfl) (by kernel_rfl) (by kernel_rfl) (fun _ _ _ h => h) (.inl ⟨by rfl, fun w hw => by (unfold execOp; go_simp)⟩) hS ?_
          try simp only [Act.put, List.setIfInBounds_toArray, List.set_cons_zero, List.set_cons_succ]
          refine takeL 6 (.slice (some ⟨ga, fa, none⟩) p1.totals.length ak1) rfl (by kernel_rfl) (by kernel_rfl) (by kernel_rfl) (fun _ _ _ h => h) (.inl ⟨by rfl, fun w hw => by (have h := hw.2.1.cell 0; unfold execOp; go_simp)⟩) hS ?_
          try simp only [Act.put, List.setIfInBounds_toArray, List.set_cons_zero, List.set_cons_succ]
          refine takeL 7 (.int .i64 (k : Int)) rfl (by kernel_rfl) (by kernel_rfl) (by kernel_rfl) (fun _ _ _ h => h) (.inl ⟨by rfl, fun w _ => by rfl⟩) hS ?_
          try simp only [Act.put, List.setIfInBounds_toArray, List.set_cons_zero, List.set_cons_succ]
          refine takeL 8 (.pointer (some ⟨ga, fa + k, none⟩)) rfl (by kernel_rfl) (by kernel_rfl) (by kernel_rfl) (fun _ _ _ h => h) (.inl ⟨by rfl, fun w hw => by (unfold execOp; go_simp; all_goals omega)⟩) hS ?_
          try simp only [Act.put, List.setIfInBounds_toArray, List.set_cons_zero, List.set_cons_succ]
          refine takeL 9 (.int .i64 A) rfl (by kernel_rfl) (by kernel_rfl) (by kernel_rfl) (fun _ _ _ h => h) (.inl ⟨by rfl, fun w hw => by (have h := hw.2.2.2.1; unfold execOp; go_simp)⟩) hS ?_
          try simp only [Act.put, List.setIfInBounds_toArray, List.set_cons_zero, List.set_cons_succ]
          refine takeL 10 (.pointer (some ⟨w1.heap.size + 1, 0, none⟩)) rfl (by kernel_rfl) (by kernel_rfl) (by kernel_rfl) (fun _ _ _ h => h) (.inl ⟨by rfl, fun w hw => by (unfold execOp; go_simp)⟩) hS ?_
          try simp only [Act.put, List.setIfInBounds_toArray, List.set_cons_zero, List.set_cons_succ]
          refine takeL 11 (.slice (some ⟨gt, ft, none⟩) x.totals.length qk1) rfl (by kernel_rfl) (by kernel_rfl) (by kernel_rfl) (fun _ _ _ h => h) (.inl ⟨by rfl, fun w hw => by (have h := hw.1.cell 0; unfold execOp; go_simp)⟩) hS ?_
          try simp only [Act.put, List.setIfInBounds_toArray, List.set_cons_zero, List.set_cons_succ]
          refine takeL 12 (.int .i64 (k : Int)) rfl (by kernel_rfl) (by kernel_rfl) (by kernel_rfl) (fun _ _ _ h => h) (.inl ⟨by rfl, fun w _ => by rfl⟩) hS ?_
          try simp only [Act.put, List.setIfInBounds_toArray, List.set_cons_zero, List.set_cons_succ]
          refine takeL 13 (.pointer (some ⟨gt, ft + k, none⟩)) rfl (by kernel_rfl) (by kernel_rfl) (by kernel_rfl) (fun _ _ _ h => h) (.inl ⟨by rfl, fun w hw => by (unfold execOp; go_simp; all_goals omega)⟩) hS ?_
          try simp only [Act.put, List.setIfInBounds_toArray, List.set_cons_zero, List.set_cons_succ]
          refine takeL 14 (.int .i64 T) rfl (by kernel_rfl) (by kernel_rfl) (by kernel_rfl) (fun _ _ _ h => h) (.inl ⟨by rfl, fun w hw => by (have h := hw.2.2.2.2; unfold execOp; go_simp)⟩) hS ?_
          try simp only [Act.put, List.setIfInBounds_toArray, List.set_cons_zero, List.set_cons_succ]
          refine takeL 15 (.bool false) rfl (by kernel_rfl) (by kernel_rfl) (by kernel_rfl) (fun _ _ _ h => h) (.inl ⟨by rfl, fun w hw => by (unfold execOp; go_simp)⟩) hS ?_
          try simp only [Act.put, List.setIfInBounds_toArray, List.set_cons_zero, List.set_cons_succ]
          refine takeL 16 (.bool false) rfl (by kernel_rfl) (by kernel_rfl) (by kernel_rfl) (fun _ _ _ h => h) (.inl ⟨by rfl, fun w _ => by rfl⟩) hS ?_
          try simp only [Act.put, List.setIfInBounds_toArray, List.set_cons_zero, List.set_cons_succ]
          refine takeL 17 (.bool false) rfl (by kernel_rfl) (by kernel_rfl) (by kernel_rfl) (fun _ _ _ h => h) (.inl ⟨by rfl, fun w _ => by rfl⟩) hS ?_
          try simp only [Act.put, List.setIfInBounds_toArray, List.set_cons_zero, List.set_cons_succ]
          refine takeL 18 (.int .i64 (k : Int)) rfl (by kernel_rfl) (by kernel_rfl) (by kernel_rfl) (fun _ _ _ h => h) (.inl ⟨by rfl, fun w _ => by rfl⟩) hS ?_
          try simp only [Act.put, List.setIfInBounds_toArray, List.set_cons_zero, List.set_cons_succ]
          refine takeL 19 (.pointer (some ⟨w1.heap.size + 1 + 1, 1, none⟩)) rfl (by kernel_rfl) (by kernel_rfl) (by kernel_rfl) (fun _ _ _ h => h) (.inl ⟨by rfl, fun w hw => by (unfold execOp; go_simp)⟩) hS ?_
          try simp only [Act.put, List.setIfInBounds_toArray, List.set_cons_zero, List.set_cons_succ]
          refine takeL 20 (.int .i64 C) rfl (by kernel_rfl) (by kernel_rfl) (by kernel_rfl) (fun _ _ _ h => h) (.inl ⟨by rfl, fun w hw => by (have h := hw.2.2.1.cell 1; unfold execOp; go_simp)⟩) hS ?_
          try simp only [Act.put, List.setIfInBounds_toArray, List.set_cons_zero, List.set_cons_succ]
          refine takeL 21 (.bool false) rfl (by kernel_rfl) (by kernel_rfl) (by kernel_rfl) (fun _ _ _ h => h) (.inl ⟨by rfl, fun w hw => by (unfold execOp; go_simp)⟩) hS ?_
          try simp only [Act.put, List.setIfInBounds_toArray, List.set_cons_zero, List.set_cons_succ]
          refine takeL 22 (.bool false) rfl (by kernel_rfl) (by kernel_rfl) (by kernel_rfl) (fun _ _ _ h => h) (.inl ⟨by rfl, fun w _ => by rfl⟩) hS ?_
          try simp only [Act.put, List.setIfInBounds_toArray, List.set_cons_zero, List.set_cons_succ]
          refine takeL 23 (undef) rfl (by kernel_rfl) (by kernel_rfl) (by kernel_rfl) (fun _ _ _ h => h) (.inr ⟨by rfl, rfl⟩) hS ?_
          try simp only [Act.put, List.setIfInBounds_toArray, List.set_cons_zero, List.set_cons_succ]
          refine takeL 24 (undef) rfl (by kernel_rfl) (by kernel_rfl) (by kernel_rfl) (fun _ _ _ h => h) (.inr ⟨by rfl, rfl⟩) hS ?_
          try simp only [Act.put, List.setIfInBounds_toArray, List.set_cons_zero, List.set_cons_succ]
          refine takeL 25 (undef) rfl (by kernel_rfl) (by kernel_rfl) (by kernel_rfl) (fun _ _ _ h => h) (.inr ⟨by rfl, rfl⟩) hS ?_
          try simp only [Act.put, List.setIfInBounds_toArray, List.set_cons_zero, List.set_cons_succ]
          refine takeL 26 (undef) rfl (by kernel_rfl) (by kernel_rfl) (by kernel_rfl) (fun _ _ _ h => h) (.inr ⟨by rfl, rfl⟩) hS ?_
          try simp only [Act.put, List.setIfInBounds_toArray, List.set_cons_zero, List.set_cons_succ]
          refine takeL 27 (undef) rfl (by kernel_rfl) (by kernel_rfl) (by kernel_rfl) (fun _ _ _ h => h) (.inr ⟨by rfl, rfl⟩) hS ?_
          try simp only [Act.put, List.setIfInBounds_toArray, List.set_cons_zero, List.set_cons_succ]
          refine takeL 28 (undef) rfl (by kernel_rfl) (by kernel_rfl) (by kernel_rfl) (fun _ _ _ h => h) (.inr ⟨by rfl, rfl⟩) hS ?_
          try simp only [Act.put, List.setIfInBounds_toArray, List.set_cons_zero, List.set_cons_succ]
          refine takeL 29 (undef) rfl (by kernel_rfl) (by kernel_rfl) (by kernel_rfl) (fun _ _ _ h => h) (.inr ⟨by rfl, rfl⟩) hS ?_
          try simp only [Act.put, List.setIfInBounds_toArray, List.set_cons_zero, List.set_cons_succ]
          refine takeL 30 (undef) rfl (by kernel_rfl) (by kernel_rfl) (by kernel_rfl) (fun _ _ _ h => h) (.inr ⟨by rfl, rfl⟩) hS ?_
          try simp only [Act.put, List.setIfInBounds_toArray, List.set_cons_zero, List.set_cons_succ]
          refine takeL 31 (undef) rfl (by kernel_rfl) (by kernel_rfl) (by kernel_rfl) (fun _ _ _ h => h) (.inr ⟨by rfl, rfl⟩) hS ?_
          try simp only [Act.put, List.setIfInBounds_toArray, List.set_cons_zero, List.set_cons_succ]
          refine takeL 32 (undef) rfl (by kernel_rfl) (by kernel_rfl) (by kernel_rfl) (fun _ _ _ h => h) (.inr ⟨by rfl, rfl⟩) hS ?_
          try simp only [Act.put, List.setIfInBounds_toArray, List.set_cons_zero, List.set_cons_succ]
          refine takeL 33 (undef) rfl (by kernel_rfl) (by kernel_rfl) (by kernel_rfl) (fun _ _ _ h => h) (.inr ⟨by rfl, rfl⟩) hS ?_
          try simp only [Act.put, List.setIfInBounds_toArray, List.set_cons_zero, List.set_cons_succ]
          refine takeL 34 (undef) rfl (by kernel_rfl) (by kernel_rfl) (by kernel_rfl) (fun _ _ _ h => h) (.inr ⟨by rfl, rfl⟩) hS ?_
          try simp only [Act.put, List.setIfInBounds_toArray, List.set_cons_zero, List.set_cons_succ]
          refine takeL 35 (undef) rfl (by kernel_rfl) (by kernel_rfl) (by kernel_rfl) (fun _ _ _ h => h) (.inr ⟨by rfl, rfl⟩) hS ?_
          try simp only [Act.put, List.setIfInBounds_toArray, List.set_cons_zero, List.set_cons_succ]
          refine takeL 36 (.bool false) rfl (by kernel_rfl) (by kernel_rfl) (by kernel_rfl) (fun _ _ _ h => h) (.inl ⟨by rfl, fun w _ => by rfl⟩) hS ?_
          try simp only [Act.put, List.setIfInBounds_toArray, List.set_cons_zero, List.set_cons_succ]
          refine takeL 37 (.bool false) rfl (by kernel_rfl) (by kernel_rfl) (by kernel_rfl) (fun _ _ _ h => h) (.inl ⟨by rfl, fun w _ => by rfl⟩) hS ?_
          try simp only [Act.put, List.setIfInBounds_toArray, List.set_cons_zero, List.set_cons_succ]
          refine wpAnyH_done (by kernel_rfl) ?_ _
          clear hS ca ct
          go_wp2
          go_roundw
          case rel => exact ⟨k + 1, by go_num, by omega, D1, D2, D3, D4, D5⟩
          case measure => simp [intOf]; omega
      · obtain rfl : k = p1.totals.length := by omega
        go_wp2
        go_ret
        exact ⟨rfl, B⟩
end Go.Proofs.Ytmdmplphendpcaa
