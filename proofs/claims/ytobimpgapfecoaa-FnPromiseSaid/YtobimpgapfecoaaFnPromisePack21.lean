/- Texts of this claim, put together: part 21. -/
import Derived.Maps.AppendAt
import Derived.Test.YtobimpgapfecoaaFnPromisePack20
import Derived.Test.YtobimpgapfecoaaFnPromisePack16
import Derived.Test.YtobimpgapfecoaaFnPromisePack17
/- Draws of chapter 8: counts, right or not. -/
namespace Go.Proofs.Ytobimpgapfecoaa
open Go.RowKit
set_option maxRecDepth 100000
set_option linter.unusedSimpArgs false
theorem tiny_set {n k : Nat} {d : StatsD} (y : Int) (h : tinySt n d) : tinySt n ⟨d.totals.set k y, d.cells⟩ := ⟨by simpa using h.totals, h.cells, h.each⟩
theorem tiny_snoc {n : Nat} {d : StatsD} (y : Int) (h : tinySt n d) : tinySt (n + 1) ⟨d.totals ++ [y], d.cells⟩ := ⟨by have := h.totals; simp; omega, by have := h.cells; show d.cells.length ≤ _; omega, fun c hc => by have := h.each c hc; omega⟩
theorem tiny_cell {n m : Nat} {d : StatsD} {c : List Int} (h : tinySt n d) (hc : c.length ≤ m) (hn : n ≤ m) : tinySt m ⟨d.totals, d.cells.set 0 c⟩ :=
  ⟨by have := h.totals; show d.totals.length ≤ _; omega, by have := h.cells; simp; omega, fun x hx => by
    rcases List.mem_or_eq_of_mem_set hx with hx | rfl
    · have := h.each x hx; omega
    · exact hc⟩
section
variable {w : World}
/-- 'append' as an operation of a region that draws; the block of the answer is told. -/
theorem wp_append_at8 {o : Oper} {a : Act} {K : Act → World → Prop} {Q : Exit → Act → World → Prop} (s x : Operand) (t : TypeId)
    (ho : o.op = .call { callee := .builtin .append, args := #[s, x], argTypes := #[t, t] })
    (base : Nat) (e : TypeId) (i : TypeInfo) (z : Value) (size bytes : Nat) (ht : Try.prog.underlying t = some (.slice e)) (hi : Try.prog.info? e = some i) (hz : i.zero = some z)
    (hsize : i.size = size) (hby : i.bytes = bytes) (hzs : z.cells.size = size) (hsz : 0 < size)
    (v : Value) (n : Nat) (xs : List Value) (hs : a.eval s = v) (hown : w.ownsRow base e size v n xs)
    (ad : Addr) (m c : Nat) (news : List Value) (hx : a.eval x = .slice (some ad) m c) (hl : news.length = m * size) (hnews : ∀ j u, news[j]? = some u → w.cell? (ad.add j) = some u) (h1 : ∀ u ∈ news, u.oneCell' = true)
    (h63 : n + m ≤ maxLen) (hbytes : (n + m) * bytes ≤ 140737488355328) (hbase : base ≤ w.heap.size)
    (h : ∀ v' w', w'.ownsRow base e size v' (n + m) (xs ++ news) → w.grownBy w' v.ownBlock → (v'.ownBlock = v.ownBlock ∨ v'.ownBlock = some w.heap.size) → K (a.put o.dst v') w') :
    o.wp Try.prog a w K Q := by
  obtain ⟨v', w', hr, h2, h3, h4, h5⟩ := run_append_own_at (P := Try.prog) w base t o.type e i z size bytes ht hi hz hsize hby hzs hsz v n xs hown ad m c news hl hnews h1 h63 hbytes hbase
  unfold Oper.wp execOp
  simp only [ho, resolve, invoke, builtin, Sem.run_bind, Sem.run_pure, Result.andThen_ok, List.map_toArray, List.map_cons, List.map_nil, hs, hx, hr]
  exact h v' w' h2 h3 h5
end
set_option maxHeartbeats 6400000 in
theorem draw8_any (g : Nat) (a : Option Addr) (len cap : Nat) (zs : List Int) (vs : Value) (s : SchemaD) (b : Nat) (w : World) (hc : IsCur w g a len cap) (hr : IsRow .u8 w a len cap zs) (hs : OwnS b w vs s) (hgb : g < b) (ht : tinyS s) :
    Calls Try.prog 44 #[.pointer (some ⟨g, 0, none⟩), vs] w fun e w' => ∃ v d, e = .returned v ∧ OwnSt w.heap.size w' v d ∧ tinySt 20 d ∧ IsCur w' g a len cap ∧ w.grownBy w' (some g) := by
  have hgw : g < w.heap.size := hc.lt
  obtain ⟨i0, hi, hi0, hi1, hi2⟩ := info_parts intInfo
  have HR : Hid (∀ w', w.grownBy w' (some g) → IsRow .u8 w' a len cap zs) := fun w' h => hr.aside hc h
  have HTN : Hid (tinyS s) := ht
  obtain ⟨va, vc, rfl, ra, rc⟩ := id hs.at
  obtain ⟨oa, ka, rfl, -, -⟩ := id ra
  obtain ⟨oc, kc, rfl, -, -⟩ := id rc
  clear ra rc ht
  obtain ⟨K1, R, B0⟩ := blk_2 27 31 w #[.slice oa s.attrs.length ka, .slice oc s.classes.length kc] #[.slice none 0 0, .slice none 0 0]
  have gr := grown_of_below B0 (some g)
  have cu := (hc.alloc (.cells #[.slice oa s.attrs.length ka, .slice oc s.classes.length kc] 27)).alloc (.cells #[.slice none 0 0, .slice none 0 0] 31)
  have os := hs.below7 B0
  clear hc hr hs B0
  generalize hW : ((w.alloc (.cells #[.slice oa s.attrs.length ka, .slice oc s.classes.length kc] 27)).alloc (.cells #[.slice none 0 0, .slice none 0 0] 31)) = w0 at K1 R gr cu os
  have hs0 : w.heap.size + 2 = w0.heap.size := by rw [← hW]; simp
  have e1 := right8_any g a len cap zs _ s b w0 cu (HR.out _ gr) os hgb HTN.out
  have j0 : w0.cell? ⟨w.heap.size, 0, none⟩ = some (.slice oa s.attrs.length ka) := K1.cell 0
  have j1 : w0.cell? ⟨w.heap.size, 1, none⟩ = some (.slice oc s.classes.length kc) := K1.cell 1
  clear cu os K1
  go_enter Try.func44, Try.ntmps44
  go_wp2_with fail
  refine e1.mono ?_
  clear e1 j0 j1 hW
  rintro e w1 ⟨v1, d, rfl, o, ts, cu, h1⟩
  obtain ⟨o1, k1, o2, k2, rfl⟩ := o.form
  replace o := o.base (show w.heap.size + 2 ≤ w0.heap.size by omega)
  replace R := R.kept h1 (by intro e; injection e; omega)
  replace gr := grown_trans gr h1
  have hs1 := h1.size
  clear h1
  obtain ⟨T, BX⟩ := blk_1 31 w1 #[.slice o1 d.totals.length k1, .slice o2 d.cells.length k2]
  replace R := R.below BX
  replace o := o.below BX
  replace cu := cu.kept (grown_of_below BX) (by intro e; cases e)
  replace gr := grown_trans gr (grown_of_below BX _)
  clear BX
  generalize hX : w1.alloc (.cells #[.slice o1 d.totals.length k1, .slice o2 d.cells.length k2] 31) = wx at T R o cu gr
  have e1 := l1Below_any g a len cap zs 14 wx cu (HR.out _ gr) (by decide) (by decide)
  go_wp2_with fail
  refine e1.mono ?_
  clear e1 hX cu
  rintro e w2 ⟨t, rfl, ht14, cu, h2⟩
  replace R := R.kept h2 (by intro e; injection e; omega)
  replace T := T.kept h2 (by intro e; injection e; omega)
  replace o := o.curW (by omega) h2
  replace gr := grown_trans gr h2
  clear h2
  have htb : w.heap.size + 2 ≤ w1.heap.size := by omega
  obtain ⟨tb, htb'⟩ : ∃ tb, w1.heap.size = tb := ⟨_, rfl⟩
  rw [htb'] at T htb ⊢
  clear htb' hs1 hs0
  have lt := ts.totals
  have lc := ts.cells
  have q0 : w2.cell? ⟨tb, 0, none⟩ = some (.slice o1 d.totals.length k1) := T.cell 0
  have q1 : w2.cell? ⟨tb, 1, none⟩ = some (.slice o2 d.cells.length k2) := T.cell 1
  by_cases t0 : t = 0
  · subst t0
    by_cases hl : 0 < d.totals.length
    rotate_left
    · have hlz : ¬ (0 : Int) < (d.totals.length : Int) := by omega
      replace ts := ts.up (show 16 ≤ 20 by omega)
      go_wp2_with (first | (with_reducible refine wp_st_load rfl _ rfl ?_; refine ⟨_, rfl, _, _, T, ?_⟩) | (with_reducible refine wp_st_store rfl _ _ rfl ?_; refine ⟨_, rfl, _, _, _, _, _, _, rfl, _, _, R, ?_⟩))
      exact bodyPost_ret (res_st rfl _ _ _ _ _ rfl (R.setRow _)) rfl ⟨_, _, rfl, (o.base (by omega)).rowB R (by decide) (by decide) _, ts, cu.rowW _ (by omega), grown_row gr (by omega) _⟩
    have hlz : (0 : Int) < (d.totals.length : Int) := by omega
    obtain ⟨go, rfl⟩ : ∃ go, o1 = some ⟨go, 0, none⟩ := by
      obtain ⟨vt, vc, L, ys, e, p1, -, -⟩ := id o
      cases e
      exact own_some8 p1 hl
    go_wp2_with fail
    refine region_L (S := fun w' => Blk 31 w' tb #[.slice (some ⟨go, 0, none⟩) d.totals.length k1, .slice o2 d.cells.length k2]) (last := 6) (by kernel_rfl) ?_
    have bd : Below w2.heap.size w2 w2.drew := below_drewN (Below.refl _ _) 1
    replace T := T.below bd
    replace R := R.below bd
    replace o := o.below bd
    replace cu := cu.kept (grown_of_below bd) (by intro e; cases e)
    replace gr := grown_trans gr (grown_of_below bd _)
    clear bd q0 q1
    have hS := T
    generalize w2.drew = w3 at *
    refine firstL 0 (.pointer (some ⟨tb, 0, none⟩)) rfl (by kernel_rfl) (by kernel_rfl) (by kernel_rfl) (fun _ _ _ h => h) (by kernel_rfl) (.inl ⟨by rfl, fun w hw => by (unfold execOp; go_simp)⟩) hS ?_
    try simp only [Act.put, List.setIfInBounds_toArray, List.set_cons_zero, List.set_cons_succ]
    refine firstL 1 (.slice (some ⟨go, 0, none⟩) d.totals.length k1) rfl (by kernel_rfl) (by kernel_rfl) (by kernel_rfl) (fun _ _ _ h => h) (by kernel_rfl) (.inl ⟨by rfl, fun w hw => by have h := hw.cell 0; unfold execOp; go_simp⟩) hS ?_
    try simp only [Act.put, List.setIfInBounds_toArray, List.set_cons_zero, List.set_cons_succ]
    refine firstL 2 (.pointer (some ⟨g, 0, none⟩)) rfl (by kernel_rfl) (by kernel_rfl) (by kernel_rfl) (fun _ _ _ h => h) (by kernel_rfl) (.inl ⟨by rfl, fun w hw => by rfl⟩) hS ?_
    try simp only [Act.put, List.setIfInBounds_toArray, List.set_cons_zero, List.set_cons_succ]
    have e1 := pickN [-1, 999, 998, 1000, 9223372036854775807] g a len cap zs w3 cu (HR.out _ gr) (by simp) (by simp)
    simp only [List.map_cons, List.map_nil, List.length_cons, List.length_nil, Nat.zero_add, Nat.reduceAdd] at e1
    have bn : Below w3.heap.size w3 (w3.alloc (.cells #[.int .i64 (-1), .int .i64 999, .int .i64 998, .int .i64 1000, .int .i64 9223372036854775807] 3)) := (Below.refl _ _).alloc (Nat.le_refl _) _
    refine stepL 3 rfl (by kernel_rfl) (by rfl) fun K hK => ?_
    go_simp
    refine hK _ _ (hS.below bn) ?_
    clear hK K bn
    refine stepL 4 rfl (by kernel_rfl) (by rfl) fun K hK => ?_
    go_simp
    refine e1.mono ?_
    clear e1 cu
    rintro e w4 ⟨y, rfl, -, cu, h4⟩
    replace R := R.kept h4 (by intro e; injection e; omega)
    replace T := T.kept h4 (by intro e; injection e; omega)
    replace o := o.curW (by omega) h4
    replace gr := grown_trans gr h4
    replace hS := T
    refine hK _ _ hS ?_
    clear hK K h4
    refine firstL 5 (.pointer (some ⟨go, 0, none⟩)) rfl (by kernel_rfl) (by kernel_rfl) (by kernel_rfl) (fun _ _ _ h => h) (by kernel_rfl) (.inl ⟨by rfl, fun w hw => by (unfold execOp; go_simp; all_goals omega)⟩) hS ?_
    try simp only [Act.put, List.setIfInBounds_toArray, List.set_cons_zero, List.set_cons_succ]
    refine lastL rfl (by kernel_rfl) (by kernel_rfl) (by rfl) ?_
    obtain ⟨old, hold⟩ : ∃ old, w4.cell? ⟨go, 0, none⟩ = some old := by
      obtain ⟨vt, vc, L, ys, e, p1, -, -⟩ := id o
      cases e
      exact ⟨_, (p1.cellAt 0 (by omega)).trans (List.getElem?_eq_getElem (by simp; omega))⟩
    have f4 : w4.frozen? ⟨go, 0, none⟩ = false := by
      obtain ⟨vt, vc, L, ys, e, p1, -, -⟩ := id o
      cases e
      exact p1.frozenAt 0
    go_simp
    have hne : tb ≠ go ∧ w.heap.size + 1 ≠ go := by
      obtain ⟨vt, vc, L, ys, e, p1, -, -⟩ := id o
      cases e
      exact ⟨fun e => own_ne_blk p1 T (by decide) (by rw [e]; rfl), fun e => own_ne_blk p1 R (by decide) (by rw [e]; rfl)⟩
    have hgo : w.heap.size + 2 ≤ go := by
      obtain ⟨vt, vc, L, ys, e, p1, -, -⟩ := id o
      cases e
      exact (p1.lt go rfl).1
    replace T := T.setCell_other ⟨go, 0, none⟩ (.int .i64 y) (Ne.symm hne.1)
    replace R := R.setCell_other ⟨go, 0, none⟩ (.int .i64 y) (Ne.symm hne.2)
    replace o := o.putT 0 y
    replace cu := cu.cellW (p := go) 0 (.int .i64 y) (by omega)
    replace gr := grown_cell gr (p := go) (k := 0) (by omega) (.int .i64 y)
    replace ts := (tiny_set (k := 0) y ts).up (show 16 ≤ 20 by omega)
    clear hold f4 hne hgo hS
    generalize w4.setCell ⟨go, 0, none⟩ (.int .i64 y) = w5 at *
    go_wp2_with (first | (with_reducible refine wp_st_load rfl _ rfl ?_; refine ⟨_, rfl, _, _, T, ?_⟩) | (with_reducible refine wp_st_store rfl _ _ rfl ?_; refine ⟨_, rfl, _, _, _, _, _, _, rfl, _, _, R, ?_⟩))
    exact bodyPost_ret (res_st rfl _ _ _ _ _ rfl (R.setRow _)) rfl ⟨_, _, rfl, (o.base (by omega)).rowB R (by decide) (by decide) _, ts, cu.rowW _ (by omega), grown_row gr (by omega) _⟩
  have b0 : ((t : Int) == 0) = false := by rw [beq_eq_false_iff_ne]; omega
  by_cases t1 : t = 1
  · subst t1
    obtain ⟨vt9, vc9, L9, ys9, e9, p1, p2, p3⟩ := id o
    cases e9
    have hn4 := p1
    go_wp2_with (at_builtin; refine wpList_append_own_at _ rfl _ _ 28 rfl (w.heap.size + 2) 3 i0 (.int .i64 0) 1 8 Try.underlying28 hi hi0 hi1 hi2 rfl (by decide) _ _ _ rfl (p1.alloc _) ⟨w2.heap.size, 0, none⟩ 1 1 [_] rfl rfl (newc _ _ _) ?d2 ?d3 ?d4 ?d5 ?_)
    case d2 => intro u hu; simp at hu; subst hu; rfl
    case d3 => unfold maxLen; omega
    case d4 => omega
    case d5 => have := T.lt; simp; omega
    intro v' w5 hown' hgrow _ hat
    have bn : Below w2.heap.size w2 (w2.alloc (.cells #[.int .i64 0] 3)) := (Below.refl _ _).alloc (Nat.le_refl _) _
    have o5 := (o.below bn).snocT (by simpa using hown') hgrow (by rw [World.size_alloc]; exact hat)
    have hvo : ∀ j, (Value.slice o1 d.totals.length k1).ownBlock = some j → w.heap.size + 2 ≤ j ∧ j ≠ tb := fun j hj => ⟨(p1.lt j hj).1, fun e => own_ne_blk p1 T (by decide) (by rw [hj, e])⟩
    have T5 := (T.below bn).kept hgrow (fun e => (hvo _ e).2 rfl)
    have R5 := (R.below bn).kept hgrow (fun e => by have := (hvo _ e).1; omega)
    have cu5 := (cu.kept (grown_of_below bn) (by intro e; cases e)).kept hgrow (fun e => by have := (hvo _ e).1; omega)
    have gr5 := grown_own (grown_trans gr (grown_of_below bn _)) hgrow (fun j e => by have := (hvo _ e).1; omega)
    obtain ⟨ov, cv, rfl⟩ := own_slice hown'
    clear p1 p2 p3 hn4 hown' hgrow hat bn hvo o T R cu gr q0 q1
    have q5 : w5.cell? ⟨tb, 0, none⟩ = some (.slice o1 d.totals.length k1) := T5.cell 0
    have f5 := T5.frozen 0
    replace ts := (tiny_snoc 0 ts).up (show 16 + 1 ≤ 20 by omega)
    have T := T5.setCell 0 (.slice ov (d.totals.length + 1) cv)
    have R := R5.setCell_other ⟨tb, 0, none⟩ (.slice ov (d.totals.length + 1) cv) (show tb ≠ w.heap.size + 1 by omega)
    have o := o5.cellB T5 (by decide) (by decide) 0 (.slice ov (d.totals.length + 1) cv)
    have cu := cu5.cellW (p := tb) 0 (.slice ov (d.totals.length + 1) cv) (by omega)
    have gr := grown_cell gr5 (p := tb) (k := 0) (by omega) (.slice ov (d.totals.length + 1) cv)
    clear T5 R5 o5 cu5 gr5
    go_wp2_with (first | (with_reducible refine wp_st_load rfl _ rfl ?_; refine ⟨_, rfl, _, _, T, ?_⟩) | (with_reducible refine wp_st_store rfl _ _ rfl ?_; refine ⟨_, rfl, _, _, _, _, _, _, rfl, _, _, R, ?_⟩))
    exact bodyPost_ret (res_st rfl _ _ _ _ _ rfl (R.setRow _)) rfl ⟨_, _, rfl, (o.base (by omega)).rowB R (by decide) (by decide) _, ts, cu.rowW _ (by omega), grown_row gr (by omega) _⟩
  have b1 : ((t : Int) == 1) = false := by rw [beq_eq_false_iff_ne]; omega
  by_cases t2 : t = 2
  · subst t2
    by_cases hl : 0 < d.cells.length
    rotate_left
    · have hlz : ¬ (0 : Int) < (d.cells.length : Int) := by omega
      replace ts := ts.up (show 16 ≤ 20 by omega)
      go_wp2_with (first | (with_reducible refine wp_st_load rfl _ rfl ?_; refine ⟨_, rfl, _, _, T, ?_⟩) | (with_reducible refine wp_st_store rfl _ _ rfl ?_; refine ⟨_, rfl, _, _, _, _, _, _, rfl, _, _, R, ?_⟩))
      exact bodyPost_ret (res_st rfl _ _ _ _ _ rfl (R.setRow _)) rfl ⟨_, _, rfl, (o.base (by omega)).rowB R (by decide) (by decide) _, ts, cu.rowW _ (by omega), grown_row gr (by omega) _⟩
    have hlz : (0 : Int) < (d.cells.length : Int) := by omega
    obtain ⟨gc, ol, kl, L, ys, rfl, H⟩ := o.open0 hl
    have q2 := H.cell
    by_cases hm : 0 < (il d.cells 0).length
    rotate_left
    · have hmz : ¬ (0 : Int) < ((il d.cells 0).length : Int) := by omega
      replace ts := ts.up (show 16 ≤ 20 by omega)
      go_wp2_with (first | (with_reducible refine wp_st_load rfl _ rfl ?_; refine ⟨_, rfl, _, _, T, ?_⟩) | (with_reducible refine wp_st_store rfl _ _ rfl ?_; refine ⟨_, rfl, _, _, _, _, _, _, rfl, _, _, R, ?_⟩))
      exact bodyPost_ret (res_st rfl _ _ _ _ _ rfl (R.setRow _)) rfl ⟨_, _, rfl, (o.base (by omega)).rowB R (by decide) (by decide) _, ts, cu.rowW _ (by omega), grown_row gr (by omega) _⟩
    have hmz : (0 : Int) < ((il d.cells 0).length : Int) := by omega
    have hm20 := ts.each _ (il_mem hl)
    clear o
    obtain ⟨gl, rfl⟩ : ∃ gl, ol = some ⟨gl, 0, none⟩ := own_some8 H.lst hm
    go_wp2_with fail
    refine region_L (S := fun w' => Blk 31 w' tb #[.slice o1 d.totals.length k1, .slice (some ⟨gc, 0, none⟩) d.cells.length k2] ∧ w'.cell? ⟨gc, 0, none⟩ = some (.slice (some ⟨gl, 0, none⟩) (il d.cells 0).length kl)) (last := 8) (by kernel_rfl) ?_
    have bd : Below w2.heap.size w2 w2.drew := below_drewN (Below.refl _ _) 1
    replace T := T.below bd
    replace R := R.below bd
    replace H := H.below bd
    replace cu := cu.kept (grown_of_below bd) (by intro e; cases e)
    replace gr := grown_trans gr (grown_of_below bd _)
    clear bd q0 q1
    clear q2
    have hS : Blk 31 w2.drew tb #[.slice o1 d.totals.length k1, .slice (some ⟨gc, 0, none⟩) d.cells.length k2] ∧ w2.drew.cell? ⟨gc, 0, none⟩ = some (.slice (some ⟨gl, 0, none⟩) (il d.cells 0).length kl) := ⟨T, H.cell⟩
    generalize w2.drew = w3 at *
    refine firstL 0 (.pointer (some ⟨tb, 1, none⟩)) rfl (by kernel_rfl) (by kernel_rfl) (by kernel_rfl) (fun _ _ _ h => h) (by kernel_rfl) (.inl ⟨by rfl, fun w hw => by (unfold execOp; go_simp)⟩) hS ?_
    try simp only [Act.put, List.setIfInBounds_toArray, List.set_cons_zero, List.set_cons_succ]
    refine firstL 1 (.slice (some ⟨gc, 0, none⟩) d.cells.length k2) rfl (by kernel_rfl) (by kernel_rfl) (by kernel_rfl) (fun _ _ _ h => h) (by kernel_rfl) (.inl ⟨by rfl, fun w hw => by have h := hw.1.cell 1; unfold execOp; go_simp⟩) hS ?_
    try simp only [Act.put, List.setIfInBounds_toArray, List.set_cons_zero, List.set_cons_succ]
    refine firstL 2 (.pointer (some ⟨gc, 0, none⟩)) rfl (by kernel_rfl) (by kernel_rfl) (by kernel_rfl) (fun _ _ _ h => h) (by kernel_rfl) (.inl ⟨by rfl, fun w hw => by (unfold execOp; go_simp; all_goals omega)⟩) hS ?_
    try simp only [Act.put, List.setIfInBounds_toArray, List.set_cons_zero, List.set_cons_succ]
    refine firstL 3 (.slice (some ⟨gl, 0, none⟩) (il d.cells 0).length kl) rfl (by kernel_rfl) (by kernel_rfl) (by kernel_rfl) (fun _ _ _ h => h) (by kernel_rfl) (.inl ⟨by rfl, fun w hw => by have h := hw.2; unfold execOp; go_simp⟩) hS ?_
    try simp only [Act.put, List.setIfInBounds_toArray, List.set_cons_zero, List.set_cons_succ]
    refine firstL 4 (.pointer (some ⟨g, 0, none⟩)) rfl (by kernel_rfl) (by kernel_rfl) (by kernel_rfl) (fun _ _ _ h => h) (by kernel_rfl) (.inl ⟨by rfl, fun w hw => by rfl⟩) hS ?_
    try simp only [Act.put, List.setIfInBounds_toArray, List.set_cons_zero, List.set_cons_succ]
    have e1 := pickN [-1, 500, 1000] g a len cap zs w3 cu (HR.out _ gr) (by simp) (by simp)
    simp only [List.map_cons, List.map_nil, List.length_cons, List.length_nil, Nat.zero_add, Nat.reduceAdd] at e1
    have bn : Below w3.heap.size w3 (w3.alloc (.cells #[.int .i64 (-1), .int .i64 500, .int .i64 1000] 3)) := (Below.refl _ _).alloc (Nat.le_refl _) _
    refine stepL 5 rfl (by kernel_rfl) (by rfl) fun K hK => ?_
    go_simp
    refine hK _ _ (⟨hS.1.below bn, (H.below bn).cell⟩) ?_
    clear hK K bn
    refine stepL 6 rfl (by kernel_rfl) (by rfl) fun K hK => ?_
    go_simp
    refine e1.mono ?_
    clear e1 cu
    rintro e w4 ⟨y, rfl, -, cu, h4⟩
    replace R := R.kept h4 (by intro e; injection e; omega)
    replace T := T.kept h4 (by intro e; injection e; omega)
    replace H := H.curW (by omega) h4
    replace gr := grown_trans gr h4
    replace hS := And.intro T H.cell
    refine hK _ _ hS ?_
    clear hK K h4
    refine firstL 7 (.pointer (some ⟨gl, 0, none⟩)) rfl (by kernel_rfl) (by kernel_rfl) (by kernel_rfl) (fun _ _ _ h => h) (by kernel_rfl) (.inl ⟨by rfl, fun w hw => by (unfold execOp; go_simp; all_goals omega)⟩) hS ?_
    try simp only [Act.put, List.setIfInBounds_toArray, List.set_cons_zero, List.set_cons_succ]
    refine lastL rfl (by kernel_rfl) (by kernel_rfl) (by rfl) ?_
    obtain ⟨old, hold⟩ : ∃ old, w4.cell? ⟨gl, 0, none⟩ = some old := ⟨_, (H.lst.cellAt 0 (by omega)).trans (List.getElem?_eq_getElem (by simp; omega))⟩
    have f4 : w4.frozen? ⟨gl, 0, none⟩ = false := H.lst.frozenAt 0
    go_simp
    have hne1 : tb ≠ gl := fun e => own_ne_blk H.lst T (by decide) (by rw [e]; rfl)
    have hgo : w.heap.size + 2 ≤ gl := (H.lst.lt gl rfl).1
    replace T := T.setCell_other ⟨gl, 0, none⟩ (.int .i64 y) (Ne.symm hne1)
    replace R := R.setCell_other ⟨gl, 0, none⟩ (.int .i64 y) (show gl ≠ w.heap.size + 1 by omega)
    have o := H.put 0 y
    replace cu := cu.cellW (p := gl) 0 (.int .i64 y) (by omega)
    replace gr := grown_cell gr (p := gl) (k := 0) (by omega) (.int .i64 y)
    replace ts := tiny_cell (c := (il d.cells 0).set 0 y) (m := 20) ts (by rw [List.length_set]; omega) (by omega)
    clear hold f4 hne1 hgo hS H
    generalize w4.setCell ⟨gl, 0, none⟩ (.int .i64 y) = w5 at *
    rw [show d.cells.length = (d.cells.set 0 ((il d.cells 0).set 0 y)).length by rw [List.length_set]] at T o
    go_wp2_with (first | (with_reducible refine wp_st_load rfl _ rfl ?_; refine ⟨_, rfl, _, _, T, ?_⟩) | (with_reducible refine wp_st_store rfl _ _ rfl ?_; refine ⟨_, rfl, _, _, _, _, _, _, rfl, _, _, R, ?_⟩))
    exact bodyPost_ret (res_st rfl _ _ _ _ _ rfl (R.setRow _)) rfl ⟨_, _, rfl, (o.base (by omega)).rowB R (by decide) (by decide) _, ts, cu.rowW _ (by omega), grown_row gr (by omega) _⟩
  have b2 : ((t : Int) == 2) = false := by rw [beq_eq_false_iff_ne]; omega
  by_cases t3 : t = 3
  · subst t3
    by_cases hl : 0 < d.cells.length
    rotate_left
    · have hlz : ¬ (0 : Int) < (d.cells.length : Int) := by omega
      replace ts := ts.up (show 16 ≤ 20 by omega)
      go_wp2_with (first | (with_reducible refine wp_st_load rfl _ rfl ?_; refine ⟨_, rfl, _, _, T, ?_⟩) | (with_reducible refine wp_st_store rfl _ _ rfl ?_; refine ⟨_, rfl, _, _, _, _, _, _, rfl, _, _, R, ?_⟩))
      exact bodyPost_ret (res_st rfl _ _ _ _ _ rfl (R.setRow _)) rfl ⟨_, _, rfl, (o.base (by omega)).rowB R (by decide) (by decide) _, ts, cu.rowW _ (by omega), grown_row gr (by omega) _⟩
    have hlz : (0 : Int) < (d.cells.length : Int) := by omega
    obtain ⟨gc, ol, kl, L, ys, rfl, H⟩ := o.open0 hl
    have hm20 := ts.each _ (il_mem hl)
    clear o
    go_wp2_with fail
    refine region_L (S := fun w' => Blk 31 w' tb #[.slice o1 d.totals.length k1, .slice (some ⟨gc, 0, none⟩) d.cells.length k2] ∧ w'.cell? ⟨gc, 0, none⟩ = some (.slice ol (il d.cells 0).length kl)) (last := 9) (by kernel_rfl) ?_
    have bd : Below w2.heap.size w2 w2.drew := below_drewN (Below.refl _ _) 1
    replace T := T.below bd
    replace R := R.below bd
    replace H := H.below bd
    replace cu := cu.kept (grown_of_below bd) (by intro e; cases e)
    replace gr := grown_trans gr (grown_of_below bd _)
    clear bd q0 q1
    have hS : Blk 31 w2.drew tb #[.slice o1 d.totals.length k1, .slice (some ⟨gc, 0, none⟩) d.cells.length k2] ∧ w2.drew.cell? ⟨gc, 0, none⟩ = some (.slice ol (il d.cells 0).length kl) := ⟨T, H.cell⟩
    generalize w2.drew = w3 at *
    refine firstL 0 (.pointer (some ⟨tb, 1, none⟩)) rfl (by kernel_rfl) (by kernel_rfl) (by kernel_rfl) (fun _ _ _ h => h) (by kernel_rfl) (.inl ⟨by rfl, fun w hw => by (unfold execOp; go_simp)⟩) hS ?_
    try simp only [Act.put, List.setIfInBounds_toArray, List.set_cons_zero, List.set_cons_succ]
    refine firstL 1 (.slice (some ⟨gc, 0, none⟩) d.cells.length k2) rfl (by kernel_rfl) (by kernel_rfl) (by kernel_rfl) (fun _ _ _ h => h) (by kernel_rfl) (.inl ⟨by rfl, fun w hw => by have h := hw.1.cell 1; unfold execOp; go_simp⟩) hS ?_
    try simp only [Act.put, List.setIfInBounds_toArray, List.set_cons_zero, List.set_cons_succ]
    refine firstL 2 (.pointer (some ⟨tb, 1, none⟩)) rfl (by kernel_rfl) (by kernel_rfl) (by kernel_rfl) (fun _ _ _ h => h) (by kernel_rfl) (.inl ⟨by rfl, fun w hw => by (unfold execOp; go_simp)⟩) hS ?_
    try simp only [Act.put, List.setIfInBounds_toArray, List.set_cons_zero, List.set_cons_succ]
    refine firstL 3 (.slice (some ⟨gc, 0, none⟩) d.cells.length k2) rfl (by kernel_rfl) (by kernel_rfl) (by kernel_rfl) (fun _ _ _ h => h) (by kernel_rfl) (.inl ⟨by rfl, fun w hw => by have h := hw.1.cell 1; unfold execOp; go_simp⟩) hS ?_
    try simp only [Act.put, List.setIfInBounds_toArray, List.set_cons_zero, List.set_cons_succ]
    refine firstL 4 (.pointer (some ⟨gc, 0, none⟩)) rfl (by kernel_rfl) (by kernel_rfl) (by kernel_rfl) (fun _ _ _ h => h) (by kernel_rfl) (.inl ⟨by rfl, fun w hw => by (unfold execOp; go_simp; all_goals omega)⟩) hS ?_
    try simp only [Act.put, List.setIfInBounds_toArray, List.set_cons_zero, List.set_cons_succ]
    refine firstL 5 (.slice ol (il d.cells 0).length kl) rfl (by kernel_rfl) (by kernel_rfl) (by kernel_rfl) (fun _ _ _ h => h) (by kernel_rfl) (.inl ⟨by rfl, fun w hw => by have h := hw.2; unfold execOp; go_simp⟩) hS ?_
    try simp only [Act.put, List.setIfInBounds_toArray, List.set_cons_zero, List.set_cons_succ]
    have bn : Below w3.heap.size w3 (w3.alloc (.cells #[.int .i64 0] 3)) := (Below.refl _ _).alloc (Nat.le_refl _) _
    refine stepL 6 rfl (by kernel_rfl) (by rfl) fun K hK => ?_
    go_simp
    refine hK _ _ ⟨hS.1.below bn, (H.below bn).cell⟩ ?_
    clear hK K
    have HB := H.below bn
    refine stepL 7 rfl (by kernel_rfl) (by rfl) fun K hK => ?_
    refine wp_append_at8 _ _ 28 rfl (w.heap.size + 2) 3 i0 (.int .i64 0) 1 8 Try.underlying28 hi hi0 hi1 hi2 rfl (by decide) _ _ _ rfl HB.lst ⟨w3.heap.size, 0, none⟩ 1 1 [.int .i64 0] rfl rfl (cell_one_new _ _ _) (by intro u hu; simp at hu; subst hu; rfl) (by unfold maxLen; omega) (by omega) (by have := T.lt; simp; omega) ?_
    intro v' w5 hown' hgrow hat
    have hvo : ∀ j, (Value.slice ol (il d.cells 0).length kl).ownBlock = some j → w.heap.size + 2 ≤ j ∧ j ≠ tb := fun j hj => ⟨(H.lst.lt j hj).1, fun e => own_ne_blk H.lst T (by decide) (by rw [hj, e])⟩
    have T5 := (T.below bn).kept hgrow (fun e => (hvo _ e).2 rfl)
    have R5 := (R.below bn).kept hgrow (fun e => by have := (hvo _ e).1; omega)
    have cu5 := (cu.kept (grown_of_below bn) (by intro e; cases e)).kept hgrow (fun e => by have := (hvo _ e).1; omega)
    have gr5 := grown_own (grown_trans gr (grown_of_below bn _)) hgrow (fun j e => by have := (hvo _ e).1; omega)
    obtain ⟨ov, cv, rfl⟩ := own_slice hown'
    have row5 := HB.sep.row.kept hgrow (by have := apart_ty HB.sep.row HB.lst (by decide); exact this)
    have c5 : w5.cell? ⟨gc, 0, none⟩ = some (.slice ol (il d.cells 0).length kl) := by
      rw [row5.cellAt 0 (by omega), HB.sep.cells 0 hl, HB.fst]
    have f5 : w5.frozen? ⟨gc, 0, none⟩ = false := row5.frozenAt 0
    have hgc : w.heap.size + 2 ≤ gc ∧ gc ≠ tb := ⟨(H.sep.row.lt gc rfl).1, fun e => own_ne_blk H.sep.row T (by decide) (by rw [e]; rfl)⟩
    have o := HB.snoc (by simpa using hown') hgrow hat
    refine hK _ _ ⟨T5, c5⟩ ?_
    replace hS : Blk 31 w5 tb #[.slice o1 d.totals.length k1, .slice (some ⟨gc, 0, none⟩) d.cells.length k2] ∧ w5.cell? ⟨gc, 0, none⟩ = some (.slice ol (il d.cells 0).length kl) := ⟨T5, c5⟩
    clear hK K hvo hgrow hat hown' HB H T R cu gr bn row5
    refine firstL 8 (.pointer (some ⟨gc, 0, none⟩)) rfl (by kernel_rfl) (by kernel_rfl) (by kernel_rfl) (fun _ _ _ h => h) (by kernel_rfl) (.inl ⟨by rfl, fun w hw => by (unfold execOp; go_simp; all_goals omega)⟩) hS ?_
    try simp only [Act.put, List.setIfInBounds_toArray, List.set_cons_zero, List.set_cons_succ]
    refine lastL rfl (by kernel_rfl) (by kernel_rfl) (by rfl) ?_
    go_simp
    have T := T5.setCell_other ⟨gc, 0, none⟩ (.slice ov ((il d.cells 0).length + 1) cv) hgc.2
    have R := R5.setCell_other ⟨gc, 0, none⟩ (.slice ov ((il d.cells 0).length + 1) cv) (show gc ≠ w.heap.size + 1 by omega)
    have cu := cu5.cellW (p := gc) 0 (.slice ov ((il d.cells 0).length + 1) cv) (by omega)
    have gr := grown_cell gr5 (p := gc) (k := 0) (by omega) (.slice ov ((il d.cells 0).length + 1) cv)
    replace ts := tiny_cell (c := il d.cells 0 ++ [0]) (m := 20) ts (by rw [List.length_append]; simp; omega) (by omega)
    clear c5 f5 hgc hS T5 R5 cu5 gr5
    generalize w5.setCell ⟨gc, 0, none⟩ (.slice ov ((il d.cells 0).length + 1) cv) = w6 at *
    rw [show d.cells.length = (d.cells.set 0 (il d.cells 0 ++ [0])).length by rw [List.length_set]] at T o
    go_wp2_with (first | (with_reducible refine wp_st_load rfl _ rfl ?_; refine ⟨_, rfl, _, _, T, ?_⟩) | (with_reducible refine wp_st_store rfl _ _ rfl ?_; refine ⟨_, rfl, _, _, _, _, _, _, rfl, _, _, R, ?_⟩))
    exact bodyPost_ret (res_st rfl _ _ _ _ _ rfl (R.setRow _)) rfl ⟨_, _, rfl, (o.base (by omega)).rowB R (by decide) (by decide) _, ts, cu.rowW _ (by omega), grown_row gr (by omega) _⟩
  have b3 : ((t : Int) == 3) = false := by rw [beq_eq_false_iff_ne]; omega
  replace ts := ts.up (show 16 ≤ 20 by omega)
  clear t0 t1 t2 t3 q0 q1
  go_wp2_with (first | (with_reducible refine wp_st_load rfl _ rfl ?_; refine ⟨_, rfl, _, _, T, ?_⟩) | (with_reducible refine wp_st_store rfl _ _ rfl ?_; refine ⟨_, rfl, _, _, _, _, _, _, rfl, _, _, R, ?_⟩))
  exact bodyPost_ret (res_st rfl _ _ _ _ _ rfl (R.setRow _)) rfl ⟨_, _, rfl, (o.base (by omega)).rowB R (by decide) (by decide) _, ts, cu.rowW _ (by omega), grown_row gr (by omega) _⟩
end Go.Proofs.Ytobimpgapfecoaa
/- Beside the draws of several structs. -/
namespace Go.Proofs.Ytobimpgapfecoaa
open Go.RowKit
set_option maxRecDepth 100000
set_option linter.unusedSimpArgs false
theorem OwnS.rowX {w : World} {b k : Nat} {v : Value} {s : SchemaD} (c : Array Value) (h : OwnS b w v s) (hk : k < b) : OwnS b (w.setRow k c) v s := by
  obtain ⟨va, vc, rfl, h1, h2⟩ := h
  exact ⟨va, vc, rfl, h1.setRow k c hk, own_setRow h2 k c hk⟩
theorem OwnS.baseX {w : World} {b b' : Nat} {v : Value} {s : SchemaD} (h : OwnS b w v s) (hb : b' ≤ b) : OwnS b' w v s := by
  obtain ⟨va, vc, rfl, h1, h2⟩ := h
  exact ⟨va, vc, rfl, h1.base hb, own_base h2 hb⟩
theorem OwnE.rowX {w : World} {b k : Nat} {v : Value} {s : ExD} (c : Array Value) (h : OwnE b w v s) (hk : k < b) : OwnE b (w.setRow k c) v s := by
  obtain ⟨vb, rfl, h1⟩ := h
  exact ⟨vb, rfl, own_setRow h1 k c hk⟩
theorem OwnE.baseX {w : World} {b b' : Nat} {v : Value} {s : ExD} (h : OwnE b w v s) (hb : b' ≤ b) : OwnE b' w v s := by
  obtain ⟨vb, rfl, h1⟩ := h
  exact ⟨vb, rfl, own_base h1 hb⟩
theorem tinyS.okX {d : SchemaD} (h : tinyS d) : okSch d :=
  ⟨by have := h.attrs; omega, fun a ha => (h.each a ha).ok7, by have := h.classes; omega, fun s hs => by have := h.sizes s hs; omega⟩
theorem yields_mvX {ops : Array Oper} {S : World → Prop} {op : Oper} {a : Act} (hw : Region.wanted op (yielded ops a.tmps) = true) (x : Operand) (ho : op.op = .move x) (v : Value) (hx : a.eval x = v) : YieldsIf Try.prog ops S op v a :=
  .inl ⟨hw, fun w _ => by unfold execOp; simp only [ho, hx]; go_simp⟩
theorem res_se {fn : Func} {p q : Tmp} (h : fn.results = #[.cell p 27, .cell q 33]) (tmps : Array Value) (w : World) (g k : Nat) (c0 c1 d0 d1 : Value)
    (hp : tmps.getD p undef = .pointer (some ⟨g, 0, none⟩)) (hq : tmps.getD q undef = .pointer (some ⟨k, 0, none⟩)) (hg : Blk 27 w g #[c0, c1]) (hk : Blk 33 w k #[d0, d1]) : (results fn tmps).run Try.prog w = .ok (.tuple #[.agg #[c0, c1], .agg #[d0, d1]]) w := by
  have hp' : tmps[p]?.getD undef = .pointer (some ⟨g, 0, none⟩) := by simpa using hp
  have hq' : tmps[q]?.getD undef = .pointer (some ⟨k, 0, none⟩) := by simpa using hq
  simp [results, h, hp', hq', asAddr, run_loadVar_row w g _ 27 _ _ _ hg Try.underlying27 rfl sch_size, run_loadVar_row w k _ 33 _ _ _ hk Try.underlying33 rfl ex_size]
end Go.Proofs.Ytobimpgapfecoaa
/- Draws of chapter 8: a schema and counts. -/
namespace Go.Proofs.Ytobimpgapfecoaa
open Go.RowKit
set_option maxRecDepth 100000
set_option linter.unusedSimpArgs false
theorem res_ss8 {fn : Func} {p q : Tmp} (h : fn.results = #[.cell p 27, .cell q 31]) (tmps : Array Value) (w : World) (g k : Nat) (c0 c1 d0 d1 : Value)
    (hp : tmps.getD p undef = .pointer (some ⟨g, 0, none⟩)) (hq : tmps.getD q undef = .pointer (some ⟨k, 0, none⟩)) (hg : Blk 27 w g #[c0, c1]) (hk : Blk 31 w k #[d0, d1]) : (results fn tmps).run Try.prog w = .ok (.tuple #[.agg #[c0, c1], .agg #[d0, d1]]) w := by
  have hp' : tmps[p]?.getD undef = .pointer (some ⟨g, 0, none⟩) := by simpa using hp
  have hq' : tmps[q]?.getD undef = .pointer (some ⟨k, 0, none⟩) := by simpa using hq
  simp [results, h, hp', hq', asAddr, run_loadVar_row w g _ 27 _ _ _ hg Try.underlying27 rfl sch_size, run_loadVar_row w k _ 31 _ _ _ hk Try.underlying31 rfl st_size]
set_option maxHeartbeats 3200000 in
theorem drawStatsOk_any (a : Option Addr) (len cap : Nat) (zs : List Int) (w : World) (hr : IsRow .u8 w a len cap zs) (hn : len ≤ 1048576) :
    Calls Try.prog 62 #[.slice a len cap] w fun e w' => ∃ vs d ve x, e = .returned (.tuple #[vs, ve]) ∧ OwnS w.heap.size w' vs d ∧ tinyS d ∧ OwnSt w.heap.size w' ve x ∧ tinySt 20 x ∧ Below w.heap.size w w' := by
  obtain ⟨R1, Q1, B1⟩ := blk_2 27 31 w #[.slice none 0 0, .slice none 0 0] #[.slice none 0 0, .slice none 0 0]
  have e1 := l1New_any a len cap zs ((w.alloc (.cells #[.slice none 0 0, .slice none 0 0] 27)).alloc (.cells #[.slice none 0 0, .slice none 0 0] 31)) (hr.later B1) hn
  have HR1 := hr.later B1
  rw [show ((w.alloc (.cells #[.slice none 0 0, .slice none 0 0] 27)).alloc (.cells #[.slice none 0 0, .slice none 0 0] 31)).heap.size = w.heap.size + 2 by simp] at e1
  clear hr
  go_enter Try.func62, Try.ntmps62
  go_wp2_with fail
  refine e1.mono ?_
  clear e1
  rintro e w2 ⟨rfl, c2, hb2, -⟩
  have hr2 := HR1.later (hb2.mono (by simp))
  have R2 := R1.below (hb2.mono (by simp))
  have Q2 := Q1.below (hb2.mono (by simp))
  have B2 : Below w.heap.size w w2 := B1.trans (hb2.mono (by omega))
  have hg2 := c2.lt
  clear HR1 R1 Q1 B1 hb2
  go_wp2_with fail
  refine (draw5_any (w.heap.size + 2) a len cap zs w2 c2 hr2).mono ?_
  rintro e w3 ⟨v, d, rfl, os, htn, c3, h3⟩
  have R3 := R2.kept h3 (by intro e; injection e; omega)
  have Q3 := Q2.kept h3 (by intro e; injection e; omega)
  have B3 : Below w.heap.size w w3 := B2.grown h3 B2.size (fun k hk => by injection hk; omega)
  have hr3 := hr2.aside c2 h3
  have HTN : Hid (tinyS d) := htn
  clear h3 c2 R2 Q2 B2 hr2 htn
  obtain ⟨y1, y2, rfl, rr1, rr2⟩ := id os.at
  obtain ⟨oa, ka, rfl, -, -⟩ := id rr1
  obtain ⟨oc, kc, rfl, -, -⟩ := id rr2
  clear rr1 rr2
  obtain ⟨P3, BP⟩ := blk_1 27 w3 #[.slice oa d.attrs.length ka, .slice oc d.classes.length kc]
  have R4 := R3.below BP
  have Q4 := Q3.below BP
  have os4 := os.below7 BP
  have c4 := c3.kept (grown_of_below BP none) (by intro e; cases e)
  have hr4 := hr3.later BP
  have B4 := B3.trans (BP.mono B3.size)
  have hp : w.heap.size + 2 < w3.heap.size := by have := c3.lt; omega
  clear R3 Q3 os c3 hr3 B3 BP
  go_wp2_with fail
  refine wp_region_held_drew (S := fun w' => Blk 27 w' w3.heap.size #[.slice oa d.attrs.length ka, .slice oc d.classes.length kc] ∧ (∃ c0 c1, Blk 27 w' w.heap.size #[c0, c1]) ∧ ∃ c0 c1, Blk 31 w' (w.heap.size + 1) #[c0, c1]) (by kernel_rfl) ⟨P3, ⟨_, _, R4⟩, _, _, Q4⟩ ?_
  intro hS
  have R5 : Blk 27 (w3.alloc (.cells #[.slice oa d.attrs.length ka, .slice oc d.classes.length kc] 27)).drew w.heap.size #[.slice none 0 0, .slice none 0 0] := R4
  have Q5 : Blk 31 (w3.alloc (.cells #[.slice oa d.attrs.length ka, .slice oc d.classes.length kc] 27)).drew (w.heap.size + 1) #[.slice none 0 0, .slice none 0 0] := Q4
  have P5 : Blk 27 (w3.alloc (.cells #[.slice oa d.attrs.length ka, .slice oc d.classes.length kc] 27)).drew w3.heap.size #[.slice oa d.attrs.length ka, .slice oc d.classes.length kc] := P3
  have bd : Below (w3.alloc (.cells #[.slice oa d.attrs.length ka, .slice oc d.classes.length kc] 27)).heap.size (w3.alloc (.cells #[.slice oa d.attrs.length ka, .slice oc d.classes.length kc] 27)) (w3.alloc (.cells #[.slice oa d.attrs.length ka, .slice oc d.classes.length kc] 27)).drew := below_drewN (Below.refl _ _) 1
  have os5 := os4.below7 bd
  have c5 := c4.kept (grown_of_below bd none) (by intro e; cases e)
  have hr5 := hr4.later bd
  have B5 := B4.trans (bd.mono B4.size)
  clear R4 Q4 P3 os4 c4 hr4 B4 bd
  generalize (w3.alloc (.cells #[.slice oa d.attrs.length ka, .slice oc d.classes.length kc] 27)).drew = W at hS R5 Q5 P5 os5 c5 hr5 B5
  refine takeL 0 (.agg #[.slice oa d.attrs.length ka, .slice oc d.classes.length kc]) rfl (by kernel_rfl) (by kernel_rfl) (by kernel_rfl) (fun _ _ _ h => h) (yields_row Try.underlying27 (by kernel_rfl) (by rfl) _ rfl _ rfl (fun _ h => h.1)) hS ?_
  simp only [Act.put, List.setIfInBounds_toArray, List.set_cons_zero, List.set_cons_succ]
  refine takeL 1 (.pointer (some ⟨w.heap.size + 2, 0, none⟩)) rfl (by kernel_rfl) (by kernel_rfl) (by kernel_rfl) (fun _ _ _ h => h) (yields_mvX (by rfl) _ rfl _ rfl) hS ?_
  simp only [Act.put, List.setIfInBounds_toArray, List.set_cons_zero, List.set_cons_succ]
  refine takeL 2 (.agg #[.slice oa d.attrs.length ka, .slice oc d.classes.length kc]) rfl (by kernel_rfl) (by kernel_rfl) (by kernel_rfl) (fun _ _ _ h => h) (yields_row Try.underlying27 (by kernel_rfl) (by rfl) _ rfl _ rfl (fun _ h => h.1)) hS ?_
  simp only [Act.put, List.setIfInBounds_toArray, List.set_cons_zero, List.set_cons_succ]
  refine nextL 3 rfl (by kernel_rfl) (by rfl) fun K hK => ?_
  have dd := draw8_any (w.heap.size + 2) a len cap zs _ d w2.heap.size W c5 hr5 os5 hg2 HTN.out
  go_simp
  refine dd.mono ?_
  rintro e w5 ⟨v5, x, rfl, oE, hxl, c6, h6⟩
  obtain ⟨ob, kb, ob2, kb2, rfl⟩ := oE.form
  have R6 := R5.kept h6 (by intro e; injection e; omega)
  have Q6 := Q5.kept h6 (by intro e; injection e; omega)
  have P6 := P5.kept h6 (by intro e; injection e; omega)
  have os6 := os5.curW7 hg2 h6
  have B6 : Below w.heap.size w w5 := B5.grown h6 B5.size (fun k hk => by injection hk; omega)
  have hWl := P5.lt
  refine hK _ _ ⟨P6, ⟨_, _, R6⟩, _, _, Q6⟩ ?_
  clear hK K dd hS R5 Q5 P5 os5 B5 h6 c5 c6 hr5
  intro hS
  refine nextL 4 rfl (by kernel_rfl) (by rfl) fun K hK => ?_
  refine wp_store_row 27 _ _ rfl w.heap.size #[.slice oa d.attrs.length ka, .slice oc d.classes.length kc] rfl rfl _ _ R6 sch_size rfl (by simp [Value.oneCell']) ?_
  have P7 := P6.setRow_other #[.slice oa d.attrs.length ka, .slice oc d.classes.length kc] (show w3.heap.size ≠ w.heap.size by omega)
  have R7 := R6.setRow #[.slice oa d.attrs.length ka, .slice oc d.classes.length kc]
  have Q7 := Q6.setRow_other #[.slice oa d.attrs.length ka, .slice oc d.classes.length kc] (show w.heap.size + 1 ≠ w.heap.size by omega)
  have os7 := os6.rowX #[.slice oa d.attrs.length ka, .slice oc d.classes.length kc] (show w.heap.size < w2.heap.size by omega)
  have oE7 := oE.rowX8 #[.slice oa d.attrs.length ka, .slice oc d.classes.length kc] (show w.heap.size < _ by omega)
  have B7 := below_row B6 (Nat.le_refl _) #[.slice oa d.attrs.length ka, .slice oc d.classes.length kc]
  refine hK _ _ ⟨P7, ⟨_, _, R7⟩, _, _, Q7⟩ ?_
  clear hK K hS P6 R6 Q6 os6 oE B6
  intro hS
  refine nextL 5 rfl (by kernel_rfl) (by rfl) fun K hK => ?_
  refine wp_store_row 31 _ _ rfl (w.heap.size + 1) #[.slice ob x.totals.length kb, .slice ob2 x.cells.length kb2] rfl rfl _ _ Q7 st_size rfl (by simp [Value.oneCell']) ?_
  have P8 := P7.setRow_other #[.slice ob x.totals.length kb, .slice ob2 x.cells.length kb2] (show w3.heap.size ≠ w.heap.size + 1 by omega)
  have R8 := R7.setRow_other #[.slice ob x.totals.length kb, .slice ob2 x.cells.length kb2] (show w.heap.size ≠ w.heap.size + 1 by omega)
  have Q8 := Q7.setRow #[.slice ob x.totals.length kb, .slice ob2 x.cells.length kb2]
  have os8 := os7.rowX #[.slice ob x.totals.length kb, .slice ob2 x.cells.length kb2] (show w.heap.size + 1 < w2.heap.size by omega)
  have oE8 := oE7.rowX8 #[.slice ob x.totals.length kb, .slice ob2 x.cells.length kb2] (show (w.heap.size + 1) < _ by omega)
  have B8 := below_row B7 (show w.heap.size ≤ w.heap.size + 1 by omega) #[.slice ob x.totals.length kb, .slice ob2 x.cells.length kb2]
  refine hK _ _ ⟨P8, ⟨_, _, R8⟩, _, _, Q8⟩ ?_
  clear hK K hS P7 R7 Q7 os7 oE7 B7
  intro hS
  clear hS
  refine wpAnyH_done (by kernel_rfl) ?_ _
  go_wp2
  exact bodyPost_ret (res_ss8 rfl _ _ _ _ _ _ _ _ rfl rfl R8 Q8) rfl ⟨_, d, _, x, rfl, os8.baseX (by omega), HTN.out, oE8.base (by omega), hxl, B8⟩
end Go.Proofs.Ytobimpgapfecoaa
/- Draws of chapter 8: DrawPromise. -/
namespace Go.Proofs.Ytobimpgapfecoaa
open Go.RowKit
set_option maxRecDepth 100000
set_option linter.unusedSimpArgs false
set_option maxHeartbeats 1600000 in
theorem drawPromise_any (a : Option Addr) (len cap : Nat) (zs : List Int) (w : World) (hr : IsRow .u8 w a len cap zs) (hn : len ≤ 1048576) :
    Calls Try.prog 17 #[.slice a len cap] w fun e w' => ∃ vs d ve x, e = .returned (.tuple #[vs, ve]) ∧ OwnS w.heap.size w' vs d ∧ tinyS d ∧ OwnSt w.heap.size w' ve x ∧ tinySt 20 x ∧ Below w.heap.size w w' := by
  obtain ⟨R1, Q1, B1⟩ := blk_2 27 31 w #[.slice none 0 0, .slice none 0 0] #[.slice none 0 0, .slice none 0 0]
  have e1 := drawStatsOk_any a len cap zs ((w.alloc (.cells #[.slice none 0 0, .slice none 0 0] 27)).alloc (.cells #[.slice none 0 0, .slice none 0 0] 31)) (hr.later B1) hn
  clear hr
  go_enter Try.func17, Try.ntmps17
  go_wp2_with fail
  refine e1.mono ?_
  clear e1
  rintro e w2 ⟨vs, d, ve, x, rfl, os, htn, oE, hxl, hb2⟩
  have R2 := R1.below hb2
  have Q2 := Q1.below hb2
  have B2 := B1.trans (hb2.mono B1.size)
  have os2 := os.baseX (b' := w.heap.size + 2) (by simp)
  have oE2 := oE.base (b' := w.heap.size + 2) (by simp)
  clear R1 Q1 B1 hb2 os oE
  obtain ⟨y1, y2, rfl, rr1, rr2⟩ := id os2.at
  obtain ⟨oa, ka, rfl, -, -⟩ := id rr1
  obtain ⟨oc, kc, rfl, -, -⟩ := id rr2
  obtain ⟨ob, kb, ob2, kb2, rfl⟩ := oE2.form
  clear rr1 rr2
  have R3 := R2.setRow #[.slice oa d.attrs.length ka, .slice oc d.classes.length kc]
  have Q3 := Q2.setRow_other #[.slice oa d.attrs.length ka, .slice oc d.classes.length kc] (show w.heap.size + 1 ≠ w.heap.size by omega)
  have os3 := os2.rowX #[.slice oa d.attrs.length ka, .slice oc d.classes.length kc] (show w.heap.size < w.heap.size + 2 by omega)
  have oE3 := oE2.rowX8 #[.slice oa d.attrs.length ka, .slice oc d.classes.length kc] (show w.heap.size < _ by omega)
  have B3 := below_row B2 (Nat.le_refl _) #[.slice oa d.attrs.length ka, .slice oc d.classes.length kc]
  have R4 := R3.setRow_other #[.slice ob x.totals.length kb, .slice ob2 x.cells.length kb2] (show w.heap.size ≠ w.heap.size + 1 by omega)
  have Q4 := Q3.setRow #[.slice ob x.totals.length kb, .slice ob2 x.cells.length kb2]
  have os4 := os3.rowX #[.slice ob x.totals.length kb, .slice ob2 x.cells.length kb2] (show w.heap.size + 1 < w.heap.size + 2 by omega)
  have oE4 := oE3.rowX8 #[.slice ob x.totals.length kb, .slice ob2 x.cells.length kb2] (show (w.heap.size + 1) < _ by omega)
  have B4 := below_row B3 (show w.heap.size ≤ w.heap.size + 1 by omega) #[.slice ob x.totals.length kb, .slice ob2 x.cells.length kb2]
  clear os2 os3 oE2 oE3 B2 B3
  go_wp2_with (first | (with_reducible refine wp_sc_store rfl _ _ rfl ?_; refine ⟨_, rfl, _, _, _, _, _, _, rfl, _, _, R2, ?_⟩) | (with_reducible refine wp_st_store rfl _ _ rfl ?_; refine ⟨_, rfl, _, _, _, _, _, _, rfl, _, _, Q3, ?_⟩))
  exact bodyPost_ret (res_ss8 rfl _ _ _ _ _ _ _ _ rfl rfl R4 Q4) rfl ⟨_, d, _, x, rfl, os4.baseX (by omega), htn, oE4.base (by omega), hxl, B4⟩
end Go.Proofs.Ytobimpgapfecoaa
