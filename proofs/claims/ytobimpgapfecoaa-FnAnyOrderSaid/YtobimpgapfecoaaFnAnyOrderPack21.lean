/- Texts of this claim, put together: part 21. -/
import Derived.Maps.AppendAt
import Derived.Test.YtobimpgapfecoaaFnAnyOrderPack20
import Derived.Test.YtobimpgapfecoaaFnAnyOrderPack16
import Derived.Test.YtobimpgapfecoaaFnAnyOrderPack17
/- Draws of chapter 8: counts, right or not. -/
namespace Go.Proofs.Ytobimpgapfecoaa
open Go.RowKit
set_option maxRecDepth 100000
set_option linter.unusedSimpArgs false
theorem tiny_set {n k : Nat} {d : StatsD} (y : Int) (h : tinySt n d) : tinySt n ⟨d.totals.set k y, d.cells⟩ := ⟨by simpa using h.totals, h.cells, h.each⟩
theorem tiny_snoc {n : Nat} {d : StatsD} (y : Int) (h : tinySt n d) : tinySt (n + 1) ⟨d.totals ++ [y], d.cells⟩ := ⟨by have := h.totals; simp; omega, by have := h.cells; show d.cells.length ≤ _; omega, fun c hc => by have := h.each c hc; omega⟩
theorem tiny_cell {n m : Nat} {d : StatsD} {c : List Int} (h : tinySt n d) (hc : c.length ≤ m) (hn : n ≤ m) : tinySt m ⟨d.totals, d.cells.set 0 c⟩ :=
  ⟨by have := h.totals; show d.totals.length ≤ _; omega, by have := h.cells; simp; omega, fun x hx => by
    rcases List.mem_or_eq_of_mem_set hx with hx | rfl
    · have := h.each x hx; omega
    · exact hc⟩
section
variable {w : World}
/-- 'append' as an operation of a region that draws; the block of the answer is told. -/
theorem wp_append_at8 {o : Oper} {a : Act} {K : Act → World → Prop} {Q : Exit → Act → World → Prop} (s x : Operand) (t : TypeId)
    (ho : o.op = .call { callee := .builtin .append, args := #[s, x], argTypes := #[t, t] })
    (base : Nat) (e : TypeId) (i : TypeInfo) (z : Value) (size bytes : Nat) (ht : Try.prog.underlying t = some (.slice e)) (hi : Try.prog.info? e = some i) (hz : i.zero = some z)
    (hsize : i.size = size) (hby : i.bytes = bytes) (hzs : z.cells.size = size) (hsz : 0 < size)
    (v : Value) (n : Nat) (xs : List Value) (hs : a.eval s = v) (hown : w.ownsRow base e size v n xs)
    (ad : Addr) (m c : Nat) (news : List Value) (hx : a.eval x = .slice (some ad) m c) (hl : news.length = m * size) (hnews : ∀ j u, news[j]? = some u → w.cell? (ad.add j) = some u) (h1 : ∀ u ∈ news, u.oneCell' = true)
    (h63 : n + m ≤ maxLen) (hbytes : (n + m) * bytes ≤ 140737488355328) (hbase : base ≤ w.heap.size)
    (h : ∀ v' w', w'.ownsRow base e size v' (n + m) (xs ++ news) → w.grownBy w' v.ownBlock → (v'.ownBlock = v.ownBlock ∨ v'.ownBlock = some w.heap.size) → K (a.put o.dst v') w') :
    o.wp Try.prog a w K Q := by
  obtain ⟨v', w', hr, h2, h3, h4, h5⟩ := run_append_own_at (P := Try.prog) w base t o.type e i z size bytes ht hi hz hsize hby hzs hsz v n xs hown ad m c news hl hnews h1 h63 hbytes hbase
  unfold Oper.wp execOp
  simp only [ho, resolve, invoke, builtin, Sem.run_bind, Sem.run_pure, Result.andThen_ok, List.map_toArray, List.map_cons, List.map_nil, hs, hx, hr]
  exact h v' w' h2 h3 h5
end
set_option maxHeartbeats 6400000 in
theorem draw8_any (g : Nat) (a : Option Addr) (len cap : Nat) (zs : List Int) (vs : Value) (s : SchemaD) (b : Nat) (w : World) (hc : IsCur w g a len cap) (hr : IsRow .u8 w a len cap zs) (hs : OwnS b w vs s) (hgb : g < b) (ht : tinyS s) :
    Calls Try.prog 44 #[.pointer (some ⟨g, 0, none⟩), vs] w fun e w' => ∃ v d, e = .returned v ∧ OwnSt w.heap.size w' v d ∧ tinySt 20 d ∧ IsCur w' g a len cap ∧ w.grownBy w' (some g) := by
  have hgw : g < w.heap.size := hc.lt
  obtain ⟨i0, hi, hi0, hi1, hi2⟩ := info_parts intInfo
  have HR : Hid (∀ w', w.grownBy w' (some g) → IsRow .u8 w' a len cap zs) := fun w' h => hr.aside hc h
  have HTN : Hid (tinyS s) := ht
  obtain ⟨va, vc, rfl, ra, rc⟩ := id hs.at
  obtain ⟨oa, ka, rfl, -, -⟩ := id ra
  obtain ⟨oc, kc, rfl, -, -⟩ := id rc
  clear ra rc ht
  obtain ⟨K1, R, B0⟩ := blk_2 27 31 w #[.slice oa s.attrs.length ka, .slice oc s.classes.length kc] #[.slice none 0 0, .slice none 0 0]
  have gr := grown_of_below B0 (some g)
  have cu := (hc.alloc (.cells #[.slice oa s.attrs.length ka, .slice oc s.classes.length kc] 27)).alloc (.cells #[.slice none 0 0, .slice none 0 0] 31)
  have os := hs.below7 B0
  clear hc hr hs B0
  generalize hW : ((w.alloc (.cells #[.slice oa s.attrs.length ka, .slice oc s.classes.length kc] 27)).alloc (.cells #[.slice none 0 0, .slice none 0 0] 31)) = w0 at K1 R gr cu os
  have hs0 : w.heap.size + 2 = w0.heap.size := by rw [← hW]; simp
  have e1 := right8_any g a len cap zs _ s b w0 cu (HR.out _ gr) os hgb HTN.out
  have j0 : w0.cell? ⟨w.heap.size, 0, none⟩ = some (.slice oa s.attrs.length ka) := K1.cell 0
  have j1 : w0.cell? ⟨w.heap.size, 1, none⟩ = some (.slice oc s.classes.length kc) := K1.cell 1
  clear cu os K1
  go_enter Try.func44, Try.ntmps44
  go_wp2_with fail
  refine e1.mono ?_
  clear e1 j0 j1 hW
  rintro e w1 ⟨v1, d, rfl, o, ts, cu, h1⟩
  obtain ⟨o1, k1, o2, k2, rfl⟩ := o.form
  replace o := o.base (show w.heap.size + 2 ≤ w0.heap.size by omega)
  replace R := R.kept h1 (by intro e; injection e; omega)
  replace gr := grown_trans gr h1
  have hs1 := h1.size
  clear h1
  obtain ⟨T, BX⟩ := blk_1 31 w1 #[.slice o1 d.totals.length k1, .slice o2 d.cells.length k2]
  replace R := R.below BX
  replace o := o.below BX
  replace cu := cu.kept (grown_of_below BX) (by intro e; cases e)
  replace gr := grown_trans gr (grown_of_below BX _)
  clear BX
  generalize hX : w1.alloc (.cells #[.slice o1 d.totals.length k1, .slice o2 d.cells.length k2] 31) = wx at T R o cu gr
  have e1 := l1Below_any g a len cap zs 14 wx cu (HR.out _ gr) (by decide) (by decide)
  go_wp2_with fail
  refine e1.mono ?_
  clear e1 hX cu
  rintro e w2 ⟨t, rfl, ht14, cu, h2⟩
  replace R := R.kept h2 (by intro e; injection e; omega)
  replace T := T.kept h2 (by intro e; injection e; omega)
  replace o := o.curW (by omega) h2
  replace gr := grown_trans gr h2
  clear h2
  have htb : w.heap.size + 2 ≤ w1.heap.size := by omega
  obtain ⟨tb, htb'⟩ : ∃ tb, w1.heap.size = tb := ⟨_, rfl⟩
  rw [htb'] at T htb ⊢
  clear htb' hs1 hs0
  have lt := ts.totals
  have lc := ts.cells
  have q0 : w2.cell? ⟨tb, 0, none⟩ = some (.slice o1 d.totals.length k1) := T.cell 0
  have q1 : w2.cell? ⟨tb, 1, none⟩ = some (.slice o2 d.cells.length k2) := T.cell 1
  by_cases t0 : t = 0
  · subst t0
    by_cases hl : 0 < d.totals.length
    rotate_left
    · have hlz : ¬ (0 : Int) < (d.totals.length : Int) := by omega
      replace ts := ts.up (show 16 ≤ 20 by omega)
      go_wp2_with (first | (with_reducible refine wp_st_load rfl _ rfl ?_; refine ⟨_, rfl, _, _, T, ?_⟩) | (with_reducible refine wp_st_store rfl _ _ rfl ?_; refine ⟨_, rfl, _, _, _, _, _, _, rfl, _, _, R, ?_⟩))
      exact bodyPost_ret (res_st rfl _ _ _ _ _ rfl (R.setRow _)) rfl ⟨_, _, rfl, (o.base (by omega)).rowB R (by decide) (by decide) _, ts, cu.rowW _ (by omega), grown_row gr (by omega) _⟩
    have hlz : (0 : Int) < (d.totals.length : Int) := by omega
    obtain ⟨go, rfl⟩ : ∃ go, o1 = some ⟨go, 0, none⟩ := by
      obtain ⟨vt, vc, L, ys, e, p1, -, -⟩ := id o
      cases e
      exact own_some8 p1 hl
    go_wp2_with fail
    refine region_L (S := fun w' => Blk 31 w' tb #[.slice (some ⟨go, 0, none⟩) d.totals.length k1, .slice o2 d.cells.length k2]) (last := 6) (by kernel_rfl) ?_
    have bd : Below w2.heap.size w2 w2.drew := below_drewN (Below.refl _ _) 1
    replace T := T.below bd
    replace R := R.below bd
    replace o := o.below bd
    replace cu := cu.kept (grown_of_below bd) (by intro e; cases e)
    replace gr := grown_trans gr (grown_of_below bd _)
    clear bd q0 q1
    have hS := T
    generalize w2.drew = w3 at *
    refine firstL 0 (.pointer (some ⟨tb, 0, none⟩)) rfl (by kernel_rfl) (by kernel_rfl) (by kernel_rfl) (fun _ _ _ h => h) (by kernel_rfl) (.inl ⟨by rfl, fun w hw => by (unfold execOp; go_simp)⟩) hS ?_
    try simp only [Act.put, List.setIfInBounds_toArray, List.set_cons_zero, List.set_cons_succ]
    refine firstL 1 (.slice (some ⟨go, 0, none⟩) d.totals.length k1) rfl (by kernel_rfl) (by kernel_rfl) (by kernel_rfl) (fun _ _ _ h => h) (by kernel_rfl) (.inl ⟨by rfl, fun w hw => by have h := hw.cell 0; unfold execOp; go_simp⟩) hS ?_
    try simp only [Act.put, List.setIfInBounds_toArray, List.set_cons_zero, List.set_cons_succ]
    refine firstL 2 (.pointer (some ⟨g, 0, none⟩)) rfl (by kernel_rfl) (by kernel_rfl) (by kernel_rfl) (fun _ _ _ h => h) (by kernel_rfl) (.inl ⟨by rfl, fun w hw => by rfl⟩) hS ?_
    try simp only [Act.put, List.setIfInBounds_toArray, List.set_cons_zero, List.set_cons_succ]
    have e1 := pickN [-1, 999, 998, 1000, 9223372036854775807] g a len cap zs w3 cu (HR.out _ gr) (by simp) (by simp)
    simp only [List.map_cons, List.map_nil, List.length_cons, List.length_nil, Nat.zero_add, Nat.reduceAdd] at e1
    have bn : Below w3.heap.size w3 (w3.alloc (.cells #[.int .i64 (-1), .int .i64 999, .int .i64 998, .int .i64 1000, .int .i64 9223372036854775807] 3)) := (Below.refl _ _).alloc (Nat.le_refl _) _
    refine stepL 3 rfl (by kernel_rfl) (by rfl) fun K hK => ?_
    go_simp
    refine hK _ _ (hS.below bn) ?_
    clear hK K bn
    refine stepL 4 rfl (by kernel_rfl) (by rfl) fun K hK => ?_
    go_simp
    refine e1.mono ?_
    clear e1 cu
    rintro e w4 ⟨y, rfl, -, cu, h4⟩
    replace R := R.kept h4 (by intro e; injection e; omega)
    replace T := T.kept h4 (by intro e; injection e; omega)
    replace o := o.curW (by omega) h4
    replace gr := grown_trans gr h4
    replace hS := T
    refine hK _ _ hS ?_
    clear hK K h4
    refine firstL 5 (.pointer (some ⟨go, 0, none⟩)) rfl (by kernel_rfl) (by kernel_rfl) (by kernel_rfl) (fun _ _ _ h => h) (by kernel_rfl) (.inl ⟨by rfl, fun w hw => by (unfold execOp; go_simp; all_goals omega)⟩) hS ?_
    try simp only [Act.put, List.setIfInBounds_toArray, List.set_cons_zero, List.set_cons_succ]
    refine lastL rfl (by kernel_rfl) (by kernel_rfl) (by rfl) ?_
    obtain ⟨old, hold⟩ : ∃ old, w4.cell? ⟨go, 0, none⟩ = some old := by
      obtain ⟨vt, vc, L, ys, e, p1, -, -⟩ := id o
      cases e
      exact ⟨_, (p1.cellAt 0 (by omega)).trans (List.getElem?_eq_getElem (by simp; omega))⟩
    have f4 : w4.frozen? ⟨go, 0, none⟩ = false := by
      obtain ⟨vt, vc, L, ys, e, p1, -, -⟩ := id o
      cases e
      exact p1.frozenAt 0
    go_simp
    have hne : tb ≠ go ∧ w.heap.size + 1 ≠ go := by
      obtain ⟨vt, vc, L, ys, e, p1, -, -⟩ := id o
      cases e
      exact ⟨fun e => own_ne_blk p1 T (by decide) (by rw [e]; rfl), fun e => own_ne_blk p1 R (by decide) (by rw [e]; rfl)⟩
    have hgo : w.heap.size + 2 ≤ go := by
      obtain ⟨vt, vc, L, ys, e, p1, -, -⟩ := id o
      cases e
      exact (p1.lt go rfl).1
    replace T := T.setCell_other ⟨go, 0, none⟩ (.int .i64 y) (Ne.symm hne.1)
    replace R := R.setCell_other ⟨go, 0, none⟩ (.int .i64 y) (Ne.symm hne.2)
    replace o := o.putT 0 y
    replace cu := cu.cellW (p := go) 0 (.int .i64 y) (by omega)
    replace gr := grown_cell gr (p := go) (k := 0) (by omega) (.int .i64 y)
    replace ts := (tiny_set (k := 0) y ts).up (show 16 ≤ 20 by omega)
    clear hold f4 hne hgo hS
    generalize w4.setCell ⟨go, 0, none⟩ (.int .i64 y) = w5 at *
    go_wp2_with (first | (with_reducible refine wp_st_load rfl _ rfl ?_; refine ⟨_, rfl, _, _, T, ?_⟩) | (with_reducible refine wp_st_store rfl _ _ rfl ?_; refine ⟨_, rfl, _, _, _, _, _, _, rfl, _, _, R, ?_⟩))
    exact bodyPost_ret (res_st rfl _ _ _ _ _ rfl (R.setRow _)) rfl ⟨_, _, rfl, (o.base (by omega)).rowB R (by decide) (by decide) _, ts, cu.rowW _ (by omega), grown_row gr (by omega) _⟩
  have b0 : ((t : Int) == 0) = false := by rw [beq_eq_false_iff_ne]; omega
  by_cases t1 : t = 1
  · subst t1
    obtain ⟨vt9, vc9, L9, ys9, e9, p1, p2, p3⟩ := id o
    cases e9
    have hn4 := p1
    go_wp2_with (at_builtin; refine wpList_append_own_at _ rfl _ _ 28 rfl (w.heap.size + 2) 3 i0 (.int .i64 0) 1 8 Try.underlying28 hi hi0 hi1 hi2 rfl (by decide) _ _ _ rfl (p1.alloc _) ⟨w2.heap.size, 0, none⟩ 1 1 [_] rfl rfl (newc _ _ _) ?d2 ?d3 ?d4 ?d5 ?_)
    case d2 => intro u hu; simp at hu; subst hu; rfl
    case d3 => unfold maxLen; omega
    case d4 => omega
    case d5 => have := T.lt; simp; omega
    intro v' w5 hown' hgrow _ hat
    have bn : Below w2.heap.size w2 (w2.alloc (.cells #[.int .i64 0] 3)) := (Below.refl _ _).alloc (Nat.le_refl _) _
    have o5 := (o.below bn).snocT (by simpa using hown') hgrow (by rw [World.size_alloc]; exact hat)
    have hvo : ∀ j, (Value.slice o1 d.totals.length k1).ownBlock = some j → w.heap.size + 2 ≤ j ∧ j ≠ tb := fun j hj => ⟨(p1.lt j hj).1, fun e => own_ne_blk p1 T (by decide) (by rw [hj, e])⟩
    have T5 := (T.below bn).kept hgrow (fun e => (hvo _ e).2 rfl)
    have R5 := (R.below bn).kept hgrow (fun e => by have := (hvo _ e).1; omega)
    have cu5 := (cu.kept (grown_of_below bn) (by intro e; cases e)).kept hgrow (fun e => by have := (hvo _ e).1; omega)
    have gr5 := grown_own (grown_trans gr (grown_of_below bn _)) hgrow (fun j e => by have := (hvo _ e).1; omega)
    obtain ⟨ov, cv, rfl⟩ := own_slice hown'
    clear p1 p2 p3 hn4 hown' hgrow hat bn hvo o T R cu gr q0 q1
    have q5 : w5.cell? ⟨tb, 0, none⟩ = some (.slice o1 d.totals.length k1) := T5.cell 0
    have f5 := T5.frozen 0
    replace ts := (tiny_snoc 0 ts).up (show 16 + 1 ≤ 20 by omega)
    have T := T5.setCell 0 (.slice ov (d.totals.length + 1) cv)
    have R := R5.setCell_other ⟨tb, 0, none⟩ (.slice ov (d.totals.length + 1) cv) (show tb ≠ w.heap.size + 1 by omega)
    have o := o5.cellB T5 (by decide) (by decide) 0 (.slice ov (d.totals.length + 1) cv)
    have cu := cu5.cellW (p := tb) 0 (.slice ov (d.totals.length + 1) cv) (by omega)
    have gr := grown_cell gr5 (p := tb) (k := 0) (by omega) (.slice ov (d.totals.length + 1) cv)
    clear T5 R5 o5 cu5 gr5
    go_wp2_with (first | (with_reducible refine wp_st_load rfl _ rfl ?_; refine ⟨_, rfl, _, _, T, ?_⟩) | (with_reducible refine wp_st_store rfl _ _ rfl ?_; refine ⟨_, rfl, _, _, _, _, _, _, rfl, _, _, R, ?_⟩))
    exact bodyPost_ret (res_st rfl _ _ _ _ _ rfl (R.setRow _)) rfl ⟨_, _, rfl, (o.base (by omega)).rowB R (by decide) (by decide) _, ts, cu.rowW _ (by omega), grown_row gr (by omega) _⟩
  have b1 : ((t : Int) == 1) = false := by rw [beq_eq_false_iff_ne]; omega
  by_cases t2 : t = 2
  · subst t2
    by_cases hl : 0 < d.cells.length
    rotate_left
    · have hlz : ¬ (0 : Int) < (d.cells.length : Int) := by omega
      replace ts := ts.up (show 16 ≤ 20 by omega)
      go_wp2_with (first | (with_reducible refine wp_st_load rfl _ rfl ?_; refine ⟨_, rfl, _, _, T, ?_⟩) | (with_reducible refine wp_st_store rfl _ _ rfl ?_; refine ⟨_, rfl, _, _, _, _, _, _, rfl, _, _, R, ?_⟩))
      exact bodyPost_ret (res_st rfl _ _ _ _ _ rfl (R.setRow _)) rfl ⟨_, _, rfl, (o.base (by omega)).rowB R (by decide) (by decide) _, ts, cu.rowW _ (by omega), grown_row gr (by omega) _⟩
    have hlz : (0 : Int) < (d.cells.length : Int) := by omega
    obtain ⟨gc, ol, kl, L, ys, rfl, H⟩ := o.open0 hl
    have q2 := H.cell
    by_cases hm : 0 < (il d.cells 0).length
    rotate_left
    · have hmz : ¬ (0 : Int) < ((il d.cells 0).length : Int) := by omega
      replace ts := ts.up (show 16 ≤ 20 by omega)
      go_wp2_with (first | (with_reducible refine wp_st_load rfl _ rfl ?_; refine ⟨_, rfl, _, _, T, ?_⟩) | (with_reducible refine wp_st_store rfl _ _ rfl ?_; refine ⟨_, rfl, _, _, _, _, _, _, rfl, _, _, R, ?_⟩))
      exact bodyPost_ret (res_st rfl _ _ _ _ _ rfl (R.setRow _)) rfl ⟨_, _, rfl, (o.base (by omega)).rowB R (by decide) (by decide) _, ts, cu.rowW _ (by omega), grown_row gr (by omega) _⟩
    have hmz : (0 : Int) < ((il d.cells 0).length : Int) := by omega
    have hm20 := ts.each _ (il_mem hl)
    clear o
    obtain ⟨gl, rfl⟩ : ∃ gl, ol = some ⟨gl, 0, none⟩ := own_some8 H.lst hm
    go_wp2_with fail
    refine region_L (S := fun w' => Blk 31 w' tb #[.slice o1 d.totals.length k1, .slice (some ⟨gc, 0, none⟩) d.cells.length k2] ∧ w'.cell? ⟨gc, 0, none⟩ = some (.slice (some ⟨gl, 0, none⟩) (il d.cells 0).length kl)) (last := 8) (by kernel_rfl) ?_
    have bd : Below w2.heap.size w2 w2.drew := below_drewN (Below.refl _ _) 1
    replace T := T.below bd
    replace R := R.below bd
    replace H := H.below bd
    replace cu := cu.kept (grown_of_below bd) (by intro e; cases e)
    replace gr := grown_trans gr (grown_of_below bd _)
    clear bd q0 q1
    clear q2
    have hS : Blk 31 w2.drew tb #[.slice o1 d.totals.length k1, .slice (some ⟨gc, 0, none⟩) d.cells.length k2] ∧ w2.drew.cell? ⟨gc, 0, none⟩ = some (.slice (some ⟨gl, 0, none⟩) (il d.cells 0).length kl) := ⟨T, H.cell⟩
    generalize w2.drew = w3 at *
    refine firstL 0 (.pointer (some ⟨tb, 1, none⟩)) rfl (by kernel_rfl) (by kernel_rfl) (by kernel_rfl) (fun _ _ _ h => h) (by kernel_rfl) (.inl ⟨by rfl, fun w hw => by (unfold execOp; go_simp)⟩) hS ?_
    try simp only [Act.put, List.setIfInBounds_toArray, List.set_cons_zero, List.set_cons_succ]
    refine firstL 1 (.slice (some ⟨gc, 0, none⟩) d.cells.length k2) rfl (by kernel_rfl) (by kernel_rfl) (by kernel_rfl) (fun _ _ _ h => h) (by kernel_rfl) (.inl ⟨by rfl, fun w hw => by have h := hw.1.cell 1; unfold execOp; go_simp⟩) hS ?_
    try simp only [Act.put, List.setIfInBounds_toArray, List.set_cons_zero, List.set_cons_succ]
    refine firstL 2 (.pointer (some ⟨gc, 0, none⟩)) rfl (by kernel_rfl) (by kernel_rfl) (by kernel_rfl) (fun _ _ _ h => h) (by kernel_rfl) (.inl ⟨by rfl, fun w hw => by (unfold execOp; go_simp; all_goals omega)⟩) hS ?_
    try simp only [Act.put, List.setIfInBounds_toArray, List.set_cons_zero, List.set_cons_succ]
    refine firstL 3 (.slice (some ⟨gl, 0, none⟩) (il d.cells 0).length kl) rfl (by kernel_rfl) (by kernel_rfl) (by kernel_rfl) (fun _ _ _ h => h) (by kernel_rfl) (.inl ⟨by rfl, fun w hw => by have h := hw.2; unfold execOp; go_simp⟩) hS ?_
    try simp only [Act.put, List.setIfInBounds_toArray, List.set_cons_zero, List.set_cons_succ]
    refine firstL 4 (.pointer (some ⟨g, 0, none⟩)) rfl (by kernel_rfl) (by kernel_rfl) (by kernel_rfl) (fun _ _ _ h => h) (by kernel_rfl) (.inl ⟨by rfl, fun w hw => by rfl⟩) hS ?_
    try simp only [Act.put, List.setIfInBounds_toArray, List.set_cons_zero, List.set_cons_succ]
    have e1 := pickN [-1, 500, 1000] g a len cap zs w3 cu (HR.out _ gr) (by simp) (by simp)
    simp only [List.map_cons, List.map_nil, List.length_cons, List.length_nil, Nat.zero_add, Nat.reduceAdd] at e1
    have bn : Below w3.heap.size w3 (w3.alloc (.cells #[.int .i64 (-1), .int .i64 500, .int .i64 1000] 3)) := (Below.refl _ _).alloc (Nat.le_refl _) _
    refine stepL 5 rfl (by kernel_rfl) (by rfl) fun K hK => ?_
    go_simp
    refine hK _ _ (⟨hS.1.below bn, (H.below bn).cell⟩) ?_
    clear hK K bn
    refine stepL 6 rfl (by kernel_rfl) (by rfl) fun K hK => ?_
    go_simp
    refine e1.mono ?_
    clear e1 cu
    rintro e w4 ⟨y, rfl, -, cu, h4⟩
    replace R := R.kept h4 (by intro e; injection e; omega)
    replace T := T.kept h4 (by intro e; injection e; omega)
    replace H := H.curW (by omega) h4
    replace gr := grown_trans gr h4
    replace hS := And.intro T H.cell
    refine hK _ _ hS ?_
    clear hK K h4
    refine firstL 7 (.pointer (some ⟨gl, 0, none⟩)) rfl (by kernel_rfl) (by kernel_rfl) (by kernel_rfl) (fun _ _ _ h => h) (by kernel_rfl) (.inl ⟨by rfl, fun w hw => by (unfold execOp; go_simp; all_goals omega)⟩) hS ?_
    try simp only [Act.put, List.setIfInBounds_toArray, List.set_cons_zero, List.set_cons_succ]
    refine lastL rfl (by kernel_rfl) (by kernel_rfl) (by rfl) ?_
    obtain ⟨old, hold⟩ : ∃ old, w4.cell? ⟨gl, 0, none⟩ = some old := ⟨_, (H.lst.cellAt 0 (by omega)).trans (List.getElem?_eq_getElem (by simp; omega))⟩
    have f4 : w4.frozen? ⟨gl, 0, none⟩ = false := H.lst.frozenAt 0
    go_simp
    have hne1 : tb ≠ gl := fun e => own_ne_blk H.lst T (by decide) (by rw [e]; rfl)
    have hgo : w.heap.size + 2 ≤ gl := (H.lst.lt gl rfl).1
    replace T := T.setCell_other ⟨gl, 0, none⟩ (.int .i64 y) (Ne.symm hne1)
    replace R := R.setCell_other ⟨gl, 0, none⟩ (.int .i64 y) (show gl ≠ w.heap.size + 1 by omega)
    have o := H.put 0 y
    replace cu := cu.cellW (p := gl) 0 (.int .i64 y) (by omega)
    replace gr := grown_cell gr (p := gl) (k := 0) (by omega) (.int .i64 y)
    replace ts := tiny_cell (c := (il d.cells 0).set 0 y) (m := 20) ts (by rw [List.length_set]; omega) (by omega)
    clear hold f4 hne1 hgo hS H
    generalize w4.setCell ⟨gl, 0, none⟩ (.int .i64 y) = w5 at *
    rw [show d.cells.length = (d.cells.set 0 ((il d.cells 0).set 0 y)).length by rw [List.length_set]] at T o
    go_wp2_with (first | (with_reducible refine wp_st_load rfl _ rfl ?_; refine ⟨_, rfl, _, _, T, ?_⟩) | (with_reducible refine wp_st_store rfl _ _ rfl ?_; refine ⟨_, rfl, _, _, _, _, _, _, rfl, _, _, R, ?_⟩))
    exact bodyPost_ret (res_st rfl _ _ _ _ _ rfl (R.setRow _)) rfl ⟨_, _, rfl, (o.base (by omega)).rowB R (by decide) (by decide) _, ts, cu.rowW _ (by omega), grown_row gr (by omega) _⟩
  have b2 : ((t : Int) == 2) = false := by rw [beq_eq_false_iff_ne]; omega
  by_cases t3 : t = 3
  · subst t3
    by_cases hl : 0 < d.cells.length
    rotate_left
    · have hlz : ¬ (0 : Int) < (d.cells.length : Int) := by omega
      replace ts := ts.up (show 16 ≤ 20 by omega)
      go_wp2_with (first | (with_reducible refine wp_st_load rfl _ rfl ?_; refine ⟨_, rfl, _, _, T, ?_⟩) | (with_reducible refine wp_st_store rfl _ _ rfl ?_; refine ⟨_, rfl, _, _, _, _, _, _, rfl, _, _, R, ?_⟩))
      exact bodyPost_ret (res_st rfl _ _ _ _ _ rfl (R.setRow _)) rfl ⟨_, _, rfl, (o.base (by omega)).rowB R (by decide) (by decide) _, ts, cu.rowW _ (by omega), grown_row gr (by omega) _⟩
    have hlz : (0 : Int) < (d.cells.length : Int) := by omega
    obtain ⟨gc, ol, kl, L, ys, rfl, H⟩ := o.open0 hl
    have hm20 := ts.each _ (il_mem hl)
    clear o
    go_wp2_with fail
    refine region_L (S := fun w' => Blk 31 w' tb #[.slice o1 d.totals.length k1, .slice (some ⟨gc, 0, none⟩) d.cells.length k2] ∧ w'.cell? ⟨gc, 0, none⟩ = some (.slice ol (il d.cells 0).length kl)) (last := 9) (by kernel_rfl) ?_
    have bd : Below w2.heap.size w2 w2.drew := below_drewN (Below.refl _ _) 1
    replace T := T.below bd
    replace R := R.below bd
    replace H := H.below bd
    replace cu := cu.kept (grown_of_below bd) (by intro e; cases e)
    replace gr := grown_trans gr (grown_of_below bd _)
    clear bd q0 q1
    have hS : Blk 31 w2.drew tb #[.slice o1 d.totals.length k1, .slice (some ⟨gc, 0, none⟩) d.cells.length k2] ∧ w2.drew.cell? ⟨gc, 0, none⟩ = some (.slice ol (il d.cells 0).length kl) := ⟨T, H.cell⟩
    generalize w2.drew = w3 at *
    refine firstL 0 (.pointer (some ⟨tb, 1, none⟩)) rfl (by kernel_rfl) (by kernel_rfl) (by kernel_rfl) (fun _ _ _ h => h) (by kernel_rfl) (.inl ⟨by rfl, fun w hw => by (unfold execOp; go_simp)⟩) hS ?_
    try simp only [Act.put, List.setIfInBounds_toArray, List.set_cons_zero, List.set_cons_succ]
    refine firstL 1 (.slice (some ⟨gc, 0, none⟩) d.cells.length k2) rfl (by kernel_rfl) (by kernel_rfl) (by kernel_rfl) (fun _ _ _ h => h) (by kernel_rfl) (.inl ⟨by rfl, fun w hw => by have h := hw.1.cell 1; unfold execOp; go_simp⟩) hS ?_
    try simp only [Act.put, List.setIfInBounds_toArray, List.set_cons_zero, List.set_cons_succ]
    refine firstL 2 (.pointer (some ⟨tb, 1, none⟩)) rfl (by kernel_rfl) (by kernel_rfl) (by kernel_rfl) (fun _ _ _ h => h) (by kernel_rfl) (.inl ⟨by rfl, fun w hw => by (unfold execOp; go_simp)⟩) hS ?_
    try simp only [Act.put, List.setIfInBounds_toArray, List.set_cons_zero, List.set_cons_succ]
    refine firstL 3 (.slice (some ⟨gc, 0, none⟩) d.cells.length k2) rfl (by kernel_rfl) (by kernel_rfl) (by kernel_rfl) (fun _ _ _ h => h) (by kernel_rfl) (.inl ⟨by rfl, fun w hw => by have h := hw.1.cell 1; unfold execOp; go_simp⟩) hS ?_
    try simp only [Act.put, List.setIfInBounds_toArray, List.set_cons_zero, List.set_cons_succ]
    refine firstL 4 (.pointer (some ⟨gc, 0, none⟩)) rfl (by kernel_rfl) (by kernel_rfl) (by kernel_rfl) (fun _ _ _ h => h) (by kernel_rfl) (.inl ⟨by rfl, fun w hw => by (unfold execOp; go_simp; all_goals omega)⟩) hS ?_
    try simp only [Act.put, List.setIfInBounds_toArray, List.set_cons_zero, List.set_cons_succ]
    refine firstL 5 (.slice ol (il d.cells 0).length kl) rfl (by kernel_rfl) (by kernel_rfl) (by kernel_rfl) (fun _ _ _ h => h) (by kernel_rfl) (.inl ⟨by rfl, fun w hw => by have h := hw.2; unfold execOp; go_simp⟩) hS ?_
    try simp only [Act.put, List.setIfInBounds_toArray, List.set_cons_zero, List.set_cons_succ]
    have bn : Below w3.heap.size w3 (w3.alloc (.cells #[.int .i64 0] 3)) := (Below.refl _ _).alloc (Nat.le_refl _) _
    refine stepL 6 rfl (by kernel_rfl) (by rfl) fun K hK => ?_
    go_simp
    refine hK _ _ ⟨hS.1.below bn, (H.below bn).cell⟩ ?_
    clear hK K
    have HB := H.below bn
    refine stepL 7 rfl (by kernel_rfl) (by rfl) fun K hK => ?_
    refine wp_append_at8 _ _ 28 rfl (w.heap.size + 2) 3 i0 (.int .i64 0) 1 8 Try.underlying28 hi hi0 hi1 hi2 rfl (by decide) _ _ _ rfl HB.lst ⟨w3.heap.size, 0, none⟩ 1 1 [.int .i64 0] rfl rfl (cell_one_new _ _ _) (by intro u hu; simp at hu; subst hu; rfl) (by unfold maxLen; omega) (by omega) (by have := T.lt; simp; omega) ?_
    intro v' w5 hown' hgrow hat
    have hvo : ∀ j, (Value.slice ol (il d.cells 0).length kl).ownBlock = some j → w.heap.size + 2 ≤ j ∧ j ≠ tb := fun j hj => ⟨(H.lst.lt j hj).1, fun e => own_ne_blk H.lst T (by decide) (by rw [hj, e])⟩
    have T5 := (T.below bn).kept hgrow (fun e => (hvo _ e).2 rfl)
    have R5 := (R.below bn).kept hgrow (fun e => by have := (hvo _ e).1; omega)
    have cu5 := (cu.kept (grown_of_below bn) (by intro e; cases e)).kept hgrow (fun e => by have := (hvo _ e).1; omega)
    have gr5 := grown_own (grown_trans gr (grown_of_below bn _)) hgrow (fun j e => by have := (hvo _ e).1; omega)
    obtain ⟨ov, cv, rfl⟩ := own_slice hown'
    have row5 := HB.sep.row.kept hgrow (by have := apart_ty HB.sep.row HB.lst (by decide); exact this)
    have c5 : w5.cell? ⟨gc, 0, none⟩ = some (.slice ol (il d.cells 0).length kl) := by
      rw [row5.cellAt 0 (by omega), HB.sep.cells 0 hl, HB.fst]
    have f5 : w5.frozen? ⟨gc, 0, none⟩ = false := row5.frozenAt 0
    have hgc : w.heap.size + 2 ≤ gc ∧ gc ≠ tb := ⟨(H.sep.row.lt gc rfl).1, fun e => own_ne_blk H.sep.row T (by decide) (by rw [e]; rfl)⟩
    have o := HB.snoc (by simpa using hown') hgrow hat
    refine hK _ _ ⟨T5, c5⟩ ?_
    replace hS : Blk 31 w5 tb #[.slice o1 d.totals.length k1, .slice (some ⟨gc, 0, none⟩) d.cells.length k2] ∧ w5.cell? ⟨gc, 0, none⟩ = some (.slice ol (il d.cells 0).length kl) := ⟨T5, c5⟩
    clear hK K hvo hgrow hat hown' HB H T R cu gr bn row5
    refine firstL 8 (.pointer (some ⟨gc, 0, none⟩)) rfl (by kernel_rfl) (by kernel_rfl) (by kernel_rfl) (fun _ _ _ h => h) (by kernel_rfl) (.inl ⟨by rfl, fun w hw => by (unfold execOp; go_simp; all_goals omega)⟩) hS ?_
    try simp only [Act.put, List.setIfInBounds_toArray, List.set_cons_zero, List.set_cons_succ]
    refine lastL rfl (by kernel_rfl) (by kernel_rfl) (by rfl) ?_
    go_simp
    have T := T5.setCell_other ⟨gc, 0, none⟩ (.slice ov ((il d.cells 0).length + 1) cv) hgc.2
    have R := R5.setCell_other ⟨gc, 0, none⟩ (.slice ov ((il d.cells 0).length + 1) cv) (show gc ≠ w.heap.size + 1 by omega)
    have cu := cu5.cellW (p := gc) 0 (.slice ov ((il d.cells 0).length + 1) cv) (by omega)
    have gr := grown_cell gr5 (p := gc) (k := 0) (by omega) (.slice ov ((il d.cells 0).length + 1) cv)
    replace ts := tiny_cell (c := il d.cells 0 ++ [0]) (m := 20) ts (by rw [List.length_append]; simp; omega) (by omega)
    clear c5 f5 hgc hS T5 R5 cu5 gr5
    generalize w5.setCell ⟨gc, 0, none⟩ (.slice ov ((il d.cells 0).length + 1) cv) = w6 at *
    rw [show d.cells.length = (d.cells.set 0 (il d.cells 0 ++ [0])).length by rw [List.length_set]] at T o
    go_wp2_with (first | (with_reducible refine wp_st_load rfl _ rfl ?_; refine ⟨_, rfl, _, _, T, ?_⟩) | (with_reducible refine wp_st_store rfl _ _ rfl ?_; refine ⟨_, rfl, _, _, _, _, _, _, rfl, _, _, R, ?_⟩))
    exact bodyPost_ret (res_st rfl _ _ _ _ _ rfl (R.setRow _)) rfl ⟨_, _, rfl, (o.base (by omega)).rowB R (by decide) (by decide) _, ts, cu.rowW _ (by omega), grown_row gr (by omega) _⟩
  have b3 : ((t : Int) == 3) = false := by rw [beq_eq_false_iff_ne]; omega
  replace ts := ts.up (show 16 ≤ 20 by omega)
  clear t0 t1 t2 t3 q0 q1
  go_wp2_with (first | (with_reducible refine wp_st_load rfl _ rfl ?_; refine ⟨_, rfl, _, _, T, ?_⟩) | (with_reducible refine wp_st_store rfl _ _ rfl ?_; refine ⟨_, rfl, _, _, _, _, _, _, rfl, _, _, R, ?_⟩))
  exact bodyPost_ret (res_st rfl _ _ _ _ _ rfl (R.setRow _)) rfl ⟨_, _, rfl, (o.base (by omega)).rowB R (by decide) (by decide) _, ts, cu.rowW _ (by omega), grown_row gr (by omega) _⟩
end Go.Proofs.Ytobimpgapfecoaa
/- Draws of chapter 7: an example, right or not. -/
namespace Go.Proofs.Ytobimpgapfecoaa
open Go.RowKit
set_option maxRecDepth 100000
set_option linter.unusedSimpArgs false
theorem own_setNe7 {w : World} {base e s n : Nat} {v : Value} {xs : List Value} (h : w.ownsRow base e s v n xs) (p : Addr) (u : Value) (hp : v.ownBlock ≠ some p.block) : (w.setCell p u).ownsRow base e s v n xs := by
  refine ⟨h.1, ?_⟩
  rcases h.2 with h' | ⟨g, cap, cur, hv, hg, hc, r⟩
  · exact .inl h'
  · refine .inr ⟨g, cap, cur, hv, hg, ?_, r⟩
    simp only [World.setCell, Array.getElem?_modify]
    rw [if_neg (fun e' => hp (by rw [hv, e']; rfl))]; exact hc
theorem own_notBlk7 {w : World} {base e s n t g : Nat} {v : Value} {xs : List Value} {cs : Array Value} (h : w.ownsRow base e s v n xs) (hb : Blk t w g cs) (hne : e ≠ t) : v.ownBlock ≠ some g := by
  rcases h.2 with ⟨rfl, _⟩ | ⟨g', cap, cur, rfl, _, hc, _⟩
  · intro e'; cases e'
  · intro e'
    injection e' with e'
    simp only at e'
    subst e'
    unfold Blk at hb
    rw [hc] at hb
    injection hb with hb
    injection hb with _ h2 _
    exact hne h2
set_option maxHeartbeats 6400000 in
theorem draw7_any (g : Nat) (a : Option Addr) (len cap : Nat) (zs : List Int) (vs : Value) (s : SchemaD) (b : Nat) (w : World) (hc : IsCur w g a len cap) (hr : IsRow .u8 w a len cap zs) (hs : OwnS b w vs s) (hgb : g < b) (ht : tinyS s) :
    Calls Try.prog 45 #[.pointer (some ⟨g, 0, none⟩), vs] w fun e w' => ∃ v d, e = .returned v ∧ OwnE w.heap.size w' v d ∧ d.bins.length ≤ 7 ∧ IsCur w' g a len cap ∧ w.grownBy w' (some g) := by
  have hgw : g < w.heap.size := hc.lt
  obtain ⟨i0, hi, hi0, hi1, hi2⟩ := info_parts intInfo
  have HR : Hid (∀ w', w.grownBy w' (some g) → IsRow .u8 w' a len cap zs) := fun w' h => hr.aside hc h
  have HTN : Hid (tinyS s) := ht
  have la := ht.attrs
  obtain ⟨va, vc, rfl, ra, rc⟩ := id hs.at
  obtain ⟨oa, ka, rfl, -, -⟩ := id ra
  obtain ⟨oc, kc, rfl, -, -⟩ := id rc
  clear ra rc ht
  obtain ⟨K1, K2, B0⟩ := blk_2 27 33 w #[.slice oa s.attrs.length ka, .slice oc s.classes.length kc] #[.slice none 0 0, .int .i64 0]
  have gr0 : w.grownBy ((w.alloc (.cells #[.slice oa s.attrs.length ka, .slice oc s.classes.length kc] 27)).alloc (.cells #[.slice none 0 0, .int .i64 0] 33)) (some g) := grown_trans (grown_alloc w _ _) (grown_alloc _ _ _)
  have os0 := hs.below7 B0
  have e1 := right7_any g a len cap zs _ s b ((w.alloc (.cells #[.slice oa s.attrs.length ka, .slice oc s.classes.length kc] 27)).alloc (.cells #[.slice none 0 0, .int .i64 0] 33)) ((hc.alloc _).alloc _) (HR.out _ gr0) os0 hgb HTN.out
  clear hc hr hs B0 K1 os0
  go_enter Try.func45, Try.ntmps45
  go_wp2_with fail
  refine e1.mono ?_
  clear e1
  rintro e w1 ⟨v1, d, rfl, ⟨vb, rfl, ow1⟩, hdl, -, cu1, h1⟩
  obtain ⟨ov, cv, rfl⟩ := own_slice ow1
  have gr1 := grown_trans gr0 h1
  have R1 := K2.kept h1 (by intro e; injection e; omega)
  have hls : w.heap.size + 1 < w1.heap.size := R1.lt
  have ow1' := own_base ow1 (b' := w.heap.size + 2) (by simp)
  have hd6 : d.bins.length ≤ 6 := by omega
  have HNE : Hid (∀ j, (Value.slice ov d.bins.length cv).ownBlock = some j → w.heap.size + 2 ≤ j ∧ j < w1.heap.size) := ow1'.lt
  clear h1 gr0 K2 ow1 hdl
  obtain ⟨E2, B2⟩ := blk_1 33 w1 #[.slice ov d.bins.length cv, .int .i64 d.cls]
  have R2 := R1.below B2
  have ow2 := own_below ow1' B2
  have cu2 := cu1.kept (grown_of_below B2 none) (by intro e; cases e)
  have gr2 := grown_trans gr1 (grown_of_below B2 _)
  clear B2 R1 ow1' cu1 gr1
  have e1 := l1Below_any g a len cap zs 12 _ cu2 (HR.out _ gr2) (by decide) (by decide)
  go_wp2_with fail
  refine e1.mono ?_
  clear e1
  rintro e w6 ⟨t, rfl, ht12, cu6, h6⟩
  have gr6 := grown_trans gr2 h6
  have R6 := R2.kept h6 (by intro e; injection e; omega)
  have E6 := E2.kept h6 (by intro e; injection e; omega)
  have ow6 := own_curW ow2 (by omega) h6
  have hE6 := E6.lt
  clear h6 gr2 cu2 R2 E2 ow2
  by_cases t0 : t = 0
  · subst t0
    have e1 := pickN [-1, -2, 3, 2, 9223372036854775807] g a len cap zs w6 cu6 (HR.out _ gr6) (by simp) (by simp)
    simp only [List.map_cons, List.map_nil, List.length_cons, List.length_nil, Nat.zero_add, Nat.reduceAdd] at e1
    go_wp2_with fail
    refine e1.mono ?_
    clear e1
    rintro e w7 ⟨y, rfl, -, cu7, h7⟩
    have gr7 := grown_trans gr6 h7
    have R7 := R6.kept h7 (by intro e; injection e; omega)
    have E7 := E6.kept h7 (by intro e; injection e; omega)
    have ow7 := own_curW ow6 (by omega) h7
    clear h7 gr6 cu6 R6 E6 ow6
    have q1 : w7.cell? ⟨w1.heap.size, 1, none⟩ = some (.int .i64 d.cls) := E7.cell 1
    have f1 := E7.frozen 1
    have R8 := R7.setCell_other ⟨w1.heap.size, 1, none⟩ (.int .i64 y) (by simp; omega)
    have E8 := E7.setCell 1 (.int .i64 y)
    have ow8 := own_setNe7 ow7 ⟨w1.heap.size, 1, none⟩ (.int .i64 y) (fun e => absurd (HNE.out _ e).2 (Nat.lt_irrefl _))
    have cu8 := cu7.cellW (p := w1.heap.size) 1 (.int .i64 y) (by omega)
    have gr8 := grown_cell gr7 (p := w1.heap.size) (k := 1) (by omega) (.int .i64 y)
    clear R7 E7 ow7 cu7 gr7
    go_wp2_with (first | (with_reducible refine wp_ex_load rfl _ rfl ?_; refine ⟨_, rfl, _, _, E8, ?_⟩) | (with_reducible refine wp_ex_store rfl _ _ rfl ?_; refine ⟨_, rfl, _, _, _, _, rfl, _, _, R8, ?_⟩))
    exact bodyPost_ret (res_ex rfl _ _ _ _ _ rfl (R8.setRow _)) rfl ⟨_, ⟨d.bins, y⟩, rfl, ⟨_, rfl, own_base (own_setRow ow8 _ _ (by omega)) (by omega)⟩, (show d.bins.length ≤ 7 by omega), cu8.rowW _ (by omega), grown_row gr8 (by omega) _⟩
  have b0 : ((t : Int) == 0) = false := by rw [beq_eq_false_iff_ne]; omega
  by_cases t1 : t = 1
  · subst t1
    have q0 : w6.cell? ⟨w1.heap.size, 0, none⟩ = some (.slice ov d.bins.length cv) := E6.cell 0
    go_wp2_with (at_builtin; refine wpList_append_own _ rfl _ _ 28 rfl (w.heap.size + 2) 3 i0 (.int .i64 0) 1 8 Try.underlying28 hi hi0 hi1 hi2 rfl (by decide) _ _ _ rfl (ow6.alloc _) ⟨w6.heap.size, 0, none⟩ 1 1 [_] rfl rfl (newc _ _ _) ?d2 ?d3 ?d4 ?d5 ?_)
    case d2 => intro u hu; simp at hu; subst hu; rfl
    case d3 => unfold maxLen; omega
    case d4 => omega
    case d5 => simp; omega
    intro v' w5 hown' hgrow _
    have HNN : Hid (∀ j, v'.ownBlock = some j → j ≠ w1.heap.size) := fun j hj e => by
      have K := (E6.alloc (.cells #[.int .i64 0] 3)).kept hgrow (fun e => by have := (HNE.out _ e).2; omega)
      exact own_notBlk7 hown' K (by decide) (by rw [hj, e])
    obtain ⟨ov', cv', rfl⟩ := own_slice hown'
    have G2 := (R6.alloc (.cells #[.int .i64 0] 3)).kept hgrow (fun e => by have := (HNE.out _ e).1; omega)
    have G3 := (E6.alloc (.cells #[.int .i64 0] 3)).kept hgrow (fun e => by have := (HNE.out _ e).2; omega)
    have cu5 := (cu6.alloc (.cells #[.int .i64 0] 3)).kept hgrow (fun e => by have := (HNE.out _ e).1; omega)
    have gr5 := grown_own (grown_trans gr6 (grown_alloc w6 (.cells #[.int .i64 0] 3) _)) hgrow (fun j e => by have := (HNE.out _ e).1; omega)
    have R : w5.ownsRow (w.heap.size + 2) 3 1 (.slice ov' (d.bins.length + 1) cv') (d.bins ++ [0]).length ((d.bins ++ [0]).map (Value.int .i64)) := by simpa using hown'
    have f5 := G3.frozen 0
    have q5 : w5.cell? ⟨w1.heap.size, 0, none⟩ = some (.slice ov d.bins.length cv) := G3.cell 0
    have R8 := G2.setCell_other ⟨w1.heap.size, 0, none⟩ (.slice ov' (d.bins.length + 1) cv') (by simp; omega)
    have E8 := G3.setCell 0 (.slice ov' (d.bins.length + 1) cv')
    have ow8 := own_setNe7 R ⟨w1.heap.size, 0, none⟩ (.slice ov' (d.bins.length + 1) cv') (fun e => HNN.out _ e rfl)
    have cu8 := cu5.cellW (p := w1.heap.size) 0 (.slice ov' (d.bins.length + 1) cv') (by omega)
    have gr8 := grown_cell gr5 (p := w1.heap.size) (k := 0) (by omega) (.slice ov' (d.bins.length + 1) cv')
    clear hown' hgrow ow6 E6 R6 cu6 gr6 G2 G3 cu5 gr5 R q0
    go_wp2_with (first | (with_reducible refine wp_ex_load rfl _ rfl ?_; refine ⟨_, rfl, _, _, E8, ?_⟩) | (with_reducible refine wp_ex_store rfl _ _ rfl ?_; refine ⟨_, rfl, _, _, _, _, rfl, _, _, R8, ?_⟩))
    exact bodyPost_ret (res_ex rfl _ _ _ _ _ rfl (R8.setRow _)) rfl ⟨_, ⟨d.bins ++ [0], d.cls⟩, rfl, ⟨_, rfl, own_base (own_setRow ow8 _ _ (by omega)) (by omega)⟩, (show (d.bins ++ [0]).length ≤ 7 by simp; omega), cu8.rowW _ (by omega), grown_row gr8 (by omega) _⟩
  have b1 : ((t : Int) == 1) = false := by rw [beq_eq_false_iff_ne]; omega
  by_cases t2 : t = 2
  · subst t2
    have q0 : w6.cell? ⟨w1.heap.size, 0, none⟩ = some (.slice ov d.bins.length cv) := E6.cell 0
    by_cases hb0 : 0 < d.bins.length
    rotate_left
    · have hbz : ¬ (0 : Int) < (d.bins.length : Int) := by omega
      go_wp2_with (first | (with_reducible refine wp_ex_load rfl _ rfl ?_; refine ⟨_, rfl, _, _, E6, ?_⟩) | (with_reducible refine wp_ex_store rfl _ _ rfl ?_; refine ⟨_, rfl, _, _, _, _, rfl, _, _, R6, ?_⟩))
      exact bodyPost_ret (res_ex rfl _ _ _ _ _ rfl (R6.setRow _)) rfl ⟨_, ⟨d.bins, d.cls⟩, rfl, ⟨_, rfl, own_base (own_setRow ow6 _ _ (by omega)) (by omega)⟩, (show d.bins.length ≤ 7 by omega), cu6.rowW _ (by omega), grown_row gr6 (by omega) _⟩
    have hbz : (0 : Int) < (d.bins.length : Int) := by omega
    obtain ⟨go, rfl⟩ : ∃ go, ov = some ⟨go, 0, none⟩ := by
      rcases ow6.2 with ⟨h1, h2⟩ | ⟨g', cap', cur', hv', _⟩
      · omega
      · injection hv' with e1 e2 e3; exact ⟨g', e1⟩
    have E6d : Blk 33 w6.drew w1.heap.size #[.slice (some ⟨go, 0, none⟩) d.bins.length cv, .int .i64 d.cls] := E6
    have R6d : Blk 33 w6.drew (w.heap.size + 1) #[.slice none 0 0, .int .i64 0] := R6
    have ow6d : w6.drew.ownsRow (w.heap.size + 2) 3 1 (.slice (some ⟨go, 0, none⟩) d.bins.length cv) d.bins.length (d.bins.map (Value.int .i64)) := ow6
    have cu6d : IsCur w6.drew g a len cap := cu6
    have gr6d : w.grownBy w6.drew (some g) := ⟨gr6.os, gr6.tape, gr6.output, gr6.size, gr6.block⟩
    have e1 := pickN [-2, 4, 3, -1] g a len cap zs w6.drew cu6d (HR.out _ gr6d) (by simp) (by simp)
    simp only [List.map_cons, List.map_nil, List.length_cons, List.length_nil, Nat.zero_add, Nat.reduceAdd] at e1
    have d0 : w6.drew.cell? ⟨w1.heap.size, 0, none⟩ = some (.slice (some ⟨go, 0, none⟩) d.bins.length cv) := E6d.cell 0
    have d0a : (w6.drew.alloc (.cells #[.int .i64 (-2), .int .i64 4, .int .i64 3, .int .i64 (-1)] 3)).cell? ⟨w1.heap.size, 0, none⟩ = some (.slice (some ⟨go, 0, none⟩) d.bins.length cv) := (E6d.alloc _).cell 0
    have hgo := HNE.out go rfl
    have e2 : Calls Try.prog 46 #[.pointer (some ⟨g, 0, none⟩), .slice (some ⟨w6.heap.size, 0, none⟩) 4 4] (w6.alloc (.cells #[.int .i64 (-2), .int .i64 4, .int .i64 3, .int .i64 (-1)] 3)).drew fun e w' => ∃ x : Int, e = .returned (.int .i64 x) ∧ x ∈ [-2, 4, 3, -1] ∧ IsCur w' g a len cap ∧ w6.drew.grownBy w' (some g) := e1
    clear e1
    go_wp2
    go_region_law (first
      | (refine step_wp rfl ?_; unfold Oper.wp; go_simp; go_at_call 46; refine e2.mono ?_; clear e2; rintro e w7 ⟨y, rfl, -, cu7, h7⟩; have E7 := E6d.kept h7 (by intro e; injection e; omega); have ow7 := own_curW ow6d (by omega) h7; have d7 : w7.cell? ⟨w1.heap.size, 0, none⟩ = some (.slice (some ⟨go, 0, none⟩) d.bins.length cv) := E7.cell 0; obtain ⟨old, hold⟩ : ∃ old, w7.cell? ⟨go, 0, none⟩ = some old := ⟨_, (ow7.cellAt 0 (by omega)).trans (List.getElem?_eq_getElem (by simp; omega))⟩; have f7 : w7.frozen? ⟨go, 0, none⟩ = false := ow7.frozenAt 0))
    all_goals
      have gr7 := grown_trans gr6d h7
      have R7 := R6d.kept h7 (by intro e; injection e; omega)
      have ow8 := (ow7.stored 0 (.int .i64 y)).1
      have R8 := R7.setCell_other ⟨go, 0, none⟩ (.int .i64 y) (by simp; omega)
      have E8 := E7.setCell_other ⟨go, 0, none⟩ (.int .i64 y) (by simp; omega)
      have cu8 := cu7.cellW (p := go) 0 (.int .i64 y) (by omega)
      have gr8 := grown_cell gr7 (p := go) (k := 0) (by omega) (.int .i64 y)
      have ow9 : (w7.setCell ⟨go, 0, none⟩ (.int .i64 y)).ownsRow (w.heap.size + 2) 3 1 (.slice (some ⟨go, 0, none⟩) d.bins.length cv) (d.bins.set 0 y).length ((d.bins.set 0 y).map (Value.int .i64)) := by rw [List.length_set, List.map_set]; exact ow8
      clear ow8 R7 E7 ow7 cu7 gr7 h7 q0 d0 d0a d7 hold f7 E6 R6 ow6 cu6 gr6 E6d R6d ow6d cu6d gr6d
      go_wp2_with (first | (with_reducible refine wp_ex_load rfl _ rfl ?_; refine ⟨_, rfl, _, _, E8, ?_⟩) | (with_reducible refine wp_ex_store rfl _ _ rfl ?_; refine ⟨_, rfl, _, _, _, _, rfl, _, _, R8, ?_⟩))
      exact bodyPost_ret (res_ex rfl _ _ _ _ _ rfl (R8.setRow _)) rfl ⟨_, ⟨d.bins.set 0 y, d.cls⟩, rfl, ⟨_, rfl, own_base (own_setRow ow9 _ _ (by omega)) (by omega)⟩, (show (d.bins.set 0 y).length ≤ 7 by rw [List.length_set]; omega), cu8.rowW _ (by omega), grown_row gr8 (by omega) _⟩
  have b2 : ((t : Int) == 2) = false := by rw [beq_eq_false_iff_ne]; omega
  clear t0 t1 t2
  go_wp2_with (first | (with_reducible refine wp_ex_load rfl _ rfl ?_; refine ⟨_, rfl, _, _, E6, ?_⟩) | (with_reducible refine wp_ex_store rfl _ _ rfl ?_; refine ⟨_, rfl, _, _, _, _, rfl, _, _, R6, ?_⟩))
  exact bodyPost_ret (res_ex rfl _ _ _ _ _ rfl (R6.setRow _)) rfl ⟨_, ⟨d.bins, d.cls⟩, rfl, ⟨_, rfl, own_base (own_setRow ow6 _ _ (by omega)) (by omega)⟩, (show d.bins.length ≤ 7 by omega), cu6.rowW _ (by omega), grown_row gr6 (by omega) _⟩
end Go.Proofs.Ytobimpgapfecoaa
/- Beside the draws of several structs. -/
namespace Go.Proofs.Ytobimpgapfecoaa
open Go.RowKit
set_option maxRecDepth 100000
set_option linter.unusedSimpArgs false
theorem OwnS.rowX {w : World} {b k : Nat} {v : Value} {s : SchemaD} (c : Array Value) (h : OwnS b w v s) (hk : k < b) : OwnS b (w.setRow k c) v s := by
  obtain ⟨va, vc, rfl, h1, h2⟩ := h
  exact ⟨va, vc, rfl, h1.setRow k c hk, own_setRow h2 k c hk⟩
theorem OwnS.baseX {w : World} {b b' : Nat} {v : Value} {s : SchemaD} (h : OwnS b w v s) (hb : b' ≤ b) : OwnS b' w v s := by
  obtain ⟨va, vc, rfl, h1, h2⟩ := h
  exact ⟨va, vc, rfl, h1.base hb, own_base h2 hb⟩
theorem OwnE.rowX {w : World} {b k : Nat} {v : Value} {s : ExD} (c : Array Value) (h : OwnE b w v s) (hk : k < b) : OwnE b (w.setRow k c) v s := by
  obtain ⟨vb, rfl, h1⟩ := h
  exact ⟨vb, rfl, own_setRow h1 k c hk⟩
theorem OwnE.baseX {w : World} {b b' : Nat} {v : Value} {s : ExD} (h : OwnE b w v s) (hb : b' ≤ b) : OwnE b' w v s := by
  obtain ⟨vb, rfl, h1⟩ := h
  exact ⟨vb, rfl, own_base h1 hb⟩
theorem tinyS.okX {d : SchemaD} (h : tinyS d) : okSch d :=
  ⟨by have := h.attrs; omega, fun a ha => (h.each a ha).ok7, by have := h.classes; omega, fun s hs => by have := h.sizes s hs; omega⟩
theorem yields_mvX {ops : Array Oper} {S : World → Prop} {op : Oper} {a : Act} (hw : Region.wanted op (yielded ops a.tmps) = true) (x : Operand) (ho : op.op = .move x) (v : Value) (hx : a.eval x = v) : YieldsIf Try.prog ops S op v a :=
  .inl ⟨hw, fun w _ => by unfold execOp; simp only [ho, hx]; go_simp⟩
theorem res_se {fn : Func} {p q : Tmp} (h : fn.results = #[.cell p 27, .cell q 33]) (tmps : Array Value) (w : World) (g k : Nat) (c0 c1 d0 d1 : Value)
    (hp : tmps.getD p undef = .pointer (some ⟨g, 0, none⟩)) (hq : tmps.getD q undef = .pointer (some ⟨k, 0, none⟩)) (hg : Blk 27 w g #[c0, c1]) (hk : Blk 33 w k #[d0, d1]) : (results fn tmps).run Try.prog w = .ok (.tuple #[.agg #[c0, c1], .agg #[d0, d1]]) w := by
  have hp' : tmps[p]?.getD undef = .pointer (some ⟨g, 0, none⟩) := by simpa using hp
  have hq' : tmps[q]?.getD undef = .pointer (some ⟨k, 0, none⟩) := by simpa using hq
  simp [results, h, hp', hq', asAddr, run_loadVar_row w g _ 27 _ _ _ hg Try.underlying27 rfl sch_size, run_loadVar_row w k _ 33 _ _ _ hk Try.underlying33 rfl ex_size]
end Go.Proofs.Ytobimpgapfecoaa
/- Draws of chapter 8: what is added to counts. -/
namespace Go.Proofs.Ytobimpgapfecoaa
open Go.RowKit
set_option maxRecDepth 100000
set_option linter.unusedSimpArgs false
theorem res_ssei {fn : Func} {p q r t : Tmp} (h : fn.results = #[.cell p 27, .cell q 31, .cell r 33, .tmp t]) (tmps : Array Value) (w : World) (g k l : Nat) (c0 c1 d0 d1 e0 e1 v : Value)
    (hp : tmps.getD p undef = .pointer (some ⟨g, 0, none⟩)) (hq : tmps.getD q undef = .pointer (some ⟨k, 0, none⟩)) (hr : tmps.getD r undef = .pointer (some ⟨l, 0, none⟩)) (ht : tmps.getD t undef = v) (hg : Blk 27 w g #[c0, c1]) (hk : Blk 31 w k #[d0, d1]) (hl : Blk 33 w l #[e0, e1]) :
    (results fn tmps).run Try.prog w = .ok (.tuple #[.agg #[c0, c1], .agg #[d0, d1], .agg #[e0, e1], v]) w := by
  have hp' : tmps[p]?.getD undef = .pointer (some ⟨g, 0, none⟩) := by simpa using hp
  have hq' : tmps[q]?.getD undef = .pointer (some ⟨k, 0, none⟩) := by simpa using hq
  have hr' : tmps[r]?.getD undef = .pointer (some ⟨l, 0, none⟩) := by simpa using hr
  have ht' : tmps[t]?.getD undef = v := by simpa using ht
  simp [results, h, hp', hq', hr', ht', asAddr, run_loadVar_row w g _ 27 _ _ _ hg Try.underlying27 rfl sch_size, run_loadVar_row w k _ 31 _ _ _ hk Try.underlying31 rfl st_size, run_loadVar_row w l _ 33 _ _ _ hl Try.underlying33 rfl ex_size]
set_option maxHeartbeats 6400000 in
theorem drawStatsAdd_any (a : Option Addr) (len cap : Nat) (zs : List Int) (w : World) (hr : IsRow .u8 w a len cap zs) (hn : len ≤ 1048576) :
    Calls Try.prog 10 #[.slice a len cap] w fun e w' => ∃ vs d vt x ve y n, e = .returned (.tuple #[vs, vt, ve, .int .i64 n]) ∧ OwnS w.heap.size w' vs d ∧ tinyS d ∧ OwnSt w.heap.size w' vt x ∧ tinySt 20 x ∧ OwnE w.heap.size w' ve y ∧ y.bins.length ≤ 7 ∧ (-1 ≤ n ∧ n ≤ 8) ∧ Below w.heap.size w w' := by
  obtain ⟨RS, RT, RE, B⟩ := blk_3 27 31 33 w #[.slice none 0 0, .slice none 0 0] #[.slice none 0 0, .slice none 0 0] #[.slice none 0 0, .int .i64 0]
  have hr0 := hr.later B
  clear hr
  generalize hW : ((w.alloc (.cells #[.slice none 0 0, .slice none 0 0] 27)).alloc (.cells #[.slice none 0 0, .slice none 0 0] 31)).alloc (.cells #[.slice none 0 0, .int .i64 0] 33) = W0 at RS RT RE B hr0
  have hs0 : W0.heap.size = w.heap.size + 3 := by rw [← hW]; simp
  have e1 := l1New_any a len cap zs W0 hr0 hn
  rw [hs0] at e1
  go_enter Try.func10, Try.ntmps10
  go_wp2_with fail
  refine e1.mono ?_
  clear e1 hW
  rintro e w1 ⟨rfl, cu, hb, hsz⟩
  replace hb : Below W0.heap.size W0 w1 := by rw [hs0]; exact hb
  clear hs0
  replace RS := RS.below hb
  replace RT := RT.below hb
  replace RE := RE.below hb
  replace hr0 := hr0.later hb
  replace B := B.trans (hb.mono B.size)
  clear hb
  have hz : w.heap.size + 4 ≤ w1.heap.size := by omega
  clear hsz
  have cc := draw5_any (w.heap.size + 3) a len cap zs w1 cu hr0
  go_wp2_with fail
  refine cc.mono ?_
  clear cc
  rintro e w2 ⟨v, d, rfl, os, ht, cu2, hgr⟩
  replace RS := RS.kept hgr (by intro e; injection e; omega)
  replace RT := RT.kept hgr (by intro e; injection e; omega)
  replace RE := RE.kept hgr (by intro e; injection e; omega)
  replace B := B.grown hgr B.size (fun k hk => by injection hk; omega)
  replace hr0 := hr0.aside cu hgr
  clear cu
  have cu := cu2
  clear cu2
  have hz2 := hgr.size
  replace os := os.baseX hz
  have HTN : Hid (tinyS d) := ht
  clear hgr ht
  obtain ⟨y1, y2, rfl, rr1, rr2⟩ := id os.at
  obtain ⟨oa, oka, rfl, -, -⟩ := id rr1
  obtain ⟨oc, okc, rfl, -, -⟩ := id rr2
  clear rr1 rr2
  obtain ⟨KS, BX⟩ := blk_1 27 w2 #[.slice oa d.attrs.length oka, .slice oc d.classes.length okc]
  replace RS := RS.below BX
  replace RT := RT.below BX
  replace RE := RE.below BX
  replace hr0 := hr0.later BX
  replace B := B.trans (BX.mono B.size)
  replace cu := cu.kept (grown_of_below BX) (by intro e; cases e)
  replace os := os.below7 BX
  clear BX
  obtain ⟨bs, hbs⟩ : ∃ b, w2.heap.size = b := ⟨_, rfl⟩
  have hbs2 : w.heap.size + 4 ≤ bs := by omega
  clear hz hz2
  rw [hbs] at KS
  generalize hX : (w2.alloc (.cells #[.slice oa d.attrs.length oka, .slice oc d.classes.length okc] 27)) = wx at RS RT RE hr0 B cu os KS
  have cc := draw8_any (w.heap.size + 3) a len cap zs _ d (w.heap.size + 4) wx cu hr0 os (by omega) HTN.out
  have kS0 : wx.cell? ⟨bs, 0, none⟩ = some (.slice oa d.attrs.length oka) := KS.cell 0
  have kS1 : wx.cell? ⟨bs, 1, none⟩ = some (.slice oc d.classes.length okc) := KS.cell 1
  go_wp2_with fail
  refine cc.mono ?_
  clear cc
  clear kS0 kS1
  rintro e w3 ⟨v1, x, rfl, ot, ts, cu2, hgr⟩
  replace RS := RS.kept hgr (by intro e; injection e; omega)
  replace RT := RT.kept hgr (by intro e; injection e; omega)
  replace RE := RE.kept hgr (by intro e; injection e; omega)
  replace B := B.grown hgr B.size (fun k hk => by injection hk; omega)
  replace os := os.curW7 (show w.heap.size + 3 < w.heap.size + 4 by omega) hgr
  replace KS := KS.kept hgr (by intro e; injection e; omega)
  replace hr0 := hr0.aside cu hgr
  clear cu
  have cu := cu2
  clear cu2
  have hw2 : bs < w3.heap.size := KS.lt
  have hwx : w.heap.size + 4 ≤ wx.heap.size := by have h := congrArg (fun W : World => W.heap.size) hX; simp at h; omega
  clear hX hbs
  replace ot := ot.base hwx
  clear hgr
  obtain ⟨q1, qk1, q2, qk2, rfl⟩ := ot.form
  obtain ⟨KT, BX⟩ := blk_1 31 w3 #[.slice q1 x.totals.length qk1, .slice q2 x.cells.length qk2]
  replace RS := RS.below BX
  replace RT := RT.below BX
  replace RE := RE.below BX
  replace hr0 := hr0.later BX
  replace B := B.trans (BX.mono B.size)
  replace cu := cu.kept (grown_of_below BX) (by intro e; cases e)
  replace os := os.below7 BX
  replace KS := KS.below BX
  replace ot := ot.below BX
  clear BX
  obtain ⟨bt, hbt⟩ : ∃ b, w3.heap.size = b := ⟨_, rfl⟩
  have hbt2 : bs < bt := by rw [← hbt]; exact hw2
  clear hw2
  rw [hbt] at KT
  generalize hX : (w3.alloc (.cells #[.slice q1 x.totals.length qk1, .slice q2 x.cells.length qk2] 31)) = wy at RS RT RE hr0 B cu os KS ot KT
  have cc := draw7_any (w.heap.size + 3) a len cap zs _ d (w.heap.size + 4) wy cu hr0 os (by omega) HTN.out
  have kS0 : wy.cell? ⟨bs, 0, none⟩ = some (.slice oa d.attrs.length oka) := KS.cell 0
  have kS1 : wy.cell? ⟨bs, 1, none⟩ = some (.slice oc d.classes.length okc) := KS.cell 1
  have kT0 : wy.cell? ⟨bt, 0, none⟩ = some (.slice q1 x.totals.length qk1) := KT.cell 0
  have kT1 : wy.cell? ⟨bt, 1, none⟩ = some (.slice q2 x.cells.length qk2) := KT.cell 1
  go_wp2_with fail
  refine cc.mono ?_
  clear cc
  clear kS0 kS1 kT0 kT1
  rintro e w4 ⟨v2, y, rfl, ⟨vb, rfl, oe⟩, hyl, cu2, hgr⟩
  replace RS := RS.kept hgr (by intro e; injection e; omega)
  replace RT := RT.kept hgr (by intro e; injection e; omega)
  replace RE := RE.kept hgr (by intro e; injection e; omega)
  replace B := B.grown hgr B.size (fun k hk => by injection hk; omega)
  replace os := os.curW7 (show w.heap.size + 3 < w.heap.size + 4 by omega) hgr
  replace KS := KS.kept hgr (by intro e; injection e; omega)
  replace ot := ot.curW (show w.heap.size + 3 < w.heap.size + 4 by omega) hgr
  replace KT := KT.kept hgr (by intro e; injection e; omega)
  replace hr0 := hr0.aside cu hgr
  clear cu
  have cu := cu2
  clear cu2
  have hw3 : bt < w4.heap.size := KT.lt
  have hwy : w.heap.size + 4 ≤ wy.heap.size := by have h := congrArg (fun W : World => W.heap.size) hX; simp at h; omega
  clear hX hbt
  obtain ⟨ob, kb, rfl⟩ := own_slice oe
  replace oe := own_base oe hwy
  clear hgr
  obtain ⟨KE, BX⟩ := blk_1 33 w4 #[.slice ob y.bins.length kb, .int .i64 y.cls]
  replace RS := RS.below BX
  replace RT := RT.below BX
  replace RE := RE.below BX
  replace hr0 := hr0.later BX
  replace B := B.trans (BX.mono B.size)
  replace cu := cu.kept (grown_of_below BX) (by intro e; cases e)
  replace os := os.below7 BX
  replace KS := KS.below BX
  replace ot := ot.below BX
  replace KT := KT.below BX
  replace oe := own_below oe BX
  clear BX
  obtain ⟨be, hbe⟩ : ∃ b, w4.heap.size = b := ⟨_, rfl⟩
  have hbe2 : bt < be := by rw [← hbe]; exact hw3
  clear hw3
  rw [hbe] at KE
  generalize hX : (w4.alloc (.cells #[.slice ob y.bins.length kb, .int .i64 y.cls] 33)) = wz at RS RT RE hr0 B cu os KS ot KT oe KE
  have kS0 : wz.cell? ⟨bs, 0, none⟩ = some (.slice oa d.attrs.length oka) := KS.cell 0
  have kS1 : wz.cell? ⟨bs, 1, none⟩ = some (.slice oc d.classes.length okc) := KS.cell 1
  have kT0 : wz.cell? ⟨bt, 0, none⟩ = some (.slice q1 x.totals.length qk1) := KT.cell 0
  have kT1 : wz.cell? ⟨bt, 1, none⟩ = some (.slice q2 x.cells.length qk2) := KT.cell 1
  have kE0 : wz.cell? ⟨be, 0, none⟩ = some (.slice ob y.bins.length kb) := KE.cell 0
  have kE1 : wz.cell? ⟨be, 1, none⟩ = some (.int .i64 y.cls) := KE.cell 1
  go_wp2_with fail
  clear hX hbe
  clear kS0 kS1 kT0 kT1 kE0 kE1
  refine wp_region_held_drew (S := fun w' => Blk 27 w' bs #[.slice oa d.attrs.length oka, .slice oc d.classes.length okc] ∧ Blk 31 w' bt #[.slice q1 x.totals.length qk1, .slice q2 x.cells.length qk2] ∧ Blk 33 w' be #[.slice ob y.bins.length kb, .int .i64 y.cls]) (by kernel_rfl) ⟨KS, KT, KE⟩ ?_
  intro hS
  have bd : Below wz.heap.size wz wz.drew := below_drewN (Below.refl _ _) 1
  replace RS := RS.below bd
  replace RT := RT.below bd
  replace RE := RE.below bd
  replace hr0 := hr0.later bd
  replace B := B.trans (bd.mono B.size)
  replace cu := cu.kept (grown_of_below bd) (by intro e; cases e)
  replace os := os.below7 bd
  replace KS := KS.below bd
  replace ot := ot.below bd
  replace KT := KT.below bd
  replace oe := own_below oe bd
  replace KE := KE.below bd
  clear bd
  generalize wz.drew = w5 at RS RT RE hr0 B cu os KS ot KT oe KE hS ⊢
  refine takeL 0 (.agg #[.slice oa d.attrs.length oka, .slice oc d.classes.length okc]) rfl (by kernel_rfl) (by kernel_rfl) (by kernel_rfl) (fun _ _ _ h => h) (yields_row Try.underlying27 (by kernel_rfl) (by rfl) _ rfl _ rfl (fun _ h => h.1)) hS ?_
  try simp only [Act.put, List.setIfInBounds_toArray, List.set_cons_zero, List.set_cons_succ]
  refine takeL 1 (.agg #[.slice q1 x.totals.length qk1, .slice q2 x.cells.length qk2]) rfl (by kernel_rfl) (by kernel_rfl) (by kernel_rfl) (fun _ _ _ h => h) (yields_row Try.underlying31 (by kernel_rfl) (by rfl) _ rfl _ rfl (fun _ h => h.2.1)) hS ?_
  try simp only [Act.put, List.setIfInBounds_toArray, List.set_cons_zero, List.set_cons_succ]
  refine takeL 2 (.agg #[.slice ob y.bins.length kb, .int .i64 y.cls]) rfl (by kernel_rfl) (by kernel_rfl) (by kernel_rfl) (fun _ _ _ h => h) (yields_row Try.underlying33 (by kernel_rfl) (by rfl) _ rfl _ rfl (fun _ h => h.2.2)) hS ?_
  try simp only [Act.put, List.setIfInBounds_toArray, List.set_cons_zero, List.set_cons_succ]
  refine takeL 3 (.pointer (some ⟨w.heap.size + 3, 0, none⟩)) rfl (by kernel_rfl) (by kernel_rfl) (by kernel_rfl) (fun _ _ _ h => h) (.inl ⟨by rfl, fun w _ => by rfl⟩) hS ?_
  try simp only [Act.put, List.setIfInBounds_toArray, List.set_cons_zero, List.set_cons_succ]
  have e1 := pickN [1, 1, 2, 7, 8, 0, -1] (w.heap.size + 3) a len cap zs w5 cu hr0 (by simp) (by simp)
  simp only [List.map_cons, List.map_nil, List.length_cons, List.length_nil, Nat.zero_add, Nat.reduceAdd] at e1
  have bn : Below w5.heap.size w5 (w5.alloc (.cells #[.int .i64 1, .int .i64 1, .int .i64 2, .int .i64 7, .int .i64 8, .int .i64 0, .int .i64 (-1)] 3)) := (Below.refl _ _).alloc (Nat.le_refl _) _
  refine nextL 4 rfl (by kernel_rfl) (by rfl) fun K hK => ?_
  go_simp
  refine hK _ _ ⟨KS.below bn, KT.below bn, KE.below bn⟩ ?_
  clear hK K hS bn
  intro hS
  refine nextL 5 rfl (by kernel_rfl) (by rfl) fun K hK => ?_
  go_simp
  refine e1.mono ?_
  clear e1
  rintro e w6 ⟨n, rfl, hn, cu2, hgr⟩
  replace RS := RS.kept hgr (by intro e; injection e; omega)
  replace RT := RT.kept hgr (by intro e; injection e; omega)
  replace RE := RE.kept hgr (by intro e; injection e; omega)
  replace B := B.grown hgr B.size (fun k hk => by injection hk; omega)
  replace os := os.curW7 (show w.heap.size + 3 < w.heap.size + 4 by omega) hgr
  replace KS := KS.kept hgr (by intro e; injection e; omega)
  replace ot := ot.curW (show w.heap.size + 3 < w.heap.size + 4 by omega) hgr
  replace KT := KT.kept hgr (by intro e; injection e; omega)
  replace oe := own_curW oe (show w.heap.size + 3 < w.heap.size + 4 by omega) hgr
  replace KE := KE.kept hgr (by intro e; injection e; omega)
  replace hr0 := hr0.aside cu hgr
  clear cu
  have cu := cu2
  clear cu2
  refine hK _ _ ⟨KS, KT, KE⟩ ?_
  clear hK K hS hgr cu hr0
  intro hS
  replace hn : -1 ≤ n ∧ n ≤ 8 := by simp only [List.mem_cons, List.not_mem_nil, or_false] at hn; omega
  refine nextL 6 rfl (by kernel_rfl) (by rfl) fun K hK => ?_
  refine wp_store_row 27 _ _ rfl (w.heap.size) #[.slice oa d.attrs.length oka, .slice oc d.classes.length okc] rfl rfl _ _ RS sch_size rfl (by simp [Value.oneCell']) ?_
  replace KS := Blk.setRow_other KS #[.slice oa d.attrs.length oka, .slice oc d.classes.length okc] (show bs ≠ w.heap.size by omega)
  replace KT := Blk.setRow_other KT #[.slice oa d.attrs.length oka, .slice oc d.classes.length okc] (show bt ≠ w.heap.size by omega)
  replace KE := Blk.setRow_other KE #[.slice oa d.attrs.length oka, .slice oc d.classes.length okc] (show be ≠ w.heap.size by omega)
  replace RS := RS.setRow #[.slice oa d.attrs.length oka, .slice oc d.classes.length okc]
  replace RT := Blk.setRow_other RT #[.slice oa d.attrs.length oka, .slice oc d.classes.length okc] (show w.heap.size + 1 ≠ w.heap.size by omega)
  replace RE := Blk.setRow_other RE #[.slice oa d.attrs.length oka, .slice oc d.classes.length okc] (show w.heap.size + 1 + 1 ≠ w.heap.size by omega)
  replace os := os.rowX #[.slice oa d.attrs.length oka, .slice oc d.classes.length okc] (show w.heap.size < w.heap.size + 4 by omega)
  replace ot := ot.rowX8 #[.slice oa d.attrs.length oka, .slice oc d.classes.length okc] (show w.heap.size < w.heap.size + 4 by omega)
  replace oe := own_setRow oe (w.heap.size) #[.slice oa d.attrs.length oka, .slice oc d.classes.length okc] (by omega)
  replace B := below_row B (show w.heap.size ≤ w.heap.size by omega) #[.slice oa d.attrs.length oka, .slice oc d.classes.length okc]
  refine hK _ _ ⟨KS, KT, KE⟩ ?_
  clear hK K hS
  intro hS
  generalize w6.setRow (w.heap.size) #[.slice oa d.attrs.length oka, .slice oc d.classes.length okc] = w7 at * 
  refine nextL 7 rfl (by kernel_rfl) (by rfl) fun K hK => ?_
  refine wp_store_row 31 _ _ rfl (w.heap.size + 1) #[.slice q1 x.totals.length qk1, .slice q2 x.cells.length qk2] rfl rfl _ _ RT st_size rfl (by simp [Value.oneCell']) ?_
  replace KS := Blk.setRow_other KS #[.slice q1 x.totals.length qk1, .slice q2 x.cells.length qk2] (show bs ≠ w.heap.size + 1 by omega)
  replace KT := Blk.setRow_other KT #[.slice q1 x.totals.length qk1, .slice q2 x.cells.length qk2] (show bt ≠ w.heap.size + 1 by omega)
  replace KE := Blk.setRow_other KE #[.slice q1 x.totals.length qk1, .slice q2 x.cells.length qk2] (show be ≠ w.heap.size + 1 by omega)
  replace RS := Blk.setRow_other RS #[.slice q1 x.totals.length qk1, .slice q2 x.cells.length qk2] (show w.heap.size ≠ w.heap.size + 1 by omega)
  replace RT := RT.setRow #[.slice q1 x.totals.length qk1, .slice q2 x.cells.length qk2]
  replace RE := Blk.setRow_other RE #[.slice q1 x.totals.length qk1, .slice q2 x.cells.length qk2] (show w.heap.size + 1 + 1 ≠ w.heap.size + 1 by omega)
  replace os := os.rowX #[.slice q1 x.totals.length qk1, .slice q2 x.cells.length qk2] (show w.heap.size + 1 < w.heap.size + 4 by omega)
  replace ot := ot.rowX8 #[.slice q1 x.totals.length qk1, .slice q2 x.cells.length qk2] (show w.heap.size + 1 < w.heap.size + 4 by omega)
  replace oe := own_setRow oe (w.heap.size + 1) #[.slice q1 x.totals.length qk1, .slice q2 x.cells.length qk2] (by omega)
  replace B := below_row B (show w.heap.size ≤ w.heap.size + 1 by omega) #[.slice q1 x.totals.length qk1, .slice q2 x.cells.length qk2]
  refine hK _ _ ⟨KS, KT, KE⟩ ?_
  clear hK K hS
  intro hS
  generalize w7.setRow (w.heap.size + 1) #[.slice q1 x.totals.length qk1, .slice q2 x.cells.length qk2] = w8 at * 
  refine nextL 8 rfl (by kernel_rfl) (by rfl) fun K hK => ?_
  refine wp_store_row 33 _ _ rfl (w.heap.size + 1 + 1) #[.slice ob y.bins.length kb, .int .i64 y.cls] rfl rfl _ _ RE ex_size rfl (by simp [Value.oneCell']) ?_
  replace KS := Blk.setRow_other KS #[.slice ob y.bins.length kb, .int .i64 y.cls] (show bs ≠ w.heap.size + 1 + 1 by omega)
  replace KT := Blk.setRow_other KT #[.slice ob y.bins.length kb, .int .i64 y.cls] (show bt ≠ w.heap.size + 1 + 1 by omega)
  replace KE := Blk.setRow_other KE #[.slice ob y.bins.length kb, .int .i64 y.cls] (show be ≠ w.heap.size + 1 + 1 by omega)
  replace RS := Blk.setRow_other RS #[.slice ob y.bins.length kb, .int .i64 y.cls] (show w.heap.size ≠ w.heap.size + 1 + 1 by omega)
  replace RT := Blk.setRow_other RT #[.slice ob y.bins.length kb, .int .i64 y.cls] (show w.heap.size + 1 ≠ w.heap.size + 1 + 1 by omega)
  replace RE := RE.setRow #[.slice ob y.bins.length kb, .int .i64 y.cls]
  replace os := os.rowX #[.slice ob y.bins.length kb, .int .i64 y.cls] (show w.heap.size + 1 + 1 < w.heap.size + 4 by omega)
  replace ot := ot.rowX8 #[.slice ob y.bins.length kb, .int .i64 y.cls] (show w.heap.size + 1 + 1 < w.heap.size + 4 by omega)
  replace oe := own_setRow oe (w.heap.size + 1 + 1) #[.slice ob y.bins.length kb, .int .i64 y.cls] (by omega)
  replace B := below_row B (show w.heap.size ≤ w.heap.size + 1 + 1 by omega) #[.slice ob y.bins.length kb, .int .i64 y.cls]
  refine hK _ _ ⟨KS, KT, KE⟩ ?_
  clear hK K hS
  intro hS
  generalize w8.setRow (w.heap.size + 1 + 1) #[.slice ob y.bins.length kb, .int .i64 y.cls] = w9 at * 
  refine takeL 9 (.int .i64 n) rfl (by kernel_rfl) (by kernel_rfl) (by kernel_rfl) (fun _ _ _ h => h) (.inl ⟨by rfl, fun w _ => by rfl⟩) hS ?_
  try simp only [Act.put, List.setIfInBounds_toArray, List.set_cons_zero, List.set_cons_succ]
  refine wpAnyH_done (by kernel_rfl) ?_ _
  go_wp2
  exact bodyPost_ret (res_ssei rfl _ _ _ _ _ _ _ _ _ _ _ _ rfl rfl rfl rfl RS RT RE) rfl ⟨_, d, _, x, _, y, n, rfl, os.baseX (by omega), HTN.out, ot.base (by omega), ts, ⟨_, rfl, own_base oe (by omega)⟩, hyl, hn, B⟩
end Go.Proofs.Ytobimpgapfecoaa
