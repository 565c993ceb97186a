/- Texts of this claim, put together: part 23. -/
import Derived.Maps.AppendAt
import Derived.Test.YtobimpgapfecoaaFnOneBranchPack22
import Derived.Test.YtobimpgapfecoaaFnOneBranchPack19
import Derived.Test.YtobimpgapfecoaaFnOneBranchPack6
import Derived.Test.YtobimpgapfecoaaFnOneBranchPack9
import Derived.Test.YtobimpgapfecoaaRows
import Derived.WalkKit
import Derived.ProofKit
import Derived.OpenShut
/- Draws of chapter 8: counts, right or not. -/
namespace Go.Proofs.Ytobimpgapfecoaa
open Go.RowKit
set_option maxRecDepth 100000
set_option linter.unusedSimpArgs false
theorem tiny_set {n k : Nat} {d : StatsD} (y : Int) (h : tinySt n d) : tinySt n ⟨d.totals.set k y, d.cells⟩ := ⟨by simpa using h.totals, h.cells, h.each⟩
theorem tiny_snoc {n : Nat} {d : StatsD} (y : Int) (h : tinySt n d) : tinySt (n + 1) ⟨d.totals ++ [y], d.cells⟩ := ⟨by have := h.totals; simp; omega, by have := h.cells; show d.cells.length ≤ _; omega, fun c hc => by have := h.each c hc; omega⟩
theorem tiny_cell {n m : Nat} {d : StatsD} {c : List Int} (h : tinySt n d) (hc : c.length ≤ m) (hn : n ≤ m) : tinySt m ⟨d.totals, d.cells.set 0 c⟩ :=
  ⟨by have := h.totals; show d.totals.length ≤ _; omega, by have := h.cells; simp; omega, fun x hx => by
    rcases List.mem_or_eq_of_mem_set hx with hx | rfl
    · have := h.each x hx; omega
    · exact hc⟩
section
variable {w : World}
/-- 'append' as an operation of a region that draws; the block of the answer is told. -/
theorem wp_append_at8 {o : Oper} {a : Act} {K : Act → World → Prop} {Q : Exit → Act → World → Prop} (s x : Operand) (t : TypeId)
    (ho : o.op = .call { callee := .builtin .append, args := #[s, x], argTypes := #[t, t] })
    (base : Nat) (e : TypeId) (i : TypeInfo) (z : Value) (size bytes : Nat) (ht : Try.prog.underlying t = some (.slice e)) (hi : Try.prog.info? e = some i) (hz : i.zero = some z)
    (hsize : i.size = size) (hby : i.bytes = bytes) (hzs : z.cells.size = size) (hsz : 0 < size)
    (v : Value) (n : Nat) (xs : List Value) (hs : a.eval s = v) (hown : w.ownsRow base e size v n xs)
    (ad : Addr) (m c : Nat) (news : List Value) (hx : a.eval x = .slice (some ad) m c) (hl : news.length = m * size) (hnews : ∀ j u, news[j]? = some u → w.cell? (ad.add j) = some u) (h1 : ∀ u ∈ news, u.oneCell' = true)
    (h63 : n + m ≤ maxLen) (hbytes : (n + m) * bytes ≤ 140737488355328) (hbase : base ≤ w.heap.size)
    (h : ∀ v' w', w'.ownsRow base e size v' (n + m) (xs ++ news) → w.grownBy w' v.ownBlock → (v'.ownBlock = v.ownBlock ∨ v'.ownBlock = some w.heap.size) → K (a.put o.dst v') w') :
    o.wp Try.prog a w K Q := by
  obtain ⟨v', w', hr, h2, h3, h4, h5⟩ := run_append_own_at (P := Try.prog) w base t o.type e i z size bytes ht hi hz hsize hby hzs hsz v n xs hown ad m c news hl hnews h1 h63 hbytes hbase
  unfold Oper.wp execOp
  simp only [ho, resolve, invoke, builtin, Sem.run_bind, Sem.run_pure, Result.andThen_ok, List.map_toArray, List.map_cons, List.map_nil, hs, hx, hr]
  exact h v' w' h2 h3 h5
end
set_option maxHeartbeats 6400000 in
theorem draw8_any (g : Nat) (a : Option Addr) (len cap : Nat) (zs : List Int) (vs : Value) (s : SchemaD) (b : Nat) (w : World) (hc : IsCur w g a len cap) (hr : IsRow .u8 w a len cap zs) (hs : OwnS b w vs s) (hgb : g < b) (ht : tinyS s) :
    Calls Try.prog 44 #[.pointer (some ⟨g, 0, none⟩), vs] w fun e w' => ∃ v d, e = .returned v ∧ OwnSt w.heap.size w' v d ∧ tinySt 20 d ∧ IsCur w' g a len cap ∧ w.grownBy w' (some g) := by
  have hgw : g < w.heap.size := hc.lt
  obtain ⟨i0, hi, hi0, hi1, hi2⟩ := info_parts intInfo
  have HR : Hid (∀ w', w.grownBy w' (some g) → IsRow .u8 w' a len cap zs) := fun w' h => hr.aside hc h
  have HTN : Hid (tinyS s) := ht
  obtain ⟨va, vc, rfl, ra, rc⟩ := id hs.at
  obtain ⟨oa, ka, rfl, -, -⟩ := id ra
  obtain ⟨oc, kc, rfl, -, -⟩ := id rc
  clear ra rc ht
  obtain ⟨K1, R, B0⟩ := blk_2 27 31 w #[.slice oa s.attrs.length ka, .slice oc s.classes.length kc] #[.slice none 0 0, .slice none 0 0]
  have gr := grown_of_below B0 (some g)
  have cu := (hc.alloc (.cells #[.slice oa s.attrs.length ka, .slice oc s.classes.length kc] 27)).alloc (.cells #[.slice none 0 0, .slice none 0 0] 31)
  have os := hs.below7 B0
  clear hc hr hs B0
  generalize hW : ((w.alloc (.cells #[.slice oa s.attrs.length ka, .slice oc s.classes.length kc] 27)).alloc (.cells #[.slice none 0 0, .slice none 0 0] 31)) = w0 at K1 R gr cu os
  have hs0 : w.heap.size + 2 = w0.heap.size := by rw [← hW]; simp
  have e1 := right8_any g a len cap zs _ s b w0 cu (HR.out _ gr) os hgb HTN.out
  have j0 : w0.cell? ⟨w.heap.size, 0, none⟩ = some (.slice oa s.attrs.length ka) := K1.cell 0
  have j1 : w0.cell? ⟨w.heap.size, 1, none⟩ = some (.slice oc s.classes.length kc) := K1.cell 1
  clear cu os K1
  go_enter Try.func44, Try.ntmps44
  go_wp2_with fail
  refine e1.mono ?_
  clear e1 j0 j1 hW
  rintro e w1 ⟨v1, d, rfl, o, ts, cu, h1⟩
  obtain ⟨o1, k1, o2, k2, rfl⟩ := o.form
  replace o := o.base (show w.heap.size + 2 ≤ w0.heap.size by omega)
  replace R := R.kept h1 (by intro e; injection e; omega)
  replace gr := grown_trans gr h1
  have hs1 := h1.size
  clear h1
  obtain ⟨T, BX⟩ := blk_1 31 w1 #[.slice o1 d.totals.length k1, .slice o2 d.cells.length k2]
  replace R := R.below BX
  replace o := o.below BX
  replace cu := cu.kept (grown_of_below BX) (by intro e; cases e)
  replace gr := grown_trans gr (grown_of_below BX _)
  clear BX
  generalize hX : w1.alloc (.cells #[.slice o1 d.totals.length k1, .slice o2 d.cells.length k2] 31) = wx at T R o cu gr
  have e1 := l1Below_any g a len cap zs 14 wx cu (HR.out _ gr) (by decide) (by decide)
  go_wp2_with fail
  refine e1.mono ?_
  clear e1 hX cu
  rintro e w2 ⟨t, rfl, ht14, cu, h2⟩
  replace R := R.kept h2 (by intro e; injection e; omega)
  replace T := T.kept h2 (by intro e; injection e; omega)
  replace o := o.curW (by omega) h2
  replace gr := grown_trans gr h2
  clear h2
  have htb : w.heap.size + 2 ≤ w1.heap.size := by omega
  obtain ⟨tb, htb'⟩ : ∃ tb, w1.heap.size = tb := ⟨_, rfl⟩
  rw [htb'] at T htb ⊢
  clear htb' hs1 hs0
  have lt := ts.totals
  have lc := ts.cells
  have q0 : w2.cell? ⟨tb, 0, none⟩ = some (.slice o1 d.totals.length k1) := T.cell 0
  have q1 : w2.cell? ⟨tb, 1, none⟩ = some (.slice o2 d.cells.length k2) := T.cell 1
  by_cases t0 : t = 0
  · subst t0
    by_cases hl : 0 < d.totals.length
    rotate_left
    · have hlz : ¬ (0 : Int) < (d.totals.length : Int) := by omega
      replace ts := ts.up (show 16 ≤ 20 by omega)
      go_wp2_with (first | (with_reducible refine wp_st_load rfl _ rfl ?_; refine ⟨_, rfl, _, _, T, ?_⟩) | (with_reducible refine wp_st_store rfl _ _ rfl ?_; refine ⟨_, rfl, _, _, _, _, _, _, rfl, _, _, R, ?_⟩))
      exact bodyPost_ret (res_st rfl _ _ _ _ _ rfl (R.setRow _)) rfl ⟨_, _, rfl, (o.base (by omega)).rowB R (by decide) (by decide) _, ts, cu.rowW _ (by omega), grown_row gr (by omega) _⟩
    have hlz : (0 : Int) < (d.totals.length : Int) := by omega
    obtain ⟨go, rfl⟩ : ∃ go, o1 = some ⟨go, 0, none⟩ := by
      obtain ⟨vt, vc, L, ys, e, p1, -, -⟩ := id o
      cases e
      exact own_some8 p1 hl
    go_wp2_with fail
    refine region_L (S := fun w' => Blk 31 w' tb #[.slice (some ⟨go, 0, none⟩) d.totals.length k1, .slice o2 d.cells.length k2]) (last := 6) (by kernel_rfl) ?_
    have bd : Below w2.heap.size w2 w2.drew := below_drewN (Below.refl _ _) 1
    replace T := T.below bd
    replace R := R.below bd
    replace o := o.below bd
    replace cu := cu.kept (grown_of_below bd) (by intro e; cases e)
    replace gr := grown_trans gr (grown_of_below bd _)
    clear bd q0 q1
    have hS := T
    generalize w2.drew = w3 at *
    refine firstL 0 (.pointer (some ⟨tb, 0, none⟩)) rfl (by kernel_rfl) (by kernel_rfl) (by kernel_rfl) (fun _ _ _ h => h) (by kernel_rfl) (.inl ⟨by rfl, fun w hw => by (unfold execOp; go_simp)⟩) hS ?_
    try simp only [Act.put, List.setIfInBounds_toArray, List.set_cons_zero, List.set_cons_succ]
    refine firstL 1 (.slice (some ⟨go, 0, none⟩) d.totals.length k1) rfl (by kernel_rfl) (by kernel_rfl) (by kernel_rfl) (fun _ _ _ h => h) (by kernel_rfl) (.inl ⟨by rfl, fun w hw => by have h := hw.cell 0; unfold execOp; go_simp⟩) hS ?_
    try simp only [Act.put, List.setIfInBounds_toArray, List.set_cons_zero, List.set_cons_succ]
    refine firstL 2 (.pointer (some ⟨g, 0, none⟩)) rfl (by kernel_rfl) (by kernel_rfl) (by kernel_rfl) (fun _ _ _ h => h) (by kernel_rfl) (.inl ⟨by rfl, fun w hw => by rfl⟩) hS ?_
    try simp only [Act.put, List.setIfInBounds_toArray, List.set_cons_zero, List.set_cons_succ]
    have e1 := pickN [-1, 999, 998, 1000, 9223372036854775807] g a len cap zs w3 cu (HR.out _ gr) (by simp) (by simp)
    simp only [List.map_cons, List.map_nil, List.length_cons, List.length_nil, Nat.zero_add, Nat.reduceAdd] at e1
    have bn : Below w3.heap.size w3 (w3.alloc (.cells #[.int .i64 (-1), .int .i64 999, .int .i64 998, .int .i64 1000, .int .i64 9223372036854775807] 3)) := (Below.refl _ _).alloc (Nat.le_refl _) _
    refine stepL 3 rfl (by kernel_rfl) (by rfl) fun K hK => ?_
    go_simp
    refine hK _ _ (hS.below bn) ?_
    clear hK K bn
    refine stepL 4 rfl (by kernel_rfl) (by rfl) fun K hK => ?_
    go_simp
    refine e1.mono ?_
    clear e1 cu
    rintro e w4 ⟨y, rfl, -, cu, h4⟩
    replace R := R.kept h4 (by intro e; injection e; omega)
    replace T := T.kept h4 (by intro e; injection e; omega)
    replace o := o.curW (by omega) h4
    replace gr := grown_trans gr h4
    replace hS := T
    refine hK _ _ hS ?_
    clear hK K h4
    refine firstL 5 (.pointer (some ⟨go, 0, none⟩)) rfl (by kernel_rfl) (by kernel_rfl) (by kernel_rfl) (fun _ _ _ h => h) (by kernel_rfl) (.inl ⟨by rfl, fun w hw => by (unfold execOp; go_simp; all_goals omega)⟩) hS ?_
    try simp only [Act.put, List.setIfInBounds_toArray, List.set_cons_zero, List.set_cons_succ]
    refine lastL rfl (by kernel_rfl) (by kernel_rfl) (by rfl) ?_
    obtain ⟨old, hold⟩ : ∃ old, w4.cell? ⟨go, 0, none⟩ = some old := by
      obtain ⟨vt, vc, L, ys, e, p1, -, -⟩ := id o
      cases e
      exact ⟨_, (p1.cellAt 0 (by omega)).trans (List.getElem?_eq_getElem (by simp; omega))⟩
    have f4 : w4.frozen? ⟨go, 0, none⟩ = false := by
      obtain ⟨vt, vc, L, ys, e, p1, -, -⟩ := id o
      cases e
      exact p1.frozenAt 0
    go_simp
    have hne : tb ≠ go ∧ w.heap.size + 1 ≠ go := by
      obtain ⟨vt, vc, L, ys, e, p1, -, -⟩ := id o
      cases e
      exact ⟨fun e => own_ne_blk p1 T (by decide) (by rw [e]; rfl), fun e => own_ne_blk p1 R (by decide) (by rw [e]; rfl)⟩
    have hgo : w.heap.size + 2 ≤ go := by
      obtain ⟨vt, vc, L, ys, e, p1, -, -⟩ := id o
      cases e
      exact (p1.lt go rfl).1
    replace T := T.setCell_other ⟨go, 0, none⟩ (.int .i64 y) (Ne.symm hne.1)
    replace R := R.setCell_other ⟨go, 0, none⟩ (.int .i64 y) (Ne.symm hne.2)
    replace o := o.putT 0 y
    replace cu := cu.cellW (p := go) 0 (.int .i64 y) (by omega)
    replace gr := grown_cell gr (p := go) (k := 0) (by omega) (.int .i64 y)
    replace ts := (tiny_set (k := 0) y ts).up (show 16 ≤ 20 by omega)
    clear hold f4 hne hgo hS
    generalize w4.setCell ⟨go, 0, none⟩ (.int .i64 y) = w5 at *
    go_wp2_with (first | (with_reducible refine wp_st_load rfl _ rfl ?_; refine ⟨_, rfl, _, _, T, ?_⟩) | (with_reducible refine wp_st_store rfl _ _ rfl ?_; refine ⟨_, rfl, _, _, _, _, _, _, rfl, _, _, R, ?_⟩))
    exact bodyPost_ret (res_st rfl _ _ _ _ _ rfl (R.setRow _)) rfl ⟨_, _, rfl, (o.base (by omega)).rowB R (by decide) (by decide) _, ts, cu.rowW _ (by omega), grown_row gr (by omega) _⟩
  have b0 : ((t : Int) == 0) = false := by rw [beq_eq_false_iff_ne]; omega
  by_cases t1 : t = 1
  · subst t1
    obtain ⟨vt9, vc9, L9, ys9, e9, p1, p2, p3⟩ := id o
    cases e9
    have hn4 := p1
    go_wp2_with (at_builtin; refine wpList_append_own_at _ rfl _ _ 28 rfl (w.heap.size + 2) 3 i0 (.int .i64 0) 1 8 Try.underlying28 hi hi0 hi1 hi2 rfl (by decide) _ _ _ rfl (p1.alloc _) ⟨w2.heap.size, 0, none⟩ 1 1 [_] rfl rfl (newc _ _ _) ?d2 ?d3 ?d4 ?d5 ?_)
    case d2 => intro u hu; simp at hu; subst hu; rfl
    case d3 => unfold maxLen; omega
    case d4 => omega
    case d5 => have := T.lt; simp; omega
    intro v' w5 hown' hgrow _ hat
    have bn : Below w2.heap.size w2 (w2.alloc (.cells #[.int .i64 0] 3)) := (Below.refl _ _).alloc (Nat.le_refl _) _
    have o5 := (o.below bn).snocT (by simpa using hown') hgrow (by rw [World.size_alloc]; exact hat)
    have hvo : ∀ j, (Value.slice o1 d.totals.length k1).ownBlock = some j → w.heap.size + 2 ≤ j ∧ j ≠ tb := fun j hj => ⟨(p1.lt j hj).1, fun e => own_ne_blk p1 T (by decide) (by rw [hj, e])⟩
    have T5 := (T.below bn).kept hgrow (fun e => (hvo _ e).2 rfl)
    have R5 := (R.below bn).kept hgrow (fun e => by have := (hvo _ e).1; omega)
    have cu5 := (cu.kept (grown_of_below bn) (by intro e; cases e)).kept hgrow (fun e => by have := (hvo _ e).1; omega)
    have gr5 := grown_own (grown_trans gr (grown_of_below bn _)) hgrow (fun j e => by have := (hvo _ e).1; omega)
    obtain ⟨ov, cv, rfl⟩ := own_slice hown'
    clear p1 p2 p3 hn4 hown' hgrow hat bn hvo o T R cu gr q0 q1
    have q5 : w5.cell? ⟨tb, 0, none⟩ = some (.slice o1 d.totals.length k1) := T5.cell 0
    have f5 := T5.frozen 0
    replace ts := (tiny_snoc 0 ts).up (show 16 + 1 ≤ 20 by omega)
    have T := T5.setCell 0 (.slice ov (d.totals.length + 1) cv)
    have R := R5.setCell_other ⟨tb, 0, none⟩ (.slice ov (d.totals.length + 1) cv) (show tb ≠ w.heap.size + 1 by omega)
    have o := o5.cellB T5 (by decide) (by decide) 0 (.slice ov (d.totals.length + 1) cv)
    have cu := cu5.cellW (p := tb) 0 (.slice ov (d.totals.length + 1) cv) (by omega)
    have gr := grown_cell gr5 (p := tb) (k := 0) (by omega) (.slice ov (d.totals.length + 1) cv)
    clear T5 R5 o5 cu5 gr5
    go_wp2_with (first | (with_reducible refine wp_st_load rfl _ rfl ?_; refine ⟨_, rfl, _, _, T, ?_⟩) | (with_reducible refine wp_st_store rfl _ _ rfl ?_; refine ⟨_, rfl, _, _, _, _, _, _, rfl, _, _, R, ?_⟩))
    exact bodyPost_ret (res_st rfl _ _ _ _ _ rfl (R.setRow _)) rfl ⟨_, _, rfl, (o.base (by omega)).rowB R (by decide) (by decide) _, ts, cu.rowW _ (by omega), grown_row gr (by omega) _⟩
  have b1 : ((t : Int) == 1) = false := by rw [beq_eq_false_iff_ne]; omega
  by_cases t2 : t = 2
  · subst t2
    by_cases hl : 0 < d.cells.length
    rotate_left
    · have hlz : ¬ (0 : Int) < (d.cells.length : Int) := by omega
      replace ts := ts.up (show 16 ≤ 20 by omega)
      go_wp2_with (first | (with_reducible refine wp_st_load rfl _ rfl ?_; refine ⟨_, rfl, _, _, T, ?_⟩) | (with_reducible refine wp_st_store rfl _ _ rfl ?_; refine ⟨_, rfl, _, _, _, _, _, _, rfl, _, _, R, ?_⟩))
      exact bodyPost_ret (res_st rfl _ _ _ _ _ rfl (R.setRow _)) rfl ⟨_, _, rfl, (o.base (by omega)).rowB R (by decide) (by decide) _, ts, cu.rowW _ (by omega), grown_row gr (by omega) _⟩
    have hlz : (0 : Int) < (d.cells.length : Int) := by omega
    obtain ⟨gc, ol, kl, L, ys, rfl, H⟩ := o.open0 hl
    have q2 := H.cell
    by_cases hm : 0 < (il d.cells 0).length
    rotate_left
    · have hmz : ¬ (0 : Int) < ((il d.cells 0).length : Int) := by omega
      replace ts := ts.up (show 16 ≤ 20 by omega)
      go_wp2_with (first | (with_reducible refine wp_st_load rfl _ rfl ?_; refine ⟨_, rfl, _, _, T, ?_⟩) | (with_reducible refine wp_st_store rfl _ _ rfl ?_; refine ⟨_, rfl, _, _, _, _, _, _, rfl, _, _, R, ?_⟩))
      exact bodyPost_ret (res_st rfl _ _ _ _ _ rfl (R.setRow _)) rfl ⟨_, _, rfl, (o.base (by omega)).rowB R (by decide) (by decide) _, ts, cu.rowW _ (by omega), grown_row gr (by omega) _⟩
    have hmz : (0 : Int) < ((il d.cells 0).length : Int) := by omega
    have hm20 := ts.each _ (il_mem hl)
    clear o
    obtain ⟨gl, rfl⟩ : ∃ gl, ol = some ⟨gl, 0, none⟩ := own_some8 H.lst hm
    go_wp2_with fail
    refine region_L (S := fun w' => Blk 31 w' tb #[.slice o1 d.totals.length k1, .slice (some ⟨gc, 0, none⟩) d.cells.length k2] ∧ w'.cell? ⟨gc, 0, none⟩ = some (.slice (some ⟨gl, 0, none⟩) (il d.cells 0).length kl)) (last := 8) (by kernel_rfl) ?_
    have bd : Below w2.heap.size w2 w2.drew := below_drewN (Below.refl _ _) 1
    replace T := T.below bd
    replace R := R.below bd
    replace H := H.below bd
    replace cu := cu.kept (grown_of_below bd) (by intro e; cases e)
    replace gr := grown_trans gr (grown_of_below bd _)
    clear bd q0 q1
    clear q2
    have hS : Blk 31 w2.drew tb #[.slice o1 d.totals.length k1, .slice (some ⟨gc, 0, none⟩) d.cells.length k2] ∧ w2.drew.cell? ⟨gc, 0, none⟩ = some (.slice (some ⟨gl, 0, none⟩) (il d.cells 0).length kl) := ⟨T, H.cell⟩
    generalize w2.drew = w3 at *
    refine firstL 0 (.pointer (some ⟨tb, 1, none⟩)) rfl (by kernel_rfl) (by kernel_rfl) (by kernel_rfl) (fun _ _ _ h => h) (by kernel_rfl) (.inl ⟨by rfl, fun w hw => by (unfold execOp; go_simp)⟩) hS ?_
    try simp only [Act.put, List.setIfInBounds_toArray, List.set_cons_zero, List.set_cons_succ]
    refine firstL 1 (.slice (some ⟨gc, 0, none⟩) d.cells.length k2) rfl (by kernel_rfl) (by kernel_rfl) (by kernel_rfl) (fun _ _ _ h => h) (by kernel_rfl) (.inl ⟨by rfl, fun w hw => by have h := hw.1.cell 1; unfold execOp; go_simp⟩) hS ?_
    try simp only [Act.put, List.setIfInBounds_toArray, List.set_cons_zero, List.set_cons_succ]
    refine firstL 2 (.pointer (some ⟨gc, 0, none⟩)) rfl (by kernel_rfl) (by kernel_rfl) (by kernel_rfl) (fun _ _ _ h => h) (by kernel_rfl) (.inl ⟨by rfl, fun w hw => by (unfold execOp; go_simp; all_goals omega)⟩) hS ?_
    try simp only [Act.put, List.setIfInBounds_toArray, List.set_cons_zero, List.set_cons_succ]
    refine firstL 3 (.slice (some ⟨gl, 0, none⟩) (il d.cells 0).length kl) rfl (by kernel_rfl) (by kernel_rfl) (by kernel_rfl) (fun _ _ _ h => h) (by kernel_rfl) (.inl ⟨by rfl, fun w hw => by have h := hw.2; unfold execOp; go_simp⟩) hS ?_
    try simp only [Act.put, List.setIfInBounds_toArray, List.set_cons_zero, List.set_cons_succ]
    refine firstL 4 (.pointer (some ⟨g, 0, none⟩)) rfl (by kernel_rfl) (by kernel_rfl) (by kernel_rfl) (fun _ _ _ h => h) (by kernel_rfl) (.inl ⟨by rfl, fun w hw => by rfl⟩) hS ?_
    try simp only [Act.put, List.setIfInBounds_toArray, List.set_cons_zero, List.set_cons_succ]
    have e1 := pickN [-1, 500, 1000] g a len cap zs w3 cu (HR.out _ gr) (by simp) (by simp)
    simp only [List.map_cons, List.map_nil, List.length_cons, List.length_nil, Nat.zero_add, Nat.reduceAdd] at e1
    have bn : Below w3.heap.size w3 (w3.alloc (.cells #[.int .i64 (-1), .int .i64 500, .int .i64 1000] 3)) := (Below.refl _ _).alloc (Nat.le_refl _) _
    refine stepL 5 rfl (by kernel_rfl) (by rfl) fun K hK => ?_
    go_simp
    refine hK _ _ (⟨hS.1.below bn, (H.below bn).cell⟩) ?_
    clear hK K bn
    refine stepL 6 rfl (by kernel_rfl) (by rfl) fun K hK => ?_
    go_simp
    refine e1.mono ?_
    clear e1 cu
    rintro e w4 ⟨y, rfl, -, cu, h4⟩
    replace R := R.kept h4 (by intro e; injection e; omega)
    replace T := T.kept h4 (by intro e; injection e; omega)
    replace H := H.curW (by omega) h4
    replace gr := grown_trans gr h4
    replace hS := And.intro T H.cell
    refine hK _ _ hS ?_
    clear hK K h4
    refine firstL 7 (.pointer (some ⟨gl, 0, none⟩)) rfl (by kernel_rfl) (by kernel_rfl) (by kernel_rfl) (fun _ _ _ h => h) (by kernel_rfl) (.inl ⟨by rfl, fun w hw => by (unfold execOp; go_simp; all_goals omega)⟩) hS ?_
    try simp only [Act.put, List.setIfInBounds_toArray, List.set_cons_zero, List.set_cons_succ]
    refine lastL rfl (by kernel_rfl) (by kernel_rfl) (by rfl) ?_
    obtain ⟨old, hold⟩ : ∃ old, w4.cell? ⟨gl, 0, none⟩ = some old := ⟨_, (H.lst.cellAt 0 (by omega)).trans (List.getElem?_eq_getElem (by simp; omega))⟩
    have f4 : w4.frozen? ⟨gl, 0, none⟩ = false := H.lst.frozenAt 0
    go_simp
    have hne1 : tb ≠ gl := fun e => own_ne_blk H.lst T (by decide) (by rw [e]; rfl)
    have hgo : w.heap.size + 2 ≤ gl := (H.lst.lt gl rfl).1
    replace T := T.setCell_other ⟨gl, 0, none⟩ (.int .i64 y) (Ne.symm hne1)
    replace R := R.setCell_other ⟨gl, 0, none⟩ (.int .i64 y) (show gl ≠ w.heap.size + 1 by omega)
    have o := H.put 0 y
    replace cu := cu.cellW (p := gl) 0 (.int .i64 y) (by omega)
    replace gr := grown_cell gr (p := gl) (k := 0) (by omega) (.int .i64 y)
    replace ts := tiny_cell (c := (il d.cells 0).set 0 y) (m := 20) ts (by rw [List.length_set]; omega) (by omega)
    clear hold f4 hne1 hgo hS H
    generalize w4.setCell ⟨gl, 0, none⟩ (.int .i64 y) = w5 at *
    rw [show d.cells.length = (d.cells.set 0 ((il d.cells 0).set 0 y)).length by rw [List.length_set]] at T o
    go_wp2_with (first | (with_reducible refine wp_st_load rfl _ rfl ?_; refine ⟨_, rfl, _, _, T, ?_⟩) | (with_reducible refine wp_st_store rfl _ _ rfl ?_; refine ⟨_, rfl, _, _, _, _, _, _, rfl, _, _, R, ?_⟩))
    exact bodyPost_ret (res_st rfl _ _ _ _ _ rfl (R.setRow _)) rfl ⟨_, _, rfl, (o.base (by omega)).rowB R (by decide) (by decide) _, ts, cu.rowW _ (by omega), grown_row gr (by omega) _⟩
  have b2 : ((t : Int) == 2) = false := by rw [beq_eq_false_iff_ne]; omega
  by_cases t3 : t = 3
  · subst t3
    by_cases hl : 0 < d.cells.length
    rotate_left
    · have hlz : ¬ (0 : Int) < (d.cells.length : Int) := by omega
      replace ts := ts.up (show 16 ≤ 20 by omega)
      go_wp2_with (first | (with_reducible refine wp_st_load rfl _ rfl ?_; refine ⟨_, rfl, _, _, T, ?_⟩) | (with_reducible refine wp_st_store rfl _ _ rfl ?_; refine ⟨_, rfl, _, _, _, _, _, _, rfl, _, _, R, ?_⟩))
      exact bodyPost_ret (res_st rfl _ _ _ _ _ rfl (R.setRow _)) rfl ⟨_, _, rfl, (o.base (by omega)).rowB R (by decide) (by decide) _, ts, cu.rowW _ (by omega), grown_row gr (by omega) _⟩
    have hlz : (0 : Int) < (d.cells.length : Int) := by omega
    obtain ⟨gc, ol, kl, L, ys, rfl, H⟩ := o.open0 hl
    have hm20 := ts.each _ (il_mem hl)
    clear o
    go_wp2_with fail
    refine region_L (S := fun w' => Blk 31 w' tb #[.slice o1 d.totals.length k1, .slice (some ⟨gc, 0, none⟩) d.cells.length k2] ∧ w'.cell? ⟨gc, 0, none⟩ = some (.slice ol (il d.cells 0).length kl)) (last := 9) (by kernel_rfl) ?_
    have bd : Below w2.heap.size w2 w2.drew := below_drewN (Below.refl _ _) 1
    replace T := T.below bd
    replace R := R.below bd
    replace H := H.below bd
    replace cu := cu.kept (grown_of_below bd) (by intro e; cases e)
    replace gr := grown_trans gr (grown_of_below bd _)
    clear bd q0 q1
    have hS : Blk 31 w2.drew tb #[.slice o1 d.totals.length k1, .slice (some ⟨gc, 0, none⟩) d.cells.length k2] ∧ w2.drew.cell? ⟨gc, 0, none⟩ = some (.slice ol (il d.cells 0).length kl) := ⟨T, H.cell⟩
    generalize w2.drew = w3 at *
    refine firstL 0 (.pointer (some ⟨tb, 1, none⟩)) rfl (by kernel_rfl) (by kernel_rfl) (by kernel_rfl) (fun _ _ _ h => h) (by kernel_rfl) (.inl ⟨by rfl, fun w hw => by (unfold execOp; go_simp)⟩) hS ?_
    try simp only [Act.put, List.setIfInBounds_toArray, List.set_cons_zero, List.set_cons_succ]
    refine firstL 1 (.slice (some ⟨gc, 0, none⟩) d.cells.length k2) rfl (by kernel_rfl) (by kernel_rfl) (by kernel_rfl) (fun _ _ _ h => h) (by kernel_rfl) (.inl ⟨by rfl, fun w hw => by have h := hw.1.cell 1; unfold execOp; go_simp⟩) hS ?_
    try simp only [Act.put, List.setIfInBounds_toArray, List.set_cons_zero, List.set_cons_succ]
    refine firstL 2 (.pointer (some ⟨tb, 1, none⟩)) rfl (by kernel_rfl) (by kernel_rfl) (by kernel_rfl) (fun _ _ _ h => h) (by kernel_rfl) (.inl ⟨by rfl, fun w hw => by (unfold execOp; go_simp)⟩) hS ?_
    try simp only [Act.put, List.setIfInBounds_toArray, List.set_cons_zero, List.set_cons_succ]
    refine firstL 3 (.slice (some ⟨gc, 0, none⟩) d.cells.length k2) rfl (by kernel_rfl) (by kernel_rfl) (by kernel_rfl) (fun _ _ _ h => h) (by kernel_rfl) (.inl ⟨by rfl, fun w hw => by have h := hw.1.cell 1; unfold execOp; go_simp⟩) hS ?_
    try simp only [Act.put, List.setIfInBounds_toArray, List.set_cons_zero, List.set_cons_succ]
    refine firstL 4 (.pointer (some ⟨gc, 0, none⟩)) rfl (by kernel_rfl) (by kernel_rfl) (by kernel_rfl) (fun _ _ _ h => h) (by kernel_rfl) (.inl ⟨by rfl, fun w hw => by (unfold execOp; go_simp; all_goals omega)⟩) hS ?_
    try simp only [Act.put, List.setIfInBounds_toArray, List.set_cons_zero, List.set_cons_succ]
    refine firstL 5 (.slice ol (il d.cells 0).length kl) rfl (by kernel_rfl) (by kernel_rfl) (by kernel_rfl) (fun _ _ _ h => h) (by kernel_rfl) (.inl ⟨by rfl, fun w hw => by have h := hw.2; unfold execOp; go_simp⟩) hS ?_
    try simp only [Act.put, List.setIfInBounds_toArray, List.set_cons_zero, List.set_cons_succ]
    have bn : Below w3.heap.size w3 (w3.alloc (.cells #[.int .i64 0] 3)) := (Below.refl _ _).alloc (Nat.le_refl _) _
    refine stepL 6 rfl (by kernel_rfl) (by rfl) fun K hK => ?_
    go_simp
    refine hK _ _ ⟨hS.1.below bn, (H.below bn).cell⟩ ?_
    clear hK K
    have HB := H.below bn
    refine stepL 7 rfl (by kernel_rfl) (by rfl) fun K hK => ?_
    refine wp_append_at8 _ _ 28 rfl (w.heap.size + 2) 3 i0 (.int .i64 0) 1 8 Try.underlying28 hi hi0 hi1 hi2 rfl (by decide) _ _ _ rfl HB.lst ⟨w3.heap.size, 0, none⟩ 1 1 [.int .i64 0] rfl rfl (cell_one_new _ _ _) (by intro u hu; simp at hu; subst hu; rfl) (by unfold maxLen; omega) (by omega) (by have := T.lt; simp; omega) ?_
    intro v' w5 hown' hgrow hat
    have hvo : ∀ j, (Value.slice ol (il d.cells 0).length kl).ownBlock = some j → w.heap.size + 2 ≤ j ∧ j ≠ tb := fun j hj => ⟨(H.lst.lt j hj).1, fun e => own_ne_blk H.lst T (by decide) (by rw [hj, e])⟩
    have T5 := (T.below bn).kept hgrow (fun e => (hvo _ e).2 rfl)
    have R5 := (R.below bn).kept hgrow (fun e => by have := (hvo _ e).1; omega)
    have cu5 := (cu.kept (grown_of_below bn) (by intro e; cases e)).kept hgrow (fun e => by have := (hvo _ e).1; omega)
    have gr5 := grown_own (grown_trans gr (grown_of_below bn _)) hgrow (fun j e => by have := (hvo _ e).1; omega)
    obtain ⟨ov, cv, rfl⟩ := own_slice hown'
    have row5 := HB.sep.row.kept hgrow (by have := apart_ty HB.sep.row HB.lst (by decide); exact this)
    have c5 : w5.cell? ⟨gc, 0, none⟩ = some (.slice ol (il d.cells 0).length kl) := by
      rw [row5.cellAt 0 (by omega), HB.sep.cells 0 hl, HB.fst]
    have f5 : w5.frozen? ⟨gc, 0, none⟩ = false := row5.frozenAt 0
    have hgc : w.heap.size + 2 ≤ gc ∧ gc ≠ tb := ⟨(H.sep.row.lt gc rfl).1, fun e => own_ne_blk H.sep.row T (by decide) (by rw [e]; rfl)⟩
    have o := HB.snoc (by simpa using hown') hgrow hat
    refine hK _ _ ⟨T5, c5⟩ ?_
    replace hS : Blk 31 w5 tb #[.slice o1 d.totals.length k1, .slice (some ⟨gc, 0, none⟩) d.cells.length k2] ∧ w5.cell? ⟨gc, 0, none⟩ = some (.slice ol (il d.cells 0).length kl) := ⟨T5, c5⟩
    clear hK K hvo hgrow hat hown' HB H T R cu gr bn row5
    refine firstL 8 (.pointer (some ⟨gc, 0, none⟩)) rfl (by kernel_rfl) (by kernel_rfl) (by kernel_rfl) (fun _ _ _ h => h) (by kernel_rfl) (.inl ⟨by rfl, fun w hw => by (unfold execOp; go_simp; all_goals omega)⟩) hS ?_
    try simp only [Act.put, List.setIfInBounds_toArray, List.set_cons_zero, List.set_cons_succ]
    refine lastL rfl (by kernel_rfl) (by kernel_rfl) (by rfl) ?_
    go_simp
    have T := T5.setCell_other ⟨gc, 0, none⟩ (.slice ov ((il d.cells 0).length + 1) cv) hgc.2
    have R := R5.setCell_other ⟨gc, 0, none⟩ (.slice ov ((il d.cells 0).length + 1) cv) (show gc ≠ w.heap.size + 1 by omega)
    have cu := cu5.cellW (p := gc) 0 (.slice ov ((il d.cells 0).length + 1) cv) (by omega)
    have gr := grown_cell gr5 (p := gc) (k := 0) (by omega) (.slice ov ((il d.cells 0).length + 1) cv)
    replace ts := tiny_cell (c := il d.cells 0 ++ [0]) (m := 20) ts (by rw [List.length_append]; simp; omega) (by omega)
    clear c5 f5 hgc hS T5 R5 cu5 gr5
    generalize w5.setCell ⟨gc, 0, none⟩ (.slice ov ((il d.cells 0).length + 1) cv) = w6 at *
    rw [show d.cells.length = (d.cells.set 0 (il d.cells 0 ++ [0])).length by rw [List.length_set]] at T o
    go_wp2_with (first | (with_reducible refine wp_st_load rfl _ rfl ?_; refine ⟨_, rfl, _, _, T, ?_⟩) | (with_reducible refine wp_st_store rfl _ _ rfl ?_; refine ⟨_, rfl, _, _, _, _, _, _, rfl, _, _, R, ?_⟩))
    exact bodyPost_ret (res_st rfl _ _ _ _ _ rfl (R.setRow _)) rfl ⟨_, _, rfl, (o.base (by omega)).rowB R (by decide) (by decide) _, ts, cu.rowW _ (by omega), grown_row gr (by omega) _⟩
  have b3 : ((t : Int) == 3) = false := by rw [beq_eq_false_iff_ne]; omega
  replace ts := ts.up (show 16 ≤ 20 by omega)
  clear t0 t1 t2 t3 q0 q1
  go_wp2_with (first | (with_reducible refine wp_st_load rfl _ rfl ?_; refine ⟨_, rfl, _, _, T, ?_⟩) | (with_reducible refine wp_st_store rfl _ _ rfl ?_; refine ⟨_, rfl, _, _, _, _, _, _, rfl, _, _, R, ?_⟩))
  exact bodyPost_ret (res_st rfl _ _ _ _ _ rfl (R.setRow _)) rfl ⟨_, _, rfl, (o.base (by omega)).rowB R (by decide) (by decide) _, ts, cu.rowW _ (by omega), grown_row gr (by omega) _⟩
end Go.Proofs.Ytobimpgapfecoaa
/- Beside the draws of several structs. -/
namespace Go.Proofs.Ytobimpgapfecoaa
open Go.RowKit
set_option maxRecDepth 100000
set_option linter.unusedSimpArgs false
theorem OwnS.rowX {w : World} {b k : Nat} {v : Value} {s : SchemaD} (c : Array Value) (h : OwnS b w v s) (hk : k < b) : OwnS b (w.setRow k c) v s := by
  obtain ⟨va, vc, rfl, h1, h2⟩ := h
  exact ⟨va, vc, rfl, h1.setRow k c hk, own_setRow h2 k c hk⟩
theorem OwnS.baseX {w : World} {b b' : Nat} {v : Value} {s : SchemaD} (h : OwnS b w v s) (hb : b' ≤ b) : OwnS b' w v s := by
  obtain ⟨va, vc, rfl, h1, h2⟩ := h
  exact ⟨va, vc, rfl, h1.base hb, own_base h2 hb⟩
theorem OwnE.rowX {w : World} {b k : Nat} {v : Value} {s : ExD} (c : Array Value) (h : OwnE b w v s) (hk : k < b) : OwnE b (w.setRow k c) v s := by
  obtain ⟨vb, rfl, h1⟩ := h
  exact ⟨vb, rfl, own_setRow h1 k c hk⟩
theorem OwnE.baseX {w : World} {b b' : Nat} {v : Value} {s : ExD} (h : OwnE b w v s) (hb : b' ≤ b) : OwnE b' w v s := by
  obtain ⟨vb, rfl, h1⟩ := h
  exact ⟨vb, rfl, own_base h1 hb⟩
theorem tinyS.okX {d : SchemaD} (h : tinyS d) : okSch d :=
  ⟨by have := h.attrs; omega, fun a ha => (h.each a ha).ok7, by have := h.classes; omega, fun s hs => by have := h.sizes s hs; omega⟩
theorem yields_mvX {ops : Array Oper} {S : World → Prop} {op : Oper} {a : Act} (hw : Region.wanted op (yielded ops a.tmps) = true) (x : Operand) (ho : op.op = .move x) (v : Value) (hx : a.eval x = v) : YieldsIf Try.prog ops S op v a :=
  .inl ⟨hw, fun w _ => by unfold execOp; simp only [ho, hx]; go_simp⟩
theorem res_se {fn : Func} {p q : Tmp} (h : fn.results = #[.cell p 27, .cell q 33]) (tmps : Array Value) (w : World) (g k : Nat) (c0 c1 d0 d1 : Value)
    (hp : tmps.getD p undef = .pointer (some ⟨g, 0, none⟩)) (hq : tmps.getD q undef = .pointer (some ⟨k, 0, none⟩)) (hg : Blk 27 w g #[c0, c1]) (hk : Blk 33 w k #[d0, d1]) : (results fn tmps).run Try.prog w = .ok (.tuple #[.agg #[c0, c1], .agg #[d0, d1]]) w := by
  have hp' : tmps[p]?.getD undef = .pointer (some ⟨g, 0, none⟩) := by simpa using hp
  have hq' : tmps[q]?.getD undef = .pointer (some ⟨k, 0, none⟩) := by simpa using hq
  simp [results, h, hp', hq', asAddr, run_loadVar_row w g _ 27 _ _ _ hg Try.underlying27 rfl sch_size, run_loadVar_row w k _ 33 _ _ _ hk Try.underlying33 rfl ex_size]
end Go.Proofs.Ytobimpgapfecoaa
/- Draws of chapter 9: a schema, counts, a question. -/
namespace Go.Proofs.Ytobimpgapfecoaa
open Go.RowKit
set_option maxRecDepth 100000
set_option linter.unusedSimpArgs false
theorem res_d9 {fn : Func} {p q r t : Tmp} (h : fn.results = #[.cell p 27, .cell q 31, .cell r 48, .tmp t]) (tmps : Array Value) (w : World) (g k l : Nat) (c0 c1 d0 d1 e0 e1 : Value)
    (hp : tmps.getD p undef = .pointer (some ⟨g, 0, none⟩)) (hq : tmps.getD q undef = .pointer (some ⟨k, 0, none⟩)) (hr : tmps.getD r undef = .pointer (some ⟨l, 0, none⟩)) (hg : Blk 27 w g #[c0, c1]) (hk : Blk 31 w k #[d0, d1]) (hl : Blk 48 w l #[e0, e1]) :
    (results fn tmps).run Try.prog w = .ok (.tuple #[.agg #[c0, c1], .agg #[d0, d1], .agg #[e0, e1], tmps.getD t undef]) w := by
  have hp' : tmps[p]?.getD undef = .pointer (some ⟨g, 0, none⟩) := by simpa using hp
  have hq' : tmps[q]?.getD undef = .pointer (some ⟨k, 0, none⟩) := by simpa using hq
  have hr' : tmps[r]?.getD undef = .pointer (some ⟨l, 0, none⟩) := by simpa using hr
  simp [results, h, hp', hq', hr', asAddr, run_loadVar_row w g _ 27 _ _ _ hg Try.underlying27 rfl sch_size, run_loadVar_row w k _ 31 _ _ _ hk Try.underlying31 rfl st_size, run_loadVar_row w l _ 48 _ _ _ hl Try.underlying48 rfl fork_size]
set_option maxHeartbeats 6400000 in
theorem drawTotals_any (a : Option Addr) (len cap : Nat) (zs : List Int) (w : World) (hr : IsRow .u8 w a len cap zs) (hn : len ≤ 1048576) :
    Calls Try.prog 23 #[.slice a len cap] w fun e w' => ∃ vs d ve x f i, e = .returned (.tuple #[vs, ve, forkV f, i]) ∧ SchemaAt w' vs d ∧ tinyS d ∧ StatsAt w' ve x ∧ tinySt 20 x ∧ Below w.heap.size w w' := by
  obtain ⟨R, Q, Y, B⟩ := blk_3 27 31 48 w #[.slice none 0 0, .slice none 0 0] #[.slice none 0 0, .slice none 0 0] #[.int .i64 0, .int .i64 0]
  have cc := l1New_any a len cap zs (((w.alloc (.cells #[.slice none 0 0, .slice none 0 0] 27)).alloc (.cells #[.slice none 0 0, .slice none 0 0] 31)).alloc (.cells #[.int .i64 0, .int .i64 0] 48)) (hr.later B) hn
  replace hr := hr.later B
  have hz : (((w.alloc (.cells #[.slice none 0 0, .slice none 0 0] 27)).alloc (.cells #[.slice none 0 0, .slice none 0 0] 31)).alloc (.cells #[.int .i64 0, .int .i64 0] 48)).heap.size = w.heap.size + 3 := by simp
  rw [hz] at cc
  go_enter Try.func23, Try.ntmps23
  go_wp2_with fail
  refine cc.mono ?_
  clear cc
  rintro e w2 ⟨rfl, cu, hb, hsz⟩
  rw [← hz] at hb
  replace R := R.below hb
  replace Q := Q.below hb
  replace Y := Y.below hb
  replace B := B.trans (hb.mono B.size)
  replace hr := hr.later hb
  rw [hz] at hb
  have hg2 : w.heap.size + 3 < w2.heap.size := cu.lt
  clear hb hz hsz
  have cc := draw5_any (w.heap.size + 3) a len cap zs w2 cu hr
  go_wp2_with fail
  refine cc.mono ?_
  clear cc
  rintro e w3 ⟨v, d, rfl, os, htn, cu2, h3⟩
  have hs3 := h3.size
  replace R := R.kept h3 (by intro e; injection e; omega)
  replace Q := Q.kept h3 (by intro e; injection e; omega)
  replace Y := Y.kept h3 (by intro e; injection e; omega)
  replace B := B.grown h3 B.size (fun k hk => by injection hk; omega)
  replace hr := hr.aside cu h3
  clear cu
  have cu := cu2
  clear cu2 h3
  have HTN : Hid (tinyS d) := htn
  clear htn
  obtain ⟨y1, y2, rfl, rr1, rr2⟩ := id os.at
  obtain ⟨oa, ka, rfl, -, -⟩ := id rr1
  obtain ⟨oc, kc, rfl, -, -⟩ := id rr2
  clear rr1 rr2
  obtain ⟨P1, BP⟩ := blk_1 27 w3 #[.slice oa d.attrs.length ka, .slice oc d.classes.length kc]
  replace R := R.below BP
  replace Q := Q.below BP
  replace Y := Y.below BP
  replace B := B.trans (BP.mono B.size)
  replace hr := hr.later BP
  replace cu := cu.kept (grown_of_below BP) (by intro e; cases e)
  replace os := os.below7 BP
  clear BP
  have cc := draw8_any (w.heap.size + 3) a len cap zs _ d w2.heap.size (w3.alloc (.cells #[.slice oa d.attrs.length ka, .slice oc d.classes.length kc] 27)) cu hr os hg2 HTN.out
  have kP10 : (w3.alloc (.cells #[.slice oa d.attrs.length ka, .slice oc d.classes.length kc] 27)).cell? ⟨w3.heap.size, 0, none⟩ = some (.slice oa d.attrs.length ka) := P1.cell 0
  have kP11 : (w3.alloc (.cells #[.slice oa d.attrs.length ka, .slice oc d.classes.length kc] 27)).cell? ⟨w3.heap.size, 1, none⟩ = some (.slice oc d.classes.length kc) := P1.cell 1
  go_wp2_with fail
  refine cc.mono ?_
  clear cc kP10 kP11
  rintro e w4 ⟨v4, x, rfl, oE, hxl, cu2, h4⟩
  have hs4 := h4.size
  rw [World.size_alloc] at hs4
  obtain ⟨ob, kb, ob2, kb2, rfl⟩ := oE.form
  have oE := oE.base (b' := w2.heap.size) (by rw [World.size_alloc]; omega)
  replace R := R.kept h4 (by intro e; injection e; omega)
  replace Q := Q.kept h4 (by intro e; injection e; omega)
  replace Y := Y.kept h4 (by intro e; injection e; omega)
  replace B := B.grown h4 B.size (fun k hk => by injection hk; omega)
  replace os := os.curW7 (by omega) h4
  replace P1 := P1.kept h4 (by intro e; injection e; omega)
  replace hr := hr.aside cu h4
  clear cu
  have cu := cu2
  clear cu2 h4
  obtain ⟨P2, BP⟩ := blk_1 31 w4 #[.slice ob x.totals.length kb, .slice ob2 x.cells.length kb2]
  replace R := R.below BP
  replace Q := Q.below BP
  replace Y := Y.below BP
  replace B := B.trans (BP.mono B.size)
  replace hr := hr.later BP
  replace cu := cu.kept (grown_of_below BP) (by intro e; cases e)
  replace os := os.below7 BP
  replace P1 := P1.below BP
  replace oE := oE.below BP
  clear BP
  have cc := draw9_any (w.heap.size + 3) a len cap zs _ d (w4.alloc (.cells #[.slice ob x.totals.length kb, .slice ob2 x.cells.length kb2] 31)) cu hr os.at HTN.out.ok8 HTN.out.attrs
  have kP10 : (w4.alloc (.cells #[.slice ob x.totals.length kb, .slice ob2 x.cells.length kb2] 31)).cell? ⟨w3.heap.size, 0, none⟩ = some (.slice oa d.attrs.length ka) := P1.cell 0
  have kP11 : (w4.alloc (.cells #[.slice ob x.totals.length kb, .slice ob2 x.cells.length kb2] 31)).cell? ⟨w3.heap.size, 1, none⟩ = some (.slice oc d.classes.length kc) := P1.cell 1
  go_wp2_with fail
  refine cc.mono ?_
  clear cc kP10 kP11
  rintro e w5 ⟨f, rfl, cu2, h5⟩
  have hs5 := h5.size
  rw [World.size_alloc] at hs5
  obtain ⟨m, n⟩ := f
  unfold forkV
  replace R := R.kept h5 (by intro e; injection e; omega)
  replace Q := Q.kept h5 (by intro e; injection e; omega)
  replace Y := Y.kept h5 (by intro e; injection e; omega)
  replace B := B.grown h5 B.size (fun k hk => by injection hk; omega)
  replace os := os.curW7 (by omega) h5
  replace P1 := P1.kept h5 (by intro e; injection e; omega)
  replace oE := oE.curW (by omega) h5
  replace P2 := P2.kept h5 (by intro e; injection e; omega)
  replace hr := hr.aside cu h5
  clear cu
  have cu := cu2
  clear cu2 h5
  obtain ⟨P3, BP⟩ := blk_1 48 w5 #[.int .i64 m, .int .i64 n]
  replace R := R.below BP
  replace Q := Q.below BP
  replace Y := Y.below BP
  replace B := B.trans (BP.mono B.size)
  replace hr := hr.later BP
  replace cu := cu.kept (grown_of_below BP) (by intro e; cases e)
  replace os := os.below7 BP
  replace P1 := P1.below BP
  replace oE := oE.below BP
  replace P2 := P2.below BP
  clear BP
  go_wp2_with fail
  have bd : Below (w5.alloc (.cells #[.int .i64 m, .int .i64 n] 48)).heap.size (w5.alloc (.cells #[.int .i64 m, .int .i64 n] 48)) (w5.alloc (.cells #[.int .i64 m, .int .i64 n] 48)).drew := below_drewN (Below.refl _ _) 1
  replace R := R.below bd
  replace Q := Q.below bd
  replace Y := Y.below bd
  replace B := B.trans (bd.mono B.size)
  replace hr := hr.later bd
  replace cu := cu.kept (grown_of_below bd) (by intro e; cases e)
  replace os := os.below7 bd
  replace P1 := P1.below bd
  replace oE := oE.below bd
  replace P2 := P2.below bd
  replace P3 := P3.below bd
  clear bd
  refine wp_region_held_drew (S := fun w' => Blk 27 w' w3.heap.size #[.slice oa d.attrs.length ka, .slice oc d.classes.length kc] ∧ Blk 31 w' w4.heap.size #[.slice ob x.totals.length kb, .slice ob2 x.cells.length kb2] ∧ Blk 48 w' w5.heap.size #[.int .i64 m, .int .i64 n] ∧ (∃ c0 c1, Blk 27 w' w.heap.size #[c0, c1]) ∧ (∃ c0 c1, Blk 31 w' (w.heap.size + 1) #[c0, c1]) ∧ ∃ m' n', Blk 48 w' (w.heap.size + 1 + 1) #[.int .i64 m', .int .i64 n']) (by kernel_rfl) ⟨P1, P2, P3, ⟨_, _, R⟩, ⟨_, _, Q⟩, _, _, Y⟩ ?_
  intro hS
  generalize (w5.alloc (.cells #[.int .i64 m, .int .i64 n] 48)).drew = w6 at R Q Y B hr cu os P1 oE P2 P3 hS ⊢
  refine takeL 0 (.agg #[.slice oa d.attrs.length ka, .slice oc d.classes.length kc]) rfl (by kernel_rfl) (by kernel_rfl) (by kernel_rfl) (fun _ _ _ h => h) (yields_row Try.underlying27 (by kernel_rfl) (by rfl) _ rfl _ rfl (fun _ h => h.1)) hS ?_
  try simp only [Act.put, List.setIfInBounds_toArray, List.set_cons_zero, List.set_cons_succ]
  refine takeL 1 (.agg #[.slice ob x.totals.length kb, .slice ob2 x.cells.length kb2]) rfl (by kernel_rfl) (by kernel_rfl) (by kernel_rfl) (fun _ _ _ h => h) (yields_row Try.underlying31 (by kernel_rfl) (by rfl) _ rfl _ rfl (fun _ h => h.2.1)) hS ?_
  try simp only [Act.put, List.setIfInBounds_toArray, List.set_cons_zero, List.set_cons_succ]
  refine takeL 2 (.agg #[.int .i64 m, .int .i64 n]) rfl (by kernel_rfl) (by kernel_rfl) (by kernel_rfl) (fun _ _ _ h => h) (yields_row Try.underlying48 (by kernel_rfl) (by rfl) _ rfl _ rfl (fun _ h => h.2.2.1)) hS ?_
  try simp only [Act.put, List.setIfInBounds_toArray, List.set_cons_zero, List.set_cons_succ]
  refine takeL 3 (.pointer (some ⟨w.heap.size + 3, 0, none⟩)) rfl (by kernel_rfl) (by kernel_rfl) (by kernel_rfl) (fun _ _ _ h => h) (yields_mvX (by rfl) _ rfl _ rfl) hS ?_
  try simp only [Act.put, List.setIfInBounds_toArray, List.set_cons_zero, List.set_cons_succ]
  have cP := pickN [0, 1, 1, 2, 3, 4, -1] (w.heap.size + 3) a len cap zs w6 cu hr (by decide) (by decide)
  simp only [List.map_cons, List.map_nil, List.length_cons, List.length_nil, Nat.zero_add, Nat.reduceAdd] at cP
  refine nextL 4 rfl (by kernel_rfl) (by rfl) fun K hK => ?_
  have bl : Below w6.heap.size w6 (w6.alloc (.cells #[.int .i64 0, .int .i64 1, .int .i64 1, .int .i64 2, .int .i64 3, .int .i64 4, .int .i64 (-1)] 3)) := (Below.refl _ _).alloc (Nat.le_refl _) _
  have hP1 := P1.below bl
  have hP2 := P2.below bl
  have hP3 := P3.below bl
  have hR := R.below bl
  have hQ := Q.below bl
  have hY := Y.below bl
  go_simp
  refine hK _ _ ⟨hP1, hP2, hP3, ⟨_, _, hR⟩, ⟨_, _, hQ⟩, _, _, hY⟩ ?_
  clear hK K hS hP1 hP2 hP3 hR hQ hY bl
  intro hS
  try simp only [Act.put, List.setIfInBounds_toArray, List.set_cons_zero, List.set_cons_succ]
  refine nextL 5 rfl (by kernel_rfl) (by rfl) fun K hK => ?_
  go_simp
  refine cP.mono ?_
  clear cP
  rintro e w7 ⟨z, rfl, -, cu2, h7⟩
  replace R := R.kept h7 (by intro e; injection e; omega)
  replace Q := Q.kept h7 (by intro e; injection e; omega)
  replace Y := Y.kept h7 (by intro e; injection e; omega)
  replace B := B.grown h7 B.size (fun k hk => by injection hk; omega)
  replace os := os.curW7 (by omega) h7
  replace P1 := P1.kept h7 (by intro e; injection e; omega)
  replace oE := oE.curW (by omega) h7
  replace P2 := P2.kept h7 (by intro e; injection e; omega)
  replace P3 := P3.kept h7 (by intro e; injection e; omega)
  replace hr := hr.aside cu h7
  clear cu
  have cu := cu2
  clear cu2 h7
  refine hK _ _ ⟨P1, P2, P3, ⟨_, _, R⟩, ⟨_, _, Q⟩, _, _, Y⟩ ?_
  clear hK K hS
  intro hS
  clear cu hr
  refine nextL 6 rfl (by kernel_rfl) (by rfl) fun K hK => ?_
  refine wp_store_row 27 _ _ rfl (w.heap.size) #[.slice oa d.attrs.length ka, .slice oc d.classes.length kc] rfl rfl _ _ R sch_size rfl (by simp [Value.oneCell']) ?_
  replace P1 := P1.setRow_other #[.slice oa d.attrs.length ka, .slice oc d.classes.length kc] (show w3.heap.size ≠ w.heap.size by omega)
  replace P2 := P2.setRow_other #[.slice oa d.attrs.length ka, .slice oc d.classes.length kc] (show w4.heap.size ≠ w.heap.size by omega)
  replace P3 := P3.setRow_other #[.slice oa d.attrs.length ka, .slice oc d.classes.length kc] (show w5.heap.size ≠ w.heap.size by omega)
  replace Q := Q.setRow_other #[.slice oa d.attrs.length ka, .slice oc d.classes.length kc] (show w.heap.size + 1 ≠ w.heap.size by omega)
  replace Y := Y.setRow_other #[.slice oa d.attrs.length ka, .slice oc d.classes.length kc] (show w.heap.size + 1 + 1 ≠ w.heap.size by omega)
  replace R := R.setRow #[.slice oa d.attrs.length ka, .slice oc d.classes.length kc]
  replace os := os.rowX #[.slice oa d.attrs.length ka, .slice oc d.classes.length kc] (show w.heap.size < w2.heap.size by omega)
  replace oE := oE.rowX8 #[.slice oa d.attrs.length ka, .slice oc d.classes.length kc] (show w.heap.size < w2.heap.size by omega)
  replace B := below_row B (show w.heap.size ≤ w.heap.size by omega) #[.slice oa d.attrs.length ka, .slice oc d.classes.length kc]
  refine hK _ _ ⟨P1, P2, P3, ⟨_, _, R⟩, ⟨_, _, Q⟩, _, _, Y⟩ ?_
  clear hK K hS
  intro hS
  try simp only [Act.put, List.setIfInBounds_toArray, List.set_cons_zero, List.set_cons_succ]
  refine nextL 7 rfl (by kernel_rfl) (by rfl) fun K hK => ?_
  refine wp_store_row 31 _ _ rfl (w.heap.size + 1) #[.slice ob x.totals.length kb, .slice ob2 x.cells.length kb2] rfl rfl _ _ Q st_size rfl (by simp [Value.oneCell']) ?_
  replace P1 := P1.setRow_other #[.slice ob x.totals.length kb, .slice ob2 x.cells.length kb2] (show w3.heap.size ≠ w.heap.size + 1 by omega)
  replace P2 := P2.setRow_other #[.slice ob x.totals.length kb, .slice ob2 x.cells.length kb2] (show w4.heap.size ≠ w.heap.size + 1 by omega)
  replace P3 := P3.setRow_other #[.slice ob x.totals.length kb, .slice ob2 x.cells.length kb2] (show w5.heap.size ≠ w.heap.size + 1 by omega)
  replace R := R.setRow_other #[.slice ob x.totals.length kb, .slice ob2 x.cells.length kb2] (show w.heap.size ≠ w.heap.size + 1 by omega)
  replace Y := Y.setRow_other #[.slice ob x.totals.length kb, .slice ob2 x.cells.length kb2] (show w.heap.size + 1 + 1 ≠ w.heap.size + 1 by omega)
  replace Q := Q.setRow #[.slice ob x.totals.length kb, .slice ob2 x.cells.length kb2]
  replace os := os.rowX #[.slice ob x.totals.length kb, .slice ob2 x.cells.length kb2] (show w.heap.size + 1 < w2.heap.size by omega)
  replace oE := oE.rowX8 #[.slice ob x.totals.length kb, .slice ob2 x.cells.length kb2] (show w.heap.size + 1 < w2.heap.size by omega)
  replace B := below_row B (show w.heap.size ≤ w.heap.size + 1 by omega) #[.slice ob x.totals.length kb, .slice ob2 x.cells.length kb2]
  refine hK _ _ ⟨P1, P2, P3, ⟨_, _, R⟩, ⟨_, _, Q⟩, _, _, Y⟩ ?_
  clear hK K hS
  intro hS
  try simp only [Act.put, List.setIfInBounds_toArray, List.set_cons_zero, List.set_cons_succ]
  refine nextL 8 rfl (by kernel_rfl) (by rfl) fun K hK => ?_
  refine wp_store_row 48 _ _ rfl (w.heap.size + 1 + 1) #[.int .i64 m, .int .i64 n] rfl rfl _ _ Y fork_size rfl (by simp [Value.oneCell']) ?_
  replace P1 := P1.setRow_other #[.int .i64 m, .int .i64 n] (show w3.heap.size ≠ w.heap.size + 1 + 1 by omega)
  replace P2 := P2.setRow_other #[.int .i64 m, .int .i64 n] (show w4.heap.size ≠ w.heap.size + 1 + 1 by omega)
  replace P3 := P3.setRow_other #[.int .i64 m, .int .i64 n] (show w5.heap.size ≠ w.heap.size + 1 + 1 by omega)
  replace R := R.setRow_other #[.int .i64 m, .int .i64 n] (show w.heap.size ≠ w.heap.size + 1 + 1 by omega)
  replace Q := Q.setRow_other #[.int .i64 m, .int .i64 n] (show w.heap.size + 1 ≠ w.heap.size + 1 + 1 by omega)
  replace Y := Y.setRow #[.int .i64 m, .int .i64 n]
  replace os := os.rowX #[.int .i64 m, .int .i64 n] (show w.heap.size + 1 + 1 < w2.heap.size by omega)
  replace oE := oE.rowX8 #[.int .i64 m, .int .i64 n] (show w.heap.size + 1 + 1 < w2.heap.size by omega)
  replace B := below_row B (show w.heap.size ≤ w.heap.size + 1 + 1 by omega) #[.int .i64 m, .int .i64 n]
  refine hK _ _ ⟨P1, P2, P3, ⟨_, _, R⟩, ⟨_, _, Q⟩, _, _, Y⟩ ?_
  clear hK K hS
  intro hS
  try simp only [Act.put, List.setIfInBounds_toArray, List.set_cons_zero, List.set_cons_succ]
  refine takeL 9 (.int .i64 z) rfl (by kernel_rfl) (by kernel_rfl) (by kernel_rfl) (fun _ _ _ h => h) (.inl ⟨by rfl, fun w _ => by rfl⟩) hS ?_
  try simp only [Act.put, List.setIfInBounds_toArray, List.set_cons_zero, List.set_cons_succ]
  clear hS
  refine wpAnyH_done (by kernel_rfl) ?_ _
  go_wp2
  exact bodyPost_ret (res_d9 rfl _ _ _ _ _ _ _ _ _ _ _ rfl rfl rfl R Q Y) rfl ⟨_, d, _, x, ⟨m, n⟩, _, rfl, os.at, HTN.out, oE.at, hxl, B⟩
end Go.Proofs.Ytobimpgapfecoaa
/- Whether a code is too great. -/
namespace Go.Proofs.Ytobimpgapfecoaa
open Go.RowKit
set_option maxRecDepth 100000

theorem big_any (a : Option Addr) (len cap : Nat) (w : World) (hn : len ≤ 9223372036854775807) : Calls Try.prog 9 #[.slice a len cap] w fun e w' => e = .returned (.bool (decide (1048576 < len))) ∧ w' = w := by
  by_cases h : 1048576 < len
  all_goals
    go_enter Try.func9, Try.ntmps9
    go_wp2
    go_ret
    exact ⟨by simp; omega, rfl⟩
end Go.Proofs.Ytobimpgapfecoaa
