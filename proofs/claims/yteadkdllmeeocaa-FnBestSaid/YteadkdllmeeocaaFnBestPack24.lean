/- Texts of this claim, put together: part 24. -/
import Derived.Test.YteadkdllmeeocaaFnBestPack9
import Derived.Test.YteadkdllmeeocaaFnBestPack23
import Derived.Test.YteadkdllmeeocaaFnBestPack16
import Derived.Test.YteadkdllmeeocaaRows
import Derived.WalkKit
import Derived.ProofKit
import Derived.OpenShut
import Derived.Test.YteadkdllmeeocaaFnBestPack7
/- Draws of chapter 10: a schema, counts, a place and a word. -/
namespace Go.Proofs.Yteadkdllmeeocaa
open Go.RowKit
set_option maxRecDepth 100000
set_option linter.unusedSimpArgs false
theorem res_d10b {fn : Func} {p q r t : Tmp} (h : fn.results = #[.cell p 33, .cell q 36, .tmp r, .tmp t]) (tmps : Array Value) (w : World) (g k : Nat) (c0 c1 d0 d1 : Value)
    (hp : tmps.getD p undef = .pointer (some ⟨g, 0, none⟩)) (hq : tmps.getD q undef = .pointer (some ⟨k, 0, none⟩)) (hg : Blk 33 w g #[c0, c1]) (hk : Blk 36 w k #[d0, d1]) :
    (results fn tmps).run Try.prog w = .ok (.tuple #[.agg #[c0, c1], .agg #[d0, d1], tmps.getD r undef, tmps.getD t undef]) w := by
  have hp' : tmps[p]?.getD undef = .pointer (some ⟨g, 0, none⟩) := by simpa using hp
  have hq' : tmps[q]?.getD undef = .pointer (some ⟨k, 0, none⟩) := by simpa using hq
  simp [results, h, hp', hq', asAddr, run_loadVar_row w g _ 33 _ _ _ hg Try.underlying33 rfl sch_size, run_loadVar_row w k _ 36 _ _ _ hk Try.underlying36 rfl st_size]
set_option maxHeartbeats 6400000 in
theorem drawBest_any (a : Option Addr) (len cap : Nat) (zs : List Int) (w : World) (hr : IsRow .u8 w a len cap zs) (hn : len ≤ 1048576) :
    Calls Try.prog 24 #[.slice a len cap] w fun e w' => ∃ vs d ve x z two, e = .returned (.tuple #[vs, ve, .int .i64 z, .bool two]) ∧ SchemaAt w' vs d ∧ tinyS d ∧ StatsAt w' ve x ∧ tinySt 20 x ∧ -1 ≤ z ∧ z ≤ 5 ∧ Below w.heap.size w w' := by
  obtain ⟨R, Q, B⟩ := blk_2 33 36 w #[.slice none 0 0, .slice none 0 0] #[.slice none 0 0, .slice none 0 0]
  have cc := l1New_any a len cap zs ((w.alloc (.cells #[.slice none 0 0, .slice none 0 0] 33)).alloc (.cells #[.slice none 0 0, .slice none 0 0] 36)) (hr.later B) hn
  replace hr := hr.later B
  have hz : ((w.alloc (.cells #[.slice none 0 0, .slice none 0 0] 33)).alloc (.cells #[.slice none 0 0, .slice none 0 0] 36)).heap.size = w.heap.size + 2 := by simp
  rw [hz] at cc
  go_enter Try.func24, Try.ntmps24
  go_wp2_with fail
  refine cc.mono ?_
  clear cc
  rintro e w2 ⟨rfl, cu, hb, hsz⟩
  rw [← hz] at hb
  replace R := R.below hb
  replace Q := Q.below hb
  replace B := B.trans (hb.mono B.size)
  replace hr := hr.later hb
  rw [hz] at hb
  have hg2 : w.heap.size + 2 < w2.heap.size := cu.lt
  clear hb hz hsz
  have cc := draw5_any (w.heap.size + 2) a len cap zs w2 cu hr
  go_wp2_with fail
  refine cc.mono ?_
  clear cc
  rintro e w3 ⟨v, d, rfl, os, htn, cu2, h3⟩
  have hs3 := h3.size
  replace R := R.kept h3 (by intro e; injection e; omega)
  replace Q := Q.kept h3 (by intro e; injection e; omega)
  replace B := B.grown h3 B.size (fun k hk => by injection hk; omega)
  replace hr := hr.aside cu h3
  clear cu
  have cu := cu2
  clear cu2 h3
  have HTN : Hid (tinyS d) := htn
  clear htn
  obtain ⟨y1, y2, rfl, rr1, rr2⟩ := id os.at
  obtain ⟨oa, ka, rfl, -, -⟩ := id rr1
  obtain ⟨oc, kc, rfl, -, -⟩ := id rr2
  clear rr1 rr2
  obtain ⟨P1, BP⟩ := blk_1 33 w3 #[.slice oa d.attrs.length ka, .slice oc d.classes.length kc]
  replace R := R.below BP
  replace Q := Q.below BP
  replace B := B.trans (BP.mono B.size)
  replace hr := hr.later BP
  replace cu := cu.kept (grown_of_below BP) (by intro e; cases e)
  replace os := os.below7 BP
  clear BP
  have cc := draw8_any (w.heap.size + 2) a len cap zs _ d w2.heap.size (w3.alloc (.cells #[.slice oa d.attrs.length ka, .slice oc d.classes.length kc] 33)) cu hr os hg2 HTN.out
  have kP10 : (w3.alloc (.cells #[.slice oa d.attrs.length ka, .slice oc d.classes.length kc] 33)).cell? ⟨w3.heap.size, 0, none⟩ = some (.slice oa d.attrs.length ka) := P1.cell 0
  have kP11 : (w3.alloc (.cells #[.slice oa d.attrs.length ka, .slice oc d.classes.length kc] 33)).cell? ⟨w3.heap.size, 1, none⟩ = some (.slice oc d.classes.length kc) := P1.cell 1
  go_wp2_with fail
  refine cc.mono ?_
  clear cc kP10 kP11
  rintro e w4 ⟨v4, x, rfl, oE, hxl, cu2, h4⟩
  have hs4 := h4.size
  rw [World.size_alloc] at hs4
  obtain ⟨ob, kb, ob2, kb2, rfl⟩ := oE.form
  have oE := oE.base (b' := w2.heap.size) (by rw [World.size_alloc]; omega)
  replace R := R.kept h4 (by intro e; injection e; omega)
  replace Q := Q.kept h4 (by intro e; injection e; omega)
  replace B := B.grown h4 B.size (fun k hk => by injection hk; omega)
  replace os := os.curW7 (by omega) h4
  replace P1 := P1.kept h4 (by intro e; injection e; omega)
  replace hr := hr.aside cu h4
  clear cu
  have cu := cu2
  clear cu2 h4
  obtain ⟨P2, BP⟩ := blk_1 36 w4 #[.slice ob x.totals.length kb, .slice ob2 x.cells.length kb2]
  replace R := R.below BP
  replace Q := Q.below BP
  replace B := B.trans (BP.mono B.size)
  replace hr := hr.later BP
  replace cu := cu.kept (grown_of_below BP) (by intro e; cases e)
  replace os := os.below7 BP
  replace P1 := P1.below BP
  replace oE := oE.below BP
  clear BP
  have cP := pickN [0, 0, 1, 1, 2, 3, 4, 5, -1] (w.heap.size + 2) a len cap zs (w4.alloc (.cells #[.slice ob x.totals.length kb, .slice ob2 x.cells.length kb2] 36)) cu hr (by decide) (by decide)
  simp only [List.map_cons, List.map_nil, List.length_cons, List.length_nil, Nat.zero_add, Nat.reduceAdd] at cP
  rw [World.size_alloc] at cP
  go_wp2_with fail
  refine cP.mono ?_
  clear cP
  rintro e w5 ⟨z, rfl, hzl, cu2, h5⟩
  have hs5 := h5.size
  rw [World.size_alloc] at hs5
  have HZL : Hid (-1 ≤ z ∧ z ≤ 5) := by show _ ∧ _; simp at hzl; omega
  clear hzl
  replace R := R.kept h5 (by intro e; injection e; omega)
  replace Q := Q.kept h5 (by intro e; injection e; omega)
  replace B := B.grown h5 B.size (fun k hk => by injection hk; omega)
  replace os := os.curW7 (by omega) h5
  replace P1 := P1.kept h5 (by intro e; injection e; omega)
  replace oE := oE.curW (by omega) h5
  replace P2 := P2.kept h5 (by intro e; injection e; omega)
  replace hr := hr.aside cu h5
  clear cu
  have cu := cu2
  clear cu2 h5
  go_wp2_with fail
  have bd : Below w5.heap.size w5 w5.drew := below_drewN (Below.refl _ _) 1
  replace R := R.below bd
  replace Q := Q.below bd
  replace B := B.trans (bd.mono B.size)
  replace hr := hr.later bd
  replace cu := cu.kept (grown_of_below bd) (by intro e; cases e)
  replace os := os.below7 bd
  replace P1 := P1.below bd
  replace oE := oE.below bd
  replace P2 := P2.below bd
  clear bd
  refine wp_region_held_drew (S := fun w' => Blk 33 w' w3.heap.size #[.slice oa d.attrs.length ka, .slice oc d.classes.length kc] ∧ Blk 36 w' w4.heap.size #[.slice ob x.totals.length kb, .slice ob2 x.cells.length kb2] ∧ (∃ c0 c1, Blk 33 w' w.heap.size #[c0, c1]) ∧ (∃ c0 c1, Blk 36 w' (w.heap.size + 1) #[c0, c1])) (by kernel_rfl) ⟨P1, P2, ⟨_, _, R⟩, ⟨_, _, Q⟩⟩ ?_
  intro hS
  have hs6 : w4.heap.size + 1 ≤ w5.drew.heap.size := by have := P2.lt; omega
  generalize w5.drew = w6 at hs6 R Q B hr cu os P1 oE P2 hS ⊢
  refine takeL 0 (.agg #[.slice oa d.attrs.length ka, .slice oc d.classes.length kc]) rfl (by kernel_rfl) (by kernel_rfl) (by kernel_rfl) (fun _ _ _ h => h) (yields_row Try.underlying33 (by kernel_rfl) (by rfl) _ rfl _ rfl (fun _ h => h.1)) hS ?_
  try simp only [Act.put, List.setIfInBounds_toArray, List.set_cons_zero, List.set_cons_succ]
  refine takeL 1 (.agg #[.slice ob x.totals.length kb, .slice ob2 x.cells.length kb2]) rfl (by kernel_rfl) (by kernel_rfl) (by kernel_rfl) (fun _ _ _ h => h) (yields_row Try.underlying36 (by kernel_rfl) (by rfl) _ rfl _ rfl (fun _ h => h.2.1)) hS ?_
  try simp only [Act.put, List.setIfInBounds_toArray, List.set_cons_zero, List.set_cons_succ]
  refine takeL 2 (.int .i64 z) rfl (by kernel_rfl) (by kernel_rfl) (by kernel_rfl) (fun _ _ _ h => h) (.inl ⟨by rfl, fun w _ => by rfl⟩) hS ?_
  try simp only [Act.put, List.setIfInBounds_toArray, List.set_cons_zero, List.set_cons_succ]
  refine takeL 3 (.pointer (some ⟨w.heap.size + 2, 0, none⟩)) rfl (by kernel_rfl) (by kernel_rfl) (by kernel_rfl) (fun _ _ _ h => h) (yields_mvX (by rfl) _ rfl _ rfl) hS ?_
  try simp only [Act.put, List.setIfInBounds_toArray, List.set_cons_zero, List.set_cons_succ]
  have cP := once_any (w.heap.size + 2) a len cap zs 2 w6 cu hr (by decide) (by decide)
  refine nextL 4 rfl (by kernel_rfl) (by rfl) fun K hK => ?_
  go_simp
  refine cP.mono ?_
  clear cP
  rintro e w7 ⟨two, rfl, cu2, h7⟩
  replace R := R.kept h7 (by intro e; injection e; omega)
  replace Q := Q.kept h7 (by intro e; injection e; omega)
  replace B := B.grown h7 B.size (fun k hk => by injection hk; omega)
  replace os := os.curW7 (by omega) h7
  replace P1 := P1.kept h7 (by intro e; injection e; omega)
  replace oE := oE.curW (by omega) h7
  replace P2 := P2.kept h7 (by intro e; injection e; omega)
  replace hr := hr.aside cu h7
  clear cu
  have cu := cu2
  clear cu2 h7
  refine hK _ _ ⟨P1, P2, ⟨_, _, R⟩, ⟨_, _, Q⟩⟩ ?_
  clear hK K hS
  intro hS
  clear cu hr
  refine nextL 5 rfl (by kernel_rfl) (by rfl) fun K hK => ?_
  refine wp_store_row 33 _ _ rfl (w.heap.size) #[.slice oa d.attrs.length ka, .slice oc d.classes.length kc] rfl rfl _ _ R sch_size rfl (by simp [Value.oneCell']) ?_
  replace P1 := P1.setRow_other #[.slice oa d.attrs.length ka, .slice oc d.classes.length kc] (show w3.heap.size ≠ w.heap.size by omega)
  replace P2 := P2.setRow_other #[.slice oa d.attrs.length ka, .slice oc d.classes.length kc] (show w4.heap.size ≠ w.heap.size by omega)
  replace Q := Q.setRow_other #[.slice oa d.attrs.length ka, .slice oc d.classes.length kc] (show w.heap.size + 1 ≠ w.heap.size by omega)
  replace R := R.setRow #[.slice oa d.attrs.length ka, .slice oc d.classes.length kc]
  replace os := os.rowX #[.slice oa d.attrs.length ka, .slice oc d.classes.length kc] (show w.heap.size < w2.heap.size by omega)
  replace oE := oE.rowX8 #[.slice oa d.attrs.length ka, .slice oc d.classes.length kc] (show w.heap.size < w2.heap.size by omega)
  replace B := below_row B (show w.heap.size ≤ w.heap.size by omega) #[.slice oa d.attrs.length ka, .slice oc d.classes.length kc]
  refine hK _ _ ⟨P1, P2, ⟨_, _, R⟩, ⟨_, _, Q⟩⟩ ?_
  clear hK K hS
  intro hS
  try simp only [Act.put, List.setIfInBounds_toArray, List.set_cons_zero, List.set_cons_succ]
  refine nextL 6 rfl (by kernel_rfl) (by rfl) fun K hK => ?_
  refine wp_store_row 36 _ _ rfl (w.heap.size + 1) #[.slice ob x.totals.length kb, .slice ob2 x.cells.length kb2] rfl rfl _ _ Q st_size rfl (by simp [Value.oneCell']) ?_
  replace P1 := P1.setRow_other #[.slice ob x.totals.length kb, .slice ob2 x.cells.length kb2] (show w3.heap.size ≠ w.heap.size + 1 by omega)
  replace P2 := P2.setRow_other #[.slice ob x.totals.length kb, .slice ob2 x.cells.length kb2] (show w4.heap.size ≠ w.heap.size + 1 by omega)
  replace R := R.setRow_other #[.slice ob x.totals.length kb, .slice ob2 x.cells.length kb2] (show w.heap.size ≠ w.heap.size + 1 by omega)
  replace Q := Q.setRow #[.slice ob x.totals.length kb, .slice ob2 x.cells.length kb2]
  replace os := os.rowX #[.slice ob x.totals.length kb, .slice ob2 x.cells.length kb2] (show w.heap.size + 1 < w2.heap.size by omega)
  replace oE := oE.rowX8 #[.slice ob x.totals.length kb, .slice ob2 x.cells.length kb2] (show w.heap.size + 1 < w2.heap.size by omega)
  replace B := below_row B (show w.heap.size ≤ w.heap.size + 1 by omega) #[.slice ob x.totals.length kb, .slice ob2 x.cells.length kb2]
  refine hK _ _ ⟨P1, P2, ⟨_, _, R⟩, ⟨_, _, Q⟩⟩ ?_
  clear hK K hS
  intro hS
  try simp only [Act.put, List.setIfInBounds_toArray, List.set_cons_zero, List.set_cons_succ]
  refine takeL 7 (.int .i64 z) rfl (by kernel_rfl) (by kernel_rfl) (by kernel_rfl) (fun _ _ _ h => h) (.inl ⟨by rfl, fun w _ => by rfl⟩) hS ?_
  try simp only [Act.put, List.setIfInBounds_toArray, List.set_cons_zero, List.set_cons_succ]
  refine takeL 8 (.bool two) rfl (by kernel_rfl) (by kernel_rfl) (by kernel_rfl) (fun _ _ _ h => h) (.inl ⟨by rfl, fun w _ => by rfl⟩) hS ?_
  try simp only [Act.put, List.setIfInBounds_toArray, List.set_cons_zero, List.set_cons_succ]
  clear hS
  refine wpAnyH_done (by kernel_rfl) ?_ _
  go_wp2
  exact bodyPost_ret (res_d10b rfl _ _ _ _ _ _ _ _ rfl rfl R Q) rfl ⟨_, d, _, x, z, two, rfl, os.at, HTN.out, oE.at, hxl, HZL.out.1, HZL.out.2, B⟩
end Go.Proofs.Yteadkdllmeeocaa
/- Whether a code is too great. -/
namespace Go.Proofs.Yteadkdllmeeocaa
open Go.RowKit
set_option maxRecDepth 100000

theorem big_any (a : Option Addr) (len cap : Nat) (w : World) (hn : len ≤ 9223372036854775807) : Calls Try.prog 9 #[.slice a len cap] w fun e w' => e = .returned (.bool (decide (1048576 < len))) ∧ w' = w := by
  by_cases h : 1048576 < len
  all_goals
    go_enter Try.func9, Try.ntmps9
    go_wp2
    go_ret
    exact ⟨by simp; omega, rfl⟩
end Go.Proofs.Yteadkdllmeeocaa
/- What a branch has of each class, in plain words: cell by cell. -/
namespace Go.Proofs.Yteadkdllmeeocaa
open Go.RowKit
set_option maxRecDepth 100000
theorem totals_parts {s : SchemaD} {t : StatsD} {f : ForkD} {i : Int} (h : totalsOk s t f i = true) : statsOk s t = true ∧ t.cells.length ≠ 0 ∧ forkOk s f = true ∧ 0 ≤ i ∧ i ≤ branches s f - 1 := by
  unfold totalsOk at h
  rw [Bool.and_eq_true, Bool.and_eq_true, Bool.and_eq_true, decide_eq_true_eq, decide_eq_true_eq] at h
  exact ⟨h.1, h.2.1, h.2.2.1, h.2.2.2.1, h.2.2.2.2⟩
theorem cells_right {s : SchemaD} {t : StatsD} (h : statsOk s t = true) (h0 : t.cells.length ≠ 0) {a : Nat} (ha : a < s.attrs.length) :
    a < t.cells.length ∧ (il t.cells a).length = (bins (ad s.attrs a)).toNat * s.classes.length ∧ ∀ b k, b < (bins (ad s.attrs a)).toNat → k < s.classes.length → inW (colAt (il t.cells a) s.classes.length k b) = true := by
  unfold statsOk at h
  rw [Bool.and_eq_true, Bool.and_eq_true, Bool.and_eq_true, Bool.and_eq_true, Bool.or_eq_true] at h
  rcases h.2.2.2.2 with h1 | h1
  · exact absurd (of_decide_eq_true h1) h0
  · rw [Bool.and_eq_true, decide_eq_true_eq] at h1
    have h2 := h1.2
    rw [List.all_eq_true] at h2
    have hlt : a < t.cells.length := by omega
    have h3 := h2 a (List.mem_range.2 hlt)
    unfold cellOk at h3
    rw [Bool.and_eq_true, decide_eq_true_eq, List.all_eq_true] at h3
    have hb := (small_bins (ad s.attrs a)).1
    refine ⟨hlt, ?_, fun b k hb2 hk => ?_⟩
    · have h4 := h3.1
      have h5 : bins (ad s.attrs a) = ((bins (ad s.attrs a)).toNat : Int) := (Int.toNat_of_nonneg hb).symm
      rw [h5, ← Int.natCast_mul] at h4
      exact Int.ofNat.inj h4
    · have h4 := h3.2 k (List.mem_range.2 hk)
      unfold colOk at h4
      rw [Bool.and_eq_true] at h4
      have h5 := h4.1
      unfold colL at h5
      rw [List.all_map, List.all_eq_true] at h5
      exact h5 b (List.mem_range.2 hb2)
theorem place_parts {m n j : Nat} (hm : 0 < m) (hj : j < n * m) : j / m < n ∧ j % m < m ∧ j / m * m + j % m = j := by
  refine ⟨Nat.div_lt_of_lt_mul (by rw [Nat.mul_comm]; exact hj), Nat.mod_lt _ hm, ?_⟩
  rw [Nat.mul_comm]; exact Nat.div_add_mod j m
theorem place_col {c : List Int} {m n j : Nat} (hm : 0 < m) (hj : j < n * m) (hc : ∀ b k, b < n → k < m → inW (colAt c m k b) = true) : 0 ≤ c.getD j 0 ∧ c.getD j 0 ≤ 999 := by
  obtain ⟨h1, h2, h3⟩ := place_parts hm hj
  have := of_decide_eq_true (hc _ _ h1 h2)
  unfold colAt at this
  rwa [h3] at this
theorem plSum_le {s : SchemaD} {f : ForkD} {i : Int} {c : List Int} {m k n : Nat} (hm : 0 < m) (hc : ∀ b k, b < n → k < m → inW (colAt c m k b) = true) : ∀ p, p ≤ n * m → 0 ≤ plSum s f i c m k p ∧ plSum s f i c m k p ≤ p * 999 := by
  intro p
  induction p with
  | zero => intro _; constructor <;> exact Int.le_of_eq rfl
  | succ p ih =>
    intro hp
    have h1 := ih (by omega)
    have h2 := place_col hm (show p < n * m by omega) hc
    rw [plSum_succ]
    unfold plAt
    split <;> omega
/-- What stands in the list behind p places. -/
def curL (s : SchemaD) (f : ForkD) (i : Int) (c : List Int) (m p : Nat) : List Int := (List.range m).map fun k => plSum s f i c m k p
theorem curL_len (s : SchemaD) (f : ForkD) (i : Int) (c : List Int) (m p : Nat) : (curL s f i c m p).length = m := by simp [curL]
theorem curL_at {s : SchemaD} {f : ForkD} {i : Int} {c : List Int} {m p k : Nat} (hk : k < m) : (curL s f i c m p).getD k 0 = plSum s f i c m k p := by
  unfold curL
  rw [List.getD_eq_getElem?_getD, List.getElem?_map, List.getElem?_range hk]; rfl
theorem curL_zero (s : SchemaD) (f : ForkD) (i : Int) (c : List Int) (m : Nat) : curL s f i c m 0 = List.replicate m 0 := by
  have h : ∀ k : Nat, plSum s f i c m k 0 = 0 := fun _ => rfl
  unfold curL
  simp only [h]
  exact List.eq_replicate_iff.2 ⟨by simp, fun b hb => by obtain ⟨_, _, rfl⟩ := List.mem_map.1 hb; rfl⟩
theorem curL_hit {s : SchemaD} {f : ForkD} {i : Int} {c : List Int} {m p : Nat} (_hm : 0 < m) (hb : branchOf s f ((p / m : Nat) : Int) = i) : curL s f i c m (p + 1) = (curL s f i c m p).set (p % m) (plSum s f i c m (p % m) p + c.getD p 0) := by
  apply List.ext_getElem (by simp [curL])
  intro k h1 h2
  have hk : k < m := by simpa [curL] using h1
  rw [List.getElem_set]
  simp only [curL, List.getElem_map, List.getElem_range]
  by_cases e : p % m = k
  · rw [if_pos e, plSum_succ, e]
    unfold plAt
    rw [if_pos (And.intro e hb)]
  · rw [if_neg e, plSum_succ]
    unfold plAt
    rw [if_neg (fun h => e (And.left h))]; omega
theorem curL_miss {s : SchemaD} {f : ForkD} {i : Int} {c : List Int} {m p : Nat} (hb : ¬ branchOf s f ((p / m : Nat) : Int) = i) : curL s f i c m (p + 1) = curL s f i c m p := by
  unfold curL
  apply List.map_congr_left
  intro k _
  rw [plSum_succ]
  unfold plAt
  rw [if_neg (fun h => hb (And.right h))]; omega
theorem curL_all {s : SchemaD} {t : StatsD} {f : ForkD} {i : Int} (h : totalsOk s t f i = true) : branchTotals s t f i = curL s f i (il t.cells f.attr.toNat) s.classes.length ((bins (forkAttr s f)).toNat * s.classes.length) := by
  unfold branchTotals curL
  rw [if_pos h]
  apply List.map_congr_left
  intro k hk
  exact (plSum_all s f i _ _ k (List.mem_range.1 hk) _).symm
end Go.Proofs.Yteadkdllmeeocaa
/- What all branches have together, in plain words. -/
namespace Go.Proofs.Yteadkdllmeeocaa
open Go.RowKit
set_option maxRecDepth 100000
theorem bins_two {a : AttrD} (h : attrOk a = true) : 2 ≤ bins a := by
  have hk := ok_kind h
  unfold bins
  rw [if_pos h]
  by_cases h0 : a.vals.length = 0
  · rw [if_pos h0]; have := hk.1 h0; omega
  · rw [if_neg h0]
    have hc : a.cuts.length = 0 := by omega
    unfold attrOk at h
    rw [Bool.and_eq_true, if_pos hc] at h
    have h2 := h.2
    unfold choices at h2
    rw [Bool.and_eq_true, decide_eq_true_eq] at h2
    omega
theorem one_facts {s : SchemaD} {k : Nat} {p : Int} (h : forkOk s ⟨(k : Int), p⟩ = true) :
    k < s.attrs.length ∧ ∃ N nb : Nat, branches s ⟨(k : Int), p⟩ = (N : Int) ∧ bins (ad s.attrs k) = (nb : Int) ∧ 2 ≤ N ∧ N ≤ nb ∧ nb ≤ 4 ∧ (∀ b : Nat, b < nb → ∃ j : Nat, branchOf s ⟨(k : Int), p⟩ (b : Int) = (j : Int) ∧ j < N) ∧
      forkOk s ⟨(k : Int), -1⟩ = true ∧ branches s ⟨(k : Int), -1⟩ = (nb : Int) ∧ (∀ b : Nat, b < nb → branchOf s ⟨(k : Int), -1⟩ (b : Int) = (b : Int)) := by
  obtain ⟨h1, ⟨k', h2, h3, h4⟩, h5, h6⟩ := fork_parts h
  obtain rfl : k = k' := Int.ofNat.inj h2
  have hok := sch_attr h1 h3
  have hb2 := bins_two hok
  have hb4 := (small_bins (ad s.attrs k)).2
  obtain ⟨nb, hnb⟩ := Int.eq_ofNat_of_zero_le (show 0 ≤ bins (ad s.attrs k) by omega)
  have hf1 : forkAttr s ⟨(k : Int), p⟩ = ad s.attrs k := rfl
  have hf2 : forkAttr s ⟨(k : Int), -1⟩ = ad s.attrs k := rfl
  have h0 : forkOk s ⟨(k : Int), -1⟩ = true := by
    unfold forkOk forkTop
    rw [h1, hf2, Bool.and_eq_true, Bool.and_eq_true, decide_eq_true_eq, decide_eq_true_eq]
    refine ⟨rfl, ⟨by show 0 ≤ (k : Int); omega, by show (k : Int) ≤ _; omega⟩, by show (-1 : Int) ≤ -1; omega, ?_⟩
    show (-1 : Int) ≤ _
    split <;> omega
  have hbr0 : branches s ⟨(k : Int), -1⟩ = (nb : Int) := by unfold branches; rw [if_pos h0, if_pos rfl, hf2, hnb]
  have hbo0 : ∀ b : Nat, b < nb → branchOf s ⟨(k : Int), -1⟩ (b : Int) = (b : Int) := fun b hb => by
    unfold branchOf
    rw [if_pos (And.intro h0 (And.intro (Int.natCast_nonneg _) (by rw [hf2, hnb]; omega))), if_pos rfl]
  refine ⟨h3, ?_⟩
  by_cases hp : p = -1
  · subst hp
    exact ⟨nb, nb, hbr0, hnb, by omega, Nat.le_refl _, by omega, fun b hb => ⟨b, hbo0 b hb, hb⟩, h0, hbr0, hbo0⟩
  · have hbr : branches s ⟨(k : Int), p⟩ = 2 := by unfold branches; rw [if_pos h, if_neg hp]
    refine ⟨2, nb, hbr, hnb, Nat.le_refl _, by omega, by omega, fun b hb => ?_, h0, hbr0, hbo0⟩
    have hbo : branchOf s ⟨(k : Int), p⟩ (b : Int) = if 0 < (ad s.attrs k).cuts.length then (if p < (b : Int) then 1 else 0) else (if (b : Int) = p then 0 else 1) := by
      unfold branchOf
      rw [if_pos (And.intro h (And.intro (Int.natCast_nonneg _) (by rw [hf1, hnb]; omega))), if_neg hp, hf1]
    rw [hbo]
    split <;> split
    · exact ⟨1, rfl, by omega⟩
    · exact ⟨0, rfl, by omega⟩
    · exact ⟨0, rfl, by omega⟩
    · exact ⟨1, rfl, by omega⟩
/-- What the first branches have together of a class. -/
def accB (s : SchemaD) (f : ForkD) (c : List Int) (m n k : Nat) : Nat → Int
  | 0 => 0
  | i + 1 => accB s f c m n k i + brSum s f (i : Int) c m k n
theorem accB_bin (s : SchemaD) (f : ForkD) (c : List Int) (m n k : Nat) : ∀ N : Nat, accB s f c m (n + 1) k N = accB s f c m n k N + if 0 ≤ branchOf s f (n : Int) ∧ branchOf s f (n : Int) < (N : Int) then colAt c m k n else 0 := by
  intro N
  induction N with
  | zero => rw [if_neg (by omega)]; rfl
  | succ N ih =>
    show accB s f c m (n + 1) k N + brSum s f (N : Int) c m k (n + 1) = accB s f c m n k N + brSum s f (N : Int) c m k n + _
    rw [ih, brSum_succ]
    unfold brAt
    generalize branchOf s f (n : Int) = z
    by_cases h1 : 0 ≤ z ∧ z < (N : Int)
    · rw [if_pos h1, if_neg (show ¬ z = (N : Int) by omega), if_pos (show 0 ≤ z ∧ z < ((N + 1 : Nat) : Int) by omega)]; omega
    · by_cases h2 : z = (N : Int)
      · rw [if_neg h1, if_pos h2, if_pos (show 0 ≤ z ∧ z < ((N + 1 : Nat) : Int) by omega)]; omega
      · rw [if_neg h1, if_neg h2, if_neg (show ¬ (0 ≤ z ∧ z < ((N + 1 : Nat) : Int)) by omega)]; omega
theorem accB_all {s : SchemaD} {f : ForkD} {c : List Int} {m k N : Nat} : ∀ n, (∀ b : Nat, b < n → ∃ j : Nat, branchOf s f (b : Int) = (j : Int) ∧ j < N) → accB s f c m n k N = sumL (colL c m k n) := by
  intro n
  induction n with
  | zero =>
    intro _
    have : ∀ N, accB s f c m 0 k N = 0 := by
      intro N
      induction N with
      | zero => rfl
      | succ N ih => show accB s f c m 0 k N + 0 = 0; rw [ih]; rfl
    rw [this]; rfl
  | succ n ih =>
    intro h
    obtain ⟨j, h2, h3⟩ := h n (by omega)
    rw [accB_bin, ih (fun b hb => h b (by omega)), if_pos (by rw [h2]; omega), col_succ]
/-- The list of what the first i branches have together, of the first q classes one branch more. -/
def mixL (s : SchemaD) (f : ForkD) (c : List Int) (m n i q : Nat) : List Int := (List.range m).map fun k => if k < q then accB s f c m n k (i + 1) else accB s f c m n k i
theorem mixL_len (s : SchemaD) (f : ForkD) (c : List Int) (m n i q : Nat) : (mixL s f c m n i q).length = m := by simp [mixL]
theorem mixL_at {s : SchemaD} {f : ForkD} {c : List Int} {m n i q k : Nat} (hk : k < m) : (mixL s f c m n i q).getD k 0 = if k < q then accB s f c m n k (i + 1) else accB s f c m n k i := by
  unfold mixL
  rw [List.getD_eq_getElem?_getD, List.getElem?_map, List.getElem?_range hk]; rfl
theorem mixL_step {s : SchemaD} {f : ForkD} {c : List Int} {m n i q : Nat} (_hq : q < m) : mixL s f c m n i (q + 1) = (mixL s f c m n i q).set q (accB s f c m n q i + brSum s f (i : Int) c m q n) := by
  apply List.ext_getElem (by simp [mixL])
  intro k h1 h2
  rw [List.getElem_set]
  simp only [mixL, List.getElem_map, List.getElem_range]
  by_cases e : q = k
  · subst e
    rw [if_pos rfl, if_pos (by omega)]; rfl
  · rw [if_neg e]
    by_cases h : k < q
    · rw [if_pos h, if_pos (by omega)]
    · rw [if_neg h, if_neg (by omega)]
theorem mixL_next (s : SchemaD) (f : ForkD) (c : List Int) (m n i : Nat) : mixL s f c m n i m = mixL s f c m n (i + 1) 0 := by
  unfold mixL
  apply List.map_congr_left
  intro k hk
  rw [if_pos (List.mem_range.1 hk), if_neg (by omega)]
theorem mixL_zero (s : SchemaD) (f : ForkD) (c : List Int) (m n : Nat) : mixL s f c m n 0 0 = List.replicate m 0 := by
  unfold mixL
  exact List.eq_replicate_iff.2 ⟨by simp, fun b hb => by obtain ⟨k, _, rfl⟩ := List.mem_map.1 hb; rw [if_neg (by omega)]; rfl⟩
theorem mixL_same {s : SchemaD} {f g : ForkD} {c : List Int} {m n N M : Nat} (h1 : ∀ b : Nat, b < n → ∃ j : Nat, branchOf s f (b : Int) = (j : Int) ∧ j < N) (h2 : ∀ b : Nat, b < n → ∃ j : Nat, branchOf s g (b : Int) = (j : Int) ∧ j < M) : mixL s f c m n N 0 = mixL s g c m n M 0 := by
  unfold mixL
  apply List.map_congr_left
  intro k _
  rw [if_neg (by omega), if_neg (by omega), accB_all n h1, accB_all n h2]
theorem accB_le {s : SchemaD} {f : ForkD} {c : List Int} {m k n : Nat} (h : ∀ b, b < n → inW (colAt c m k b) = true) : ∀ N, 0 ≤ accB s f c m n k N ∧ accB s f c m n k N ≤ N * (n * 999) := by
  intro N
  induction N with
  | zero => constructor <;> exact Int.le_of_eq (by simp [accB])
  | succ N ih =>
    have h1 := brSum_le (s := s) (f := f) (i := (N : Int)) n h
    have e : ((N + 1 : Nat) : Int) * ((n : Int) * 999) = (N : Int) * ((n : Int) * 999) + (n : Int) * 999 := by rw [Int.natCast_add, Int.add_mul]; simp
    rw [e]
    show 0 ≤ accB s f c m n k N + _ ∧ accB s f c m n k N + _ ≤ _
    omega
theorem totals_at {s : SchemaD} {t : StatsD} {f : ForkD} {i : Int} (h : totalsOk s t f i = true) : (branchTotals s t f i).length = s.classes.length ∧ ∀ k, k < s.classes.length → (branchTotals s t f i).getD k 0 = brSum s f i (il t.cells f.attr.toNat) s.classes.length k (bins (forkAttr s f)).toNat := by
  unfold branchTotals
  rw [if_pos h]
  refine ⟨by simp, fun k hk => ?_⟩
  rw [List.getD_eq_getElem?_getD, List.getElem?_map, List.getElem?_range hk]; rfl
theorem totalsOk_mk {s : SchemaD} {t : StatsD} {f : ForkD} {i : Nat} {N : Nat} (h1 : statsOk s t = true) (h2 : t.cells.length ≠ 0) (h3 : forkOk s f = true) (h4 : branches s f = (N : Int)) (h5 : i < N) : totalsOk s t f (i : Int) = true := by
  unfold totalsOk
  rw [h1, decide_eq_true h2, h3, h4, decide_eq_true (show 0 ≤ (i : Int) ∧ (i : Int) ≤ (N : Int) - 1 by omega)]; rfl
end Go.Proofs.Yteadkdllmeeocaa
