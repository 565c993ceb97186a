/- Texts of this claim, put together: part 21. -/
import Derived.Test.YtobimpgapfecoabBranchTotalsPack20
import Derived.Test.YtobimpgapfecoabBranchTotalsPack10
import Derived.Test.YtobimpgapfecoabBranchTotalsPack3
import Derived.Test.YtobimpgapfecoabBranchTotalsPack14
import Derived.Test.YtobimpgapfecoabBranchTotalsPack1
/- Whether counts are right and not thin, by the program. -/
namespace Go.Proofs.Ytobimpgapfecoab
open Go.RowKit
set_option maxRecDepth 100000
set_option linter.unusedSimpArgs false
theorem counted_yes {s : SchemaD} {t : StatsD} (h : (statsOk s t && decide (t.cells.length ≠ 0)) = true) : statsOk s t = true ∧ t.cells.length ≠ 0 := by
  rw [Bool.and_eq_true, decide_eq_true_eq] at h
  exact h
theorem counted_any (vs vt : Value) (s : SchemaD) (t : StatsD) (w : World) (hs : SchemaAt w vs s) (ht : StatsAt w vt t) (hn : okSch s) (hb : okSt t) :
    Calls Try.prog 69 #[vs, vt] w fun e w' => e = .returned (.bool (statsOk s t && decide (t.cells.length ≠ 0))) ∧ Below w.heap.size w w' := by
  have c1 := fun W h => implStatsOk_any vs vt s t W (hs.later h) (ht.later h) hn hb
  have c2 := fun W h => thin_any vt t W (ht.later h)
  obtain ⟨va, vc, rfl, ra, rc⟩ := hs
  obtain ⟨oa, ka, rfl, -, -⟩ := id ra
  obtain ⟨oc, kc, rfl, -, -⟩ := id rc
  obtain ⟨vx, vy, rfl, rx, ry⟩ := ht
  obtain ⟨ox, kx, rfl, -, -⟩ := id rx
  obtain ⟨oy, ky, rfl, -, -⟩ := id ry
  clear ra rc rx ry hn hb
  obtain ⟨KS, KT, B⟩ := blk_2 40 35 w #[.slice oa s.attrs.length ka, .slice oc s.classes.length kc] #[.slice ox t.totals.length kx, .slice oy t.cells.length ky]
  have d1 := c1 _ B
  generalize hW : (w.alloc (.cells #[.slice oa s.attrs.length ka, .slice oc s.classes.length kc] 40)).alloc (.cells #[.slice ox t.totals.length kx, .slice oy t.cells.length ky] 35) = w1 at *
  clear c1
  have kS0 := KS.cell 0
  have kS1 := KS.cell 1
  have kT0 := KT.cell 0
  have kT1 := KT.cell 1
  have hl0 : (t.cells.length : Int) = 0 ↔ t.cells.length = 0 := by omega
  have ENDT : Hid (∀ W, Below w.heap.size w W → Calls Try.prog 77 #[.agg #[.slice ox t.totals.length kx, .slice oy t.cells.length ky]] W fun e w' => e = .returned (.bool (decide (t.cells.length = 0))) ∧ Below W.heap.size W w') := c2
  clear c2 hl0
  cases hk : statsOk s t with
  | false =>
    rw [hk] at d1
    clear hk ENDT
    go_enter Try.func69, Try.ntmps69
    go_wp2_with fail
    refine d1.mono ?_
    clear d1
    rintro e w2 ⟨rfl, hb⟩
    clear kS0 kS1 kT0 kT1
    go_wp2
    go_ret
    exact ⟨rfl, B.trans (hb.mono B.size)⟩
  | true =>
    rw [hk] at d1
    clear hk
    go_enter Try.func69, Try.ntmps69
    go_wp2_with fail
    refine d1.mono ?_
    clear d1
    rintro e w2 ⟨rfl, hb⟩
    replace B := B.trans (hb.mono B.size)
    replace KT := KT.below hb
    clear kS0 kS1 kT0 kT1 hb KS hW
    have kT0 := KT.cell 0
    have kT1 := KT.cell 1
    have d2 := ENDT.out _ B
    clear ENDT
    go_wp2_with fail
    refine d2.mono ?_
    clear d2
    rintro e w3 ⟨rfl, hb⟩
    clear kT0 kT1
    by_cases h0 : t.cells.length = 0
    · rw [decide_eq_true h0]
      have HE : Hid (decide (t.cells.length ≠ 0) = false) := decide_eq_false fun h => h h0
      clear h0
      go_wp2
      go_ret
      exact ⟨by rw [HE.out]; rfl, B.trans (hb.mono B.size)⟩
    · rw [decide_eq_false h0]
      have HE : Hid (decide (t.cells.length ≠ 0) = true) := decide_eq_true h0
      clear h0
      go_wp2
      go_ret
      exact ⟨by rw [HE.out]; rfl, B.trans (hb.mono B.size)⟩
end Go.Proofs.Ytobimpgapfecoab
/- What is counted at a place of a list of cells, by the program. -/
namespace Go.Proofs.Ytobimpgapfecoab
open Go.RowKit
set_option maxRecDepth 100000
set_option linter.unusedSimpArgs false
theorem buildKeyA (a b : Int) (w : World) : (Instr.build 78 #[(0, .int .i64 a), (1, .int .i64 b)]).run Try.prog w = .ok (.agg #[.int .i64 a, .int .i64 b]) w := run_build w 78 _ _ (by kernel_rfl)
theorem key_size : (Try.prog.info? 78).map (·.size) = some 2 := by kernel_rfl
theorem yields_remA {ops : Array Oper} {S : World → Prop} {op : Oper} {a : Act} (hw : Region.wanted op (yielded ops a.tmps) = true) (x y : Operand) (ho : op.op = .binOp .rem 3 x y 3) (m n : Nat) (hx : a.eval x = .int .i64 (m : Int)) (hy : a.eval y = .int .i64 (n : Int))
    (_ : m ≤ 1099511627776) (h2 : 0 < n) : YieldsIf Try.prog ops S op (.int .i64 ((m % n : Nat) : Int)) a :=
  .inl ⟨hw, fun w hw' => by
    have e0 : (m : Int).tmod (n : Int) = ((m % n : Nat) : Int) := rfl
    have hle : m % n ≤ m := Nat.mod_le _ _
    unfold execOp
    simp only [ho, hx, hy]
    go_simp
    omega⟩
set_option maxHeartbeats 1600000 in
theorem keyAt_any (k m : Nat) (w : World) (hk : k ≤ 1099511627776) (hm : 0 < m) (hm2 : m ≤ 1099511627776) :
    Calls Try.prog 71 #[.int .i64 (k : Int), .int .i64 (m : Int)] w fun e w' => e = .returned (.agg #[.int .i64 ((k / m : Nat) : Int), .int .i64 ((k % m : Nat) : Int)]) ∧ Below w.heap.size w w' := by
  have hquo : (k : Int) / (m : Int) = ((k / m : Nat) : Int) := rfl
  have K0 := Blk.new 78 w #[.int .i64 0, .int .i64 0]
  have B : Below w.heap.size w (w.alloc (.cells #[.int .i64 0, .int .i64 0] 78)) := (Below.refl _ _).alloc (Nat.le_refl _) _
  go_enter Try.func71, Try.ntmps71
  go_wp2_with fail
  refine wp_region_held_drew (S := fun w' => Below w.heap.size w w') (by kernel_rfl) B.drew ?_
  intro hS
  have K3 := K0.below (Below.refl _ _).drew
  clear K0 B
  generalize (w.alloc (.cells #[.int .i64 0, .int .i64 0] 78)).drew = w3 at hS K3 ⊢
  refine takeL 0 (.int .i64 (k : Int)) rfl (by kernel_rfl) (by kernel_rfl) (by kernel_rfl) (fun _ _ _ h => h) (.inl ⟨by rfl, fun w _ => by rfl⟩) hS ?_
  simp only [Act.put, List.setIfInBounds_toArray, List.set_cons_zero, List.set_cons_succ]
  refine takeL 1 (.int .i64 (m : Int)) rfl (by kernel_rfl) (by kernel_rfl) (by kernel_rfl) (fun _ _ _ h => h) (.inl ⟨by rfl, fun w _ => by rfl⟩) hS ?_
  simp only [Act.put, List.setIfInBounds_toArray, List.set_cons_zero, List.set_cons_succ]
  refine takeL 2 (.int .i64 ((k : Int) / (m : Int))) rfl (by kernel_rfl) (by kernel_rfl) (by kernel_rfl) (fun _ _ _ h => h) (yields_quo (by rfl) _ _ rfl (k : Int) (m : Int) rfl rfl (by omega) (by omega) (by omega)) hS ?_
  simp only [Act.put, List.setIfInBounds_toArray, List.set_cons_zero, List.set_cons_succ, hquo]
  refine takeL 3 (.int .i64 (k : Int)) rfl (by kernel_rfl) (by kernel_rfl) (by kernel_rfl) (fun _ _ _ h => h) (.inl ⟨by rfl, fun w _ => by rfl⟩) hS ?_
  simp only [Act.put, List.setIfInBounds_toArray, List.set_cons_zero, List.set_cons_succ]
  refine takeL 4 (.int .i64 (m : Int)) rfl (by kernel_rfl) (by kernel_rfl) (by kernel_rfl) (fun _ _ _ h => h) (.inl ⟨by rfl, fun w _ => by rfl⟩) hS ?_
  simp only [Act.put, List.setIfInBounds_toArray, List.set_cons_zero, List.set_cons_succ]
  refine takeL 5 (.int .i64 ((k % m : Nat) : Int)) rfl (by kernel_rfl) (by kernel_rfl) (by kernel_rfl) (fun _ _ _ h => h) (yields_remA (by rfl) _ _ rfl k m rfl rfl (by omega) hm) hS ?_
  simp only [Act.put, List.setIfInBounds_toArray, List.set_cons_zero, List.set_cons_succ]
  refine takeL 6 (.agg #[.int .i64 ((k / m : Nat) : Int), .int .i64 ((k % m : Nat) : Int)]) rfl (by kernel_rfl) (by kernel_rfl) (by kernel_rfl) (fun _ _ _ h => h) (.inl ⟨by rfl, fun w _ => by have e := buildKeyA ((k / m : Nat) : Int) ((k % m : Nat) : Int) w; unfold execOp; simp only [List.map_toArray, List.map_cons, List.map_nil, Sem.run_bind]; exact (congrArg (fun r => Result.andThen r fun z w' => (pure (Next.value z) : Sem Next).run Try.prog w') e)⟩) hS ?_
  simp only [Act.put, List.setIfInBounds_toArray, List.set_cons_zero, List.set_cons_succ]
  refine nextL 7 rfl (by kernel_rfl) (by rfl) fun K hK => ?_
  refine wp_store_row 78 _ _ rfl w.heap.size #[.int .i64 ((k / m : Nat) : Int), .int .i64 ((k % m : Nat) : Int)] rfl rfl _ _ K3 key_size rfl (by simp [Value.oneCell']) ?_
  have K4 := K3.setRow #[.int .i64 ((k / m : Nat) : Int), .int .i64 ((k % m : Nat) : Int)]
  have hb4 := below_row hS (Nat.le_refl _) #[.int .i64 ((k / m : Nat) : Int), .int .i64 ((k % m : Nat) : Int)]
  clear K3
  refine hK _ _ hb4 ?_
  clear hK K hS
  generalize w3.setRow w.heap.size #[.int .i64 ((k / m : Nat) : Int), .int .i64 ((k % m : Nat) : Int)] = w4 at hb4 K4 ⊢
  intro hS
  simp only [Act.put]
  refine wpAnyH_done (by kernel_rfl) ?_ _
  go_wp2
  exact bodyPost_ret (results_cell_row Try.results71 _ _ w.heap.size _ _ _ _ rfl K4 Try.underlying78 rfl key_size) rfl ⟨rfl, hb4⟩
end Go.Proofs.Ytobimpgapfecoab
/- What a branch has of each class, in plain words: cell by cell. -/
namespace Go.Proofs.Ytobimpgapfecoab
open Go.RowKit
set_option maxRecDepth 100000
theorem totals_parts {s : SchemaD} {t : StatsD} {f : ForkD} {i : Int} (h : totalsOk s t f i = true) : statsOk s t = true ∧ t.cells.length ≠ 0 ∧ forkOk s f = true ∧ 0 ≤ i ∧ i ≤ branches s f - 1 := by
  unfold totalsOk at h
  rw [Bool.and_eq_true, Bool.and_eq_true, Bool.and_eq_true, decide_eq_true_eq, decide_eq_true_eq] at h
  exact ⟨h.1, h.2.1, h.2.2.1, h.2.2.2.1, h.2.2.2.2⟩
theorem cells_right {s : SchemaD} {t : StatsD} (h : statsOk s t = true) (h0 : t.cells.length ≠ 0) {a : Nat} (ha : a < s.attrs.length) :
    a < t.cells.length ∧ (il t.cells a).length = (bins (ad s.attrs a)).toNat * s.classes.length ∧ ∀ b k, b < (bins (ad s.attrs a)).toNat → k < s.classes.length → inW (colAt (il t.cells a) s.classes.length k b) = true := by
  unfold statsOk at h
  rw [Bool.and_eq_true, Bool.and_eq_true, Bool.and_eq_true, Bool.and_eq_true, Bool.or_eq_true] at h
  rcases h.2.2.2.2 with h1 | h1
  · exact absurd (of_decide_eq_true h1) h0
  · rw [Bool.and_eq_true, decide_eq_true_eq] at h1
    have h2 := h1.2
    rw [List.all_eq_true] at h2
    have hlt : a < t.cells.length := by omega
    have h3 := h2 a (List.mem_range.2 hlt)
    unfold cellOk at h3
    rw [Bool.and_eq_true, decide_eq_true_eq, List.all_eq_true] at h3
    have hb := (small_bins (ad s.attrs a)).1
    refine ⟨hlt, ?_, fun b k hb2 hk => ?_⟩
    · have h4 := h3.1
      have h5 : bins (ad s.attrs a) = ((bins (ad s.attrs a)).toNat : Int) := (Int.toNat_of_nonneg hb).symm
      rw [h5, ← Int.natCast_mul] at h4
      exact Int.ofNat.inj h4
    · have h4 := h3.2 k (List.mem_range.2 hk)
      unfold colOk at h4
      rw [Bool.and_eq_true] at h4
      have h5 := h4.1
      unfold colL at h5
      rw [List.all_map, List.all_eq_true] at h5
      exact h5 b (List.mem_range.2 hb2)
theorem place_parts {m n j : Nat} (hm : 0 < m) (hj : j < n * m) : j / m < n ∧ j % m < m ∧ j / m * m + j % m = j := by
  refine ⟨Nat.div_lt_of_lt_mul (by rw [Nat.mul_comm]; exact hj), Nat.mod_lt _ hm, ?_⟩
  rw [Nat.mul_comm]; exact Nat.div_add_mod j m
theorem place_col {c : List Int} {m n j : Nat} (hm : 0 < m) (hj : j < n * m) (hc : ∀ b k, b < n → k < m → inW (colAt c m k b) = true) : 0 ≤ c.getD j 0 ∧ c.getD j 0 ≤ 999 := by
  obtain ⟨h1, h2, h3⟩ := place_parts hm hj
  have := of_decide_eq_true (hc _ _ h1 h2)
  unfold colAt at this
  rwa [h3] at this
theorem plSum_le {s : SchemaD} {f : ForkD} {i : Int} {c : List Int} {m k n : Nat} (hm : 0 < m) (hc : ∀ b k, b < n → k < m → inW (colAt c m k b) = true) : ∀ p, p ≤ n * m → 0 ≤ plSum s f i c m k p ∧ plSum s f i c m k p ≤ p * 999 := by
  intro p
  induction p with
  | zero => intro _; constructor <;> exact Int.le_of_eq rfl
  | succ p ih =>
    intro hp
    have h1 := ih (by omega)
    have h2 := place_col hm (show p < n * m by omega) hc
    rw [plSum_succ]
    unfold plAt
    split <;> omega
/-- What stands in the list behind p places. -/
def curL (s : SchemaD) (f : ForkD) (i : Int) (c : List Int) (m p : Nat) : List Int := (List.range m).map fun k => plSum s f i c m k p
theorem curL_len (s : SchemaD) (f : ForkD) (i : Int) (c : List Int) (m p : Nat) : (curL s f i c m p).length = m := by simp [curL]
theorem curL_at {s : SchemaD} {f : ForkD} {i : Int} {c : List Int} {m p k : Nat} (hk : k < m) : (curL s f i c m p).getD k 0 = plSum s f i c m k p := by
  unfold curL
  rw [List.getD_eq_getElem?_getD, List.getElem?_map, List.getElem?_range hk]; rfl
theorem curL_zero (s : SchemaD) (f : ForkD) (i : Int) (c : List Int) (m : Nat) : curL s f i c m 0 = List.replicate m 0 := by
  have h : ∀ k : Nat, plSum s f i c m k 0 = 0 := fun _ => rfl
  unfold curL
  simp only [h]
  exact List.eq_replicate_iff.2 ⟨by simp, fun b hb => by obtain ⟨_, _, rfl⟩ := List.mem_map.1 hb; rfl⟩
theorem curL_hit {s : SchemaD} {f : ForkD} {i : Int} {c : List Int} {m p : Nat} (_hm : 0 < m) (hb : branchOf s f ((p / m : Nat) : Int) = i) : curL s f i c m (p + 1) = (curL s f i c m p).set (p % m) (plSum s f i c m (p % m) p + c.getD p 0) := by
  apply List.ext_getElem (by simp [curL])
  intro k h1 h2
  have hk : k < m := by simpa [curL] using h1
  rw [List.getElem_set]
  simp only [curL, List.getElem_map, List.getElem_range]
  by_cases e : p % m = k
  · rw [if_pos e, plSum_succ, e]
    unfold plAt
    rw [if_pos (And.intro e hb)]
  · rw [if_neg e, plSum_succ]
    unfold plAt
    rw [if_neg (fun h => e (And.left h))]; omega
theorem curL_miss {s : SchemaD} {f : ForkD} {i : Int} {c : List Int} {m p : Nat} (hb : ¬ branchOf s f ((p / m : Nat) : Int) = i) : curL s f i c m (p + 1) = curL s f i c m p := by
  unfold curL
  apply List.map_congr_left
  intro k _
  rw [plSum_succ]
  unfold plAt
  rw [if_neg (fun h => hb (And.right h))]; omega
theorem curL_all {s : SchemaD} {t : StatsD} {f : ForkD} {i : Int} (h : totalsOk s t f i = true) : branchTotals s t f i = curL s f i (il t.cells f.attr.toNat) s.classes.length ((bins (forkAttr s f)).toNat * s.classes.length) := by
  unfold branchTotals curL
  rw [if_pos h]
  apply List.map_congr_left
  intro k hk
  exact (plSum_all s f i _ _ k (List.mem_range.1 hk) _).symm
end Go.Proofs.Ytobimpgapfecoab
/- Rows beside blocks of another kind. -/
namespace Go.Proofs.Ytobimpgapfecoab
open Go.RowKit
set_option maxRecDepth 100000
theorem apart_d {w : World} {v v' : Value} {b b' e e' s s' n n' : Nat} {xs xs' : List Value} (h : w.ownsRow b e s v n xs) (h' : w.ownsRow b' e' s' v' n' xs') (he : e ≠ e') : v.ownBlock = none ∨ v.ownBlock ≠ v'.ownBlock := by
  rcases h.2 with ⟨rfl, _⟩ | ⟨g, cap, cur, rfl, _, hc, _⟩
  · exact .inl rfl
  · refine .inr fun eq => ?_
    rcases h'.2 with ⟨rfl, _⟩ | ⟨g', cap', cur', rfl, _, hc', _⟩
    · cases eq
    · injection eq with eq
      simp only at eq
      subst eq
      rw [hc] at hc'
      injection hc' with hc'
      injection hc' with _ h2 _
      exact he h2
theorem own_ne_blk {w : World} {v : Value} {b e s n p : Nat} {t : TypeId} {cs : Array Value} {xs : List Value} (h : w.ownsRow b e s v n xs) (hp : Blk t w p cs) (he : e ≠ t) : v.ownBlock ≠ some p := by
  rcases h.2 with ⟨rfl, _⟩ | ⟨g, cap, cur, rfl, _, hc, _⟩
  · intro e'; cases e'
  · intro e'
    injection e' with e'
    simp only at e'
    subst e'
    unfold Blk at hp
    rw [hc] at hp
    injection hp with hp
    injection hp with _ h2 _
    exact he h2
theorem own_setCellN {w : World} {base e s n : Nat} {v : Value} {xs : List Value} (h : w.ownsRow base e s v n xs) (p k : Nat) (u : Value) (hp : v.ownBlock ≠ some p) : (w.setCell ⟨p, k, none⟩ u).ownsRow base e s v n xs := by
  refine ⟨h.1, ?_⟩
  rcases h.2 with h' | ⟨g, cap, cur, rfl, hg, hc, r⟩
  · exact .inl h'
  · refine .inr ⟨g, cap, cur, rfl, hg, ?_, r⟩
    have : p ≠ g := fun e => hp (by rw [e]; rfl)
    simp only [World.setCell, Array.getElem?_modify]
    rw [if_neg this]; exact hc
theorem own_setRowN {w : World} {base e s n : Nat} {v : Value} {xs : List Value} (h : w.ownsRow base e s v n xs) (p : Nat) (c : Array Value) (hp : v.ownBlock ≠ some p) : (w.setRow p c).ownsRow base e s v n xs := by
  refine ⟨h.1, ?_⟩
  rcases h.2 with h' | ⟨g, cap, cur, rfl, hg, hc, r⟩
  · exact .inl h'
  · refine .inr ⟨g, cap, cur, rfl, hg, ?_, r⟩
    have : g ≠ p := fun e => hp (by rw [← e]; rfl)
    rw [Go.setRow_other w p g c this]; exact hc
end Go.Proofs.Ytobimpgapfecoab
