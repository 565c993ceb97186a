/- Texts of this claim, put together: part 24. -/
import Derived.Test.YtobimpgapfecoaaFnOneBranchPack2
import Derived.Test.YtobimpgapfecoaaFnOneBranchPack23
import Derived.Test.YtobimpgapfecoaaFnOneBranchPack7
import Derived.Test.YtobimpgapfecoaaFnOneBranchPack3
/- What the laws on great numbers ask besides: whether a code is too great, whether two lists are the same. -/
namespace Go.Proofs.Ytobimpgapfecoaa
open Go.RowKit
set_option maxRecDepth 100000

set_option maxHeartbeats 800000 in
theorem same_any (v1 v2 : Value) (xs ys : List Int) (w : World) (h1 : RowI w v1 xs) (h2 : RowI w v2 ys) (hn1 : xs.length ≤ 140737488351232) (_hn2 : ys.length ≤ 140737488351232) :
    Calls Try.prog 30 #[v1, v2] w fun e w' => e = .returned (.bool (decide (xs = ys))) ∧ Below w.heap.size w w' := by
  obtain ⟨o1, c1, rfl, _, hr1⟩ := h1
  obtain ⟨o2, c2, rfl, _, hr2⟩ := h2
  by_cases hl : xs.length = ys.length
  · have HR1 : Hid (0 < xs.length → ∃ g o, o1 = some ⟨g, o, none⟩ ∧ g < w.heap.size ∧ ∀ j, j < xs.length → w.cell? ⟨g, o + j, none⟩ = some (.int .i64 (xs.getD j 0))) := hr1
    have HR2 : Hid (0 < xs.length → ∃ g o, o2 = some ⟨g, o, none⟩ ∧ g < w.heap.size ∧ ∀ j, j < xs.length → w.cell? ⟨g, o + j, none⟩ = some (.int .i64 (ys.getD j 0))) := fun h => by rw [hl] at h ⊢; exact hr2 h
    have HEX : Hid ((∀ j, j < xs.length → xs.getD j 0 = ys.getD j 0) → xs = ys) := fun h => by
      apply List.ext_getElem hl
      intro j g1 g2
      have := h j g1
      rw [List.getD_eq_getElem?_getD, List.getD_eq_getElem?_getD, List.getElem?_eq_getElem g1, List.getElem?_eq_getElem g2] at this
      exact this
    rw [← hl]
    obtain ⟨n, hnn⟩ : ∃ n, xs.length = n := ⟨_, rfl⟩
    rw [hnn] at HR1 HR2 HEX hn1 ⊢
    clear hr1 hr2 hl _hn2 hnn
    go_enter Try.func30, Try.ntmps30
    go_wp2
    go_loopw [5] (fun i wr => ∃ k : Nat, i = .int .i64 (k : Int) ∧ k ≤ n ∧ Hid (∀ j, j < k → xs.getD j 0 = ys.getD j 0) ∧ ∃ q, wr = w.drewN q) (fun i _ => n - (intOf i).toNat)
    case atStart => exact ⟨0, rfl, by omega, (fun j hj => by omega), 0, rfl⟩
    case round =>
      obtain ⟨k, rfl, hk, hall, q, rfl⟩ := hrel
      by_cases hlt : k < n
      · obtain ⟨g1, p1, rfl, _, hc1⟩ := HR1.out (by omega)
        obtain ⟨g2, p2, rfl, _, hc2⟩ := HR2.out (by omega)
        have d1 : w.cell? ⟨g1, p1 + k, none⟩ = some (.int .i64 (xs.getD k 0)) := hc1 k hlt
        have d2 : w.cell? ⟨g2, p2 + k, none⟩ = some (.int .i64 (ys.getD k 0)) := hc2 k hlt
        have HN : Hid (xs.getD k 0 ≠ ys.getD k 0 → ¬ xs = ys) := fun h e => h (by rw [e])
        have HK : Hid (xs.getD k 0 = ys.getD k 0 → ∀ j, j < k + 1 → xs.getD j 0 = ys.getD j 0) := fun h j hj => by
          by_cases e : j = k
          · subst e; exact h
          · exact hall.out j (by omega)
        generalize xs.getD k 0 = X at d1 HN HK
        generalize ys.getD k 0 = Y at d2 HN HK
        clear hc1 hc2
        by_cases e : X = Y
        · subst e
          go_wp2
          go_quiet (fail)
          all_goals go_wp2
          all_goals go_roundw
          case rel => exact ⟨k + 1, by go_num, by omega, HK.out (by first | rfl | trivial), _, by first | rfl | (simp only [World.drewN_drewN]; rfl)⟩
          case measure => simp [intOf]; omega
        · have hD : decide (xs = ys) = false := decide_eq_false (HN.out e)
          have HD : Hid (decide (xs = ys) = false) := hD
          have hb : (X != Y) = true := by simp [e]
          clear hD
          go_wp2
          go_quiet (fail)
          all_goals go_wp2
          go_ret
          refine ⟨?_, below_drewN (below_drewN (Below.refl _ _) _) _⟩
          rw [HD.out]; rfl
      · obtain rfl : k = n := by omega
        have HD : Hid (decide (xs = ys) = true) := decide_eq_true (HEX.out hall.out)
        go_wp2
        go_ret
        refine ⟨?_, below_drewN (Below.refl _ _) _⟩
        rw [HD.out]; rfl
  · have HD : Hid (decide (xs = ys) = false) := decide_eq_false fun e => hl (by rw [e])
    have hb : ((xs.length : Int) != (ys.length : Int)) = true := by simp; omega
    clear hr1 hr2
    generalize xs.length = n at hb hn1 hl
    generalize ys.length = m at hb _hn2 hl
    go_enter Try.func30, Try.ntmps30
    go_wp2
    go_ret
    refine ⟨?_, Below.refl _ _⟩
    rw [HD.out]; rfl

theorem cmpN_turn (m n : Nat) : cmpN n m = - cmpN m n ∧ -1 ≤ cmpN m n ∧ cmpN m n ≤ 1 ∧ (cmpN m n = 0 ↔ m = n) ∧ (0 ≤ cmpN m n ↔ n ≤ m) := by
  unfold cmpN
  rcases Nat.lt_trichotomy m n with h | h | h
  · rw [if_pos h, if_neg (by omega), if_neg (by omega)]; omega
  · subst h; rw [if_neg (by omega), if_pos rfl]; omega
  · rw [if_pos h, if_neg (show ¬ m < n by omega), if_neg (show ¬ m = n by omega)]; omega
end Go.Proofs.Ytobimpgapfecoaa
/- What a branch has of each class, in plain words: cell by cell. -/
namespace Go.Proofs.Ytobimpgapfecoaa
open Go.RowKit
set_option maxRecDepth 100000
theorem totals_parts {s : SchemaD} {t : StatsD} {f : ForkD} {i : Int} (h : totalsOk s t f i = true) : statsOk s t = true ∧ t.cells.length ≠ 0 ∧ forkOk s f = true ∧ 0 ≤ i ∧ i ≤ branches s f - 1 := by
  unfold totalsOk at h
  rw [Bool.and_eq_true, Bool.and_eq_true, Bool.and_eq_true, decide_eq_true_eq, decide_eq_true_eq] at h
  exact ⟨h.1, h.2.1, h.2.2.1, h.2.2.2.1, h.2.2.2.2⟩
theorem cells_right {s : SchemaD} {t : StatsD} (h : statsOk s t = true) (h0 : t.cells.length ≠ 0) {a : Nat} (ha : a < s.attrs.length) :
    a < t.cells.length ∧ (il t.cells a).length = (bins (ad s.attrs a)).toNat * s.classes.length ∧ ∀ b k, b < (bins (ad s.attrs a)).toNat → k < s.classes.length → inW (colAt (il t.cells a) s.classes.length k b) = true := by
  unfold statsOk at h
  rw [Bool.and_eq_true, Bool.and_eq_true, Bool.and_eq_true, Bool.and_eq_true, Bool.or_eq_true] at h
  rcases h.2.2.2.2 with h1 | h1
  · exact absurd (of_decide_eq_true h1) h0
  · rw [Bool.and_eq_true, decide_eq_true_eq] at h1
    have h2 := h1.2
    rw [List.all_eq_true] at h2
    have hlt : a < t.cells.length := by omega
    have h3 := h2 a (List.mem_range.2 hlt)
    unfold cellOk at h3
    rw [Bool.and_eq_true, decide_eq_true_eq, List.all_eq_true] at h3
    have hb := (small_bins (ad s.attrs a)).1
    refine ⟨hlt, ?_, fun b k hb2 hk => ?_⟩
    · have h4 := h3.1
      have h5 : bins (ad s.attrs a) = ((bins (ad s.attrs a)).toNat : Int) := (Int.toNat_of_nonneg hb).symm
      rw [h5, ← Int.natCast_mul] at h4
      exact Int.ofNat.inj h4
    · have h4 := h3.2 k (List.mem_range.2 hk)
      unfold colOk at h4
      rw [Bool.and_eq_true] at h4
      have h5 := h4.1
      unfold colL at h5
      rw [List.all_map, List.all_eq_true] at h5
      exact h5 b (List.mem_range.2 hb2)
theorem place_parts {m n j : Nat} (hm : 0 < m) (hj : j < n * m) : j / m < n ∧ j % m < m ∧ j / m * m + j % m = j := by
  refine ⟨Nat.div_lt_of_lt_mul (by rw [Nat.mul_comm]; exact hj), Nat.mod_lt _ hm, ?_⟩
  rw [Nat.mul_comm]; exact Nat.div_add_mod j m
theorem place_col {c : List Int} {m n j : Nat} (hm : 0 < m) (hj : j < n * m) (hc : ∀ b k, b < n → k < m → inW (colAt c m k b) = true) : 0 ≤ c.getD j 0 ∧ c.getD j 0 ≤ 999 := by
  obtain ⟨h1, h2, h3⟩ := place_parts hm hj
  have := of_decide_eq_true (hc _ _ h1 h2)
  unfold colAt at this
  rwa [h3] at this
theorem plSum_le {s : SchemaD} {f : ForkD} {i : Int} {c : List Int} {m k n : Nat} (hm : 0 < m) (hc : ∀ b k, b < n → k < m → inW (colAt c m k b) = true) : ∀ p, p ≤ n * m → 0 ≤ plSum s f i c m k p ∧ plSum s f i c m k p ≤ p * 999 := by
  intro p
  induction p with
  | zero => intro _; constructor <;> exact Int.le_of_eq rfl
  | succ p ih =>
    intro hp
    have h1 := ih (by omega)
    have h2 := place_col hm (show p < n * m by omega) hc
    rw [plSum_succ]
    unfold plAt
    split <;> omega
/-- What stands in the list behind p places. -/
def curL (s : SchemaD) (f : ForkD) (i : Int) (c : List Int) (m p : Nat) : List Int := (List.range m).map fun k => plSum s f i c m k p
theorem curL_len (s : SchemaD) (f : ForkD) (i : Int) (c : List Int) (m p : Nat) : (curL s f i c m p).length = m := by simp [curL]
theorem curL_at {s : SchemaD} {f : ForkD} {i : Int} {c : List Int} {m p k : Nat} (hk : k < m) : (curL s f i c m p).getD k 0 = plSum s f i c m k p := by
  unfold curL
  rw [List.getD_eq_getElem?_getD, List.getElem?_map, List.getElem?_range hk]; rfl
theorem curL_zero (s : SchemaD) (f : ForkD) (i : Int) (c : List Int) (m : Nat) : curL s f i c m 0 = List.replicate m 0 := by
  have h : ∀ k : Nat, plSum s f i c m k 0 = 0 := fun _ => rfl
  unfold curL
  simp only [h]
  exact List.eq_replicate_iff.2 ⟨by simp, fun b hb => by obtain ⟨_, _, rfl⟩ := List.mem_map.1 hb; rfl⟩
theorem curL_hit {s : SchemaD} {f : ForkD} {i : Int} {c : List Int} {m p : Nat} (_hm : 0 < m) (hb : branchOf s f ((p / m : Nat) : Int) = i) : curL s f i c m (p + 1) = (curL s f i c m p).set (p % m) (plSum s f i c m (p % m) p + c.getD p 0) := by
  apply List.ext_getElem (by simp [curL])
  intro k h1 h2
  have hk : k < m := by simpa [curL] using h1
  rw [List.getElem_set]
  simp only [curL, List.getElem_map, List.getElem_range]
  by_cases e : p % m = k
  · rw [if_pos e, plSum_succ, e]
    unfold plAt
    rw [if_pos (And.intro e hb)]
  · rw [if_neg e, plSum_succ]
    unfold plAt
    rw [if_neg (fun h => e (And.left h))]; omega
theorem curL_miss {s : SchemaD} {f : ForkD} {i : Int} {c : List Int} {m p : Nat} (hb : ¬ branchOf s f ((p / m : Nat) : Int) = i) : curL s f i c m (p + 1) = curL s f i c m p := by
  unfold curL
  apply List.map_congr_left
  intro k _
  rw [plSum_succ]
  unfold plAt
  rw [if_neg (fun h => hb (And.right h))]; omega
theorem curL_all {s : SchemaD} {t : StatsD} {f : ForkD} {i : Int} (h : totalsOk s t f i = true) : branchTotals s t f i = curL s f i (il t.cells f.attr.toNat) s.classes.length ((bins (forkAttr s f)).toNat * s.classes.length) := by
  unfold branchTotals curL
  rw [if_pos h]
  apply List.map_congr_left
  intro k hk
  exact (plSum_all s f i _ _ k (List.mem_range.1 hk) _).symm
end Go.Proofs.Ytobimpgapfecoaa
/- What all branches have together, in plain words. -/
namespace Go.Proofs.Ytobimpgapfecoaa
open Go.RowKit
set_option maxRecDepth 100000
theorem bins_two {a : AttrD} (h : attrOk a = true) : 2 ≤ bins a := by
  have hk := ok_kind h
  unfold bins
  rw [if_pos h]
  by_cases h0 : a.vals.length = 0
  · rw [if_pos h0]; have := hk.1 h0; omega
  · rw [if_neg h0]
    have hc : a.cuts.length = 0 := by omega
    unfold attrOk at h
    rw [Bool.and_eq_true, if_pos hc] at h
    have h2 := h.2
    unfold choices at h2
    rw [Bool.and_eq_true, decide_eq_true_eq] at h2
    omega
theorem one_facts {s : SchemaD} {k : Nat} {p : Int} (h : forkOk s ⟨(k : Int), p⟩ = true) :
    k < s.attrs.length ∧ ∃ N nb : Nat, branches s ⟨(k : Int), p⟩ = (N : Int) ∧ bins (ad s.attrs k) = (nb : Int) ∧ 2 ≤ N ∧ N ≤ nb ∧ nb ≤ 4 ∧ (∀ b : Nat, b < nb → ∃ j : Nat, branchOf s ⟨(k : Int), p⟩ (b : Int) = (j : Int) ∧ j < N) ∧
      forkOk s ⟨(k : Int), -1⟩ = true ∧ branches s ⟨(k : Int), -1⟩ = (nb : Int) ∧ (∀ b : Nat, b < nb → branchOf s ⟨(k : Int), -1⟩ (b : Int) = (b : Int)) := by
  obtain ⟨h1, ⟨k', h2, h3, h4⟩, h5, h6⟩ := fork_parts h
  obtain rfl : k = k' := Int.ofNat.inj h2
  have hok := sch_attr h1 h3
  have hb2 := bins_two hok
  have hb4 := (small_bins (ad s.attrs k)).2
  obtain ⟨nb, hnb⟩ := Int.eq_ofNat_of_zero_le (show 0 ≤ bins (ad s.attrs k) by omega)
  have hf1 : forkAttr s ⟨(k : Int), p⟩ = ad s.attrs k := rfl
  have hf2 : forkAttr s ⟨(k : Int), -1⟩ = ad s.attrs k := rfl
  have h0 : forkOk s ⟨(k : Int), -1⟩ = true := by
    unfold forkOk forkTop
    rw [h1, hf2, Bool.and_eq_true, Bool.and_eq_true, decide_eq_true_eq, decide_eq_true_eq]
    refine ⟨rfl, ⟨by show 0 ≤ (k : Int); omega, by show (k : Int) ≤ _; omega⟩, by show (-1 : Int) ≤ -1; omega, ?_⟩
    show (-1 : Int) ≤ _
    split <;> omega
  have hbr0 : branches s ⟨(k : Int), -1⟩ = (nb : Int) := by unfold branches; rw [if_pos h0, if_pos rfl, hf2, hnb]
  have hbo0 : ∀ b : Nat, b < nb → branchOf s ⟨(k : Int), -1⟩ (b : Int) = (b : Int) := fun b hb => by
    unfold branchOf
    rw [if_pos (And.intro h0 (And.intro (Int.natCast_nonneg _) (by rw [hf2, hnb]; omega))), if_pos rfl]
  refine ⟨h3, ?_⟩
  by_cases hp : p = -1
  · subst hp
    exact ⟨nb, nb, hbr0, hnb, by omega, Nat.le_refl _, by omega, fun b hb => ⟨b, hbo0 b hb, hb⟩, h0, hbr0, hbo0⟩
  · have hbr : branches s ⟨(k : Int), p⟩ = 2 := by unfold branches; rw [if_pos h, if_neg hp]
    refine ⟨2, nb, hbr, hnb, Nat.le_refl _, by omega, by omega, fun b hb => ?_, h0, hbr0, hbo0⟩
    have hbo : branchOf s ⟨(k : Int), p⟩ (b : Int) = if 0 < (ad s.attrs k).cuts.length then (if p < (b : Int) then 1 else 0) else (if (b : Int) = p then 0 else 1) := by
      unfold branchOf
      rw [if_pos (And.intro h (And.intro (Int.natCast_nonneg _) (by rw [hf1, hnb]; omega))), if_neg hp, hf1]
    rw [hbo]
    split <;> split
    · exact ⟨1, rfl, by omega⟩
    · exact ⟨0, rfl, by omega⟩
    · exact ⟨0, rfl, by omega⟩
    · exact ⟨1, rfl, by omega⟩
/-- What the first branches have together of a class. -/
def accB (s : SchemaD) (f : ForkD) (c : List Int) (m n k : Nat) : Nat → Int
  | 0 => 0
  | i + 1 => accB s f c m n k i + brSum s f (i : Int) c m k n
theorem accB_bin (s : SchemaD) (f : ForkD) (c : List Int) (m n k : Nat) : ∀ N : Nat, accB s f c m (n + 1) k N = accB s f c m n k N + if 0 ≤ branchOf s f (n : Int) ∧ branchOf s f (n : Int) < (N : Int) then colAt c m k n else 0 := by
  intro N
  induction N with
  | zero => rw [if_neg (by omega)]; rfl
  | succ N ih =>
    show accB s f c m (n + 1) k N + brSum s f (N : Int) c m k (n + 1) = accB s f c m n k N + brSum s f (N : Int) c m k n + _
    rw [ih, brSum_succ]
    unfold brAt
    generalize branchOf s f (n : Int) = z
    by_cases h1 : 0 ≤ z ∧ z < (N : Int)
    · rw [if_pos h1, if_neg (show ¬ z = (N : Int) by omega), if_pos (show 0 ≤ z ∧ z < ((N + 1 : Nat) : Int) by omega)]; omega
    · by_cases h2 : z = (N : Int)
      · rw [if_neg h1, if_pos h2, if_pos (show 0 ≤ z ∧ z < ((N + 1 : Nat) : Int) by omega)]; omega
      · rw [if_neg h1, if_neg h2, if_neg (show ¬ (0 ≤ z ∧ z < ((N + 1 : Nat) : Int)) by omega)]; omega
theorem accB_all {s : SchemaD} {f : ForkD} {c : List Int} {m k N : Nat} : ∀ n, (∀ b : Nat, b < n → ∃ j : Nat, branchOf s f (b : Int) = (j : Int) ∧ j < N) → accB s f c m n k N = sumL (colL c m k n) := by
  intro n
  induction n with
  | zero =>
    intro _
    have : ∀ N, accB s f c m 0 k N = 0 := by
      intro N
      induction N with
      | zero => rfl
      | succ N ih => show accB s f c m 0 k N + 0 = 0; rw [ih]; rfl
    rw [this]; rfl
  | succ n ih =>
    intro h
    obtain ⟨j, h2, h3⟩ := h n (by omega)
    rw [accB_bin, ih (fun b hb => h b (by omega)), if_pos (by rw [h2]; omega), col_succ]
/-- The list of what the first i branches have together, of the first q classes one branch more. -/
def mixL (s : SchemaD) (f : ForkD) (c : List Int) (m n i q : Nat) : List Int := (List.range m).map fun k => if k < q then accB s f c m n k (i + 1) else accB s f c m n k i
theorem mixL_len (s : SchemaD) (f : ForkD) (c : List Int) (m n i q : Nat) : (mixL s f c m n i q).length = m := by simp [mixL]
theorem mixL_at {s : SchemaD} {f : ForkD} {c : List Int} {m n i q k : Nat} (hk : k < m) : (mixL s f c m n i q).getD k 0 = if k < q then accB s f c m n k (i + 1) else accB s f c m n k i := by
  unfold mixL
  rw [List.getD_eq_getElem?_getD, List.getElem?_map, List.getElem?_range hk]; rfl
theorem mixL_step {s : SchemaD} {f : ForkD} {c : List Int} {m n i q : Nat} (_hq : q < m) : mixL s f c m n i (q + 1) = (mixL s f c m n i q).set q (accB s f c m n q i + brSum s f (i : Int) c m q n) := by
  apply List.ext_getElem (by simp [mixL])
  intro k h1 h2
  rw [List.getElem_set]
  simp only [mixL, List.getElem_map, List.getElem_range]
  by_cases e : q = k
  · subst e
    rw [if_pos rfl, if_pos (by omega)]; rfl
  · rw [if_neg e]
    by_cases h : k < q
    · rw [if_pos h, if_pos (by omega)]
    · rw [if_neg h, if_neg (by omega)]
theorem mixL_next (s : SchemaD) (f : ForkD) (c : List Int) (m n i : Nat) : mixL s f c m n i m = mixL s f c m n (i + 1) 0 := by
  unfold mixL
  apply List.map_congr_left
  intro k hk
  rw [if_pos (List.mem_range.1 hk), if_neg (by omega)]
theorem mixL_zero (s : SchemaD) (f : ForkD) (c : List Int) (m n : Nat) : mixL s f c m n 0 0 = List.replicate m 0 := by
  unfold mixL
  exact List.eq_replicate_iff.2 ⟨by simp, fun b hb => by obtain ⟨k, _, rfl⟩ := List.mem_map.1 hb; rw [if_neg (by omega)]; rfl⟩
theorem mixL_same {s : SchemaD} {f g : ForkD} {c : List Int} {m n N M : Nat} (h1 : ∀ b : Nat, b < n → ∃ j : Nat, branchOf s f (b : Int) = (j : Int) ∧ j < N) (h2 : ∀ b : Nat, b < n → ∃ j : Nat, branchOf s g (b : Int) = (j : Int) ∧ j < M) : mixL s f c m n N 0 = mixL s g c m n M 0 := by
  unfold mixL
  apply List.map_congr_left
  intro k _
  rw [if_neg (by omega), if_neg (by omega), accB_all n h1, accB_all n h2]
theorem accB_le {s : SchemaD} {f : ForkD} {c : List Int} {m k n : Nat} (h : ∀ b, b < n → inW (colAt c m k b) = true) : ∀ N, 0 ≤ accB s f c m n k N ∧ accB s f c m n k N ≤ N * (n * 999) := by
  intro N
  induction N with
  | zero => constructor <;> exact Int.le_of_eq (by simp [accB])
  | succ N ih =>
    have h1 := brSum_le (s := s) (f := f) (i := (N : Int)) n h
    have e : ((N + 1 : Nat) : Int) * ((n : Int) * 999) = (N : Int) * ((n : Int) * 999) + (n : Int) * 999 := by rw [Int.natCast_add, Int.add_mul]; simp
    rw [e]
    show 0 ≤ accB s f c m n k N + _ ∧ accB s f c m n k N + _ ≤ _
    omega
theorem totals_at {s : SchemaD} {t : StatsD} {f : ForkD} {i : Int} (h : totalsOk s t f i = true) : (branchTotals s t f i).length = s.classes.length ∧ ∀ k, k < s.classes.length → (branchTotals s t f i).getD k 0 = brSum s f i (il t.cells f.attr.toNat) s.classes.length k (bins (forkAttr s f)).toNat := by
  unfold branchTotals
  rw [if_pos h]
  refine ⟨by simp, fun k hk => ?_⟩
  rw [List.getD_eq_getElem?_getD, List.getElem?_map, List.getElem?_range hk]; rfl
theorem totalsOk_mk {s : SchemaD} {t : StatsD} {f : ForkD} {i : Nat} {N : Nat} (h1 : statsOk s t = true) (h2 : t.cells.length ≠ 0) (h3 : forkOk s f = true) (h4 : branches s f = (N : Int)) (h5 : i < N) : totalsOk s t f (i : Int) = true := by
  unfold totalsOk
  rw [h1, decide_eq_true h2, h3, h4, decide_eq_true (show 0 ≤ (i : Int) ∧ (i : Int) ≤ (N : Int) - 1 by omega)]; rfl
end Go.Proofs.Ytobimpgapfecoaa
/- Whether an attribute is nominal, by the program. -/
namespace Go.Proofs.Ytobimpgapfecoaa
open Go.RowKit
set_option maxRecDepth 100000

theorem nominal_any (v : Value) (a : AttrD) (w : World) (h : AttrAt w v a) : Calls Try.prog 105 #[v] w fun e w' => e = .returned (.bool (decide (0 < a.vals.length))) ∧ Below w.heap.size w w' := by
  obtain ⟨vc, vv, rfl, hc, hv⟩ := h
  obtain ⟨ov, cv, rfl, hvc, hvr⟩ := hv
  clear hvr hc
  go_enter Try.func105, Try.ntmps105
  go_wp2
  go_ret
  exact ⟨rfl, (Below.refl _ _).alloc (Nat.le_refl _) _⟩
end Go.Proofs.Ytobimpgapfecoaa
