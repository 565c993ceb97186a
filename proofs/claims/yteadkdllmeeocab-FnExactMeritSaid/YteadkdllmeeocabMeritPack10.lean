/- Texts of this claim, put together: part 10. -/
import Derived.Test.YteadkdllmeeocabMeritPack3
import Derived.Test.YteadkdllmeeocabMeritPack7
import Derived.Test.YteadkdllmeeocabMeritPack9
/- Ascending numbers within two bounds, in plain words. -/
namespace Go.Proofs.Yteadkdllmeeocab
open Go.RowKit
set_option maxRecDepth 100000
def ascAt (lo hi : Int) (cs : List Int) (i : Nat) : Bool := decide (lo ≤ cs.getD i 0 ∧ cs.getD i 0 ≤ hi) && (decide (i = 0) || decide (cs.getD (i - 1) 0 < cs.getD i 0))
def ascIn (lo hi : Int) (cs : List Int) : Bool := (List.range cs.length).all (ascAt lo hi cs)
/-- The least that the next number may be. -/
def leastOf (lo : Int) (cs : List Int) (k : Nat) : Int := if k = 0 then lo else cs.getD (k - 1) 0 + 1
theorem cuts_asc (cs : List Int) : cutsRise cs = ascIn (-9999) 9998 cs := rfl
theorem asc_in {lo hi : Int} {cs : List Int} {i : Nat} (h : ascAt lo hi cs i = true) : lo ≤ cs.getD i 0 ∧ cs.getD i 0 ≤ hi := by
  unfold ascAt at h
  rw [Bool.and_eq_true] at h
  exact of_decide_eq_true h.1
theorem asc_at {lo hi : Int} {cs : List Int} (h : ascIn lo hi cs = true) {j : Nat} (hj : j < cs.length) : lo ≤ cs.getD j 0 ∧ cs.getD j 0 ≤ hi := by
  unfold ascIn at h
  rw [List.all_eq_true] at h
  exact asc_in (h j (List.mem_range.2 hj))
theorem asc_yes {lo hi : Int} {cs : List Int} (h : ∀ j, j < cs.length → ascAt lo hi cs j = true) : ascIn lo hi cs = true := by
  unfold ascIn
  rw [List.all_eq_true]
  intro j hj
  exact h j (List.mem_range.1 hj)
theorem asc_no {lo hi : Int} {cs : List Int} (j : Nat) (hj : j < cs.length) (h : ascAt lo hi cs j = false) : ascIn lo hi cs = false := by
  cases e : ascIn lo hi cs with
  | false => rfl
  | true =>
    unfold ascIn at e
    rw [List.all_eq_true] at e
    have := e j (List.mem_range.2 hj)
    rw [h] at this; cases this
end Go.Proofs.Yteadkdllmeeocab
/- Chapter 9 in plain words: which questions may be asked, what their branches have together. -/
namespace Go.Proofs.Yteadkdllmeeocab
open Go.RowKit
set_option maxRecDepth 100000
theorem sch_attr {s : SchemaD} (h : schemaOk s = true) {j : Nat} (hj : j < s.attrs.length) : attrOk (ad s.attrs j) = true := by
  unfold schemaOk at h
  rw [Bool.and_eq_true, Bool.and_eq_true] at h
  have h2 := h.2.2
  unfold attrsOk at h2
  rw [List.all_eq_true] at h2
  have := h2 j (List.mem_range.2 hj)
  unfold attrAt at this
  rw [Bool.and_eq_true] at this
  exact this.1
/-- How many questions with two answers there are to a right attribute. -/
def wayN (a : AttrD) : Nat := if a.cuts.length = 0 then a.vals.length else a.cuts.length
theorem wayN_eq {a : AttrD} (h : attrOk a = true) : (wayN a : Int) = (if 0 < a.cuts.length then bins a - 2 else bins a - 1) + 1 := by
  have hk := ok_kind h
  unfold wayN bins
  rw [if_pos h]
  by_cases h0 : a.cuts.length = 0
  · rw [if_pos h0, if_neg (by omega), if_neg (fun e => (hk.1 e) h0)]
    omega
  · rw [if_neg h0, if_pos (by omega), if_pos (hk.2 h0)]
    omega
theorem top_eq {s : SchemaD} {f : ForkD} (h : attrOk (forkAttr s f) = true) : forkTop s f = (wayN (forkAttr s f) : Int) - 1 := by
  have := wayN_eq h
  unfold forkTop
  split <;> rename_i hc <;> simp only [hc, if_true, if_false] at this <;> omega
def placesOk (s : SchemaD) (l : List Int) : Bool := schemaOk s && (decide (0 < l.length) && ascIn 0 ((s.attrs.length : Int) - 1) l)
def candOf (s : SchemaD) (two : Bool) (a : Int) : List ForkD :=
  if (ad s.attrs a.toNat).cuts.length = 0 ∧ two = false then [⟨a, -1⟩] else (List.range (wayN (ad s.attrs a.toNat))).map fun p : Nat => (⟨a, (p : Int)⟩ : ForkD)
def candidates (s : SchemaD) (l : List Int) (two : Bool) : List ForkD := if placesOk s l = true then l.flatMap (candOf s two) else []
/-- What of a class one bin has in a branch. -/
def brAt (s : SchemaD) (f : ForkD) (i : Int) (c : List Int) (m k b : Nat) : Int := if branchOf s f b = i then colAt c m k b else 0
def brSum (s : SchemaD) (f : ForkD) (i : Int) (c : List Int) (m k n : Nat) : Int := sumL ((List.range n).map (brAt s f i c m k))
def totalsOk (s : SchemaD) (t : StatsD) (f : ForkD) (i : Int) : Bool := statsOk s t && (decide (t.cells.length ≠ 0) && (forkOk s f && decide (0 ≤ i ∧ i ≤ branches s f - 1)))
def branchTotals (s : SchemaD) (t : StatsD) (f : ForkD) (i : Int) : List Int :=
  if totalsOk s t f i = true then (List.range s.classes.length).map fun k => brSum s f i (il t.cells f.attr.toNat) s.classes.length k (bins (forkAttr s f)).toNat else []
theorem brSum_succ (s : SchemaD) (f : ForkD) (i : Int) (c : List Int) (m k n : Nat) : brSum s f i c m k (n + 1) = brSum s f i c m k n + brAt s f i c m k n := by
  unfold brSum
  rw [List.range_succ, List.map_append, List.map_singleton, sumL_snoc]
/-- The same, cell by cell. -/
def plAt (s : SchemaD) (f : ForkD) (i : Int) (c : List Int) (m k j : Nat) : Int := if j % m = k ∧ branchOf s f ((j / m : Nat) : Int) = i then c.getD j 0 else 0
def plSum (s : SchemaD) (f : ForkD) (i : Int) (c : List Int) (m k n : Nat) : Int := sumL ((List.range n).map (plAt s f i c m k))
theorem plSum_succ (s : SchemaD) (f : ForkD) (i : Int) (c : List Int) (m k n : Nat) : plSum s f i c m k (n + 1) = plSum s f i c m k n + plAt s f i c m k n := by
  unfold plSum
  rw [List.range_succ, List.map_append, List.map_singleton, sumL_snoc]
theorem plSum_row (s : SchemaD) (f : ForkD) (i : Int) (c : List Int) (m k n : Nat) (hk : k < m) : ∀ r, r ≤ m → plSum s f i c m k (n * m + r) = plSum s f i c m k (n * m) + if k < r then brAt s f i c m k n else 0 := by
  intro r
  induction r with
  | zero => intro _; simp
  | succ r ih =>
    intro hr
    have h1 : (n * m + r) % m = r := by rw [Nat.mul_comm, Nat.mul_add_mod]; exact Nat.mod_eq_of_lt (by omega)
    have h2 : (n * m + r) / m = n := by rw [Nat.mul_comm, Nat.mul_add_div (by omega), Nat.div_eq_of_lt (by omega)]; omega
    have h3 : plAt s f i c m k (n * m + r) = if r = k then brAt s f i c m k n else 0 := by
      unfold plAt brAt colAt
      rw [h1, h2]
      by_cases hkr : r = k
      · subst hkr
        by_cases hb : branchOf s f n = i
        · rw [if_pos (And.intro rfl hb), if_pos hb, if_pos rfl]
        · rw [if_neg (fun h => hb (And.right h)), if_neg hb, if_pos rfl]
      · rw [if_neg (fun h => hkr (And.left h)), if_neg hkr]
    rw [← Nat.add_assoc, plSum_succ, ih (by omega), h3]
    by_cases hkr : r = k
    · have e1 : ¬ k < r := by omega
      have e2 : k < r + 1 := by omega
      rw [if_neg e1, if_pos hkr, if_pos e2]; omega
    · by_cases hlt : k < r
      · have e2 : k < r + 1 := by omega
        rw [if_pos hlt, if_neg hkr, if_pos e2]; omega
      · have e2 : ¬ k < r + 1 := by omega
        rw [if_neg hlt, if_neg hkr, if_neg e2]; omega
theorem plSum_all (s : SchemaD) (f : ForkD) (i : Int) (c : List Int) (m k : Nat) (hk : k < m) : ∀ n, plSum s f i c m k (n * m) = brSum s f i c m k n := by
  intro n
  induction n with
  | zero => rw [Nat.zero_mul]; rfl
  | succ n ih => rw [Nat.succ_mul, plSum_row s f i c m k n hk m (Nat.le_refl _), if_pos hk, ih, brSum_succ]
/-- A part of a column is within the whole of it. -/
theorem brAt_le {s : SchemaD} {f : ForkD} {i : Int} {c : List Int} {m k b : Nat} (h : inW (colAt c m k b) = true) : 0 ≤ brAt s f i c m k b ∧ brAt s f i c m k b ≤ colAt c m k b := by
  have := of_decide_eq_true h
  unfold brAt
  split <;> omega
theorem brSum_le {s : SchemaD} {f : ForkD} {i : Int} {c : List Int} {m k : Nat} : ∀ n, (∀ b, b < n → inW (colAt c m k b) = true) → 0 ≤ brSum s f i c m k n ∧ brSum s f i c m k n ≤ n * 999 := by
  intro n
  induction n with
  | zero => intro _; constructor <;> exact Int.le_of_eq rfl
  | succ n ih =>
    intro h
    have h1 := ih fun b hb => h b (by omega)
    have h2 := of_decide_eq_true (h n (by omega))
    have h3 := brAt_le (s := s) (f := f) (i := i) (h n (by omega))
    rw [brSum_succ]
    omega
end Go.Proofs.Yteadkdllmeeocab
/- What a branch has of each class, in plain words: cell by cell. -/
namespace Go.Proofs.Yteadkdllmeeocab
open Go.RowKit
set_option maxRecDepth 100000
theorem totals_parts {s : SchemaD} {t : StatsD} {f : ForkD} {i : Int} (h : totalsOk s t f i = true) : statsOk s t = true ∧ t.cells.length ≠ 0 ∧ forkOk s f = true ∧ 0 ≤ i ∧ i ≤ branches s f - 1 := by
  unfold totalsOk at h
  rw [Bool.and_eq_true, Bool.and_eq_true, Bool.and_eq_true, decide_eq_true_eq, decide_eq_true_eq] at h
  exact ⟨h.1, h.2.1, h.2.2.1, h.2.2.2.1, h.2.2.2.2⟩
theorem cells_right {s : SchemaD} {t : StatsD} (h : statsOk s t = true) (h0 : t.cells.length ≠ 0) {a : Nat} (ha : a < s.attrs.length) :
    a < t.cells.length ∧ (il t.cells a).length = (bins (ad s.attrs a)).toNat * s.classes.length ∧ ∀ b k, b < (bins (ad s.attrs a)).toNat → k < s.classes.length → inW (colAt (il t.cells a) s.classes.length k b) = true := by
  unfold statsOk at h
  rw [Bool.and_eq_true, Bool.and_eq_true, Bool.and_eq_true, Bool.and_eq_true, Bool.or_eq_true] at h
  rcases h.2.2.2.2 with h1 | h1
  · exact absurd (of_decide_eq_true h1) h0
  · rw [Bool.and_eq_true, decide_eq_true_eq] at h1
    have h2 := h1.2
    rw [List.all_eq_true] at h2
    have hlt : a < t.cells.length := by omega
    have h3 := h2 a (List.mem_range.2 hlt)
    unfold cellOk at h3
    rw [Bool.and_eq_true, decide_eq_true_eq, List.all_eq_true] at h3
    have hb := (small_bins (ad s.attrs a)).1
    refine ⟨hlt, ?_, fun b k hb2 hk => ?_⟩
    · have h4 := h3.1
      have h5 : bins (ad s.attrs a) = ((bins (ad s.attrs a)).toNat : Int) := (Int.toNat_of_nonneg hb).symm
      rw [h5, ← Int.natCast_mul] at h4
      exact Int.ofNat.inj h4
    · have h4 := h3.2 k (List.mem_range.2 hk)
      unfold colOk at h4
      rw [Bool.and_eq_true] at h4
      have h5 := h4.1
      unfold colL at h5
      rw [List.all_map, List.all_eq_true] at h5
      exact h5 b (List.mem_range.2 hb2)
theorem place_parts {m n j : Nat} (hm : 0 < m) (hj : j < n * m) : j / m < n ∧ j % m < m ∧ j / m * m + j % m = j := by
  refine ⟨Nat.div_lt_of_lt_mul (by rw [Nat.mul_comm]; exact hj), Nat.mod_lt _ hm, ?_⟩
  rw [Nat.mul_comm]; exact Nat.div_add_mod j m
theorem place_col {c : List Int} {m n j : Nat} (hm : 0 < m) (hj : j < n * m) (hc : ∀ b k, b < n → k < m → inW (colAt c m k b) = true) : 0 ≤ c.getD j 0 ∧ c.getD j 0 ≤ 999 := by
  obtain ⟨h1, h2, h3⟩ := place_parts hm hj
  have := of_decide_eq_true (hc _ _ h1 h2)
  unfold colAt at this
  rwa [h3] at this
theorem plSum_le {s : SchemaD} {f : ForkD} {i : Int} {c : List Int} {m k n : Nat} (hm : 0 < m) (hc : ∀ b k, b < n → k < m → inW (colAt c m k b) = true) : ∀ p, p ≤ n * m → 0 ≤ plSum s f i c m k p ∧ plSum s f i c m k p ≤ p * 999 := by
  intro p
  induction p with
  | zero => intro _; constructor <;> exact Int.le_of_eq rfl
  | succ p ih =>
    intro hp
    have h1 := ih (by omega)
    have h2 := place_col hm (show p < n * m by omega) hc
    rw [plSum_succ]
    unfold plAt
    split <;> omega
/-- What stands in the list behind p places. -/
def curL (s : SchemaD) (f : ForkD) (i : Int) (c : List Int) (m p : Nat) : List Int := (List.range m).map fun k => plSum s f i c m k p
theorem curL_len (s : SchemaD) (f : ForkD) (i : Int) (c : List Int) (m p : Nat) : (curL s f i c m p).length = m := by simp [curL]
theorem curL_at {s : SchemaD} {f : ForkD} {i : Int} {c : List Int} {m p k : Nat} (hk : k < m) : (curL s f i c m p).getD k 0 = plSum s f i c m k p := by
  unfold curL
  rw [List.getD_eq_getElem?_getD, List.getElem?_map, List.getElem?_range hk]; rfl
theorem curL_zero (s : SchemaD) (f : ForkD) (i : Int) (c : List Int) (m : Nat) : curL s f i c m 0 = List.replicate m 0 := by
  have h : ∀ k : Nat, plSum s f i c m k 0 = 0 := fun _ => rfl
  unfold curL
  simp only [h]
  exact List.eq_replicate_iff.2 ⟨by simp, fun b hb => by obtain ⟨_, _, rfl⟩ := List.mem_map.1 hb; rfl⟩
theorem curL_hit {s : SchemaD} {f : ForkD} {i : Int} {c : List Int} {m p : Nat} (_hm : 0 < m) (hb : branchOf s f ((p / m : Nat) : Int) = i) : curL s f i c m (p + 1) = (curL s f i c m p).set (p % m) (plSum s f i c m (p % m) p + c.getD p 0) := by
  apply List.ext_getElem (by simp [curL])
  intro k h1 h2
  have hk : k < m := by simpa [curL] using h1
  rw [List.getElem_set]
  simp only [curL, List.getElem_map, List.getElem_range]
  by_cases e : p % m = k
  · rw [if_pos e, plSum_succ, e]
    unfold plAt
    rw [if_pos (And.intro e hb)]
  · rw [if_neg e, plSum_succ]
    unfold plAt
    rw [if_neg (fun h => e (And.left h))]; omega
theorem curL_miss {s : SchemaD} {f : ForkD} {i : Int} {c : List Int} {m p : Nat} (hb : ¬ branchOf s f ((p / m : Nat) : Int) = i) : curL s f i c m (p + 1) = curL s f i c m p := by
  unfold curL
  apply List.map_congr_left
  intro k _
  rw [plSum_succ]
  unfold plAt
  rw [if_neg (fun h => hb (And.right h))]; omega
theorem curL_all {s : SchemaD} {t : StatsD} {f : ForkD} {i : Int} (h : totalsOk s t f i = true) : branchTotals s t f i = curL s f i (il t.cells f.attr.toNat) s.classes.length ((bins (forkAttr s f)).toNat * s.classes.length) := by
  unfold branchTotals curL
  rw [if_pos h]
  apply List.map_congr_left
  intro k hk
  exact (plSum_all s f i _ _ k (List.mem_range.1 hk) _).symm
end Go.Proofs.Yteadkdllmeeocab
/- What all branches have together, in plain words. -/
namespace Go.Proofs.Yteadkdllmeeocab
open Go.RowKit
set_option maxRecDepth 100000
theorem bins_two {a : AttrD} (h : attrOk a = true) : 2 ≤ bins a := by
  have hk := ok_kind h
  unfold bins
  rw [if_pos h]
  by_cases h0 : a.vals.length = 0
  · rw [if_pos h0]; have := hk.1 h0; omega
  · rw [if_neg h0]
    have hc : a.cuts.length = 0 := by omega
    unfold attrOk at h
    rw [Bool.and_eq_true, if_pos hc] at h
    have h2 := h.2
    unfold choices at h2
    rw [Bool.and_eq_true, decide_eq_true_eq] at h2
    omega
theorem one_facts {s : SchemaD} {k : Nat} {p : Int} (h : forkOk s ⟨(k : Int), p⟩ = true) :
    k < s.attrs.length ∧ ∃ N nb : Nat, branches s ⟨(k : Int), p⟩ = (N : Int) ∧ bins (ad s.attrs k) = (nb : Int) ∧ 2 ≤ N ∧ N ≤ nb ∧ nb ≤ 4 ∧ (∀ b : Nat, b < nb → ∃ j : Nat, branchOf s ⟨(k : Int), p⟩ (b : Int) = (j : Int) ∧ j < N) ∧
      forkOk s ⟨(k : Int), -1⟩ = true ∧ branches s ⟨(k : Int), -1⟩ = (nb : Int) ∧ (∀ b : Nat, b < nb → branchOf s ⟨(k : Int), -1⟩ (b : Int) = (b : Int)) := by
  obtain ⟨h1, ⟨k', h2, h3, h4⟩, h5, h6⟩ := fork_parts h
  obtain rfl : k = k' := Int.ofNat.inj h2
  have hok := sch_attr h1 h3
  have hb2 := bins_two hok
  have hb4 := (small_bins (ad s.attrs k)).2
  obtain ⟨nb, hnb⟩ := Int.eq_ofNat_of_zero_le (show 0 ≤ bins (ad s.attrs k) by omega)
  have hf1 : forkAttr s ⟨(k : Int), p⟩ = ad s.attrs k := rfl
  have hf2 : forkAttr s ⟨(k : Int), -1⟩ = ad s.attrs k := rfl
  have h0 : forkOk s ⟨(k : Int), -1⟩ = true := by
    unfold forkOk forkTop
    rw [h1, hf2, Bool.and_eq_true, Bool.and_eq_true, decide_eq_true_eq, decide_eq_true_eq]
    refine ⟨rfl, ⟨by show 0 ≤ (k : Int); omega, by show (k : Int) ≤ _; omega⟩, by show (-1 : Int) ≤ -1; omega, ?_⟩
    show (-1 : Int) ≤ _
    split <;> omega
  have hbr0 : branches s ⟨(k : Int), -1⟩ = (nb : Int) := by unfold branches; rw [if_pos h0, if_pos rfl, hf2, hnb]
  have hbo0 : ∀ b : Nat, b < nb → branchOf s ⟨(k : Int), -1⟩ (b : Int) = (b : Int) := fun b hb => by
    unfold branchOf
    rw [if_pos (And.intro h0 (And.intro (Int.natCast_nonneg _) (by rw [hf2, hnb]; omega))), if_pos rfl]
  refine ⟨h3, ?_⟩
  by_cases hp : p = -1
  · subst hp
    exact ⟨nb, nb, hbr0, hnb, by omega, Nat.le_refl _, by omega, fun b hb => ⟨b, hbo0 b hb, hb⟩, h0, hbr0, hbo0⟩
  · have hbr : branches s ⟨(k : Int), p⟩ = 2 := by unfold branches; rw [if_pos h, if_neg hp]
    refine ⟨2, nb, hbr, hnb, Nat.le_refl _, by omega, by omega, fun b hb => ?_, h0, hbr0, hbo0⟩
    have hbo : branchOf s ⟨(k : Int), p⟩ (b : Int) = if 0 < (ad s.attrs k).cuts.length then (if p < (b : Int) then 1 else 0) else (if (b : Int) = p then 0 else 1) := by
      unfold branchOf
      rw [if_pos (And.intro h (And.intro (Int.natCast_nonneg _) (by rw [hf1, hnb]; omega))), if_neg hp, hf1]
    rw [hbo]
    split <;> split
    · exact ⟨1, rfl, by omega⟩
    · exact ⟨0, rfl, by omega⟩
    · exact ⟨0, rfl, by omega⟩
    · exact ⟨1, rfl, by omega⟩
/-- What the first branches have together of a class. -/
def accB (s : SchemaD) (f : ForkD) (c : List Int) (m n k : Nat) : Nat → Int
  | 0 => 0
  | i + 1 => accB s f c m n k i + brSum s f (i : Int) c m k n
theorem accB_bin (s : SchemaD) (f : ForkD) (c : List Int) (m n k : Nat) : ∀ N : Nat, accB s f c m (n + 1) k N = accB s f c m n k N + if 0 ≤ branchOf s f (n : Int) ∧ branchOf s f (n : Int) < (N : Int) then colAt c m k n else 0 := by
  intro N
  induction N with
  | zero => rw [if_neg (by omega)]; rfl
  | succ N ih =>
    show accB s f c m (n + 1) k N + brSum s f (N : Int) c m k (n + 1) = accB s f c m n k N + brSum s f (N : Int) c m k n + _
    rw [ih, brSum_succ]
    unfold brAt
    generalize branchOf s f (n : Int) = z
    by_cases h1 : 0 ≤ z ∧ z < (N : Int)
    · rw [if_pos h1, if_neg (show ¬ z = (N : Int) by omega), if_pos (show 0 ≤ z ∧ z < ((N + 1 : Nat) : Int) by omega)]; omega
    · by_cases h2 : z = (N : Int)
      · rw [if_neg h1, if_pos h2, if_pos (show 0 ≤ z ∧ z < ((N + 1 : Nat) : Int) by omega)]; omega
      · rw [if_neg h1, if_neg h2, if_neg (show ¬ (0 ≤ z ∧ z < ((N + 1 : Nat) : Int)) by omega)]; omega
theorem accB_all {s : SchemaD} {f : ForkD} {c : List Int} {m k N : Nat} : ∀ n, (∀ b : Nat, b < n → ∃ j : Nat, branchOf s f (b : Int) = (j : Int) ∧ j < N) → accB s f c m n k N = sumL (colL c m k n) := by
  intro n
  induction n with
  | zero =>
    intro _
    have : ∀ N, accB s f c m 0 k N = 0 := by
      intro N
      induction N with
      | zero => rfl
      | succ N ih => show accB s f c m 0 k N + 0 = 0; rw [ih]; rfl
    rw [this]; rfl
  | succ n ih =>
    intro h
    obtain ⟨j, h2, h3⟩ := h n (by omega)
    rw [accB_bin, ih (fun b hb => h b (by omega)), if_pos (by rw [h2]; omega), col_succ]
/-- The list of what the first i branches have together, of the first q classes one branch more. -/
def mixL (s : SchemaD) (f : ForkD) (c : List Int) (m n i q : Nat) : List Int := (List.range m).map fun k => if k < q then accB s f c m n k (i + 1) else accB s f c m n k i
theorem mixL_len (s : SchemaD) (f : ForkD) (c : List Int) (m n i q : Nat) : (mixL s f c m n i q).length = m := by simp [mixL]
theorem mixL_at {s : SchemaD} {f : ForkD} {c : List Int} {m n i q k : Nat} (hk : k < m) : (mixL s f c m n i q).getD k 0 = if k < q then accB s f c m n k (i + 1) else accB s f c m n k i := by
  unfold mixL
  rw [List.getD_eq_getElem?_getD, List.getElem?_map, List.getElem?_range hk]; rfl
theorem mixL_step {s : SchemaD} {f : ForkD} {c : List Int} {m n i q : Nat} (_hq : q < m) : mixL s f c m n i (q + 1) = (mixL s f c m n i q).set q (accB s f c m n q i + brSum s f (i : Int) c m q n) := by
  apply List.ext_getElem (by simp [mixL])
  intro k h1 h2
  rw [List.getElem_set]
  simp only [mixL, List.getElem_map, List.getElem_range]
  by_cases e : q = k
  · subst e
    rw [if_pos rfl, if_pos (by omega)]; rfl
  · rw [if_neg e]
    by_cases h : k < q
    · rw [if_pos h, if_pos (by omega)]
    · rw [if_neg h, if_neg (by omega)]
theorem mixL_next (s : SchemaD) (f : ForkD) (c : List Int) (m n i : Nat) : mixL s f c m n i m = mixL s f c m n (i + 1) 0 := by
  unfold mixL
  apply List.map_congr_left
  intro k hk
  rw [if_pos (List.mem_range.1 hk), if_neg (by omega)]
theorem mixL_zero (s : SchemaD) (f : ForkD) (c : List Int) (m n : Nat) : mixL s f c m n 0 0 = List.replicate m 0 := by
  unfold mixL
  exact List.eq_replicate_iff.2 ⟨by simp, fun b hb => by obtain ⟨k, _, rfl⟩ := List.mem_map.1 hb; rw [if_neg (by omega)]; rfl⟩
theorem mixL_same {s : SchemaD} {f g : ForkD} {c : List Int} {m n N M : Nat} (h1 : ∀ b : Nat, b < n → ∃ j : Nat, branchOf s f (b : Int) = (j : Int) ∧ j < N) (h2 : ∀ b : Nat, b < n → ∃ j : Nat, branchOf s g (b : Int) = (j : Int) ∧ j < M) : mixL s f c m n N 0 = mixL s g c m n M 0 := by
  unfold mixL
  apply List.map_congr_left
  intro k _
  rw [if_neg (by omega), if_neg (by omega), accB_all n h1, accB_all n h2]
theorem accB_le {s : SchemaD} {f : ForkD} {c : List Int} {m k n : Nat} (h : ∀ b, b < n → inW (colAt c m k b) = true) : ∀ N, 0 ≤ accB s f c m n k N ∧ accB s f c m n k N ≤ N * (n * 999) := by
  intro N
  induction N with
  | zero => constructor <;> exact Int.le_of_eq (by simp [accB])
  | succ N ih =>
    have h1 := brSum_le (s := s) (f := f) (i := (N : Int)) n h
    have e : ((N + 1 : Nat) : Int) * ((n : Int) * 999) = (N : Int) * ((n : Int) * 999) + (n : Int) * 999 := by rw [Int.natCast_add, Int.add_mul]; simp
    rw [e]
    show 0 ≤ accB s f c m n k N + _ ∧ accB s f c m n k N + _ ≤ _
    omega
theorem totals_at {s : SchemaD} {t : StatsD} {f : ForkD} {i : Int} (h : totalsOk s t f i = true) : (branchTotals s t f i).length = s.classes.length ∧ ∀ k, k < s.classes.length → (branchTotals s t f i).getD k 0 = brSum s f i (il t.cells f.attr.toNat) s.classes.length k (bins (forkAttr s f)).toNat := by
  unfold branchTotals
  rw [if_pos h]
  refine ⟨by simp, fun k hk => ?_⟩
  rw [List.getD_eq_getElem?_getD, List.getElem?_map, List.getElem?_range hk]; rfl
theorem totalsOk_mk {s : SchemaD} {t : StatsD} {f : ForkD} {i : Nat} {N : Nat} (h1 : statsOk s t = true) (h2 : t.cells.length ≠ 0) (h3 : forkOk s f = true) (h4 : branches s f = (N : Int)) (h5 : i < N) : totalsOk s t f (i : Int) = true := by
  unfold totalsOk
  rw [h1, decide_eq_true h2, h3, h4, decide_eq_true (show 0 ≤ (i : Int) ∧ (i : Int) ≤ (N : Int) - 1 by omega)]; rfl
end Go.Proofs.Yteadkdllmeeocab
