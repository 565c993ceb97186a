/- Texts of this claim, put together: part 14. -/
import Derived.Test.YtobimpgapfecoabBranchTotalsPack3
import Derived.Test.YtobimpgapfecoabBranchTotalsPack9
import Derived.Test.YtobimpgapfecoabBranchTotalsPack13
/- Ascending numbers within two bounds, in plain words. -/
namespace Go.Proofs.Ytobimpgapfecoab
open Go.RowKit
set_option maxRecDepth 100000
def ascAt (lo hi : Int) (cs : List Int) (i : Nat) : Bool := decide (lo ≤ cs.getD i 0 ∧ cs.getD i 0 ≤ hi) && (decide (i = 0) || decide (cs.getD (i - 1) 0 < cs.getD i 0))
def ascIn (lo hi : Int) (cs : List Int) : Bool := (List.range cs.length).all (ascAt lo hi cs)
/-- The least that the next number may be. -/
def leastOf (lo : Int) (cs : List Int) (k : Nat) : Int := if k = 0 then lo else cs.getD (k - 1) 0 + 1
theorem cuts_asc (cs : List Int) : cutsRise cs = ascIn (-9999) 9998 cs := rfl
theorem asc_in {lo hi : Int} {cs : List Int} {i : Nat} (h : ascAt lo hi cs i = true) : lo ≤ cs.getD i 0 ∧ cs.getD i 0 ≤ hi := by
  unfold ascAt at h
  rw [Bool.and_eq_true] at h
  exact of_decide_eq_true h.1
theorem asc_at {lo hi : Int} {cs : List Int} (h : ascIn lo hi cs = true) {j : Nat} (hj : j < cs.length) : lo ≤ cs.getD j 0 ∧ cs.getD j 0 ≤ hi := by
  unfold ascIn at h
  rw [List.all_eq_true] at h
  exact asc_in (h j (List.mem_range.2 hj))
theorem asc_yes {lo hi : Int} {cs : List Int} (h : ∀ j, j < cs.length → ascAt lo hi cs j = true) : ascIn lo hi cs = true := by
  unfold ascIn
  rw [List.all_eq_true]
  intro j hj
  exact h j (List.mem_range.1 hj)
theorem asc_no {lo hi : Int} {cs : List Int} (j : Nat) (hj : j < cs.length) (h : ascAt lo hi cs j = false) : ascIn lo hi cs = false := by
  cases e : ascIn lo hi cs with
  | false => rfl
  | true =>
    unfold ascIn at e
    rw [List.all_eq_true] at e
    have := e j (List.mem_range.2 hj)
    rw [h] at this; cases this
end Go.Proofs.Ytobimpgapfecoab
/- Chapter 9 in plain words: which questions may be asked, what their branches have together. -/
namespace Go.Proofs.Ytobimpgapfecoab
open Go.RowKit
set_option maxRecDepth 100000
theorem sch_attr {s : SchemaD} (h : schemaOk s = true) {j : Nat} (hj : j < s.attrs.length) : attrOk (ad s.attrs j) = true := by
  unfold schemaOk at h
  rw [Bool.and_eq_true, Bool.and_eq_true] at h
  have h2 := h.2.2
  unfold attrsOk at h2
  rw [List.all_eq_true] at h2
  have := h2 j (List.mem_range.2 hj)
  unfold attrAt at this
  rw [Bool.and_eq_true] at this
  exact this.1
/-- How many questions with two answers there are to a right attribute. -/
def wayN (a : AttrD) : Nat := if a.cuts.length = 0 then a.vals.length else a.cuts.length
theorem wayN_eq {a : AttrD} (h : attrOk a = true) : (wayN a : Int) = (if 0 < a.cuts.length then bins a - 2 else bins a - 1) + 1 := by
  have hk := ok_kind h
  unfold wayN bins
  rw [if_pos h]
  by_cases h0 : a.cuts.length = 0
  · rw [if_pos h0, if_neg (by omega), if_neg (fun e => (hk.1 e) h0)]
    omega
  · rw [if_neg h0, if_pos (by omega), if_pos (hk.2 h0)]
    omega
theorem top_eq {s : SchemaD} {f : ForkD} (h : attrOk (forkAttr s f) = true) : forkTop s f = (wayN (forkAttr s f) : Int) - 1 := by
  have := wayN_eq h
  unfold forkTop
  split <;> rename_i hc <;> simp only [hc, if_true, if_false] at this <;> omega
def placesOk (s : SchemaD) (l : List Int) : Bool := schemaOk s && (decide (0 < l.length) && ascIn 0 ((s.attrs.length : Int) - 1) l)
def candOf (s : SchemaD) (two : Bool) (a : Int) : List ForkD :=
  if (ad s.attrs a.toNat).cuts.length = 0 ∧ two = false then [⟨a, -1⟩] else (List.range (wayN (ad s.attrs a.toNat))).map fun p : Nat => (⟨a, (p : Int)⟩ : ForkD)
def candidates (s : SchemaD) (l : List Int) (two : Bool) : List ForkD := if placesOk s l = true then l.flatMap (candOf s two) else []
/-- What of a class one bin has in a branch. -/
def brAt (s : SchemaD) (f : ForkD) (i : Int) (c : List Int) (m k b : Nat) : Int := if branchOf s f b = i then colAt c m k b else 0
def brSum (s : SchemaD) (f : ForkD) (i : Int) (c : List Int) (m k n : Nat) : Int := sumL ((List.range n).map (brAt s f i c m k))
def totalsOk (s : SchemaD) (t : StatsD) (f : ForkD) (i : Int) : Bool := statsOk s t && (decide (t.cells.length ≠ 0) && (forkOk s f && decide (0 ≤ i ∧ i ≤ branches s f - 1)))
def branchTotals (s : SchemaD) (t : StatsD) (f : ForkD) (i : Int) : List Int :=
  if totalsOk s t f i = true then (List.range s.classes.length).map fun k => brSum s f i (il t.cells f.attr.toNat) s.classes.length k (bins (forkAttr s f)).toNat else []
theorem brSum_succ (s : SchemaD) (f : ForkD) (i : Int) (c : List Int) (m k n : Nat) : brSum s f i c m k (n + 1) = brSum s f i c m k n + brAt s f i c m k n := by
  unfold brSum
  rw [List.range_succ, List.map_append, List.map_singleton, sumL_snoc]
/-- The same, cell by cell. -/
def plAt (s : SchemaD) (f : ForkD) (i : Int) (c : List Int) (m k j : Nat) : Int := if j % m = k ∧ branchOf s f ((j / m : Nat) : Int) = i then c.getD j 0 else 0
def plSum (s : SchemaD) (f : ForkD) (i : Int) (c : List Int) (m k n : Nat) : Int := sumL ((List.range n).map (plAt s f i c m k))
theorem plSum_succ (s : SchemaD) (f : ForkD) (i : Int) (c : List Int) (m k n : Nat) : plSum s f i c m k (n + 1) = plSum s f i c m k n + plAt s f i c m k n := by
  unfold plSum
  rw [List.range_succ, List.map_append, List.map_singleton, sumL_snoc]
theorem plSum_row (s : SchemaD) (f : ForkD) (i : Int) (c : List Int) (m k n : Nat) (hk : k < m) : ∀ r, r ≤ m → plSum s f i c m k (n * m + r) = plSum s f i c m k (n * m) + if k < r then brAt s f i c m k n else 0 := by
  intro r
  induction r with
  | zero => intro _; simp
  | succ r ih =>
    intro hr
    have h1 : (n * m + r) % m = r := by rw [Nat.mul_comm, Nat.mul_add_mod]; exact Nat.mod_eq_of_lt (by omega)
    have h2 : (n * m + r) / m = n := by rw [Nat.mul_comm, Nat.mul_add_div (by omega), Nat.div_eq_of_lt (by omega)]; omega
    have h3 : plAt s f i c m k (n * m + r) = if r = k then brAt s f i c m k n else 0 := by
      unfold plAt brAt colAt
      rw [h1, h2]
      by_cases hkr : r = k
      · subst hkr
        by_cases hb : branchOf s f n = i
        · rw [if_pos (And.intro rfl hb), if_pos hb, if_pos rfl]
        · rw [if_neg (fun h => hb (And.right h)), if_neg hb, if_pos rfl]
      · rw [if_neg (fun h => hkr (And.left h)), if_neg hkr]
    rw [← Nat.add_assoc, plSum_succ, ih (by omega), h3]
    by_cases hkr : r = k
    · have e1 : ¬ k < r := by omega
      have e2 : k < r + 1 := by omega
      rw [if_neg e1, if_pos hkr, if_pos e2]; omega
    · by_cases hlt : k < r
      · have e2 : k < r + 1 := by omega
        rw [if_pos hlt, if_neg hkr, if_pos e2]; omega
      · have e2 : ¬ k < r + 1 := by omega
        rw [if_neg hlt, if_neg hkr, if_neg e2]; omega
theorem plSum_all (s : SchemaD) (f : ForkD) (i : Int) (c : List Int) (m k : Nat) (hk : k < m) : ∀ n, plSum s f i c m k (n * m) = brSum s f i c m k n := by
  intro n
  induction n with
  | zero => rw [Nat.zero_mul]; rfl
  | succ n ih => rw [Nat.succ_mul, plSum_row s f i c m k n hk m (Nat.le_refl _), if_pos hk, ih, brSum_succ]
/-- A part of a column is within the whole of it. -/
theorem brAt_le {s : SchemaD} {f : ForkD} {i : Int} {c : List Int} {m k b : Nat} (h : inW (colAt c m k b) = true) : 0 ≤ brAt s f i c m k b ∧ brAt s f i c m k b ≤ colAt c m k b := by
  have := of_decide_eq_true h
  unfold brAt
  split <;> omega
theorem brSum_le {s : SchemaD} {f : ForkD} {i : Int} {c : List Int} {m k : Nat} : ∀ n, (∀ b, b < n → inW (colAt c m k b) = true) → 0 ≤ brSum s f i c m k n ∧ brSum s f i c m k n ≤ n * 999 := by
  intro n
  induction n with
  | zero => intro _; constructor <;> exact Int.le_of_eq rfl
  | succ n ih =>
    intro h
    have h1 := ih fun b hb => h b (by omega)
    have h2 := of_decide_eq_true (h n (by omega))
    have h3 := brAt_le (s := s) (f := f) (i := i) (h n (by omega))
    rw [brSum_succ]
    omega
end Go.Proofs.Ytobimpgapfecoab
/- Whether an attribute is nominal, by the program. -/
namespace Go.Proofs.Ytobimpgapfecoab
open Go.RowKit
set_option maxRecDepth 100000

theorem nominal_any (v : Value) (a : AttrD) (w : World) (h : AttrAt w v a) : Calls Try.prog 87 #[v] w fun e w' => e = .returned (.bool (decide (0 < a.vals.length))) ∧ Below w.heap.size w w' := by
  obtain ⟨vc, vv, rfl, hc, hv⟩ := h
  obtain ⟨ov, cv, rfl, hvc, hvr⟩ := hv
  clear hvr hc
  go_enter Try.func87, Try.ntmps87
  go_wp2
  go_ret
  exact ⟨rfl, (Below.refl _ _).alloc (Nat.le_refl _) _⟩
end Go.Proofs.Ytobimpgapfecoab
/- How many questions with two answers there are, by the program. -/
namespace Go.Proofs.Ytobimpgapfecoab
open Go.RowKit
set_option maxRecDepth 100000
set_option maxHeartbeats 400000 in
theorem twoWays_any (v : Value) (a : AttrD) (w : World) (h : AttrAt w v a) (hok : attrOk a = true) : Calls Try.prog 86 #[v] w fun e w' => e = .returned (.int .i64 (wayN a)) ∧ Below w.heap.size w w' := by
  have hk := ok_kind hok
  have B0 : ∀ o, Below w.heap.size w (w.alloc o) := fun o => (Below.refl _ _).alloc (Nat.le_refl _) _
  have c := fun o => nominal_any v a (w.alloc o) (h.later (B0 o))
  obtain ⟨vc, vv, rfl, hc, hv⟩ := h
  obtain ⟨oc, cc, rfl, -, -⟩ := hc
  obtain ⟨ov, cv, rfl, -, -⟩ := hv
  have K : Blk 89 (w.alloc (.cells #[.string a.name, .slice oc a.cuts.length cc, .slice ov a.vals.length cv] 89)) w.heap.size #[.string a.name, .slice oc a.cuts.length cc, .slice ov a.vals.length cv] := Blk.new _ _ _
  have B1 := B0 (.cells #[.string a.name, .slice oc a.cuts.length cc, .slice ov a.vals.length cv] 89)
  clear B0
  by_cases h0 : 0 < a.vals.length
  · have HE : Hid (wayN a = a.vals.length) := by unfold wayN; exact if_pos (by omega)
    rw [decide_eq_true h0] at c
    clear hk
    go_enter Try.func86, Try.ntmps86
    go_wp2_with fail
    refine (c _).mono ?_
    clear c
    rintro e w1 ⟨rfl, hb1⟩
    have k2 : w1.cell? ⟨w.heap.size, 2, none⟩ = some (.slice ov a.vals.length cv) := (K.below hb1).cell 2
    have B2 := B1.trans (hb1.mono B1.size)
    clear hb1 K B1
    go_wp2
    go_ret
    exact ⟨by rw [HE.out]; rfl, B2⟩
  · have HE : Hid (wayN a = a.cuts.length) := by unfold wayN; exact if_neg (by omega)
    rw [decide_eq_false h0] at c
    clear hk
    go_enter Try.func86, Try.ntmps86
    go_wp2_with fail
    refine (c _).mono ?_
    clear c
    rintro e w1 ⟨rfl, hb1⟩
    have k1 : w1.cell? ⟨w.heap.size, 1, none⟩ = some (.slice oc a.cuts.length cc) := (K.below hb1).cell 1
    have B2 := B1.trans (hb1.mono B1.size)
    clear hb1 K B1
    go_wp2
    go_ret
    exact ⟨by rw [HE.out]; rfl, B2⟩
end Go.Proofs.Ytobimpgapfecoab
