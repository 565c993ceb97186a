/- Texts of this claim, put together: part 7. -/
import Derived.Test.YtobimpgapfecoaaFnOneBranchPack3
import Derived.Test.YtobimpgapfecoaaFnOneBranchPack4
import Derived.Test.YtobimpgapfecoaaFnOneBranchPack6
import Derived.Test.YtobimpgapfecoaaFnOneBranchPack2
import Derived.Deep.WholeRow
/- Ascending numbers within two bounds, in plain words. -/
namespace Go.Proofs.Ytobimpgapfecoaa
open Go.RowKit
set_option maxRecDepth 100000
def ascAt (lo hi : Int) (cs : List Int) (i : Nat) : Bool := decide (lo ≤ cs.getD i 0 ∧ cs.getD i 0 ≤ hi) && (decide (i = 0) || decide (cs.getD (i - 1) 0 < cs.getD i 0))
def ascIn (lo hi : Int) (cs : List Int) : Bool := (List.range cs.length).all (ascAt lo hi cs)
/-- The least that the next number may be. -/
def leastOf (lo : Int) (cs : List Int) (k : Nat) : Int := if k = 0 then lo else cs.getD (k - 1) 0 + 1
theorem cuts_asc (cs : List Int) : cutsRise cs = ascIn (-9999) 9998 cs := rfl
theorem asc_in {lo hi : Int} {cs : List Int} {i : Nat} (h : ascAt lo hi cs i = true) : lo ≤ cs.getD i 0 ∧ cs.getD i 0 ≤ hi := by
  unfold ascAt at h
  rw [Bool.and_eq_true] at h
  exact of_decide_eq_true h.1
theorem asc_at {lo hi : Int} {cs : List Int} (h : ascIn lo hi cs = true) {j : Nat} (hj : j < cs.length) : lo ≤ cs.getD j 0 ∧ cs.getD j 0 ≤ hi := by
  unfold ascIn at h
  rw [List.all_eq_true] at h
  exact asc_in (h j (List.mem_range.2 hj))
theorem asc_yes {lo hi : Int} {cs : List Int} (h : ∀ j, j < cs.length → ascAt lo hi cs j = true) : ascIn lo hi cs = true := by
  unfold ascIn
  rw [List.all_eq_true]
  intro j hj
  exact h j (List.mem_range.1 hj)
theorem asc_no {lo hi : Int} {cs : List Int} (j : Nat) (hj : j < cs.length) (h : ascAt lo hi cs j = false) : ascIn lo hi cs = false := by
  cases e : ascIn lo hi cs with
  | false => rfl
  | true =>
    unfold ascIn at e
    rw [List.all_eq_true] at e
    have := e j (List.mem_range.2 hj)
    rw [h] at this; cases this
end Go.Proofs.Ytobimpgapfecoaa
/- Chapter 9 in plain words: which questions may be asked, what their branches have together. -/
namespace Go.Proofs.Ytobimpgapfecoaa
open Go.RowKit
set_option maxRecDepth 100000
theorem sch_attr {s : SchemaD} (h : schemaOk s = true) {j : Nat} (hj : j < s.attrs.length) : attrOk (ad s.attrs j) = true := by
  unfold schemaOk at h
  rw [Bool.and_eq_true, Bool.and_eq_true] at h
  have h2 := h.2.2
  unfold attrsOk at h2
  rw [List.all_eq_true] at h2
  have := h2 j (List.mem_range.2 hj)
  unfold attrAt at this
  rw [Bool.and_eq_true] at this
  exact this.1
/-- How many questions with two answers there are to a right attribute. -/
def wayN (a : AttrD) : Nat := if a.cuts.length = 0 then a.vals.length else a.cuts.length
theorem wayN_eq {a : AttrD} (h : attrOk a = true) : (wayN a : Int) = (if 0 < a.cuts.length then bins a - 2 else bins a - 1) + 1 := by
  have hk := ok_kind h
  unfold wayN bins
  rw [if_pos h]
  by_cases h0 : a.cuts.length = 0
  · rw [if_pos h0, if_neg (by omega), if_neg (fun e => (hk.1 e) h0)]
    omega
  · rw [if_neg h0, if_pos (by omega), if_pos (hk.2 h0)]
    omega
theorem top_eq {s : SchemaD} {f : ForkD} (h : attrOk (forkAttr s f) = true) : forkTop s f = (wayN (forkAttr s f) : Int) - 1 := by
  have := wayN_eq h
  unfold forkTop
  split <;> rename_i hc <;> simp only [hc, if_true, if_false] at this <;> omega
def placesOk (s : SchemaD) (l : List Int) : Bool := schemaOk s && (decide (0 < l.length) && ascIn 0 ((s.attrs.length : Int) - 1) l)
def candOf (s : SchemaD) (two : Bool) (a : Int) : List ForkD :=
  if (ad s.attrs a.toNat).cuts.length = 0 ∧ two = false then [⟨a, -1⟩] else (List.range (wayN (ad s.attrs a.toNat))).map fun p : Nat => (⟨a, (p : Int)⟩ : ForkD)
def candidates (s : SchemaD) (l : List Int) (two : Bool) : List ForkD := if placesOk s l = true then l.flatMap (candOf s two) else []
/-- What of a class one bin has in a branch. -/
def brAt (s : SchemaD) (f : ForkD) (i : Int) (c : List Int) (m k b : Nat) : Int := if branchOf s f b = i then colAt c m k b else 0
def brSum (s : SchemaD) (f : ForkD) (i : Int) (c : List Int) (m k n : Nat) : Int := sumL ((List.range n).map (brAt s f i c m k))
def totalsOk (s : SchemaD) (t : StatsD) (f : ForkD) (i : Int) : Bool := statsOk s t && (decide (t.cells.length ≠ 0) && (forkOk s f && decide (0 ≤ i ∧ i ≤ branches s f - 1)))
def branchTotals (s : SchemaD) (t : StatsD) (f : ForkD) (i : Int) : List Int :=
  if totalsOk s t f i = true then (List.range s.classes.length).map fun k => brSum s f i (il t.cells f.attr.toNat) s.classes.length k (bins (forkAttr s f)).toNat else []
theorem brSum_succ (s : SchemaD) (f : ForkD) (i : Int) (c : List Int) (m k n : Nat) : brSum s f i c m k (n + 1) = brSum s f i c m k n + brAt s f i c m k n := by
  unfold brSum
  rw [List.range_succ, List.map_append, List.map_singleton, sumL_snoc]
/-- The same, cell by cell. -/
def plAt (s : SchemaD) (f : ForkD) (i : Int) (c : List Int) (m k j : Nat) : Int := if j % m = k ∧ branchOf s f ((j / m : Nat) : Int) = i then c.getD j 0 else 0
def plSum (s : SchemaD) (f : ForkD) (i : Int) (c : List Int) (m k n : Nat) : Int := sumL ((List.range n).map (plAt s f i c m k))
theorem plSum_succ (s : SchemaD) (f : ForkD) (i : Int) (c : List Int) (m k n : Nat) : plSum s f i c m k (n + 1) = plSum s f i c m k n + plAt s f i c m k n := by
  unfold plSum
  rw [List.range_succ, List.map_append, List.map_singleton, sumL_snoc]
theorem plSum_row (s : SchemaD) (f : ForkD) (i : Int) (c : List Int) (m k n : Nat) (hk : k < m) : ∀ r, r ≤ m → plSum s f i c m k (n * m + r) = plSum s f i c m k (n * m) + if k < r then brAt s f i c m k n else 0 := by
  intro r
  induction r with
  | zero => intro _; simp
  | succ r ih =>
    intro hr
    have h1 : (n * m + r) % m = r := by rw [Nat.mul_comm, Nat.mul_add_mod]; exact Nat.mod_eq_of_lt (by omega)
    have h2 : (n * m + r) / m = n := by rw [Nat.mul_comm, Nat.mul_add_div (by omega), Nat.div_eq_of_lt (by omega)]; omega
    have h3 : plAt s f i c m k (n * m + r) = if r = k then brAt s f i c m k n else 0 := by
      unfold plAt brAt colAt
      rw [h1, h2]
      by_cases hkr : r = k
      · subst hkr
        by_cases hb : branchOf s f n = i
        · rw [if_pos (And.intro rfl hb), if_pos hb, if_pos rfl]
        · rw [if_neg (fun h => hb (And.right h)), if_neg hb, if_pos rfl]
      · rw [if_neg (fun h => hkr (And.left h)), if_neg hkr]
    rw [← Nat.add_assoc, plSum_succ, ih (by omega), h3]
    by_cases hkr : r = k
    · have e1 : ¬ k < r := by omega
      have e2 : k < r + 1 := by omega
      rw [if_neg e1, if_pos hkr, if_pos e2]; omega
    · by_cases hlt : k < r
      · have e2 : k < r + 1 := by omega
        rw [if_pos hlt, if_neg hkr, if_pos e2]; omega
      · have e2 : ¬ k < r + 1 := by omega
        rw [if_neg hlt, if_neg hkr, if_neg e2]; omega
theorem plSum_all (s : SchemaD) (f : ForkD) (i : Int) (c : List Int) (m k : Nat) (hk : k < m) : ∀ n, plSum s f i c m k (n * m) = brSum s f i c m k n := by
  intro n
  induction n with
  | zero => rw [Nat.zero_mul]; rfl
  | succ n ih => rw [Nat.succ_mul, plSum_row s f i c m k n hk m (Nat.le_refl _), if_pos hk, ih, brSum_succ]
/-- A part of a column is within the whole of it. -/
theorem brAt_le {s : SchemaD} {f : ForkD} {i : Int} {c : List Int} {m k b : Nat} (h : inW (colAt c m k b) = true) : 0 ≤ brAt s f i c m k b ∧ brAt s f i c m k b ≤ colAt c m k b := by
  have := of_decide_eq_true h
  unfold brAt
  split <;> omega
theorem brSum_le {s : SchemaD} {f : ForkD} {i : Int} {c : List Int} {m k : Nat} : ∀ n, (∀ b, b < n → inW (colAt c m k b) = true) → 0 ≤ brSum s f i c m k n ∧ brSum s f i c m k n ≤ n * 999 := by
  intro n
  induction n with
  | zero => intro _; constructor <;> exact Int.le_of_eq rfl
  | succ n ih =>
    intro h
    have h1 := ih fun b hb => h b (by omega)
    have h2 := of_decide_eq_true (h n (by omega))
    have h3 := brAt_le (s := s) (f := f) (i := i) (h n (by omega))
    rw [brSum_succ]
    omega
end Go.Proofs.Ytobimpgapfecoaa
/- Lists of questions, in plain words and in memory. -/
namespace Go.Proofs.Ytobimpgapfecoaa
open Go.RowKit
set_option maxRecDepth 100000
/-- The cells of a list of questions. -/
def fkC : List ForkD → List Value
  | [] => []
  | f :: r => .int .i64 f.attr :: .int .i64 f.pos :: fkC r
theorem fkC_snoc (f : ForkD) : ∀ fs : List ForkD, fkC (fs ++ [f]) = fkC fs ++ [.int .i64 f.attr, .int .i64 f.pos]
  | [] => rfl
  | g :: r => by show _ :: _ :: fkC (r ++ [f]) = _; rw [fkC_snoc f r]; rfl
def fk (fs : List ForkD) (k : Nat) : ForkD := fs.getD k ⟨0, 0⟩
theorem fkC_len : ∀ fs : List ForkD, (fkC fs).length = fs.length * 2
  | [] => rfl
  | f :: r => by show (fkC r).length + 1 + 1 = _; rw [fkC_len r, List.length_cons]; omega
theorem fkC_at : ∀ (fs : List ForkD) (k : Nat), k < fs.length → (fkC fs)[k * 2]? = some (.int .i64 (fk fs k).attr) ∧ (fkC fs)[k * 2 + 1]? = some (.int .i64 (fk fs k).pos)
  | [], k, h => by simp at h
  | f :: r, 0, _ => ⟨rfl, rfl⟩
  | f :: r, k + 1, h => by
    have h2 := fkC_at r k (by simpa using h)
    rw [show (k + 1) * 2 = k * 2 + 1 + 1 by omega]
    exact h2
def OwnF (w w' : World) (v : Value) (fs : List ForkD) : Prop := w'.ownsRow w.heap.size 48 2 v fs.length (fkC fs) ∧ Below w.heap.size w w'
theorem forkInfo : (Try.prog.info? 48).map (fun i => (i.zero, i.size, i.bytes)) = some (some (.agg #[.int .i64 0, .int .i64 0]), 2, 16) := by kernel_rfl
theorem newcF2 (w : World) (a b : Value) (t : TypeId) : ∀ (j : Nat) (u : Value), ([a, b] : List Value)[j]? = some u → (w.alloc (.cells #[a, b] t)).cell? ((⟨w.heap.size, 0, none⟩ : Addr).add j) = some u := by
  intro j u hj
  have e : (⟨w.heap.size, 0, none⟩ : Addr).add j = ⟨w.heap.size, j, none⟩ := by cases j <;> simp [Addr.add]
  rw [e, (Blk.new t w #[a, b]).cell j]
  simpa using hj
theorem one2 (a b : Int) : ∀ u ∈ [Value.int .i64 a, Value.int .i64 b], u.oneCell' = true := by
  intro u hu
  simp only [List.mem_cons, List.not_mem_nil, or_false] at hu
  rcases hu with rfl | rfl <;> rfl
/-- The candidates of the first k attributes. -/
def candTo (s : SchemaD) (two : Bool) (l : List Int) (k : Nat) : List ForkD := (l.take k).flatMap (candOf s two)
theorem candTo_succ {s : SchemaD} {two : Bool} {l : List Int} {k : Nat} (h : k < l.length) : candTo s two l (k + 1) = candTo s two l k ++ candOf s two (l.getD k 0) := by
  unfold candTo
  rw [List.take_succ_eq_append_getElem h, List.flatMap_append, List.flatMap_singleton, List.getD_eq_getElem?_getD, List.getElem?_eq_getElem h]; rfl
theorem candTo_all (s : SchemaD) (two : Bool) (l : List Int) : candTo s two l l.length = l.flatMap (candOf s two) := by unfold candTo; rw [List.take_length]
def wayF (a : Int) (p : Nat) : List ForkD := (List.range p).map fun q : Nat => (⟨a, (q : Int)⟩ : ForkD)
theorem wayF_succ (a : Int) (p : Nat) : wayF a (p + 1) = wayF a p ++ [⟨a, (p : Int)⟩] := by unfold wayF; rw [List.range_succ, List.map_append]; rfl
theorem wayF_len (a : Int) (p : Nat) : (wayF a p).length = p := by simp [wayF]
theorem cand_one {s : SchemaD} {two : Bool} {a : Nat} (h : (ad s.attrs a).cuts.length = 0) (ht : two = false) : candOf s two (a : Int) = [⟨a, -1⟩] := by unfold candOf; exact if_pos ⟨h, ht⟩
theorem cand_ways {s : SchemaD} {two : Bool} {a : Nat} (h : ¬ ((ad s.attrs a).cuts.length = 0 ∧ two = false)) : candOf s two (a : Int) = wayF a (wayN (ad s.attrs a)) := by unfold candOf; exact if_neg h
theorem wayN_le {a : AttrD} (h : attrOk a = true) : wayN a ≤ 4 := by
  have h1 := wayN_eq h
  have h2 := small_bins a
  split at h1 <;> omega
theorem places_parts {s : SchemaD} {l : List Int} (h : placesOk s l = true) : schemaOk s = true ∧ ∀ k, k < l.length → ∃ a : Nat, l.getD k 0 = (a : Int) ∧ a < s.attrs.length := by
  unfold placesOk at h
  rw [Bool.and_eq_true, Bool.and_eq_true] at h
  refine ⟨h.1, fun k hk => ?_⟩
  have h2 := asc_at h.2.2 hk
  obtain ⟨a, ha⟩ := Int.eq_ofNat_of_zero_le h2.1
  exact ⟨a, ha, by omega⟩
theorem candOf_len {s : SchemaD} (two : Bool) (a : Int) (h : okSch s) : (candOf s two a).length ≤ 1099511627776 := by
  unfold candOf
  split
  · simp
  · rw [List.length_map, List.length_range]
    unfold wayN
    by_cases ha : a.toNat < s.attrs.length
    · have h1 := h.each _ (ad_mem ha)
      have h2 := h1.cuts
      have h3 := h1.vals.1
      split <;> omega
    · have e : ad s.attrs a.toNat = ⟨ByteArray.empty, [], []⟩ := by unfold ad; rw [List.getD_eq_getElem?_getD, List.getElem?_eq_none (by omega)]; rfl
      rw [e]; simp
theorem places_len {s : SchemaD} {l : List Int} (h : placesOk s l = true) : l.length ≤ 5 := by
  obtain ⟨h1, h2⟩ := places_parts h
  have h5 : s.attrs.length ≤ 5 := by
    unfold schemaOk at h1
    rw [Bool.and_eq_true, decide_eq_true_eq] at h1
    exact h1.1.2
  unfold placesOk at h
  rw [Bool.and_eq_true, Bool.and_eq_true] at h
  have h3 := h.2.2
  have hk : ∀ k, k < l.length → (k : Int) ≤ l.getD k 0 := by
    intro k
    induction k with
    | zero => intro hk; exact (asc_at h3 hk).1
    | succ k ih =>
      intro hk
      have h4 := ih (by omega)
      have h6 : ascAt 0 ((s.attrs.length : Int) - 1) l (k + 1) = true := by
        unfold ascIn at h3
        rw [List.all_eq_true] at h3
        exact h3 _ (List.mem_range.2 hk)
      unfold ascAt at h6
      rw [Bool.and_eq_true, Bool.or_eq_true] at h6
      rcases h6.2 with h7 | h7
      · have := of_decide_eq_true h7; omega
      · have := of_decide_eq_true h7
        rw [Nat.add_sub_cancel] at this
        omega
  rcases Nat.lt_or_ge l.length 6 with h8 | h8
  · omega
  · have h9 := hk 5 (by omega)
    have h10 := (asc_at h3 (show 5 < l.length by omega)).2
    omega
theorem candidates_len {s : SchemaD} {l : List Int} (two : Bool) : (candidates s l two).length ≤ 1099511627776 := by
  unfold candidates
  split
  · rename_i h
    obtain ⟨h1, h2⟩ := places_parts h
    have h3 := places_len h
    rw [List.length_flatMap]
    have h4 : ∀ x ∈ l.map (fun a => (candOf s two a).length), x ≤ 4 := by
      intro x hx
      obtain ⟨a, ha, rfl⟩ := List.mem_map.1 hx
      obtain ⟨j, hj, rfl⟩ := List.getElem_of_mem ha
      obtain ⟨b, hb, hb2⟩ := h2 j hj
      rw [List.getD_eq_getElem?_getD, List.getElem?_eq_getElem hj] at hb
      simp only [Option.getD_some] at hb
      rw [hb]
      have h5 := wayN_le (sch_attr h1 hb2)
      unfold candOf
      split
      · simp
      · rw [List.length_map, List.length_range]; exact h5
    have h6 : ∀ (xs : List Nat), (∀ x ∈ xs, x ≤ 4) → xs.sum ≤ 4 * xs.length := by
      intro xs
      induction xs with
      | nil => intro _; simp
      | cons y r ih =>
        intro hx
        have := ih fun x h => hx x (List.mem_cons_of_mem _ h)
        have := hx y List.mem_cons_self
        rw [List.sum_cons, List.length_cons]; omega
    have h7 := h6 _ h4
    rw [List.length_map] at h7
    omega
  · simp
end Go.Proofs.Ytobimpgapfecoaa
/- A question is stored, handed back. -/
namespace Go.Proofs.Ytobimpgapfecoaa
open Go.RowKit
set_option maxRecDepth 100000
theorem fork_size : (Try.prog.info? 48).map (·.size) = some 2 := by kernel_rfl
/-- A question is stored, handed back. -/
theorem wp_fk_store {ops : Array Oper} {rest : List Oper} {o : Oper} {a : Act} {w : World} {Q : Exit → Act → World → Prop} (hgd : o.guard = none) (x y : Operand) (ho : o.op = .store 48 x y)
    (h : ∃ g, a.eval x = .pointer (some ⟨g, 0, none⟩) ∧ ∃ m n, a.eval y = .agg #[.int .i64 m, .int .i64 n] ∧ ∃ m' n', Blk 48 w g #[.int .i64 m', .int .i64 n'] ∧ wpList Try.prog ops Q rest (a.put o.dst undef) (w.setRow g #[.int .i64 m, .int .i64 n])) : wpList Try.prog ops Q (o :: rest) a w := by
  obtain ⟨g, hx, m, n, hy, m', n', hA, hk⟩ := h
  exact wpList_store_row hgd 48 x y ho g _ hx hy _ _ hA fork_size rfl (by simp [Value.oneCell']) hk
theorem wp_fk_step {o : Oper} {a : Act} {w : World} {K : Act → World → Prop} {Q : Exit → Act → World → Prop} (x y : Operand) (ho : o.op = .store 48 x y)
    (g : Nat) (m n m' n' : Int) (hx : a.eval x = .pointer (some ⟨g, 0, none⟩)) (hy : a.eval y = .agg #[.int .i64 m, .int .i64 n]) (hA : Blk 48 w g #[.int .i64 m', .int .i64 n']) (h : K (a.put o.dst undef) (w.setRow g #[.int .i64 m, .int .i64 n])) : o.wp Try.prog a w K Q :=
  wp_store_row 48 x y ho g _ hx hy _ _ hA fork_size rfl (by simp [Value.oneCell']) h
end Go.Proofs.Ytobimpgapfecoaa
