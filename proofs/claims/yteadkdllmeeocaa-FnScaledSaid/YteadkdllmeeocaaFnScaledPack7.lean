/- Texts of this claim, put together: part 7. -/
import Derived.Test.YteadkdllmeeocaaFnScaledPack3
import Derived.Test.YteadkdllmeeocaaFnScaledPack4
import Derived.Test.YteadkdllmeeocaaFnScaledPack6
import Derived.Test.YteadkdllmeeocaaFnScaledPack2
import Derived.Test.YteadkdllmeeocaaFnScaledPack1
import Derived.Deep.QuietTactic
import Derived.BigQuiet
import Derived.WalkSmall
/- Ascending numbers within two bounds, in plain words. -/
namespace Go.Proofs.Yteadkdllmeeocaa
open Go.RowKit
set_option maxRecDepth 100000
def ascAt (lo hi : Int) (cs : List Int) (i : Nat) : Bool := decide (lo ≤ cs.getD i 0 ∧ cs.getD i 0 ≤ hi) && (decide (i = 0) || decide (cs.getD (i - 1) 0 < cs.getD i 0))
def ascIn (lo hi : Int) (cs : List Int) : Bool := (List.range cs.length).all (ascAt lo hi cs)
/-- The least that the next number may be. -/
def leastOf (lo : Int) (cs : List Int) (k : Nat) : Int := if k = 0 then lo else cs.getD (k - 1) 0 + 1
theorem cuts_asc (cs : List Int) : cutsRise cs = ascIn (-9999) 9998 cs := rfl
theorem asc_in {lo hi : Int} {cs : List Int} {i : Nat} (h : ascAt lo hi cs i = true) : lo ≤ cs.getD i 0 ∧ cs.getD i 0 ≤ hi := by
  unfold ascAt at h
  rw [Bool.and_eq_true] at h
  exact of_decide_eq_true h.1
theorem asc_at {lo hi : Int} {cs : List Int} (h : ascIn lo hi cs = true) {j : Nat} (hj : j < cs.length) : lo ≤ cs.getD j 0 ∧ cs.getD j 0 ≤ hi := by
  unfold ascIn at h
  rw [List.all_eq_true] at h
  exact asc_in (h j (List.mem_range.2 hj))
theorem asc_yes {lo hi : Int} {cs : List Int} (h : ∀ j, j < cs.length → ascAt lo hi cs j = true) : ascIn lo hi cs = true := by
  unfold ascIn
  rw [List.all_eq_true]
  intro j hj
  exact h j (List.mem_range.1 hj)
theorem asc_no {lo hi : Int} {cs : List Int} (j : Nat) (hj : j < cs.length) (h : ascAt lo hi cs j = false) : ascIn lo hi cs = false := by
  cases e : ascIn lo hi cs with
  | false => rfl
  | true =>
    unfold ascIn at e
    rw [List.all_eq_true] at e
    have := e j (List.mem_range.2 hj)
    rw [h] at this; cases this
end Go.Proofs.Yteadkdllmeeocaa
/- Chapter 9 in plain words: which questions may be asked, what their branches have together. -/
namespace Go.Proofs.Yteadkdllmeeocaa
open Go.RowKit
set_option maxRecDepth 100000
theorem sch_attr {s : SchemaD} (h : schemaOk s = true) {j : Nat} (hj : j < s.attrs.length) : attrOk (ad s.attrs j) = true := by
  unfold schemaOk at h
  rw [Bool.and_eq_true, Bool.and_eq_true] at h
  have h2 := h.2.2
  unfold attrsOk at h2
  rw [List.all_eq_true] at h2
  have := h2 j (List.mem_range.2 hj)
  unfold attrAt at this
  rw [Bool.and_eq_true] at this
  exact this.1
/-- How many questions with two answers there are to a right attribute. -/
def wayN (a : AttrD) : Nat := if a.cuts.length = 0 then a.vals.length else a.cuts.length
theorem wayN_eq {a : AttrD} (h : attrOk a = true) : (wayN a : Int) = (if 0 < a.cuts.length then bins a - 2 else bins a - 1) + 1 := by
  have hk := ok_kind h
  unfold wayN bins
  rw [if_pos h]
  by_cases h0 : a.cuts.length = 0
  · rw [if_pos h0, if_neg (by omega), if_neg (fun e => (hk.1 e) h0)]
    omega
  · rw [if_neg h0, if_pos (by omega), if_pos (hk.2 h0)]
    omega
theorem top_eq {s : SchemaD} {f : ForkD} (h : attrOk (forkAttr s f) = true) : forkTop s f = (wayN (forkAttr s f) : Int) - 1 := by
  have := wayN_eq h
  unfold forkTop
  split <;> rename_i hc <;> simp only [hc, if_true, if_false] at this <;> omega
def placesOk (s : SchemaD) (l : List Int) : Bool := schemaOk s && (decide (0 < l.length) && ascIn 0 ((s.attrs.length : Int) - 1) l)
def candOf (s : SchemaD) (two : Bool) (a : Int) : List ForkD :=
  if (ad s.attrs a.toNat).cuts.length = 0 ∧ two = false then [⟨a, -1⟩] else (List.range (wayN (ad s.attrs a.toNat))).map fun p : Nat => (⟨a, (p : Int)⟩ : ForkD)
def candidates (s : SchemaD) (l : List Int) (two : Bool) : List ForkD := if placesOk s l = true then l.flatMap (candOf s two) else []
/-- What of a class one bin has in a branch. -/
def brAt (s : SchemaD) (f : ForkD) (i : Int) (c : List Int) (m k b : Nat) : Int := if branchOf s f b = i then colAt c m k b else 0
def brSum (s : SchemaD) (f : ForkD) (i : Int) (c : List Int) (m k n : Nat) : Int := sumL ((List.range n).map (brAt s f i c m k))
def totalsOk (s : SchemaD) (t : StatsD) (f : ForkD) (i : Int) : Bool := statsOk s t && (decide (t.cells.length ≠ 0) && (forkOk s f && decide (0 ≤ i ∧ i ≤ branches s f - 1)))
def branchTotals (s : SchemaD) (t : StatsD) (f : ForkD) (i : Int) : List Int :=
  if totalsOk s t f i = true then (List.range s.classes.length).map fun k => brSum s f i (il t.cells f.attr.toNat) s.classes.length k (bins (forkAttr s f)).toNat else []
theorem brSum_succ (s : SchemaD) (f : ForkD) (i : Int) (c : List Int) (m k n : Nat) : brSum s f i c m k (n + 1) = brSum s f i c m k n + brAt s f i c m k n := by
  unfold brSum
  rw [List.range_succ, List.map_append, List.map_singleton, sumL_snoc]
/-- The same, cell by cell. -/
def plAt (s : SchemaD) (f : ForkD) (i : Int) (c : List Int) (m k j : Nat) : Int := if j % m = k ∧ branchOf s f ((j / m : Nat) : Int) = i then c.getD j 0 else 0
def plSum (s : SchemaD) (f : ForkD) (i : Int) (c : List Int) (m k n : Nat) : Int := sumL ((List.range n).map (plAt s f i c m k))
theorem plSum_succ (s : SchemaD) (f : ForkD) (i : Int) (c : List Int) (m k n : Nat) : plSum s f i c m k (n + 1) = plSum s f i c m k n + plAt s f i c m k n := by
  unfold plSum
  rw [List.range_succ, List.map_append, List.map_singleton, sumL_snoc]
theorem plSum_row (s : SchemaD) (f : ForkD) (i : Int) (c : List Int) (m k n : Nat) (hk : k < m) : ∀ r, r ≤ m → plSum s f i c m k (n * m + r) = plSum s f i c m k (n * m) + if k < r then brAt s f i c m k n else 0 := by
  intro r
  induction r with
  | zero => intro _; simp
  | succ r ih =>
    intro hr
    have h1 : (n * m + r) % m = r := by rw [Nat.mul_comm, Nat.mul_add_mod]; exact Nat.mod_eq_of_lt (by omega)
    have h2 : (n * m + r) / m = n := by rw [Nat.mul_comm, Nat.mul_add_div (by omega), Nat.div_eq_of_lt (by omega)]; omega
    have h3 : plAt s f i c m k (n * m + r) = if r = k then brAt s f i c m k n else 0 := by
      unfold plAt brAt colAt
      rw [h1, h2]
      by_cases hkr : r = k
      · subst hkr
        by_cases hb : branchOf s f n = i
        · rw [if_pos (And.intro rfl hb), if_pos hb, if_pos rfl]
        · rw [if_neg (fun h => hb (And.right h)), if_neg hb, if_pos rfl]
      · rw [if_neg (fun h => hkr (And.left h)), if_neg hkr]
    rw [← Nat.add_assoc, plSum_succ, ih (by omega), h3]
    by_cases hkr : r = k
    · have e1 : ¬ k < r := by omega
      have e2 : k < r + 1 := by omega
      rw [if_neg e1, if_pos hkr, if_pos e2]; omega
    · by_cases hlt : k < r
      · have e2 : k < r + 1 := by omega
        rw [if_pos hlt, if_neg hkr, if_pos e2]; omega
      · have e2 : ¬ k < r + 1 := by omega
        rw [if_neg hlt, if_neg hkr, if_neg e2]; omega
theorem plSum_all (s : SchemaD) (f : ForkD) (i : Int) (c : List Int) (m k : Nat) (hk : k < m) : ∀ n, plSum s f i c m k (n * m) = brSum s f i c m k n := by
  intro n
  induction n with
  | zero => rw [Nat.zero_mul]; rfl
  | succ n ih => rw [Nat.succ_mul, plSum_row s f i c m k n hk m (Nat.le_refl _), if_pos hk, ih, brSum_succ]
/-- A part of a column is within the whole of it. -/
theorem brAt_le {s : SchemaD} {f : ForkD} {i : Int} {c : List Int} {m k b : Nat} (h : inW (colAt c m k b) = true) : 0 ≤ brAt s f i c m k b ∧ brAt s f i c m k b ≤ colAt c m k b := by
  have := of_decide_eq_true h
  unfold brAt
  split <;> omega
theorem brSum_le {s : SchemaD} {f : ForkD} {i : Int} {c : List Int} {m k : Nat} : ∀ n, (∀ b, b < n → inW (colAt c m k b) = true) → 0 ≤ brSum s f i c m k n ∧ brSum s f i c m k n ≤ n * 999 := by
  intro n
  induction n with
  | zero => intro _; constructor <;> exact Int.le_of_eq rfl
  | succ n ih =>
    intro h
    have h1 := ih fun b hb => h b (by omega)
    have h2 := of_decide_eq_true (h n (by omega))
    have h3 := brAt_le (s := s) (f := f) (i := i) (h n (by omega))
    rw [brSum_succ]
    omega
end Go.Proofs.Yteadkdllmeeocaa
/- Lists of questions, in plain words and in memory. -/
namespace Go.Proofs.Yteadkdllmeeocaa
open Go.RowKit
set_option maxRecDepth 100000
/-- The cells of a list of questions. -/
def fkC : List ForkD → List Value
  | [] => []
  | f :: r => .int .i64 f.attr :: .int .i64 f.pos :: fkC r
theorem fkC_snoc (f : ForkD) : ∀ fs : List ForkD, fkC (fs ++ [f]) = fkC fs ++ [.int .i64 f.attr, .int .i64 f.pos]
  | [] => rfl
  | g :: r => by show _ :: _ :: fkC (r ++ [f]) = _; rw [fkC_snoc f r]; rfl
def fk (fs : List ForkD) (k : Nat) : ForkD := fs.getD k ⟨0, 0⟩
theorem fkC_len : ∀ fs : List ForkD, (fkC fs).length = fs.length * 2
  | [] => rfl
  | f :: r => by show (fkC r).length + 1 + 1 = _; rw [fkC_len r, List.length_cons]; omega
theorem fkC_at : ∀ (fs : List ForkD) (k : Nat), k < fs.length → (fkC fs)[k * 2]? = some (.int .i64 (fk fs k).attr) ∧ (fkC fs)[k * 2 + 1]? = some (.int .i64 (fk fs k).pos)
  | [], k, h => by simp at h
  | f :: r, 0, _ => ⟨rfl, rfl⟩
  | f :: r, k + 1, h => by
    have h2 := fkC_at r k (by simpa using h)
    rw [show (k + 1) * 2 = k * 2 + 1 + 1 by omega]
    exact h2
def OwnF (w w' : World) (v : Value) (fs : List ForkD) : Prop := w'.ownsRow w.heap.size 38 2 v fs.length (fkC fs) ∧ Below w.heap.size w w'
theorem forkInfo : (Try.prog.info? 38).map (fun i => (i.zero, i.size, i.bytes)) = some (some (.agg #[.int .i64 0, .int .i64 0]), 2, 16) := by kernel_rfl
theorem newcF2 (w : World) (a b : Value) (t : TypeId) : ∀ (j : Nat) (u : Value), ([a, b] : List Value)[j]? = some u → (w.alloc (.cells #[a, b] t)).cell? ((⟨w.heap.size, 0, none⟩ : Addr).add j) = some u := by
  intro j u hj
  have e : (⟨w.heap.size, 0, none⟩ : Addr).add j = ⟨w.heap.size, j, none⟩ := by cases j <;> simp [Addr.add]
  rw [e, (Blk.new t w #[a, b]).cell j]
  simpa using hj
theorem one2 (a b : Int) : ∀ u ∈ [Value.int .i64 a, Value.int .i64 b], u.oneCell' = true := by
  intro u hu
  simp only [List.mem_cons, List.not_mem_nil, or_false] at hu
  rcases hu with rfl | rfl <;> rfl
/-- The candidates of the first k attributes. -/
def candTo (s : SchemaD) (two : Bool) (l : List Int) (k : Nat) : List ForkD := (l.take k).flatMap (candOf s two)
theorem candTo_succ {s : SchemaD} {two : Bool} {l : List Int} {k : Nat} (h : k < l.length) : candTo s two l (k + 1) = candTo s two l k ++ candOf s two (l.getD k 0) := by
  unfold candTo
  rw [List.take_succ_eq_append_getElem h, List.flatMap_append, List.flatMap_singleton, List.getD_eq_getElem?_getD, List.getElem?_eq_getElem h]; rfl
theorem candTo_all (s : SchemaD) (two : Bool) (l : List Int) : candTo s two l l.length = l.flatMap (candOf s two) := by unfold candTo; rw [List.take_length]
def wayF (a : Int) (p : Nat) : List ForkD := (List.range p).map fun q : Nat => (⟨a, (q : Int)⟩ : ForkD)
theorem wayF_succ (a : Int) (p : Nat) : wayF a (p + 1) = wayF a p ++ [⟨a, (p : Int)⟩] := by unfold wayF; rw [List.range_succ, List.map_append]; rfl
theorem wayF_len (a : Int) (p : Nat) : (wayF a p).length = p := by simp [wayF]
theorem cand_one {s : SchemaD} {two : Bool} {a : Nat} (h : (ad s.attrs a).cuts.length = 0) (ht : two = false) : candOf s two (a : Int) = [⟨a, -1⟩] := by unfold candOf; exact if_pos ⟨h, ht⟩
theorem cand_ways {s : SchemaD} {two : Bool} {a : Nat} (h : ¬ ((ad s.attrs a).cuts.length = 0 ∧ two = false)) : candOf s two (a : Int) = wayF a (wayN (ad s.attrs a)) := by unfold candOf; exact if_neg h
theorem wayN_le {a : AttrD} (h : attrOk a = true) : wayN a ≤ 4 := by
  have h1 := wayN_eq h
  have h2 := small_bins a
  split at h1 <;> omega
theorem places_parts {s : SchemaD} {l : List Int} (h : placesOk s l = true) : schemaOk s = true ∧ ∀ k, k < l.length → ∃ a : Nat, l.getD k 0 = (a : Int) ∧ a < s.attrs.length := by
  unfold placesOk at h
  rw [Bool.and_eq_true, Bool.and_eq_true] at h
  refine ⟨h.1, fun k hk => ?_⟩
  have h2 := asc_at h.2.2 hk
  obtain ⟨a, ha⟩ := Int.eq_ofNat_of_zero_le h2.1
  exact ⟨a, ha, by omega⟩
theorem candOf_len {s : SchemaD} (two : Bool) (a : Int) (h : okSch s) : (candOf s two a).length ≤ 1099511627776 := by
  unfold candOf
  split
  · simp
  · rw [List.length_map, List.length_range]
    unfold wayN
    by_cases ha : a.toNat < s.attrs.length
    · have h1 := h.each _ (ad_mem ha)
      have h2 := h1.cuts
      have h3 := h1.vals.1
      split <;> omega
    · have e : ad s.attrs a.toNat = ⟨ByteArray.empty, [], []⟩ := by unfold ad; rw [List.getD_eq_getElem?_getD, List.getElem?_eq_none (by omega)]; rfl
      rw [e]; simp
theorem places_len {s : SchemaD} {l : List Int} (h : placesOk s l = true) : l.length ≤ 5 := by
  obtain ⟨h1, h2⟩ := places_parts h
  have h5 : s.attrs.length ≤ 5 := by
    unfold schemaOk at h1
    rw [Bool.and_eq_true, decide_eq_true_eq] at h1
    exact h1.1.2
  unfold placesOk at h
  rw [Bool.and_eq_true, Bool.and_eq_true] at h
  have h3 := h.2.2
  have hk : ∀ k, k < l.length → (k : Int) ≤ l.getD k 0 := by
    intro k
    induction k with
    | zero => intro hk; exact (asc_at h3 hk).1
    | succ k ih =>
      intro hk
      have h4 := ih (by omega)
      have h6 : ascAt 0 ((s.attrs.length : Int) - 1) l (k + 1) = true := by
        unfold ascIn at h3
        rw [List.all_eq_true] at h3
        exact h3 _ (List.mem_range.2 hk)
      unfold ascAt at h6
      rw [Bool.and_eq_true, Bool.or_eq_true] at h6
      rcases h6.2 with h7 | h7
      · have := of_decide_eq_true h7; omega
      · have := of_decide_eq_true h7
        rw [Nat.add_sub_cancel] at this
        omega
  rcases Nat.lt_or_ge l.length 6 with h8 | h8
  · omega
  · have h9 := hk 5 (by omega)
    have h10 := (asc_at h3 (show 5 < l.length by omega)).2
    omega
theorem candidates_len {s : SchemaD} {l : List Int} (two : Bool) : (candidates s l two).length ≤ 1099511627776 := by
  unfold candidates
  split
  · rename_i h
    obtain ⟨h1, h2⟩ := places_parts h
    have h3 := places_len h
    rw [List.length_flatMap]
    have h4 : ∀ x ∈ l.map (fun a => (candOf s two a).length), x ≤ 4 := by
      intro x hx
      obtain ⟨a, ha, rfl⟩ := List.mem_map.1 hx
      obtain ⟨j, hj, rfl⟩ := List.getElem_of_mem ha
      obtain ⟨b, hb, hb2⟩ := h2 j hj
      rw [List.getD_eq_getElem?_getD, List.getElem?_eq_getElem hj] at hb
      simp only [Option.getD_some] at hb
      rw [hb]
      have h5 := wayN_le (sch_attr h1 hb2)
      unfold candOf
      split
      · simp
      · rw [List.length_map, List.length_range]; exact h5
    have h6 : ∀ (xs : List Nat), (∀ x ∈ xs, x ≤ 4) → xs.sum ≤ 4 * xs.length := by
      intro xs
      induction xs with
      | nil => intro _; simp
      | cons y r ih =>
        intro hx
        have := ih fun x h => hx x (List.mem_cons_of_mem _ h)
        have := hx y List.mem_cons_self
        rw [List.sum_cons, List.length_cons]; omega
    have h7 := h6 _ h4
    rw [List.length_map] at h7
    omega
  · simp
end Go.Proofs.Yteadkdllmeeocaa
/- Draws: a cursor over the bytes of a code; whatever is drawn is one of what may be drawn. -/
namespace Go.Proofs.Yteadkdllmeeocaa
open Go.RowKit
set_option maxRecDepth 100000

/-- A cursor lies at the head of block g: over the slice a, at place i. -/
def IsCur (w : World) (g : Nat) (a : Option Addr) (len cap : Nat) : Prop :=
  ∃ (i : Nat) (h : Int), i ≤ len ∧ w.heap[g]? = some (.cells #[.slice a len cap, .int .i64 i, .int .i64 h] 76 (0, 0))

theorem and255 (y : Int) : 0 ≤ bits .and .i64 y 255 ∧ bits .and .i64 y 255 ≤ 255 := by
  have h1 : ((BitVec.ofInt 64 y) &&& (BitVec.ofInt 64 255)).toNat ≤ 255 := by
    rw [BitVec.toNat_and]
    exact Nat.le_trans Nat.and_le_right (by decide)
  have h2 : bits .and .i64 y 255 = IntKind.i64.wrap (((BitVec.ofInt 64 y) &&& (BitVec.ofInt 64 255)).toNat : Int) := rfl
  rw [h2, IntKind.wrap_i64]
  omega

theorem cur_cells {w : World} {g : Nat} {x y z : Value} {t : TypeId} (h : w.heap[g]? = some (.cells #[x, y, z] t (0, 0))) :
    w.cell? ⟨g, 0, none⟩ = some x ∧ w.cell? ⟨g, 1, none⟩ = some y ∧ w.cell? ⟨g, 2, none⟩ = some z ∧ (∀ j, w.frozen? ⟨g, j, none⟩ = false) := by
  refine ⟨?_, ?_, ?_, fun j => ?_⟩
  · simp [World.cell?, h]
  · simp [World.cell?, h]
  · simp [World.cell?, h]
  · simp [World.frozen?, h]

theorem cur_set2 {w : World} {g : Nat} {x y z : Value} {t : TypeId} (h : w.heap[g]? = some (.cells #[x, y, z] t (0, 0))) (v : Value) : (w.setCell ⟨g, 2, none⟩ v).heap[g]? = some (.cells #[x, y, v] t (0, 0)) :=
  heap_setCell_same w g 2 #[x, y, z] t v h
theorem cur_set1 {w : World} {g : Nat} {x y z : Value} {t : TypeId} (h : w.heap[g]? = some (.cells #[x, y, z] t (0, 0))) (v : Value) : (w.setCell ⟨g, 1, none⟩ v).heap[g]? = some (.cells #[x, v, z] t (0, 0)) :=
  heap_setCell_same w g 1 #[x, y, z] t v h
theorem grown_set (w : World) (g j : Nat) (u : Value) : w.grownBy (w.setCell ⟨g, j, none⟩ u) (some g) :=
  ⟨rfl, rfl, rfl, by simp, fun k _ hk => heap_setCell_other w ⟨g, j, none⟩ k u (fun e => hk (by simp [e]))⟩
theorem grown_drew {a w : World} {r : Option Nat} (h : a.grownBy w r) (n : Nat) : a.grownBy (w.drewN n) r := ⟨h.os, h.tape, h.output, h.size, h.block⟩
theorem grown_trans {a b c : World} {r : Option Nat} (h : a.grownBy b r) (k : b.grownBy c r) : a.grownBy c r :=
  ⟨k.os.trans h.os, k.tape.trans h.tape, k.output.trans h.output, Nat.le_trans h.size k.size, fun j hj hr => (k.block j (Nat.lt_of_lt_of_le hj h.size) hr).trans (h.block j hj hr)⟩
/-- The code's cells are not the cursor's. -/
theorem not_cur {w : World} {g b o : Nat} {x : Option Addr} {l c : Nat} {i h d : Int} {t : TypeId} (hb : w.heap[g]? = some (.cells #[.slice x l c, .int .i64 i, .int .i64 h] t (0, 0))) (hc : w.cell? ⟨b, o, none⟩ = some (.int .u8 d)) : ¬ b = g := by
  intro e
  subst e
  simp only [World.cell?, hb] at hc
  match o, hc with
  | 0, hc => simp at hc
  | 1, hc => simp at hc
  | 2, hc => simp at hc
  | n + 3, hc => simp at hc

set_option maxHeartbeats 1600000 in
theorem l1Byte_any (g : Nat) (a : Option Addr) (len cap : Nat) (zs : List Int) (w : World) (hc : IsCur w g a len cap) (hr : IsRow .u8 w a len cap zs) :
    Calls Try.prog 73 #[.pointer (some ⟨g, 0, none⟩)] w fun e w' => ∃ x : Int, e = .returned (.int .i64 x) ∧ 0 ≤ x ∧ x ≤ 255 ∧ IsCur w' g a len cap ∧ w.grownBy w' (some g) := by
  obtain ⟨i, h, hi, hb⟩ := hc
  obtain ⟨c0, c1, c2, hf⟩ := cur_cells hb
  have hf2 := hf 2
  have hf1 := hf 1
  have hle := hr.le
  have HB : Hid (w.heap[g]? = some (.cells #[.slice a len cap, .int .i64 i, .int .i64 h] 76 (0, 0))) := hb
  clear hf
  by_cases hlt : i < len
  · obtain ⟨b, o, rfl, hbl, hcs⟩ := hr.at (by omega)
    have hcell := hcs i hlt
    have hbd := hr.bytes i
    have hne := not_cur hb hcell
    generalize (zs.take len).getD i 0 = d at hcell hbd
    clear hcs hb hr
    go_enter Try.func73, Try.ntmps73
    go_wp2
    go_quiet (fail)
    all_goals go_wp2
    go_quiet (fail)
    all_goals go_wp2
    all_goals go_quiet (fail)
    all_goals go_wp2
    go_ret
    refine ⟨_, rfl, (and255 _).1, (and255 _).2, ⟨i + 1, wrap64 (wrap64 (h * 6364136223846793005) + 1442695040888963407), by omega, ?_⟩, ?_⟩
    · rw [show ((i + 1 : Nat) : Int) = (i : Int) + 1 by omega]
      exact cur_set1 (w := (w.setCell ⟨g, 2, none⟩ _).drewN _) (cur_set2 HB.out _) _
    · exact grown_trans (grown_drew (grown_set w g 2 _) _) (grown_set _ g 1 _)
  · clear hb hr
    go_enter Try.func73, Try.ntmps73
    go_wp2
    go_quiet (fail)
    all_goals go_wp2
    go_quiet (fail)
    all_goals go_wp2
    go_ret
    refine ⟨_, rfl, (and255 _).1, (and255 _).2, ⟨i, wrap64 (wrap64 (h * 6364136223846793005) + 1442695040888963407), by omega, ?_⟩, ?_⟩
    · exact cur_set2 HB.out _
    · exact grown_drew (grown_drew (grown_set w g 2 _) _) _

theorem grown_below {w w' : World} {g B : Nat} (h : w.grownBy w' (some g)) (hB : B ≤ g) (hs : B ≤ w.heap.size) : Below B w w' := (Below.refl _ _).grown h hs (fun k hk => by cases hk; exact hB)

theorem l1Below_any (g : Nat) (a : Option Addr) (len cap : Nat) (zs : List Int) (n : Nat) (w : World) (hc : IsCur w g a len cap) (hr : IsRow .u8 w a len cap zs) (h1 : 1 ≤ n) (h2 : n ≤ 256) :
    Calls Try.prog 52 #[.pointer (some ⟨g, 0, none⟩), .int .i64 (n : Int)] w fun e w' => ∃ x : Nat, e = .returned (.int .i64 (x : Int)) ∧ x < n ∧ IsCur w' g a len cap ∧ w.grownBy w' (some g) := by
  have hn0 : ¬ (n : Int) ≤ 0 := by omega
  have hn1 : ¬ (n : Int) = 0 := by omega
  go_enter Try.func52, Try.ntmps52
  go_wp2_with fail
  refine (l1Byte_any g a len cap zs w hc hr).mono ?_
  rintro e w1 ⟨x, rfl, x0, x1, hc1, hg1⟩
  obtain ⟨y, rfl⟩ := Int.eq_ofNat_of_zero_le x0
  clear hc hr
  go_wp2
  go_ret
  refine ⟨y % n, ?_, Nat.mod_lt _ (by omega), hc1, hg1⟩
  first | rfl | (congr 2; done) | simp

/-- The code is read as it was, the cursor aside. -/
theorem IsRow.aside {w w' : World} {g : Nat} {a : Option Addr} {len cap : Nat} {zs : List Int} (h : IsRow .u8 w a len cap zs) (hc : IsCur w g a len cap) (hg : w.grownBy w' (some g)) : IsRow .u8 w' a len cap zs := by
  obtain ⟨i, y, _, hb⟩ := hc
  rcases h with h | ⟨x, rfl, h1, h2, h3, hcell, hw⟩
  · exact .inl h
  · refine .inr ⟨x, rfl, h1, h2, h3, fun j hj => ?_, hw⟩
    have hx := hcell j hj
    obtain ⟨b, o, sp⟩ := x
    have hsp : sp = none := by
      have hx0 := World.cell?_spot (hcell 0 (by omega))
      simpa [Addr.add] using hx0
    subst hsp
    have e : (⟨b, o, none⟩ : Addr).add j = ⟨b, o + j, none⟩ := by cases j <;> simp [Addr.add]
    rw [e] at hx ⊢
    have hne := not_cur hb hx
    have hlt := lt_of_cell hx
    rw [← hx]
    exact World.cell?_of_block (w := w) (hg.block b hlt (by simp; exact hne))

theorem l1PickInt_any (g : Nat) (a : Option Addr) (len cap : Nat) (zs : List Int) (gl : Nat) (xs : List Int) (w : World) (hc : IsCur w g a len cap) (hr : IsRow .u8 w a len cap zs) (h1 : 1 ≤ xs.length) (h2 : xs.length ≤ 256) (hgl : ¬ gl = g)
    (hl : ∀ j, j < xs.length → w.cell? ⟨gl, j, none⟩ = some (.int .i64 (xs.getD j 0))) :
    Calls Try.prog 48 #[.pointer (some ⟨g, 0, none⟩), .slice (some ⟨gl, 0, none⟩) xs.length xs.length] w fun e w' => ∃ x : Int, e = .returned (.int .i64 x) ∧ x ∈ xs ∧ IsCur w' g a len cap ∧ w.grownBy w' (some g) := by
  have HL : Hid (∀ j, j < xs.length → w.cell? ⟨gl, j, none⟩ = some (.int .i64 (xs.getD j 0))) := hl
  clear hl
  go_enter Try.func48, Try.ntmps48
  go_wp2_with fail
  refine (l1Below_any g a len cap zs xs.length w hc hr h1 h2).mono ?_
  rintro e w1 ⟨x, rfl, hx, hc1, hg1⟩
  have hcell : w1.cell? ⟨gl, x, none⟩ = some (.int .i64 (xs.getD x 0)) := by
    have h0 := HL.out x hx
    rw [← h0]
    exact World.cell?_of_block (w := w) (hg1.block gl (lt_of_cell h0) (by simp; exact hgl))
  have hmem : xs.getD x 0 ∈ xs := by rw [List.getD_eq_getElem?_getD, List.getElem?_eq_getElem hx]; exact List.getElem_mem hx
  generalize xs.getD x 0 = r at hcell hmem
  clear hc hr
  go_wp2
  go_ret
  exact ⟨r, rfl, hmem, hc1, hg1⟩

theorem new_cur (w : World) (a : Option Addr) (len cap : Nat) (h : Int) : IsCur (w.alloc (.cells #[.slice a len cap, .int .i64 0, .int .i64 h] 76)) w.heap.size a len cap := by
  refine ⟨0, h, Nat.zero_le _, ?_⟩
  show (w.heap.push _)[w.heap.size]? = _
  simp

set_option maxRecDepth 100000 in
set_option maxHeartbeats 800000 in
theorem l1New_any (a : Option Addr) (len cap : Nat) (zs : List Int) (w : World) (hr : IsRow .u8 w a len cap zs) (hn : len ≤ 1048576) :
    Calls Try.prog 28 #[.slice a len cap] w fun e w' => e = .returned (.pointer (some ⟨w.heap.size, 0, none⟩)) ∧ IsCur w' w.heap.size a len cap ∧ Below w.heap.size w w' ∧ w'.heap.size = w.heap.size + 1 := by
  by_cases h0 : 0 < len
  · obtain ⟨b, o, rfl, hbl, hcs⟩ := hr.at h0
    have hbd := hr.bytes
    generalize zs.take len = xs at hcs hbd
    clear hr
    go_enter Try.func28, Try.ntmps28
    go_wp2
    go_loop [3, 4] (fun h i => ∃ (k : Nat) (y : Int), i = .int .i64 k ∧ h = .int .i64 y ∧ k ≤ len ∧ k ≤ 4000) (fun _ i => len - (intOf i).toNat)
    case atStart => exact ⟨0, _, rfl, rfl, by omega, by omega⟩
    case round =>
      obtain ⟨k, y, rfl, rfl, hk, hk4⟩ := hrel
      by_cases hlt : k < len ∧ k < 4000
      · obtain ⟨hlt, hl4⟩ := hlt
        have hcell := hcs k hlt
        have hb := hbd k
        generalize xs.getD k 0 = d at hcell hb
        clear hcs hbd
        go_wp2
        go_round
        case rel => exact ⟨k + 1, _, by go_num, rfl, by omega, by omega⟩
        case measure => simp [intOf]; omega
      · clear hcs hbd
        by_cases hk1 : k < len
        · have hk2 : ¬ k < 4000 := fun h => hlt ⟨hk1, h⟩
          clear hlt
          go_wp2
          go_ret
          exact ⟨rfl, new_cur w _ _ _ _, (Below.refl _ _).alloc (Nat.le_refl _) _, by simp⟩
        · clear hlt
          go_wp2
          go_ret
          exact ⟨rfl, new_cur w _ _ _ _, (Below.refl _ _).alloc (Nat.le_refl _) _, by simp⟩
  · obtain rfl : len = 0 := by omega
    clear hr
    go_enter Try.func28, Try.ntmps28
    go_wp2
    refine wp_loop_rounds 1 ?_
    rw [rounds_succ]
    go_wp2
    go_ret
    exact ⟨rfl, new_cur w _ _ _ _, (Below.refl _ _).alloc (Nat.le_refl _) _, by simp⟩
end Go.Proofs.Yteadkdllmeeocaa
