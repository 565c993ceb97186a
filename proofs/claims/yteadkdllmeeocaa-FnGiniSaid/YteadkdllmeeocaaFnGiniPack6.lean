/- Texts of this claim, put together: part 6. -/
import Derived.Test.YteadkdllmeeocaaFnGiniPack5
import Derived.Test.YteadkdllmeeocaaFnGiniPack3
import Derived.Test.YteadkdllmeeocaaRows
import Derived.WalkKit
import Derived.ProofKit
import Derived.OpenShut
/- How many bins an attribute has, in plain words. -/
namespace Go.Proofs.Yteadkdllmeeocaa
def bins (a : AttrD) : Int := if attrOk a = true then (if a.vals.length = 0 then (a.cuts.length : Int) + 1 else a.vals.length) else 0
theorem ok_kind {a : AttrD} (h : attrOk a = true) : (a.vals.length = 0 ↔ a.cuts.length ≠ 0) := by
  unfold attrOk at h
  rw [Bool.and_eq_true] at h
  have h2 := h.2
  by_cases h0 : a.cuts.length = 0
  · rw [if_pos h0] at h2
    unfold choices at h2
    rw [Bool.and_eq_true] at h2
    have := of_decide_eq_true h2.1
    omega
  · rw [if_neg h0, Bool.and_eq_true] at h2
    have := of_decide_eq_true h2.1
    omega

end Go.Proofs.Yteadkdllmeeocaa
/- Chapter 8 in plain words: what a leaf has counted. -/
namespace Go.Proofs.Yteadkdllmeeocaa
open Go.RowKit
set_option maxRecDepth 100000
structure StatsD where
  totals : List Int
  cells : List (List Int)
def il (cs : List (List Int)) (j : Nat) : List Int := cs.getD j []
theorem il_eq {cs : List (List Int)} {j : Nat} (h : j < cs.length) : il cs j = cs[j] := by simp [il, h]
theorem il_mem {cs : List (List Int)} {j : Nat} (h : j < cs.length) : il cs j ∈ cs := by rw [il_eq h]; exact List.getElem_mem h
/-- What a function knows of a list of lists of numbers that it is handed. -/
def RowII (w : World) (v : Value) (cs : List (List Int)) : Prop :=
  ∃ oa cap, v = .slice oa cs.length cap ∧ cs.length ≤ cap ∧ (0 < cs.length → ∃ g o, oa = some ⟨g, o, none⟩ ∧ g < w.heap.size ∧ ∀ j, j < cs.length → ∃ u, w.cell? ⟨g, o + j, none⟩ = some u ∧ RowI w u (il cs j))
theorem RowII.later {w w' : World} {v : Value} {cs : List (List Int)} (h : RowII w v cs) (hb : Below w.heap.size w w') : RowII w' v cs := by
  obtain ⟨oa, cap, rfl, hc, hr⟩ := h
  refine ⟨oa, cap, rfl, hc, fun h0 => ?_⟩
  obtain ⟨g, o, rfl, hg, hj⟩ := hr h0
  exact ⟨g, o, rfl, Nat.lt_of_lt_of_le hg hb.size, fun j hlt => by
    obtain ⟨u, h1, h2⟩ := hj j hlt
    exact ⟨u, (hb.cell (p := ⟨g, o + j, none⟩) hg).trans h1, h2.later hb⟩⟩
/-- What a function knows of the counts that it is handed. -/
def StatsAt (w : World) (v : Value) (t : StatsD) : Prop := ∃ vt vc, v = .agg #[vt, vc] ∧ RowI w vt t.totals ∧ RowII w vc t.cells
theorem StatsAt.later {w w' : World} {v : Value} {t : StatsD} (h : StatsAt w v t) (hb : Below w.heap.size w w') : StatsAt w' v t := by
  obtain ⟨vt, vc, rfl, h1, h2⟩ := h
  exact ⟨vt, vc, rfl, h1.later hb, h2.later hb⟩
structure okSt (t : StatsD) : Prop where
  totals : t.totals.length ≤ 1099511627776
  cells : t.cells.length ≤ 1099511627776
  each : ∀ c ∈ t.cells, c.length ≤ 1099511627776
/-- The place of the greatest number, the first of such. -/
def topFrom (l : List Int) (at' : Int) (k : Nat) : Nat → Int
  | 0 => at'
  | n + 1 => if at' < 0 ∨ l.getD at'.toNat 0 < l.getD k 0 then topFrom l k (k + 1) n else topFrom l at' (k + 1) n
def topOf (l : List Int) : Int := topFrom l (-1) 0 l.length
theorem topFrom_step {l : List Int} {at' : Int} {k n : Nat} (h : k < n) : topFrom l at' k (n - k) = if at' < 0 ∨ l.getD at'.toNat 0 < l.getD k 0 then topFrom l k (k + 1) (n - (k + 1)) else topFrom l at' (k + 1) (n - (k + 1)) := by
  rw [show n - k = (n - (k + 1)) + 1 by omega]; rfl
def sumL (l : List Int) : Int := l.foldl (· + ·) 0
theorem sumL_snoc (l : List Int) (x : Int) : sumL (l ++ [x]) = sumL l + x := by simp [sumL]
def inW (x : Int) : Bool := decide (0 ≤ x ∧ x ≤ 999)
/-- The cells of one attribute and class: place b * classes + k. -/
def colAt (c : List Int) (m k b : Nat) : Int := c.getD (b * m + k) 0
def colL (c : List Int) (m k n : Nat) : List Int := (List.range n).map (colAt c m k)
def colOk (t : StatsD) (c : List Int) (m n k : Nat) : Bool := (colL c m k n).all inW && decide (sumL (colL c m k n) ≤ t.totals.getD k 0)
def cellOk (s : SchemaD) (t : StatsD) (i : Nat) : Bool :=
  decide (((il t.cells i).length : Int) = bins (ad s.attrs i) * s.classes.length) && (List.range s.classes.length).all (colOk t (il t.cells i) s.classes.length (bins (ad s.attrs i)).toNat)
def statsOk (s : SchemaD) (t : StatsD) : Bool :=
  schemaOk s && (decide (t.totals.length = s.classes.length) && (t.totals.all inW && (decide (sumL t.totals ≤ 999) && (decide (t.cells.length = 0) || (decide (t.cells.length = s.attrs.length) && (List.range t.cells.length).all (cellOk s t))))))
def statsSame (a b : StatsD) : Bool := decide (a.totals = b.totals) && decide (a.cells = b.cells)
end Go.Proofs.Yteadkdllmeeocaa
/- The sum of squares, in plain words. -/
namespace Go.Proofs.Yteadkdllmeeocaa
open Go.RowKit
set_option maxRecDepth 100000
def sqL (l : List Int) : Int := sumL (l.map fun x => x * x)
def squares (l : List Int) : Int := if l.length ≤ 3 ∧ l.all inW = true then sqL l else -1
theorem take_in {l : List Int} {k : Nat} (h : k < l.length) : l.take (k + 1) = l.take k ++ [l.getD k 0] := by
  rw [List.take_succ_eq_append_getElem h, List.getD_eq_getElem?_getD, List.getElem?_eq_getElem h]; rfl
theorem sq_take {l : List Int} {k : Nat} (h : k < l.length) : sqL (l.take (k + 1)) = sqL (l.take k) + l.getD k 0 * l.getD k 0 := by
  unfold sqL
  rw [take_in h, List.map_append, List.map_singleton, sumL_snoc]
theorem sum_take10 {l : List Int} {k : Nat} (h : k < l.length) : sumL (l.take (k + 1)) = sumL (l.take k) + l.getD k 0 := by
  rw [take_in h, sumL_snoc]
theorem sq_small {x : Int} (h : inW x = true) : 0 ≤ x * x ∧ x * x ≤ 998001 := by
  obtain ⟨h0, h1⟩ := of_decide_eq_true h
  obtain ⟨n, rfl⟩ := Int.eq_ofNat_of_zero_le h0
  have h2 : n * n ≤ 999 * 999 := Nat.mul_le_mul (by omega) (by omega)
  have h3 : (n : Int) * (n : Int) = ((n * n : Nat) : Int) := by rw [Int.natCast_mul]
  rw [h3]; omega
theorem sq_bound {l : List Int} : ∀ k, k ≤ l.length → (∀ j, j < k → inW (l.getD j 0) = true) → 0 ≤ sqL (l.take k) ∧ sqL (l.take k) ≤ k * 998001 := by
  intro k
  induction k with
  | zero => intro _ _; exact ⟨Int.le_of_eq rfl, Int.le_of_eq rfl⟩
  | succ k ih =>
    intro hk h
    have h1 := ih (by omega) fun j hj => h j (by omega)
    have h2 := sq_small (h k (by omega))
    rw [sq_take (by omega)]
    omega
theorem sum_bound10 {l : List Int} : ∀ k, k ≤ l.length → (∀ j, j < k → inW (l.getD j 0) = true) → 0 ≤ sumL (l.take k) ∧ sumL (l.take k) ≤ k * 999 := by
  intro k
  induction k with
  | zero => intro _ _; exact ⟨Int.le_of_eq rfl, Int.le_of_eq rfl⟩
  | succ k ih =>
    intro hk h
    have h1 := ih (by omega) fun j hj => h j (by omega)
    have h2 := of_decide_eq_true (h k (by omega))
    rw [sum_take10 (by omega)]
    omega
theorem all_in {l : List Int} (h : ∀ j, j < l.length → inW (l.getD j 0) = true) : l.all inW = true := by
  rw [List.all_eq_true]
  intro x hx
  obtain ⟨j, hj, rfl⟩ := List.getElem_of_mem hx
  have := h j hj
  rwa [List.getD_eq_getElem?_getD, List.getElem?_eq_getElem hj] at this
theorem in_all {l : List Int} (h : l.all inW = true) {j : Nat} (hj : j < l.length) : inW (l.getD j 0) = true := by
  rw [List.getD_eq_getElem?_getD, List.getElem?_eq_getElem hj]
  exact List.all_eq_true.1 h _ (List.getElem_mem hj)
theorem squares_no {l : List Int} {k : Nat} (hk : k < l.length) (h : inW (l.getD k 0) = false) : squares l = -1 := by
  unfold squares
  rw [if_neg]
  rintro ⟨-, h2⟩
  rw [in_all h2 hk] at h
  cases h
theorem squares_long {l : List Int} (h : 3 < l.length) : squares l = -1 := by unfold squares; rw [if_neg (by omega)]
theorem squares_yes {l : List Int} (h3 : l.length ≤ 3) (h : ∀ j, j < l.length → inW (l.getD j 0) = true) : squares l = sqL (l.take l.length) := by
  unfold squares
  rw [if_pos ⟨h3, all_in h⟩, List.take_length]
theorem squares_cases (l : List Int) : (squares l = -1) ∨ (l.length ≤ 3 ∧ (∀ j, j < l.length → inW (l.getD j 0) = true) ∧ squares l = sqL l ∧ 0 ≤ squares l ∧ squares l ≤ 2994003 ∧ 0 ≤ sumL l ∧ sumL l ≤ 2997) := by
  by_cases h : l.length ≤ 3 ∧ l.all inW = true
  · refine .inr ?_
    have ha : ∀ j, j < l.length → inW (l.getD j 0) = true := fun j hj => in_all h.2 hj
    have h1 := sq_bound l.length (Nat.le_refl _) ha
    have h2 := sum_bound10 l.length (Nat.le_refl _) ha
    rw [List.take_length] at h1 h2
    have h3 : squares l = sqL l := by unfold squares; rw [if_pos h]
    rw [h3]
    exact ⟨h.1, ha, rfl, by omega, by omega, by omega, by omega⟩
  · exact .inl (by unfold squares; rw [if_neg h])
end Go.Proofs.Yteadkdllmeeocaa
/- The specification's small helper on bounds. -/
namespace Go.Proofs.Yteadkdllmeeocaa
open Go.RowKit
set_option maxRecDepth 100000

theorem in_any (x lo hi : Int) (w : World) : Calls Try.prog 31 #[.int .i64 x, .int .i64 lo, .int .i64 hi] w fun e w' => e = .returned (.bool (decide (lo ≤ x ∧ x ≤ hi))) ∧ w' = w := by
  by_cases h0 : lo ≤ x <;> by_cases h1 : x ≤ hi
  all_goals
    go_enter Try.func31, Try.ntmps31
    go_wp2
    go_ret
    exact ⟨by simp [h0, h1], rfl⟩
end Go.Proofs.Yteadkdllmeeocaa
