/- Texts of this claim, put together: part 10. -/
import Derived.Test.YtfflodcapcamcabRows
import Derived.WalkKit
import Derived.ProofKit
import Derived.OpenShut
import Derived.Deep.RegionHeld3
import Derived.Test.YtfflodcapcamcabCandidatesPack3
import Derived.Test.YtfflodcapcamcabCandidatesPack4
import Derived.Test.YtfflodcapcamcabCandidatesPack9
import Derived.Test.YtfflodcapcamcabCandidatesPack2
/- In a region that draws its order: what may be taken first, what comes next. -/
namespace Go.Proofs.Ytfflodcapcamcab
open Go.RowKit
set_option maxRecDepth 100000

section
variable {Pr : Program} {ops : Array Oper} {Q : Exit → Act → World → Prop} {md : Region.Mode} {S : World → Prop}
/-- An operation that may come up now is taken first; it is read off the list, so that it stands written out. -/
theorem takeL (i : Nat) {oi : Oper} (v : Value) {fuel : Nat} {listed : Array Bool} {a : Act} {w : World} (hi : ops.toList[i]? = some oi)
    (hs : Region.noSelect ops = true) (hf : Region.free md ops listed i = true) (hr : (Region.ready md ops listed).contains i = true)
    (hQ : ∀ c a w, Q (.panic c) (a.put oi.dst v) w → Q (.panic c) a w) (hy : YieldsIf Pr ops S oi v a) (hS : S w)
    (h : wpAnyH Pr md ops Q S fuel (listed.setIfInBounds i true) (a.put oi.dst v) w) : wpAnyH Pr md ops Q S (fuel + 1) listed a w :=
  wpAnyH_take (by simpa using hi) hs hf hr hQ hy hS h
/-- The one operation that may come up now. -/
theorem nextL (i : Nat) {oi : Oper} {fuel : Nat} {listed : Array Bool} {a : Act} {w : World} (hi : ops.toList[i]? = some oi) (hr : Region.ready md ops listed = [i])
    (hw : Region.wanted oi (yielded ops a.tmps) = true)
    (h : ∀ K' : Act → World → Prop, (∀ a w, S w → (S w → wpAnyH Pr md ops Q S fuel (listed.setIfInBounds i true) a w) → K' a w) → Oper.wp Pr oi a w K' Q) : wpAnyH Pr md ops Q S (fuel + 1) listed a w := by
  refine wpAnyH_ready hr (by simp) (AllReadyH.cons (o := oi) (by simpa using hi) (fun K hK => ?_) AllReadyH.nil)
  rw [if_pos hw]
  exact h K hK.out
/-- Two may come up now, in either order. -/
theorem next2L (i j : Nat) {oi oj : Oper} {fuel : Nat} {listed : Array Bool} {a : Act} {w : World} (hi : ops.toList[i]? = some oi) (hj : ops.toList[j]? = some oj) (hr : Region.ready md ops listed = [i, j])
    (hw : Region.wanted oi (yielded ops a.tmps) = true) (hw2 : Region.wanted oj (yielded ops a.tmps) = true)
    (h : ∀ K' : Act → World → Prop, (∀ a w, S w → (S w → wpAnyH Pr md ops Q S fuel (listed.setIfInBounds i true) a w) → K' a w) → Oper.wp Pr oi a w K' Q)
    (h2 : ∀ K' : Act → World → Prop, (∀ a w, S w → (S w → wpAnyH Pr md ops Q S fuel (listed.setIfInBounds j true) a w) → K' a w) → Oper.wp Pr oj a w K' Q) : wpAnyH Pr md ops Q S (fuel + 1) listed a w := by
  refine wpAnyH_ready hr (by simp) (AllReadyH.cons (o := oi) (by simpa using hi) (fun K hK => ?_) (AllReadyH.cons (o := oj) (by simpa using hj) (fun K hK => ?_) AllReadyH.nil))
  · rw [if_pos hw]
    exact h K hK.out
  · rw [if_pos hw2]
    exact h2 K hK.out
end

section
variable {ops : Array Oper} {S : World → Prop} {op : Oper} {a : Act}
/-- The load of one integer. -/
theorem yields_int (hw : Region.wanted op (yielded ops a.tmps) = true) (x : Operand) (ho : op.op = .load 3 x) (p : Addr) (hx : a.eval x = .pointer (some p)) (n : Int)
    (hS : ∀ w, S w → w.cell? p = some (.int .i64 n)) : YieldsIf Try.prog ops S op (.int .i64 n) a :=
  .inl ⟨hw, fun w hw' => by
    have h := hS w hw'
    unfold execOp
    simp only [ho, hx]
    go_simp⟩
/-- A quotient. -/
theorem yields_quo (hw : Region.wanted op (yielded ops a.tmps) = true) (x y : Operand) (ho : op.op = .binOp .quo 3 x y 3) (m n : Int) (hx : a.eval x = .int .i64 m) (hy : a.eval y = .int .i64 n)
    (h0 : 0 ≤ m) (h1 : m ≤ 9223372036854775807) (h2 : 0 < n) : YieldsIf Try.prog ops S op (.int .i64 (m / n)) a :=
  .inl ⟨hw, fun w hw' => by
    have hle : m / n ≤ m := Int.ediv_le_self _ h0
    have hge : 0 ≤ m / n := Int.ediv_nonneg h0 (by omega)
    unfold execOp
    simp only [ho, hx, hy]
    go_simp
    have e : IntKind.i64.wrap (m.tdiv n) = m / n := by rw [IntKind.wrap_i64, Int.tdiv_eq_ediv_of_nonneg h0]; omega
    rw [if_neg (by omega), e]⟩
/-- Two texts, one behind the other. -/
theorem yields_cat (hw : Region.wanted op (yielded ops a.tmps) = true) (x y : Operand) (ho : op.op = .binOp .add 9 x y 9) (s t : ByteArray) (hx : a.eval x = .string s) (hy : a.eval y = .string t)
    (h : s.size + t.size ≤ 1000000) : YieldsIf Try.prog ops S op (.string (s ++ t)) a :=
  .inl ⟨hw, fun w hw' => by
    unfold execOp
    simp only [ho, hx, hy]
    go_simp
    omega⟩
end
end Go.Proofs.Ytfflodcapcamcab
/- In a region that draws its order: the load of a whole struct. -/
namespace Go.Proofs.Ytfflodcapcamcab
open Go.RowKit
set_option maxRecDepth 100000

theorem yields_row {ops : Array Oper} {S : World → Prop} {op : Oper} {a : Act} {T : TypeId} {d : Array Field} {cs : Array Value} (hu : Try.prog.underlying T = some (.struct d))
    (hi : (Try.prog.info? T).map (·.size) = some cs.size) (hw : Region.wanted op (yielded ops a.tmps) = true) (x : Operand) (ho : op.op = .load T x)
    (g : Nat) (hx : a.eval x = .pointer (some ⟨g, 0, none⟩)) (hS : ∀ w, S w → Blk T w g cs) : YieldsIf Try.prog ops S op (.agg cs) a :=
  .inl ⟨hw, fun w hw' => by
    unfold execOp
    simp only [ho, hx, Instr.loadAt, Instr.sureAddr, Sem.run_bind, Sem.run_pure, Result.andThen_ok, run_loadVar_row w g _ T _ _ _ (hS w hw') hu rfl hi]⟩
end Go.Proofs.Ytfflodcapcamcab
/- Chapter 8 in plain words: what a leaf has counted. -/
namespace Go.Proofs.Ytfflodcapcamcab
open Go.RowKit
set_option maxRecDepth 100000
structure StatsD where
  totals : List Int
  cells : List (List Int)
def il (cs : List (List Int)) (j : Nat) : List Int := cs.getD j []
theorem il_eq {cs : List (List Int)} {j : Nat} (h : j < cs.length) : il cs j = cs[j] := by simp [il, h]
theorem il_mem {cs : List (List Int)} {j : Nat} (h : j < cs.length) : il cs j ∈ cs := by rw [il_eq h]; exact List.getElem_mem h
/-- What a function knows of a list of lists of numbers that it is handed. -/
def RowII (w : World) (v : Value) (cs : List (List Int)) : Prop :=
  ∃ oa cap, v = .slice oa cs.length cap ∧ cs.length ≤ cap ∧ (0 < cs.length → ∃ g o, oa = some ⟨g, o, none⟩ ∧ g < w.heap.size ∧ ∀ j, j < cs.length → ∃ u, w.cell? ⟨g, o + j, none⟩ = some u ∧ RowI w u (il cs j))
theorem RowII.later {w w' : World} {v : Value} {cs : List (List Int)} (h : RowII w v cs) (hb : Below w.heap.size w w') : RowII w' v cs := by
  obtain ⟨oa, cap, rfl, hc, hr⟩ := h
  refine ⟨oa, cap, rfl, hc, fun h0 => ?_⟩
  obtain ⟨g, o, rfl, hg, hj⟩ := hr h0
  exact ⟨g, o, rfl, Nat.lt_of_lt_of_le hg hb.size, fun j hlt => by
    obtain ⟨u, h1, h2⟩ := hj j hlt
    exact ⟨u, (hb.cell (p := ⟨g, o + j, none⟩) hg).trans h1, h2.later hb⟩⟩
/-- What a function knows of the counts that it is handed. -/
def StatsAt (w : World) (v : Value) (t : StatsD) : Prop := ∃ vt vc, v = .agg #[vt, vc] ∧ RowI w vt t.totals ∧ RowII w vc t.cells
theorem StatsAt.later {w w' : World} {v : Value} {t : StatsD} (h : StatsAt w v t) (hb : Below w.heap.size w w') : StatsAt w' v t := by
  obtain ⟨vt, vc, rfl, h1, h2⟩ := h
  exact ⟨vt, vc, rfl, h1.later hb, h2.later hb⟩
structure okSt (t : StatsD) : Prop where
  totals : t.totals.length ≤ 1099511627776
  cells : t.cells.length ≤ 1099511627776
  each : ∀ c ∈ t.cells, c.length ≤ 1099511627776
/-- The place of the greatest number, the first of such. -/
def topFrom (l : List Int) (at' : Int) (k : Nat) : Nat → Int
  | 0 => at'
  | n + 1 => if at' < 0 ∨ l.getD at'.toNat 0 < l.getD k 0 then topFrom l k (k + 1) n else topFrom l at' (k + 1) n
def topOf (l : List Int) : Int := topFrom l (-1) 0 l.length
theorem topFrom_step {l : List Int} {at' : Int} {k n : Nat} (h : k < n) : topFrom l at' k (n - k) = if at' < 0 ∨ l.getD at'.toNat 0 < l.getD k 0 then topFrom l k (k + 1) (n - (k + 1)) else topFrom l at' (k + 1) (n - (k + 1)) := by
  rw [show n - k = (n - (k + 1)) + 1 by omega]; rfl
def sumL (l : List Int) : Int := l.foldl (· + ·) 0
theorem sumL_snoc (l : List Int) (x : Int) : sumL (l ++ [x]) = sumL l + x := by simp [sumL]
def inW (x : Int) : Bool := decide (0 ≤ x ∧ x ≤ 999)
/-- The cells of one attribute and class: place b * classes + k. -/
def colAt (c : List Int) (m k b : Nat) : Int := c.getD (b * m + k) 0
def colL (c : List Int) (m k n : Nat) : List Int := (List.range n).map (colAt c m k)
def colOk (t : StatsD) (c : List Int) (m n k : Nat) : Bool := (colL c m k n).all inW && decide (sumL (colL c m k n) ≤ t.totals.getD k 0)
def cellOk (s : SchemaD) (t : StatsD) (i : Nat) : Bool :=
  decide (((il t.cells i).length : Int) = bins (ad s.attrs i) * s.classes.length) && (List.range s.classes.length).all (colOk t (il t.cells i) s.classes.length (bins (ad s.attrs i)).toNat)
def statsOk (s : SchemaD) (t : StatsD) : Bool :=
  schemaOk s && (decide (t.totals.length = s.classes.length) && (t.totals.all inW && (decide (sumL t.totals ≤ 999) && (decide (t.cells.length = 0) || (decide (t.cells.length = s.attrs.length) && (List.range t.cells.length).all (cellOk s t))))))
def statsSame (a b : StatsD) : Bool := decide (a.totals = b.totals) && decide (a.cells = b.cells)
end Go.Proofs.Ytfflodcapcamcab
/- Whether counts are right, in plain words: what the walks ask. -/
namespace Go.Proofs.Ytfflodcapcamcab
open Go.RowKit
theorem small_bins (a : AttrD) : 0 ≤ bins a ∧ bins a ≤ 4 := by
  unfold bins
  split
  · rename_i h
    unfold attrOk at h
    rw [Bool.and_eq_true] at h
    have h2 := h.2
    split at h2
    · unfold choices at h2
      rw [Bool.and_eq_true] at h2
      have := of_decide_eq_true h2.1
      split <;> omega
    · rw [Bool.and_eq_true, Bool.and_eq_true] at h2
      have h3 := of_decide_eq_true h2.1
      have h4 := of_decide_eq_true h2.2.1
      split <;> omega
  · omega
theorem sch_classes {s : SchemaD} (h : schemaOk s = true) : 2 ≤ s.classes.length ∧ s.classes.length ≤ 3 := by
  unfold schemaOk choices at h
  rw [Bool.and_eq_true, Bool.and_eq_true, Bool.and_eq_true, decide_eq_true_eq, decide_eq_true_eq] at h
  omega
theorem sum_take {l : List Int} {k : Nat} (h : k < l.length) : sumL (l.take (k + 1)) = sumL (l.take k) + l.getD k 0 := by
  rw [List.take_succ_eq_append_getElem h, sumL_snoc, List.getD_eq_getElem?_getD, List.getElem?_eq_getElem h]; rfl
theorem inW_yes {x : Int} (h : 0 ≤ x ∧ x ≤ 999) : inW x = true := decide_eq_true h
theorem inW_no {x : Int} (h : ¬ (0 ≤ x ∧ x ≤ 999)) : inW x = false := decide_eq_false h
theorem allW_yes {l : List Int} (h : ∀ j, j < l.length → inW (l.getD j 0) = true) : l.all inW = true := by
  rw [List.all_eq_true]
  intro x hx
  obtain ⟨j, hj, rfl⟩ := List.getElem_of_mem hx
  have := h j hj
  rwa [List.getD_eq_getElem?_getD, List.getElem?_eq_getElem hj] at this
theorem allW_no {l : List Int} {k : Nat} (hk : k < l.length) (h : inW (l.getD k 0) = false) : l.all inW = false := by
  cases e : l.all inW with
  | false => rfl
  | true =>
    rw [List.all_eq_true] at e
    have := e _ (List.getElem_mem hk)
    rw [List.getD_eq_getElem?_getD, List.getElem?_eq_getElem hk] at h
    simp only [Option.getD_some] at h
    rw [h] at this; cases this
theorem range_yes {n : Nat} {f : Nat → Bool} (h : ∀ j, j < n → f j = true) : (List.range n).all f = true := by
  rw [List.all_eq_true]
  intro j hj
  exact h j (List.mem_range.1 hj)
theorem range_no {n : Nat} {f : Nat → Bool} {k : Nat} (hk : k < n) (h : f k = false) : (List.range n).all f = false := by
  cases e : (List.range n).all f with
  | false => rfl
  | true =>
    rw [List.all_eq_true] at e
    have := e k (List.mem_range.2 hk)
    rw [h] at this; cases this
theorem col_succ (c : List Int) (m k b : Nat) : sumL (colL c m k (b + 1)) = sumL (colL c m k b) + colAt c m k b := by
  unfold colL
  rw [List.range_succ, List.map_append, List.map_singleton, sumL_snoc]
theorem col_yes {c : List Int} {m k n : Nat} (h : ∀ b, b < n → inW (colAt c m k b) = true) : (colL c m k n).all inW = true := by
  unfold colL
  rw [List.all_map]
  exact range_yes h
theorem col_no {c : List Int} {m k n b : Nat} (hb : b < n) (h : inW (colAt c m k b) = false) : (colL c m k n).all inW = false := by
  unfold colL
  rw [List.all_map]
  exact range_no hb h
end Go.Proofs.Ytfflodcapcamcab
