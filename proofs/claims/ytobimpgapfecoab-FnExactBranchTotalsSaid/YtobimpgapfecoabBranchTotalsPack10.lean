/- Texts of this claim, put together: part 10. -/
import Derived.Test.YtobimpgapfecoabRows
import Derived.WalkKit
import Derived.ProofKit
import Derived.OpenShut
import Derived.Deep.RegionHeld3
import Derived.Test.YtobimpgapfecoabBranchTotalsPack3
import Derived.Test.YtobimpgapfecoabBranchTotalsPack4
import Derived.Test.YtobimpgapfecoabBranchTotalsPack9
import Derived.Test.YtobimpgapfecoabBranchTotalsPack2
/- In a region that draws its order: what may be taken first, what comes next. -/
namespace Go.Proofs.Ytobimpgapfecoab
open Go.RowKit
set_option maxRecDepth 100000

section
variable {Pr : Program} {ops : Array Oper} {Q : Exit → Act → World → Prop} {md : Region.Mode} {S : World → Prop}
/-- An operation that may come up now is taken first; it is read off the list, so that it stands written out. -/
theorem takeL (i : Nat) {oi : Oper} (v : Value) {fuel : Nat} {listed : Array Bool} {a : Act} {w : World} (hi : ops.toList[i]? = some oi)
    (hs : Region.noSelect ops = true) (hf : Region.free md ops listed i = true) (hr : (Region.ready md ops listed).contains i = true)
    (hQ : ∀ c a w, Q (.panic c) (a.put oi.dst v) w → Q (.panic c) a w) (hy : YieldsIf Pr ops S oi v a) (hS : S w)
    (h : wpAnyH Pr md ops Q S fuel (listed.setIfInBounds i true) (a.put oi.dst v) w) : wpAnyH Pr md ops Q S (fuel + 1) listed a w :=
  wpAnyH_take (by simpa using hi) hs hf hr hQ hy hS h
/-- The one operation that may come up now. -/
theorem nextL (i : Nat) {oi : Oper} {fuel : Nat} {listed : Array Bool} {a : Act} {w : World} (hi : ops.toList[i]? = some oi) (hr : Region.ready md ops listed = [i])
    (hw : Region.wanted oi (yielded ops a.tmps) = true)
    (h : ∀ K' : Act → World → Prop, (∀ a w, S w → (S w → wpAnyH Pr md ops Q S fuel (listed.setIfInBounds i true) a w) → K' a w) → Oper.wp Pr oi a w K' Q) : wpAnyH Pr md ops Q S (fuel + 1) listed a w := by
  refine wpAnyH_ready hr (by simp) (AllReadyH.cons (o := oi) (by simpa using hi) (fun K hK => ?_) AllReadyH.nil)
  rw [if_pos hw]
  exact h K hK.out
/-- Two may come up now, in either order. -/
theorem next2L (i j : Nat) {oi oj : Oper} {fuel : Nat} {listed : Array Bool} {a : Act} {w : World} (hi : ops.toList[i]? = some oi) (hj : ops.toList[j]? = some oj) (hr : Region.ready md ops listed = [i, j])
    (hw : Region.wanted oi (yielded ops a.tmps) = true) (hw2 : Region.wanted oj (yielded ops a.tmps) = true)
    (h : ∀ K' : Act → World → Prop, (∀ a w, S w → (S w → wpAnyH Pr md ops Q S fuel (listed.setIfInBounds i true) a w) → K' a w) → Oper.wp Pr oi a w K' Q)
    (h2 : ∀ K' : Act → World → Prop, (∀ a w, S w → (S w → wpAnyH Pr md ops Q S fuel (listed.setIfInBounds j true) a w) → K' a w) → Oper.wp Pr oj a w K' Q) : wpAnyH Pr md ops Q S (fuel + 1) listed a w := by
  refine wpAnyH_ready hr (by simp) (AllReadyH.cons (o := oi) (by simpa using hi) (fun K hK => ?_) (AllReadyH.cons (o := oj) (by simpa using hj) (fun K hK => ?_) AllReadyH.nil))
  · rw [if_pos hw]
    exact h K hK.out
  · rw [if_pos hw2]
    exact h2 K hK.out
end

section
variable {ops : Array Oper} {S : World → Prop} {op : Oper} {a : Act}
/-- The load of one integer. -/
theorem yields_int (hw : Region.wanted op (yielded ops a.tmps) = true) (x : Operand) (ho : op.op = .load 3 x) (p : Addr) (hx : a.eval x = .pointer (some p)) (n : Int)
    (hS : ∀ w, S w → w.cell? p = some (.int .i64 n)) : YieldsIf Try.prog ops S op (.int .i64 n) a :=
  .inl ⟨hw, fun w hw' => by
    have h := hS w hw'
    unfold execOp
    simp only [ho, hx]
    go_simp⟩
/-- A quotient. -/
theorem yields_quo (hw : Region.wanted op (yielded ops a.tmps) = true) (x y : Operand) (ho : op.op = .binOp .quo 3 x y 3) (m n : Int) (hx : a.eval x = .int .i64 m) (hy : a.eval y = .int .i64 n)
    (h0 : 0 ≤ m) (h1 : m ≤ 9223372036854775807) (h2 : 0 < n) : YieldsIf Try.prog ops S op (.int .i64 (m / n)) a :=
  .inl ⟨hw, fun w hw' => by
    have hle : m / n ≤ m := Int.ediv_le_self _ h0
    have hge : 0 ≤ m / n := Int.ediv_nonneg h0 (by omega)
    unfold execOp
    simp only [ho, hx, hy]
    go_simp
    have e : IntKind.i64.wrap (m.tdiv n) = m / n := by rw [IntKind.wrap_i64, Int.tdiv_eq_ediv_of_nonneg h0]; omega
    rw [if_neg (by omega), e]⟩
/-- Two texts, one behind the other. -/
theorem yields_cat (hw : Region.wanted op (yielded ops a.tmps) = true) (x y : Operand) (ho : op.op = .binOp .add 9 x y 9) (s t : ByteArray) (hx : a.eval x = .string s) (hy : a.eval y = .string t)
    (h : s.size + t.size ≤ 1000000) : YieldsIf Try.prog ops S op (.string (s ++ t)) a :=
  .inl ⟨hw, fun w hw' => by
    unfold execOp
    simp only [ho, hx, hy]
    go_simp
    omega⟩
end
end Go.Proofs.Ytobimpgapfecoab
/- In a region that draws its order: the load of a whole struct. -/
namespace Go.Proofs.Ytobimpgapfecoab
open Go.RowKit
set_option maxRecDepth 100000

theorem yields_row {ops : Array Oper} {S : World → Prop} {op : Oper} {a : Act} {T : TypeId} {d : Array Field} {cs : Array Value} (hu : Try.prog.underlying T = some (.struct d))
    (hi : (Try.prog.info? T).map (·.size) = some cs.size) (hw : Region.wanted op (yielded ops a.tmps) = true) (x : Operand) (ho : op.op = .load T x)
    (g : Nat) (hx : a.eval x = .pointer (some ⟨g, 0, none⟩)) (hS : ∀ w, S w → Blk T w g cs) : YieldsIf Try.prog ops S op (.agg cs) a :=
  .inl ⟨hw, fun w hw' => by
    unfold execOp
    simp only [ho, hx, Instr.loadAt, Instr.sureAddr, Sem.run_bind, Sem.run_pure, Result.andThen_ok, run_loadVar_row w g _ T _ _ _ (hS w hw') hu rfl hi]⟩
end Go.Proofs.Ytobimpgapfecoab
/- Chapter 8 in plain words: what a leaf has counted. -/
namespace Go.Proofs.Ytobimpgapfecoab
open Go.RowKit
set_option maxRecDepth 100000
structure StatsD where
  totals : List Int
  cells : List (List Int)
def il (cs : List (List Int)) (j : Nat) : List Int := cs.getD j []
theorem il_eq {cs : List (List Int)} {j : Nat} (h : j < cs.length) : il cs j = cs[j] := by simp [il, h]
theorem il_mem {cs : List (List Int)} {j : Nat} (h : j < cs.length) : il cs j ∈ cs := by rw [il_eq h]; exact List.getElem_mem h
/-- What a function knows of a list of lists of numbers that it is handed. -/
def RowII (w : World) (v : Value) (cs : List (List Int)) : Prop :=
  ∃ oa cap, v = .slice oa cs.length cap ∧ cs.length ≤ cap ∧ (0 < cs.length → ∃ g o, oa = some ⟨g, o, none⟩ ∧ g < w.heap.size ∧ ∀ j, j < cs.length → ∃ u, w.cell? ⟨g, o + j, none⟩ = some u ∧ RowI w u (il cs j))
theorem RowII.later {w w' : World} {v : Value} {cs : List (List Int)} (h : RowII w v cs) (hb : Below w.heap.size w w') : RowII w' v cs := by
  obtain ⟨oa, cap, rfl, hc, hr⟩ := h
  refine ⟨oa, cap, rfl, hc, fun h0 => ?_⟩
  obtain ⟨g, o, rfl, hg, hj⟩ := hr h0
  exact ⟨g, o, rfl, Nat.lt_of_lt_of_le hg hb.size, fun j hlt => by
    obtain ⟨u, h1, h2⟩ := hj j hlt
    exact ⟨u, (hb.cell (p := ⟨g, o + j, none⟩) hg).trans h1, h2.later hb⟩⟩
/-- What a function knows of the counts that it is handed. -/
def StatsAt (w : World) (v : Value) (t : StatsD) : Prop := ∃ vt vc, v = .agg #[vt, vc] ∧ RowI w vt t.totals ∧ RowII w vc t.cells
theorem StatsAt.later {w w' : World} {v : Value} {t : StatsD} (h : StatsAt w v t) (hb : Below w.heap.size w w') : StatsAt w' v t := by
  obtain ⟨vt, vc, rfl, h1, h2⟩ := h
  exact ⟨vt, vc, rfl, h1.later hb, h2.later hb⟩
structure okSt (t : StatsD) : Prop where
  totals : t.totals.length ≤ 1099511627776
  cells : t.cells.length ≤ 1099511627776
  each : ∀ c ∈ t.cells, c.length ≤ 1099511627776
/-- The place of the greatest number, the first of such. -/
def topFrom (l : List Int) (at' : Int) (k : Nat) : Nat → Int
  | 0 => at'
  | n + 1 => if at' < 0 ∨ l.getD at'.toNat 0 < l.getD k 0 then topFrom l k (k + 1) n else topFrom l at' (k + 1) n
def topOf (l : List Int) : Int := topFrom l (-1) 0 l.length
theorem topFrom_step {l : List Int} {at' : Int} {k n : Nat} (h : k < n) : topFrom l at' k (n - k) = if at' < 0 ∨ l.getD at'.toNat 0 < l.getD k 0 then topFrom l k (k + 1) (n - (k + 1)) else topFrom l at' (k + 1) (n - (k + 1)) := by
  rw [show n - k = (n - (k + 1)) + 1 by omega]; rfl
def sumL (l : List Int) : Int := l.foldl (· + ·) 0
theorem sumL_snoc (l : List Int) (x : Int) : sumL (l ++ [x]) = sumL l + x := by simp [sumL]
def inW (x : Int) : Bool := decide (0 ≤ x ∧ x ≤ 999)
/-- The cells of one attribute and class: place b * classes + k. -/
def colAt (c : List Int) (m k b : Nat) : Int := c.getD (b * m + k) 0
def colL (c : List Int) (m k n : Nat) : List Int := (List.range n).map (colAt c m k)
def colOk (t : StatsD) (c : List Int) (m n k : Nat) : Bool := (colL c m k n).all inW && decide (sumL (colL c m k n) ≤ t.totals.getD k 0)
def cellOk (s : SchemaD) (t : StatsD) (i : Nat) : Bool :=
  decide (((il t.cells i).length : Int) = bins (ad s.attrs i) * s.classes.length) && (List.range s.classes.length).all (colOk t (il t.cells i) s.classes.length (bins (ad s.attrs i)).toNat)
def statsOk (s : SchemaD) (t : StatsD) : Bool :=
  schemaOk s && (decide (t.totals.length = s.classes.length) && (t.totals.all inW && (decide (sumL t.totals ≤ 999) && (decide (t.cells.length = 0) || (decide (t.cells.length = s.attrs.length) && (List.range t.cells.length).all (cellOk s t))))))
def statsSame (a b : StatsD) : Bool := decide (a.totals = b.totals) && decide (a.cells = b.cells)
end Go.Proofs.Ytobimpgapfecoab
/- Lists of lists of numbers of the call's own: no two of them share memory. -/
namespace Go.Proofs.Ytobimpgapfecoab
open Go.RowKit
set_option maxRecDepth 100000
/-- The lists that a row leads to, each in a block of its own. -/
structure SepII (base : Nat) (w : World) (v : Value) (L : Nat → Value) (ys : List Value) (cs : List (List Int)) (n : Nat) : Prop where
  row : w.ownsRow base 26 1 v n ys
  cells : ∀ j, j < n → ys[j]? = some (L j)
  ints : ∀ j, j < n → w.ownsRow base 3 1 (L j) (il cs j).length ((il cs j).map (Value.int .i64))
  ord : ∀ i j a b, i < j → j < n → (L i).ownBlock = some a → (L j).ownBlock = some b → a ≠ b
theorem SepII.below {base : Nat} {w w' : World} {v : Value} {L : Nat → Value} {ys : List Value} {cs : List (List Int)} {n : Nat} (h : SepII base w v L ys cs n) (hb : Below w.heap.size w w') : SepII base w' v L ys cs n :=
  ⟨own_below h.row hb, h.cells, fun j hj => own_below (h.ints j hj) hb, h.ord⟩
theorem SepII.base {b b' : Nat} {w : World} {v : Value} {L : Nat → Value} {ys : List Value} {cs : List (List Int)} {n : Nat} (h : SepII b w v L ys cs n) (hb : b' ≤ b) : SepII b' w v L ys cs n :=
  ⟨own_base h.row hb, h.cells, fun j hj => own_base (h.ints j hj) hb, h.ord⟩
theorem SepII.setCell {base : Nat} {w : World} {v : Value} {L : Nat → Value} {ys : List Value} {cs : List (List Int)} {n : Nat} (h : SepII base w v L ys cs n) (p : Addr) (u : Value) (hp : p.block < base) : SepII base (w.setCell p u) v L ys cs n :=
  ⟨own_setCell h.row p u hp, h.cells, fun j hj => own_setCell (h.ints j hj) p u hp, h.ord⟩
theorem SepII.setRow {base : Nat} {w : World} {v : Value} {L : Nat → Value} {ys : List Value} {cs : List (List Int)} {n : Nat} (h : SepII base w v L ys cs n) (k : Nat) (c : Array Value) (hp : k < base) : SepII base (w.setRow k c) v L ys cs n :=
  ⟨own_setRow h.row k c hp, h.cells, fun j hj => own_setRow (h.ints j hj) k c hp, h.ord⟩
theorem SepII.at {base : Nat} {w : World} {v : Value} {L : Nat → Value} {ys : List Value} {cs : List (List Int)} (h : SepII base w v L ys cs cs.length) : RowII w v cs := by
  rcases id h.row.2 with ⟨rfl, h0⟩ | ⟨g, cap, cur, rfl, hg, hcur, hcap, r⟩
  · exact ⟨none, 0, by rw [h0], by omega, fun h1 => by omega⟩
  · refine ⟨_, _, rfl, hcap, fun h0 => ⟨g, 0, rfl, (h.row.lt g rfl).2, fun j hj => ⟨L j, ?_, RowI.of_own (h.ints j hj) rfl⟩⟩⟩
    rw [Nat.zero_add, h.row.cellAt j (by omega)]; exact h.cells j hj
/-- Counts of the call's own, no two lists in one block. -/
def OwnSt (base : Nat) (w : World) (v : Value) (t : StatsD) : Prop :=
  ∃ vt vc L ys, v = .agg #[vt, vc] ∧ w.ownsRow base 3 1 vt t.totals.length (t.totals.map (Value.int .i64)) ∧ SepII base w vc L ys t.cells t.cells.length ∧ ∀ j a b, j < t.cells.length → vt.ownBlock = some a → (L j).ownBlock = some b → a ≠ b
theorem OwnSt.at {base : Nat} {w : World} {v : Value} {t : StatsD} (h : OwnSt base w v t) : StatsAt w v t := by
  obtain ⟨vt, vc, L, ys, rfl, h1, h2, -⟩ := h
  exact ⟨vt, vc, rfl, RowI.of_own h1 rfl, h2.at⟩
theorem OwnSt.below {base : Nat} {w w' : World} {v : Value} {t : StatsD} (h : OwnSt base w v t) (hb : Below w.heap.size w w') : OwnSt base w' v t := by
  obtain ⟨vt, vc, L, ys, rfl, h1, h2, h3⟩ := h
  exact ⟨vt, vc, L, ys, rfl, own_below h1 hb, h2.below hb, h3⟩
theorem OwnSt.base {b b' : Nat} {w : World} {v : Value} {t : StatsD} (h : OwnSt b w v t) (hb : b' ≤ b) : OwnSt b' w v t := by
  obtain ⟨vt, vc, L, ys, rfl, h1, h2, h3⟩ := h
  exact ⟨vt, vc, L, ys, rfl, own_base h1 hb, h2.base hb, h3⟩
/-- The first k lists of a row of the call's own are these; they lie behind the row, one behind the other. -/
structure DoneII (w : World) (b : Nat) (ys : List Value) (L : Nat → Value) (cs : List (List Int)) (k : Nat) : Prop where
  cells : ∀ j, j < k → ys[j]? = some (L j)
  ints : ∀ j, j < k → w.ownsRow b 3 1 (L j) (il cs j).length ((il cs j).map (Value.int .i64))
  ord : ∀ i j a b, i < j → j < k → (L i).ownBlock = some a → (L j).ownBlock = some b → a ≠ b
theorem DoneII.start (w : World) (b : Nat) (ys : List Value) (L : Nat → Value) (cs : List (List Int)) : DoneII w b ys L cs 0 :=
  ⟨fun j hj => by omega, fun j hj => by omega, fun _ _ _ _ _ h => by omega⟩
theorem DoneII.below {w w' : World} {b : Nat} {ys : List Value} {L : Nat → Value} {cs : List (List Int)} {k : Nat} (h : DoneII w b ys L cs k) (hb : Below w.heap.size w w') : DoneII w' b ys L cs k :=
  ⟨h.cells, fun j hj => own_below (h.ints j hj) hb, h.ord⟩
theorem DoneII.lt {w : World} {b : Nat} {ys : List Value} {L : Nat → Value} {cs : List (List Int)} {k : Nat} (h : DoneII w b ys L cs k) : ∀ j, j < k → ∀ a, (L j).ownBlock = some a → a < w.heap.size :=
  fun j hj a ha => ((h.ints j hj).lt a ha).2
theorem DoneII.sep {w : World} {g n : Nat} {ys : List Value} {L : Nat → Value} {cs : List (List Int)} {v : Value} (h : DoneII w (g + 1) ys L cs n) (ho : w.ownsRow g 26 1 v n ys) : SepII g w v L ys cs n :=
  ⟨ho, h.cells, fun j hj => own_base (h.ints j hj) (by omega), h.ord⟩
theorem DoneII.stored {w : World} {g k B : Nat} {ys : List Value} {L : Nat → Value} {cs : List (List Int)} {y : Value} (h : DoneII w (g + 1) ys L cs k) (hl : k < ys.length)
    (hlt : ∀ j, j < k → ∀ a, (L j).ownBlock = some a → a < B) (hy : w.ownsRow B 3 1 y (il cs k).length ((il cs k).map (Value.int .i64))) (hB : g + 1 ≤ B) :
    DoneII (w.setCell ⟨g, k, none⟩ y) (g + 1) (ys.set k y) (fun j => if j = k then y else L j) cs (k + 1) := by
  have key : ∀ {e n : Nat} {v : Value} {xs : List Value}, w.ownsRow (g + 1) e 1 v n xs → (w.setCell ⟨g, k, none⟩ y).ownsRow (g + 1) e 1 v n xs := fun h => own_setCell h _ _ (by simp)
  refine ⟨fun j hj => ?_, fun j hj => ?_, fun i j a b hij hj ha hb => ?_⟩
  · by_cases e : j = k
    · subst e; rw [List.getElem?_set_self (by omega), if_pos rfl]
    · rw [List.getElem?_set_ne (by omega), if_neg e]; exact h.cells j (by omega)
  · by_cases e : j = k
    · subst e; rw [if_pos rfl]; exact key (own_base hy hB)
    · rw [if_neg e]; exact key (h.ints j (by omega))
  · rw [if_neg (by omega)] at ha
    by_cases e : j = k
    · rw [if_pos e] at hb
      have h1 := hlt i (by omega) a ha
      have h2 := (hy.lt b hb).1
      omega
    · rw [if_neg e] at hb
      exact h.ord i j a b hij (by omega) ha hb
/-- The blocks that the marks may turn. -/
def InII (L : Nat → Value) (n : Nat) (k : Nat) : Prop := ∃ j, j < n ∧ (L j).ownBlock = some k
end Go.Proofs.Ytobimpgapfecoab
