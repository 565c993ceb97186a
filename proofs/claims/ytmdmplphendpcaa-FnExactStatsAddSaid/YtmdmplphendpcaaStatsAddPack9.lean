/- Texts of this claim, put together: part 9. -/
import Derived.Test.YtmdmplphendpcaaStatsAddPack3
import Derived.Test.YtmdmplphendpcaaStatsAddPack4
import Derived.Test.YtmdmplphendpcaaStatsAddPack2
import Derived.Test.YtmdmplphendpcaaRows
import Derived.WalkKit
import Derived.ProofKit
import Derived.OpenShut
/- How many bins an attribute has, in plain words. -/
namespace Go.Proofs.Ytmdmplphendpcaa
def bins (a : AttrD) : Int := if attrOk a = true then (if a.vals.length = 0 then (a.cuts.length : Int) + 1 else a.vals.length) else 0
theorem ok_kind {a : AttrD} (h : attrOk a = true) : (a.vals.length = 0 ↔ a.cuts.length ≠ 0) := by
  unfold attrOk at h
  rw [Bool.and_eq_true] at h
  have h2 := h.2
  by_cases h0 : a.cuts.length = 0
  · rw [if_pos h0] at h2
    unfold choices at h2
    rw [Bool.and_eq_true] at h2
    have := of_decide_eq_true h2.1
    omega
  · rw [if_neg h0, Bool.and_eq_true] at h2
    have := of_decide_eq_true h2.1
    omega

end Go.Proofs.Ytmdmplphendpcaa
/- Chapter 8 in plain words: what a leaf has counted. -/
namespace Go.Proofs.Ytmdmplphendpcaa
open Go.RowKit
set_option maxRecDepth 100000
structure StatsD where
  totals : List Int
  cells : List (List Int)
def il (cs : List (List Int)) (j : Nat) : List Int := cs.getD j []
theorem il_eq {cs : List (List Int)} {j : Nat} (h : j < cs.length) : il cs j = cs[j] := by simp [il, h]
theorem il_mem {cs : List (List Int)} {j : Nat} (h : j < cs.length) : il cs j ∈ cs := by rw [il_eq h]; exact List.getElem_mem h
/-- What a function knows of a list of lists of numbers that it is handed. -/
def RowII (w : World) (v : Value) (cs : List (List Int)) : Prop :=
  ∃ oa cap, v = .slice oa cs.length cap ∧ cs.length ≤ cap ∧ (0 < cs.length → ∃ g o, oa = some ⟨g, o, none⟩ ∧ g < w.heap.size ∧ ∀ j, j < cs.length → ∃ u, w.cell? ⟨g, o + j, none⟩ = some u ∧ RowI w u (il cs j))
theorem RowII.later {w w' : World} {v : Value} {cs : List (List Int)} (h : RowII w v cs) (hb : Below w.heap.size w w') : RowII w' v cs := by
  obtain ⟨oa, cap, rfl, hc, hr⟩ := h
  refine ⟨oa, cap, rfl, hc, fun h0 => ?_⟩
  obtain ⟨g, o, rfl, hg, hj⟩ := hr h0
  exact ⟨g, o, rfl, Nat.lt_of_lt_of_le hg hb.size, fun j hlt => by
    obtain ⟨u, h1, h2⟩ := hj j hlt
    exact ⟨u, (hb.cell (p := ⟨g, o + j, none⟩) hg).trans h1, h2.later hb⟩⟩
/-- What a function knows of the counts that it is handed. -/
def StatsAt (w : World) (v : Value) (t : StatsD) : Prop := ∃ vt vc, v = .agg #[vt, vc] ∧ RowI w vt t.totals ∧ RowII w vc t.cells
theorem StatsAt.later {w w' : World} {v : Value} {t : StatsD} (h : StatsAt w v t) (hb : Below w.heap.size w w') : StatsAt w' v t := by
  obtain ⟨vt, vc, rfl, h1, h2⟩ := h
  exact ⟨vt, vc, rfl, h1.later hb, h2.later hb⟩
structure okSt (t : StatsD) : Prop where
  totals : t.totals.length ≤ 1099511627776
  cells : t.cells.length ≤ 1099511627776
  each : ∀ c ∈ t.cells, c.length ≤ 1099511627776
/-- The place of the greatest number, the first of such. -/
def topFrom (l : List Int) (at' : Int) (k : Nat) : Nat → Int
  | 0 => at'
  | n + 1 => if at' < 0 ∨ l.getD at'.toNat 0 < l.getD k 0 then topFrom l k (k + 1) n else topFrom l at' (k + 1) n
def topOf (l : List Int) : Int := topFrom l (-1) 0 l.length
theorem topFrom_step {l : List Int} {at' : Int} {k n : Nat} (h : k < n) : topFrom l at' k (n - k) = if at' < 0 ∨ l.getD at'.toNat 0 < l.getD k 0 then topFrom l k (k + 1) (n - (k + 1)) else topFrom l at' (k + 1) (n - (k + 1)) := by
  rw [show n - k = (n - (k + 1)) + 1 by omega]; rfl
def sumL (l : List Int) : Int := l.foldl (· + ·) 0
theorem sumL_snoc (l : List Int) (x : Int) : sumL (l ++ [x]) = sumL l + x := by simp [sumL]
def inW (x : Int) : Bool := decide (0 ≤ x ∧ x ≤ 999)
/-- The cells of one attribute and class: place b * classes + k. -/
def colAt (c : List Int) (m k b : Nat) : Int := c.getD (b * m + k) 0
def colL (c : List Int) (m k n : Nat) : List Int := (List.range n).map (colAt c m k)
def colOk (t : StatsD) (c : List Int) (m n k : Nat) : Bool := (colL c m k n).all inW && decide (sumL (colL c m k n) ≤ t.totals.getD k 0)
def cellOk (s : SchemaD) (t : StatsD) (i : Nat) : Bool :=
  decide (((il t.cells i).length : Int) = bins (ad s.attrs i) * s.classes.length) && (List.range s.classes.length).all (colOk t (il t.cells i) s.classes.length (bins (ad s.attrs i)).toNat)
def statsOk (s : SchemaD) (t : StatsD) : Bool :=
  schemaOk s && (decide (t.totals.length = s.classes.length) && (t.totals.all inW && (decide (sumL t.totals ≤ 999) && (decide (t.cells.length = 0) || (decide (t.cells.length = s.attrs.length) && (List.range t.cells.length).all (cellOk s t))))))
def statsSame (a b : StatsD) : Bool := decide (a.totals = b.totals) && decide (a.cells = b.cells)
end Go.Proofs.Ytmdmplphendpcaa
/- Lists of lists of numbers of the call's own: no two of them share memory. -/
namespace Go.Proofs.Ytmdmplphendpcaa
open Go.RowKit
set_option maxRecDepth 100000
/-- The lists that a row leads to, each in a block of its own. -/
structure SepII (base : Nat) (w : World) (v : Value) (L : Nat → Value) (ys : List Value) (cs : List (List Int)) (n : Nat) : Prop where
  row : w.ownsRow base 28 1 v n ys
  cells : ∀ j, j < n → ys[j]? = some (L j)
  ints : ∀ j, j < n → w.ownsRow base 3 1 (L j) (il cs j).length ((il cs j).map (Value.int .i64))
  ord : ∀ i j a b, i < j → j < n → (L i).ownBlock = some a → (L j).ownBlock = some b → a ≠ b
theorem SepII.below {base : Nat} {w w' : World} {v : Value} {L : Nat → Value} {ys : List Value} {cs : List (List Int)} {n : Nat} (h : SepII base w v L ys cs n) (hb : Below w.heap.size w w') : SepII base w' v L ys cs n :=
  ⟨own_below h.row hb, h.cells, fun j hj => own_below (h.ints j hj) hb, h.ord⟩
theorem SepII.base {b b' : Nat} {w : World} {v : Value} {L : Nat → Value} {ys : List Value} {cs : List (List Int)} {n : Nat} (h : SepII b w v L ys cs n) (hb : b' ≤ b) : SepII b' w v L ys cs n :=
  ⟨own_base h.row hb, h.cells, fun j hj => own_base (h.ints j hj) hb, h.ord⟩
theorem SepII.setCell {base : Nat} {w : World} {v : Value} {L : Nat → Value} {ys : List Value} {cs : List (List Int)} {n : Nat} (h : SepII base w v L ys cs n) (p : Addr) (u : Value) (hp : p.block < base) : SepII base (w.setCell p u) v L ys cs n :=
  ⟨own_setCell h.row p u hp, h.cells, fun j hj => own_setCell (h.ints j hj) p u hp, h.ord⟩
theorem SepII.setRow {base : Nat} {w : World} {v : Value} {L : Nat → Value} {ys : List Value} {cs : List (List Int)} {n : Nat} (h : SepII base w v L ys cs n) (k : Nat) (c : Array Value) (hp : k < base) : SepII base (w.setRow k c) v L ys cs n :=
  ⟨own_setRow h.row k c hp, h.cells, fun j hj => own_setRow (h.ints j hj) k c hp, h.ord⟩
theorem SepII.at {base : Nat} {w : World} {v : Value} {L : Nat → Value} {ys : List Value} {cs : List (List Int)} (h : SepII base w v L ys cs cs.length) : RowII w v cs := by
  rcases id h.row.2 with ⟨rfl, h0⟩ | ⟨g, cap, cur, rfl, hg, hcur, hcap, r⟩
  · exact ⟨none, 0, by rw [h0], by omega, fun h1 => by omega⟩
  · refine ⟨_, _, rfl, hcap, fun h0 => ⟨g, 0, rfl, (h.row.lt g rfl).2, fun j hj => ⟨L j, ?_, RowI.of_own (h.ints j hj) rfl⟩⟩⟩
    rw [Nat.zero_add, h.row.cellAt j (by omega)]; exact h.cells j hj
/-- Counts of the call's own, no two lists in one block. -/
def OwnSt (base : Nat) (w : World) (v : Value) (t : StatsD) : Prop :=
  ∃ vt vc L ys, v = .agg #[vt, vc] ∧ w.ownsRow base 3 1 vt t.totals.length (t.totals.map (Value.int .i64)) ∧ SepII base w vc L ys t.cells t.cells.length ∧ ∀ j a b, j < t.cells.length → vt.ownBlock = some a → (L j).ownBlock = some b → a ≠ b
theorem OwnSt.at {base : Nat} {w : World} {v : Value} {t : StatsD} (h : OwnSt base w v t) : StatsAt w v t := by
  obtain ⟨vt, vc, L, ys, rfl, h1, h2, -⟩ := h
  exact ⟨vt, vc, rfl, RowI.of_own h1 rfl, h2.at⟩
theorem OwnSt.below {base : Nat} {w w' : World} {v : Value} {t : StatsD} (h : OwnSt base w v t) (hb : Below w.heap.size w w') : OwnSt base w' v t := by
  obtain ⟨vt, vc, L, ys, rfl, h1, h2, h3⟩ := h
  exact ⟨vt, vc, L, ys, rfl, own_below h1 hb, h2.below hb, h3⟩
theorem OwnSt.base {b b' : Nat} {w : World} {v : Value} {t : StatsD} (h : OwnSt b w v t) (hb : b' ≤ b) : OwnSt b' w v t := by
  obtain ⟨vt, vc, L, ys, rfl, h1, h2, h3⟩ := h
  exact ⟨vt, vc, L, ys, rfl, own_base h1 hb, h2.base hb, h3⟩
/-- The first k lists of a row of the call's own are these; they lie behind the row, one behind the other. -/
structure DoneII (w : World) (b : Nat) (ys : List Value) (L : Nat → Value) (cs : List (List Int)) (k : Nat) : Prop where
  cells : ∀ j, j < k → ys[j]? = some (L j)
  ints : ∀ j, j < k → w.ownsRow b 3 1 (L j) (il cs j).length ((il cs j).map (Value.int .i64))
  ord : ∀ i j a b, i < j → j < k → (L i).ownBlock = some a → (L j).ownBlock = some b → a ≠ b
theorem DoneII.start (w : World) (b : Nat) (ys : List Value) (L : Nat → Value) (cs : List (List Int)) : DoneII w b ys L cs 0 :=
  ⟨fun j hj => by omega, fun j hj => by omega, fun _ _ _ _ _ h => by omega⟩
theorem DoneII.below {w w' : World} {b : Nat} {ys : List Value} {L : Nat → Value} {cs : List (List Int)} {k : Nat} (h : DoneII w b ys L cs k) (hb : Below w.heap.size w w') : DoneII w' b ys L cs k :=
  ⟨h.cells, fun j hj => own_below (h.ints j hj) hb, h.ord⟩
theorem DoneII.lt {w : World} {b : Nat} {ys : List Value} {L : Nat → Value} {cs : List (List Int)} {k : Nat} (h : DoneII w b ys L cs k) : ∀ j, j < k → ∀ a, (L j).ownBlock = some a → a < w.heap.size :=
  fun j hj a ha => ((h.ints j hj).lt a ha).2
theorem DoneII.sep {w : World} {g n : Nat} {ys : List Value} {L : Nat → Value} {cs : List (List Int)} {v : Value} (h : DoneII w (g + 1) ys L cs n) (ho : w.ownsRow g 28 1 v n ys) : SepII g w v L ys cs n :=
  ⟨ho, h.cells, fun j hj => own_base (h.ints j hj) (by omega), h.ord⟩
theorem DoneII.stored {w : World} {g k B : Nat} {ys : List Value} {L : Nat → Value} {cs : List (List Int)} {y : Value} (h : DoneII w (g + 1) ys L cs k) (hl : k < ys.length)
    (hlt : ∀ j, j < k → ∀ a, (L j).ownBlock = some a → a < B) (hy : w.ownsRow B 3 1 y (il cs k).length ((il cs k).map (Value.int .i64))) (hB : g + 1 ≤ B) :
    DoneII (w.setCell ⟨g, k, none⟩ y) (g + 1) (ys.set k y) (fun j => if j = k then y else L j) cs (k + 1) := by
  have key : ∀ {e n : Nat} {v : Value} {xs : List Value}, w.ownsRow (g + 1) e 1 v n xs → (w.setCell ⟨g, k, none⟩ y).ownsRow (g + 1) e 1 v n xs := fun h => own_setCell h _ _ (by simp)
  refine ⟨fun j hj => ?_, fun j hj => ?_, fun i j a b hij hj ha hb => ?_⟩
  · by_cases e : j = k
    · subst e; rw [List.getElem?_set_self (by omega), if_pos rfl]
    · rw [List.getElem?_set_ne (by omega), if_neg e]; exact h.cells j (by omega)
  · by_cases e : j = k
    · subst e; rw [if_pos rfl]; exact key (own_base hy hB)
    · rw [if_neg e]; exact key (h.ints j (by omega))
  · rw [if_neg (by omega)] at ha
    by_cases e : j = k
    · rw [if_pos e] at hb
      have h1 := hlt i (by omega) a ha
      have h2 := (hy.lt b hb).1
      omega
    · rw [if_neg e] at hb
      exact h.ord i j a b hij (by omega) ha hb
end Go.Proofs.Ytmdmplphendpcaa
/- Lists of numbers as elements. -/
namespace Go.Proofs.Ytmdmplphendpcaa
open Go.RowKit
set_option maxRecDepth 100000
theorem intsInfo : (Try.prog.info? 28).map (fun i => (i.zero, i.size, i.bytes)) = some (some (.slice none 0 0), 1, 24) := by kernel_rfl
end Go.Proofs.Ytmdmplphendpcaa
