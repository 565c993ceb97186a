/- Texts of this claim, put together: part 5. -/
import Derived.Test.YtobimpgapfecoabThinPack4
import Derived.ChangeSame
import Derived.Deep.Strs
import Derived.Test.YtobimpgapfecoabThinPack3
import Derived.Test.YtobimpgapfecoabThinPack2
/- An attribute that comes in to a law: what its reading says of its cells. -/
namespace Go.Proofs.Ytobimpgapfecoab
open Go.ChangeShapes Go.WideShapes Go.ChangeAt Go.RowKit Go.Deep
set_option maxRecDepth 100000

theorem RowI.of_isRow {w : World} {a : Option Addr} {len cap : Nat} {zs : List Int} (h : IsRow .i64 w a len cap zs) : RowI w (.slice a len cap) (zs.take len) := by
  have hl := h.len
  refine ⟨a, cap, by rw [hl], ?_, fun h0 => ?_⟩
  · rcases h with ⟨_, rfl, _, _⟩ | ⟨_, _, h1, _⟩
    · simp
    · omega
  · obtain ⟨b, o, rfl, hb, hc⟩ := h.at (by omega)
    exact ⟨b, o, rfl, hb, fun j hj => hc j (by omega)⟩
theorem small_len {n : Nat} (h : n ≤ maxLen) : n ≤ 9223372036854775807 := by unfold maxLen at h; omega

theorem attr_cells : Try.prog.cellsOf 99 = 3 := by kernel_rfl
theorem cells1_int : Try.prog.cellsOf 3 = 1 := by kernel_rfl
theorem cells1_str : Try.prog.cellsOf 9 = 1 := by kernel_rfl
theorem cells1_ints : Try.prog.cellsOf 26 = 1 := by kernel_rfl
theorem cells1_strs : Try.prog.cellsOf 23 = 1 := by kernel_rfl

theorem row_ints {H : Type} {enc : TypeId × Value → H} {W : World} {base fuel : Nat} {hd : Bool} {cs : List Value} {x : DataW H × List MemPlace}
    (h : DataW.trod enc Try.prog W base (fun _ => true) hd fuel 26 cs = some x) : ∃ v zs, cs = [v] ∧ RowI W v zs ∧ zs.length ≤ 9223372036854775807 := by
  rcases open_ints Try.underlying26 Try.underlying3 (by kernel_rfl) h with ⟨hcs, _⟩ | ⟨x, l, c, zs, hcs, _, hl, hm, hz, _, hcell, hwz⟩
  · exact ⟨_, [], hcs, ⟨none, 0, rfl, Nat.le_refl _, fun h0 => absurd h0 (by simp)⟩, by simp⟩
  · have R : IsRow .i64 W (some x) l c zs := .inr ⟨_, rfl, hl, hm, by simpa using hz, hcell, hwz⟩
    exact ⟨_, zs.take l, hcs, RowI.of_isRow R, by have := R.len; have := small_len hm; omega⟩

theorem row_strs {H : Type} {enc : TypeId × Value → H} {W : World} {base fuel : Nat} {hd : Bool} {cs : List Value} {x : DataW H × List MemPlace}
    (h : DataW.trod enc Try.prog W base (fun _ => true) hd fuel 23 cs = some x) : ∃ v ss, cs = [v] ∧ RowS W v ss ∧ ss.length ≤ 9223372036854775807 ∧ ∀ s ∈ ss, s.size ≤ 9223372036854775807 := by
  rcases open_strs Try.underlying23 Try.underlying9 (by kernel_rfl) h with ⟨hcs, _⟩ | ⟨x, l, c, m, Sx, hcs, _, hl, hm, hmm, _, hcell⟩
  · exact ⟨_, [], hcs, ⟨none, 0, rfl, Nat.le_refl _, fun h0 => absurd h0 (by simp)⟩, by simp, fun s hs => by cases hs⟩
  · have hmc : m = c := by simpa using hmm
    subst hmc
    refine ⟨_, (List.range l).map Sx, hcs, ⟨some x, m, by simp, by simpa using hl, fun h0 => ?_⟩, by simpa using Nat.le_trans hl (small_len hm), fun s hs => ?_⟩
    · have hl0 : 0 < l := by simpa using h0
      obtain ⟨b, o, sp⟩ := x
      have hc0 := (hcell 0 (by omega)).1
      have hsp : sp = none := by simpa [Addr.add] using World.cell?_spot hc0
      subst hsp
      refine ⟨b, o, rfl, lt_of_cell (a := ⟨b, o, none⟩) (by simpa [Addr.add] using hc0), fun j hj => ?_⟩
      have hj' : j < l := by simpa using hj
      have e : (⟨b, o, none⟩ : Addr).add j = ⟨b, o + j, none⟩ := by cases j <;> simp [Addr.add]
      rw [← e, (hcell j (by omega)).1, tx_eq hj]
      simp
    · obtain ⟨j, hj, rfl⟩ := List.mem_map.1 hs
      exact small_len (hcell j (by have := List.mem_range.1 hj; omega)).2

theorem row_attr {H : Type} {enc : TypeId × Value → H} {W : World} {base fuel : Nat} {hd : Bool} {cs : List Value} {x : DataW H × List MemPlace}
    (h : DataW.trod enc Try.prog W base (fun _ => true) hd fuel 99 cs = some x) : ∃ (a : AttrD) (vc vv : Value), cs = [.string a.name, vc, vv] ∧ RowI W vc a.cuts ∧ RowS W vv a.vals ∧ inA a := by
  obtain ⟨y0, y1, y2, n, -, hl, t0, t1, t2⟩ := trod_struct3 Try.underlying99 h
  rw [attr_cells] at hl
  match cs, hl with
  | [c0, c1, c2], _ =>
    obtain ⟨s, hs, -, ws⟩ := DataW.trod_string Try.underlying9 t0
    obtain ⟨vc, zs, hc, rc, lc⟩ := row_ints t1
    obtain ⟨vv, ss, hv, rv, lv, ev⟩ := row_strs t2
    simp [cells1_str, cells1_ints, cells1_strs] at hs hc hv
    exact ⟨⟨s, zs, ss⟩, vc, vv, by rw [hs, hc, hv], rc, rv, small_len ws, lc, lv, ev⟩

theorem open_attr {H : Type} {enc : TypeId × Value → H} {W : World} {r : Reach} {b0 base : Nat} {hd : Bool} {v : Value} {d : DataW H} {ps : List MemPlace}
    (hval : Value.okWide Try.prog W r b0 99 v) (h : DataW.Trod enc Try.prog W base (fun _ => true) hd 99 v d ps) : ∃ a : AttrD, AttrAt W v a ∧ inA a := by
  obtain ⟨cs, rfl, hs⟩ := okWide_struct Try.underlying99 hval
  obtain ⟨fuel, hf⟩ := h
  obtain ⟨a, vc, vv, hc, h1, h2, h3⟩ := row_attr hf
  refine ⟨a, ⟨vc, vv, ?_, h1, h2⟩, h3⟩
  obtain ⟨l⟩ := cs
  simp [Value.cells] at hc
  rw [hc]
end Go.Proofs.Ytobimpgapfecoab
/- A schema: what a function knows of one that it is handed; whether it is right. -/
namespace Go.Proofs.Ytobimpgapfecoab
open Go.RowKit
set_option maxRecDepth 100000

structure SchemaD where
  attrs : List AttrD
  classes : List ByteArray
def ad (ls : List AttrD) (j : Nat) : AttrD := ls.getD j ⟨ByteArray.empty, [], []⟩
theorem ad_eq {ls : List AttrD} {j : Nat} (h : j < ls.length) : ad ls j = ls[j] := by simp [ad, h]
theorem ad_mem {ls : List AttrD} {j : Nat} (h : j < ls.length) : ad ls j ∈ ls := by rw [ad_eq h]; exact List.getElem_mem h

/-- One attribute's three cells. -/
def CellsA (w : World) (g o : Nat) (a : AttrD) : Prop :=
  ∃ vc vv, w.cell? ⟨g, o, none⟩ = some (.string a.name) ∧ w.cell? ⟨g, o + 1, none⟩ = some vc ∧ w.cell? ⟨g, o + 2, none⟩ = some vv ∧ RowI w vc a.cuts ∧ RowS w vv a.vals
theorem CellsA.later {w w' : World} {g o : Nat} {a : AttrD} (h : CellsA w g o a) (hb : Below w.heap.size w w') (hg : g < w.heap.size) : CellsA w' g o a := by
  obtain ⟨vc, vv, h0, h1, h2, h3, h4⟩ := h
  exact ⟨vc, vv, (hb.cell (p := ⟨g, o, none⟩) hg).trans h0, (hb.cell (p := ⟨g, o + 1, none⟩) hg).trans h1, (hb.cell (p := ⟨g, o + 2, none⟩) hg).trans h2, h3.later hb, h4.later hb⟩
/-- What a function knows of a list of attributes that it is handed. -/
def RowA (w : World) (v : Value) (ls : List AttrD) : Prop :=
  ∃ oa cap, v = .slice oa ls.length cap ∧ ls.length ≤ cap ∧ (0 < ls.length → ∃ g o, oa = some ⟨g, o, none⟩ ∧ g < w.heap.size ∧ ∀ j, j < ls.length → CellsA w g (o + j * 3) (ad ls j))
theorem RowA.later {w w' : World} {v : Value} {ls : List AttrD} (h : RowA w v ls) (hb : Below w.heap.size w w') : RowA w' v ls := by
  obtain ⟨oa, cap, rfl, hc, hr⟩ := h
  refine ⟨oa, cap, rfl, hc, fun h0 => ?_⟩
  obtain ⟨g, o, rfl, hg, hj⟩ := hr h0
  exact ⟨g, o, rfl, Nat.lt_of_lt_of_le hg hb.size, fun j hlt => (hj j hlt).later hb hg⟩
def SchemaAt (w : World) (v : Value) (s : SchemaD) : Prop :=
  ∃ va vc, v = .agg #[va, vc] ∧ RowA w va s.attrs ∧ RowS w vc s.classes
theorem SchemaAt.later {w w' : World} {v : Value} {s : SchemaD} (h : SchemaAt w v s) (hb : Below w.heap.size w w') : SchemaAt w' v s := by
  obtain ⟨va, vc, rfl, h1, h2⟩ := h
  exact ⟨va, vc, rfl, h1.later hb, h2.later hb⟩
structure okSch (s : SchemaD) : Prop where
  attrs : s.attrs.length ≤ 1099511627776
  each : ∀ a ∈ s.attrs, okA a
  classes : okS s.classes

def nmsB (ls : List AttrD) (k : Nat) : List ByteArray := (ls.take k).map (·.name)
def attrAt (ls : List AttrD) (i : Nat) : Bool := attrOk (ad ls i) && !hasT (nmsB ls i) (ad ls i).name
def attrsOk (ls : List AttrD) : Bool := (List.range ls.length).all (attrAt ls)
def schemaOk (s : SchemaD) : Bool := decide (1 ≤ s.attrs.length ∧ s.attrs.length ≤ 5) && (choices s.classes 3 && attrsOk s.attrs)
theorem attrs_yes {ls : List AttrD} (h : ∀ j, j < ls.length → attrAt ls j = true) : attrsOk ls = true := by
  unfold attrsOk
  rw [List.all_eq_true]
  intro j hj
  exact h j (List.mem_range.1 hj)
theorem attrs_no {ls : List AttrD} (j : Nat) (hj : j < ls.length) (h : attrAt ls j = false) : attrsOk ls = false := by
  cases e : attrsOk ls with
  | false => rfl
  | true =>
    unfold attrsOk at e
    rw [List.all_eq_true] at e
    have := e j (List.mem_range.2 hj)
    rw [h] at this; cases this
theorem attrAt_no1 {ls : List AttrD} {j : Nat} (h : attrOk (ad ls j) = false) : attrAt ls j = false := by unfold attrAt; rw [h]; rfl
theorem attrAt_no2 {ls : List AttrD} {j : Nat} (h : hasT (nmsB ls j) (ad ls j).name = true) : attrAt ls j = false := by unfold attrAt; rw [h]; simp
theorem attrAt_yes {ls : List AttrD} {j : Nat} (h : attrOk (ad ls j) = true) (k : hasT (nmsB ls j) (ad ls j).name = false) : attrAt ls j = true := by unfold attrAt; rw [h, k]; rfl
theorem nmsB_len {ls : List AttrD} {k : Nat} (h : k ≤ ls.length) : (nmsB ls k).length = k := by unfold nmsB; simp; omega
theorem nmsB_succ {ls : List AttrD} {k : Nat} (h : k < ls.length) : nmsB ls (k + 1) = nmsB ls k ++ [(ad ls k).name] := by
  unfold nmsB
  rw [List.take_succ_eq_append_getElem h, List.map_append, ad_eq h]; rfl
theorem nmsB_at {ls : List AttrD} {k j : Nat} (h : j < k) (hk : k ≤ ls.length) : tx (nmsB ls k) j = (ad ls j).name := by
  have hj : j < ls.length := by omega
  simp [tx, nmsB, ad, h, hj]
end Go.Proofs.Ytobimpgapfecoab
/- How many bins an attribute has, in plain words. -/
namespace Go.Proofs.Ytobimpgapfecoab
def bins (a : AttrD) : Int := if attrOk a = true then (if a.vals.length = 0 then (a.cuts.length : Int) + 1 else a.vals.length) else 0
theorem ok_kind {a : AttrD} (h : attrOk a = true) : (a.vals.length = 0 ↔ a.cuts.length ≠ 0) := by
  unfold attrOk at h
  rw [Bool.and_eq_true] at h
  have h2 := h.2
  by_cases h0 : a.cuts.length = 0
  · rw [if_pos h0] at h2
    unfold choices at h2
    rw [Bool.and_eq_true] at h2
    have := of_decide_eq_true h2.1
    omega
  · rw [if_neg h0, Bool.and_eq_true] at h2
    have := of_decide_eq_true h2.1
    omega

end Go.Proofs.Ytobimpgapfecoab
/- Chapter 8 in plain words: what a leaf has counted. -/
namespace Go.Proofs.Ytobimpgapfecoab
open Go.RowKit
set_option maxRecDepth 100000
structure StatsD where
  totals : List Int
  cells : List (List Int)
def il (cs : List (List Int)) (j : Nat) : List Int := cs.getD j []
theorem il_eq {cs : List (List Int)} {j : Nat} (h : j < cs.length) : il cs j = cs[j] := by simp [il, h]
theorem il_mem {cs : List (List Int)} {j : Nat} (h : j < cs.length) : il cs j ∈ cs := by rw [il_eq h]; exact List.getElem_mem h
/-- What a function knows of a list of lists of numbers that it is handed. -/
def RowII (w : World) (v : Value) (cs : List (List Int)) : Prop :=
  ∃ oa cap, v = .slice oa cs.length cap ∧ cs.length ≤ cap ∧ (0 < cs.length → ∃ g o, oa = some ⟨g, o, none⟩ ∧ g < w.heap.size ∧ ∀ j, j < cs.length → ∃ u, w.cell? ⟨g, o + j, none⟩ = some u ∧ RowI w u (il cs j))
theorem RowII.later {w w' : World} {v : Value} {cs : List (List Int)} (h : RowII w v cs) (hb : Below w.heap.size w w') : RowII w' v cs := by
  obtain ⟨oa, cap, rfl, hc, hr⟩ := h
  refine ⟨oa, cap, rfl, hc, fun h0 => ?_⟩
  obtain ⟨g, o, rfl, hg, hj⟩ := hr h0
  exact ⟨g, o, rfl, Nat.lt_of_lt_of_le hg hb.size, fun j hlt => by
    obtain ⟨u, h1, h2⟩ := hj j hlt
    exact ⟨u, (hb.cell (p := ⟨g, o + j, none⟩) hg).trans h1, h2.later hb⟩⟩
/-- What a function knows of the counts that it is handed. -/
def StatsAt (w : World) (v : Value) (t : StatsD) : Prop := ∃ vt vc, v = .agg #[vt, vc] ∧ RowI w vt t.totals ∧ RowII w vc t.cells
theorem StatsAt.later {w w' : World} {v : Value} {t : StatsD} (h : StatsAt w v t) (hb : Below w.heap.size w w') : StatsAt w' v t := by
  obtain ⟨vt, vc, rfl, h1, h2⟩ := h
  exact ⟨vt, vc, rfl, h1.later hb, h2.later hb⟩
structure okSt (t : StatsD) : Prop where
  totals : t.totals.length ≤ 1099511627776
  cells : t.cells.length ≤ 1099511627776
  each : ∀ c ∈ t.cells, c.length ≤ 1099511627776
/-- The place of the greatest number, the first of such. -/
def topFrom (l : List Int) (at' : Int) (k : Nat) : Nat → Int
  | 0 => at'
  | n + 1 => if at' < 0 ∨ l.getD at'.toNat 0 < l.getD k 0 then topFrom l k (k + 1) n else topFrom l at' (k + 1) n
def topOf (l : List Int) : Int := topFrom l (-1) 0 l.length
theorem topFrom_step {l : List Int} {at' : Int} {k n : Nat} (h : k < n) : topFrom l at' k (n - k) = if at' < 0 ∨ l.getD at'.toNat 0 < l.getD k 0 then topFrom l k (k + 1) (n - (k + 1)) else topFrom l at' (k + 1) (n - (k + 1)) := by
  rw [show n - k = (n - (k + 1)) + 1 by omega]; rfl
def sumL (l : List Int) : Int := l.foldl (· + ·) 0
theorem sumL_snoc (l : List Int) (x : Int) : sumL (l ++ [x]) = sumL l + x := by simp [sumL]
def inW (x : Int) : Bool := decide (0 ≤ x ∧ x ≤ 999)
/-- The cells of one attribute and class: place b * classes + k. -/
def colAt (c : List Int) (m k b : Nat) : Int := c.getD (b * m + k) 0
def colL (c : List Int) (m k n : Nat) : List Int := (List.range n).map (colAt c m k)
def colOk (t : StatsD) (c : List Int) (m n k : Nat) : Bool := (colL c m k n).all inW && decide (sumL (colL c m k n) ≤ t.totals.getD k 0)
def cellOk (s : SchemaD) (t : StatsD) (i : Nat) : Bool :=
  decide (((il t.cells i).length : Int) = bins (ad s.attrs i) * s.classes.length) && (List.range s.classes.length).all (colOk t (il t.cells i) s.classes.length (bins (ad s.attrs i)).toNat)
def statsOk (s : SchemaD) (t : StatsD) : Bool :=
  schemaOk s && (decide (t.totals.length = s.classes.length) && (t.totals.all inW && (decide (sumL t.totals ≤ 999) && (decide (t.cells.length = 0) || (decide (t.cells.length = s.attrs.length) && (List.range t.cells.length).all (cellOk s t))))))
def statsSame (a b : StatsD) : Bool := decide (a.totals = b.totals) && decide (a.cells = b.cells)
end Go.Proofs.Ytobimpgapfecoab
