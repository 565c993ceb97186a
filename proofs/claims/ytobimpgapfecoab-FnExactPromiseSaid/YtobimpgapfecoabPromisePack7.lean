/- Texts of this claim, put together: part 7. -/
import Derived.Test.YtobimpgapfecoabPromisePack4
import Derived.Test.YtobimpgapfecoabPromisePack6
import Derived.Test.YtobimpgapfecoabPromisePack2
import Derived.Test.YtobimpgapfecoabPromisePack3
import Derived.Test.YtobimpgapfecoabRows
import Derived.WalkKit
import Derived.ProofKit
import Derived.OpenShut
import Derived.Test.YtobimpgapfecoabPromisePack5
import Derived.Lib.QuietBelow
import Derived.BigQuiet
/- Chapter 8 in plain words: what a leaf has counted. -/
namespace Go.Proofs.Ytobimpgapfecoab
open Go.RowKit
set_option maxRecDepth 100000
structure StatsD where
  totals : List Int
  cells : List (List Int)
def il (cs : List (List Int)) (j : Nat) : List Int := cs.getD j []
theorem il_eq {cs : List (List Int)} {j : Nat} (h : j < cs.length) : il cs j = cs[j] := by simp [il, h]
theorem il_mem {cs : List (List Int)} {j : Nat} (h : j < cs.length) : il cs j ∈ cs := by rw [il_eq h]; exact List.getElem_mem h
/-- What a function knows of a list of lists of numbers that it is handed. -/
def RowII (w : World) (v : Value) (cs : List (List Int)) : Prop :=
  ∃ oa cap, v = .slice oa cs.length cap ∧ cs.length ≤ cap ∧ (0 < cs.length → ∃ g o, oa = some ⟨g, o, none⟩ ∧ g < w.heap.size ∧ ∀ j, j < cs.length → ∃ u, w.cell? ⟨g, o + j, none⟩ = some u ∧ RowI w u (il cs j))
theorem RowII.later {w w' : World} {v : Value} {cs : List (List Int)} (h : RowII w v cs) (hb : Below w.heap.size w w') : RowII w' v cs := by
  obtain ⟨oa, cap, rfl, hc, hr⟩ := h
  refine ⟨oa, cap, rfl, hc, fun h0 => ?_⟩
  obtain ⟨g, o, rfl, hg, hj⟩ := hr h0
  exact ⟨g, o, rfl, Nat.lt_of_lt_of_le hg hb.size, fun j hlt => by
    obtain ⟨u, h1, h2⟩ := hj j hlt
    exact ⟨u, (hb.cell (p := ⟨g, o + j, none⟩) hg).trans h1, h2.later hb⟩⟩
/-- What a function knows of the counts that it is handed. -/
def StatsAt (w : World) (v : Value) (t : StatsD) : Prop := ∃ vt vc, v = .agg #[vt, vc] ∧ RowI w vt t.totals ∧ RowII w vc t.cells
theorem StatsAt.later {w w' : World} {v : Value} {t : StatsD} (h : StatsAt w v t) (hb : Below w.heap.size w w') : StatsAt w' v t := by
  obtain ⟨vt, vc, rfl, h1, h2⟩ := h
  exact ⟨vt, vc, rfl, h1.later hb, h2.later hb⟩
structure okSt (t : StatsD) : Prop where
  totals : t.totals.length ≤ 1099511627776
  cells : t.cells.length ≤ 1099511627776
  each : ∀ c ∈ t.cells, c.length ≤ 1099511627776
/-- The place of the greatest number, the first of such. -/
def topFrom (l : List Int) (at' : Int) (k : Nat) : Nat → Int
  | 0 => at'
  | n + 1 => if at' < 0 ∨ l.getD at'.toNat 0 < l.getD k 0 then topFrom l k (k + 1) n else topFrom l at' (k + 1) n
def topOf (l : List Int) : Int := topFrom l (-1) 0 l.length
theorem topFrom_step {l : List Int} {at' : Int} {k n : Nat} (h : k < n) : topFrom l at' k (n - k) = if at' < 0 ∨ l.getD at'.toNat 0 < l.getD k 0 then topFrom l k (k + 1) (n - (k + 1)) else topFrom l at' (k + 1) (n - (k + 1)) := by
  rw [show n - k = (n - (k + 1)) + 1 by omega]; rfl
def sumL (l : List Int) : Int := l.foldl (· + ·) 0
theorem sumL_snoc (l : List Int) (x : Int) : sumL (l ++ [x]) = sumL l + x := by simp [sumL]
def inW (x : Int) : Bool := decide (0 ≤ x ∧ x ≤ 999)
/-- The cells of one attribute and class: place b * classes + k. -/
def colAt (c : List Int) (m k b : Nat) : Int := c.getD (b * m + k) 0
def colL (c : List Int) (m k n : Nat) : List Int := (List.range n).map (colAt c m k)
def colOk (t : StatsD) (c : List Int) (m n k : Nat) : Bool := (colL c m k n).all inW && decide (sumL (colL c m k n) ≤ t.totals.getD k 0)
def cellOk (s : SchemaD) (t : StatsD) (i : Nat) : Bool :=
  decide (((il t.cells i).length : Int) = bins (ad s.attrs i) * s.classes.length) && (List.range s.classes.length).all (colOk t (il t.cells i) s.classes.length (bins (ad s.attrs i)).toNat)
def statsOk (s : SchemaD) (t : StatsD) : Bool :=
  schemaOk s && (decide (t.totals.length = s.classes.length) && (t.totals.all inW && (decide (sumL t.totals ≤ 999) && (decide (t.cells.length = 0) || (decide (t.cells.length = s.attrs.length) && (List.range t.cells.length).all (cellOk s t))))))
def statsSame (a b : StatsD) : Bool := decide (a.totals = b.totals) && decide (a.cells = b.cells)
end Go.Proofs.Ytobimpgapfecoab
/- Lists of lists of numbers of the call's own: no two of them share memory. -/
namespace Go.Proofs.Ytobimpgapfecoab
open Go.RowKit
set_option maxRecDepth 100000
/-- The lists that a row leads to, each in a block of its own. -/
structure SepII (base : Nat) (w : World) (v : Value) (L : Nat → Value) (ys : List Value) (cs : List (List Int)) (n : Nat) : Prop where
  row : w.ownsRow base 26 1 v n ys
  cells : ∀ j, j < n → ys[j]? = some (L j)
  ints : ∀ j, j < n → w.ownsRow base 3 1 (L j) (il cs j).length ((il cs j).map (Value.int .i64))
  ord : ∀ i j a b, i < j → j < n → (L i).ownBlock = some a → (L j).ownBlock = some b → a ≠ b
theorem SepII.below {base : Nat} {w w' : World} {v : Value} {L : Nat → Value} {ys : List Value} {cs : List (List Int)} {n : Nat} (h : SepII base w v L ys cs n) (hb : Below w.heap.size w w') : SepII base w' v L ys cs n :=
  ⟨own_below h.row hb, h.cells, fun j hj => own_below (h.ints j hj) hb, h.ord⟩
theorem SepII.base {b b' : Nat} {w : World} {v : Value} {L : Nat → Value} {ys : List Value} {cs : List (List Int)} {n : Nat} (h : SepII b w v L ys cs n) (hb : b' ≤ b) : SepII b' w v L ys cs n :=
  ⟨own_base h.row hb, h.cells, fun j hj => own_base (h.ints j hj) hb, h.ord⟩
theorem SepII.setCell {base : Nat} {w : World} {v : Value} {L : Nat → Value} {ys : List Value} {cs : List (List Int)} {n : Nat} (h : SepII base w v L ys cs n) (p : Addr) (u : Value) (hp : p.block < base) : SepII base (w.setCell p u) v L ys cs n :=
  ⟨own_setCell h.row p u hp, h.cells, fun j hj => own_setCell (h.ints j hj) p u hp, h.ord⟩
theorem SepII.setRow {base : Nat} {w : World} {v : Value} {L : Nat → Value} {ys : List Value} {cs : List (List Int)} {n : Nat} (h : SepII base w v L ys cs n) (k : Nat) (c : Array Value) (hp : k < base) : SepII base (w.setRow k c) v L ys cs n :=
  ⟨own_setRow h.row k c hp, h.cells, fun j hj => own_setRow (h.ints j hj) k c hp, h.ord⟩
theorem SepII.at {base : Nat} {w : World} {v : Value} {L : Nat → Value} {ys : List Value} {cs : List (List Int)} (h : SepII base w v L ys cs cs.length) : RowII w v cs := by
  rcases id h.row.2 with ⟨rfl, h0⟩ | ⟨g, cap, cur, rfl, hg, hcur, hcap, r⟩
  · exact ⟨none, 0, by rw [h0], by omega, fun h1 => by omega⟩
  · refine ⟨_, _, rfl, hcap, fun h0 => ⟨g, 0, rfl, (h.row.lt g rfl).2, fun j hj => ⟨L j, ?_, RowI.of_own (h.ints j hj) rfl⟩⟩⟩
    rw [Nat.zero_add, h.row.cellAt j (by omega)]; exact h.cells j hj
/-- Counts of the call's own, no two lists in one block. -/
def OwnSt (base : Nat) (w : World) (v : Value) (t : StatsD) : Prop :=
  ∃ vt vc L ys, v = .agg #[vt, vc] ∧ w.ownsRow base 3 1 vt t.totals.length (t.totals.map (Value.int .i64)) ∧ SepII base w vc L ys t.cells t.cells.length ∧ ∀ j a b, j < t.cells.length → vt.ownBlock = some a → (L j).ownBlock = some b → a ≠ b
theorem OwnSt.at {base : Nat} {w : World} {v : Value} {t : StatsD} (h : OwnSt base w v t) : StatsAt w v t := by
  obtain ⟨vt, vc, L, ys, rfl, h1, h2, -⟩ := h
  exact ⟨vt, vc, rfl, RowI.of_own h1 rfl, h2.at⟩
theorem OwnSt.below {base : Nat} {w w' : World} {v : Value} {t : StatsD} (h : OwnSt base w v t) (hb : Below w.heap.size w w') : OwnSt base w' v t := by
  obtain ⟨vt, vc, L, ys, rfl, h1, h2, h3⟩ := h
  exact ⟨vt, vc, L, ys, rfl, own_below h1 hb, h2.below hb, h3⟩
theorem OwnSt.base {b b' : Nat} {w : World} {v : Value} {t : StatsD} (h : OwnSt b w v t) (hb : b' ≤ b) : OwnSt b' w v t := by
  obtain ⟨vt, vc, L, ys, rfl, h1, h2, h3⟩ := h
  exact ⟨vt, vc, L, ys, rfl, own_base h1 hb, h2.base hb, h3⟩
/-- The first k lists of a row of the call's own are these; they lie behind the row, one behind the other. -/
structure DoneII (w : World) (b : Nat) (ys : List Value) (L : Nat → Value) (cs : List (List Int)) (k : Nat) : Prop where
  cells : ∀ j, j < k → ys[j]? = some (L j)
  ints : ∀ j, j < k → w.ownsRow b 3 1 (L j) (il cs j).length ((il cs j).map (Value.int .i64))
  ord : ∀ i j a b, i < j → j < k → (L i).ownBlock = some a → (L j).ownBlock = some b → a ≠ b
theorem DoneII.start (w : World) (b : Nat) (ys : List Value) (L : Nat → Value) (cs : List (List Int)) : DoneII w b ys L cs 0 :=
  ⟨fun j hj => by omega, fun j hj => by omega, fun _ _ _ _ _ h => by omega⟩
theorem DoneII.below {w w' : World} {b : Nat} {ys : List Value} {L : Nat → Value} {cs : List (List Int)} {k : Nat} (h : DoneII w b ys L cs k) (hb : Below w.heap.size w w') : DoneII w' b ys L cs k :=
  ⟨h.cells, fun j hj => own_below (h.ints j hj) hb, h.ord⟩
theorem DoneII.lt {w : World} {b : Nat} {ys : List Value} {L : Nat → Value} {cs : List (List Int)} {k : Nat} (h : DoneII w b ys L cs k) : ∀ j, j < k → ∀ a, (L j).ownBlock = some a → a < w.heap.size :=
  fun j hj a ha => ((h.ints j hj).lt a ha).2
theorem DoneII.sep {w : World} {g n : Nat} {ys : List Value} {L : Nat → Value} {cs : List (List Int)} {v : Value} (h : DoneII w (g + 1) ys L cs n) (ho : w.ownsRow g 26 1 v n ys) : SepII g w v L ys cs n :=
  ⟨ho, h.cells, fun j hj => own_base (h.ints j hj) (by omega), h.ord⟩
theorem DoneII.stored {w : World} {g k B : Nat} {ys : List Value} {L : Nat → Value} {cs : List (List Int)} {y : Value} (h : DoneII w (g + 1) ys L cs k) (hl : k < ys.length)
    (hlt : ∀ j, j < k → ∀ a, (L j).ownBlock = some a → a < B) (hy : w.ownsRow B 3 1 y (il cs k).length ((il cs k).map (Value.int .i64))) (hB : g + 1 ≤ B) :
    DoneII (w.setCell ⟨g, k, none⟩ y) (g + 1) (ys.set k y) (fun j => if j = k then y else L j) cs (k + 1) := by
  have key : ∀ {e n : Nat} {v : Value} {xs : List Value}, w.ownsRow (g + 1) e 1 v n xs → (w.setCell ⟨g, k, none⟩ y).ownsRow (g + 1) e 1 v n xs := fun h => own_setCell h _ _ (by simp)
  refine ⟨fun j hj => ?_, fun j hj => ?_, fun i j a b hij hj ha hb => ?_⟩
  · by_cases e : j = k
    · subst e; rw [List.getElem?_set_self (by omega), if_pos rfl]
    · rw [List.getElem?_set_ne (by omega), if_neg e]; exact h.cells j (by omega)
  · by_cases e : j = k
    · subst e; rw [if_pos rfl]; exact key (own_base hy hB)
    · rw [if_neg e]; exact key (h.ints j (by omega))
  · rw [if_neg (by omega)] at ha
    by_cases e : j = k
    · rw [if_pos e] at hb
      have h1 := hlt i (by omega) a ha
      have h2 := (hy.lt b hb).1
      omega
    · rw [if_neg e] at hb
      exact h.ord i j a b hij (by omega) ha hb
/-- The blocks that the marks may turn. -/
def InII (L : Nat → Value) (n : Nat) (k : Nat) : Prop := ∃ j, j < n ∧ (L j).ownBlock = some k
end Go.Proofs.Ytobimpgapfecoab
/- Lists of numbers as elements. -/
namespace Go.Proofs.Ytobimpgapfecoab
open Go.RowKit
set_option maxRecDepth 100000
theorem intsInfo : (Try.prog.info? 26).map (fun i => (i.zero, i.size, i.bytes)) = some (some (.slice none 0 0), 1, 24) := by kernel_rfl
end Go.Proofs.Ytobimpgapfecoab
/- What the laws' own helpers do with counts that came in: their size, a copy of them, two held against each other. -/
namespace Go.Proofs.Ytobimpgapfecoab
open Go.RowKit
set_option maxRecDepth 100000
set_option linter.unusedSimpArgs false
set_option maxHeartbeats 800000 in
theorem szII_row (v : Value) (cs : List (List Int)) (left : Int) (w : World) (h : RowII w v cs) (hn : cs.length ≤ 9223372036854775807) (hs : ∀ c ∈ cs, c.length ≤ 9223372036854775807) (h0 : 0 ≤ left) (h1 : left ≤ 1048576) :
    Calls Try.prog 38 #[v, .int .i64 left] w fun e w' => ∃ r : Int, e = .returned (.int .i64 r) ∧ ((0 ≤ r ∧ r ≤ left ∧ (cs.length : Int) ≤ left ∧ ∀ c ∈ cs, (c.length : Int) ≤ left) ∨ r = -1) ∧ Below w.heap.size w w' := by
  obtain ⟨oa, cap, rfl, hc, hr⟩ := h
  have HR : Hid (0 < cs.length → ∃ g o, oa = some ⟨g, o, none⟩ ∧ g < w.heap.size ∧ ∀ j, j < cs.length → ∃ u, w.cell? ⟨g, o + j, none⟩ = some u ∧ RowI w u (il cs j)) := hr
  have HS : Hid (∀ c ∈ cs, c.length ≤ 9223372036854775807) := hs
  clear hr hs
  by_cases hl : left - (cs.length : Int) < 0
  · go_enter Try.func38, Try.ntmps38
    go_wp2
    go_ret
    exact ⟨_, rfl, .inr rfl, Below.refl _ _⟩
  · go_enter Try.func38, Try.ntmps38
    go_wp2
    go_loopw [1, 5] (fun l i wr => ∃ (k : Nat) (x : Int), i = .int .i64 k ∧ l = .int .i64 x ∧ 0 ≤ x ∧ x ≤ left ∧ k ≤ cs.length ∧ Hid (∀ j, j < k → ((il cs j).length : Int) ≤ left) ∧ Below w.heap.size w wr) (fun _ i _ => cs.length - (intOf i).toNat)
    case atStart => exact ⟨0, _, rfl, rfl, by omega, by omega, by omega, fun j hj => by omega, Below.refl _ _⟩
    case round =>
      obtain ⟨k, x, rfl, rfl, hx0, hx1, hk, HA, hb⟩ := hrel
      by_cases hlt : k < cs.length
      · obtain ⟨g, o, rfl, hg, hj⟩ := HR.out (by omega)
        obtain ⟨u, hu, ru⟩ := hj k hlt
        obtain ⟨ou, cu, rfl, -, -⟩ := id ru
        have hcell : wr.cell? ⟨g, o + k, none⟩ = some (.slice ou (il cs k).length cu) := (hb.cell (p := ⟨g, o + k, none⟩) hg).trans hu
        have e1 := szI_any ou (il cs k).length cu x wr (HS.out _ (il_mem hlt)) hx0 (by omega)
        clear hj hu ru
        go_wp2_with fail
        refine e1.mono ?_
        clear e1
        rintro e w1 ⟨r, rfl, hr, hb1⟩
        have B1 := hb.trans (hb1.mono hb.size)
        rcases hr with ⟨r0, r1, r2⟩ | rfl
        · have r0n : ¬ r < 0 := by omega
          go_wp2
          go_roundw
          case rel =>
            refine ⟨k + 1, r, by go_num, rfl, by omega, by omega, by omega, fun j hj => ?_, B1⟩
            by_cases e : j = k
            · subst e; omega
            · exact HA.out j (by omega)
          case measure => simp [intOf]; omega
        · go_wp2
          go_ret
          exact ⟨_, rfl, .inr rfl, B1⟩
      · go_wp2
        go_ret
        refine ⟨_, rfl, .inl ⟨hx0, hx1, by omega, fun c hc' => ?_⟩, hb⟩
        obtain ⟨j, hj, rfl⟩ := List.mem_iff_getElem.1 hc'
        have := HA.out j (by omega)
        rwa [il_eq hj] at this
set_option maxHeartbeats 800000 in
theorem toII_row (v : Value) (cs : List (List Int)) (w : World) (h : RowII w v cs) (hn : cs.length ≤ 1048576) (hf : ∀ c ∈ cs, c.length ≤ 1048576) :
    Calls Try.prog 47 #[v] w fun e w' => ∃ g L ys, e = .returned (.slice (some ⟨g, 0, none⟩) cs.length cs.length) ∧ SepII w.heap.size w' (.slice (some ⟨g, 0, none⟩) cs.length cs.length) L ys cs cs.length ∧ Below w.heap.size w w' := by
  obtain ⟨i0, hi, hz0, hz1, hz2⟩ := info_parts intsInfo
  obtain ⟨oa, cap, rfl, hc, hr⟩ := h
  have HR : Hid (0 < cs.length → ∃ g o, oa = some ⟨g, o, none⟩ ∧ g < w.heap.size ∧ ∀ j, j < cs.length → ∃ u, w.cell? ⟨g, o + j, none⟩ = some u ∧ RowI w u (il cs j)) := hr
  have HF : Hid (∀ c ∈ cs, c.length ≤ 1048576) := hf
  clear hr hf
  go_enter Try.func47, Try.ntmps47
  go_wp2_with (at_make; refine wpList_make_full _ rfl _ _ 27 rfl w.heap.size 26 i0 (.slice none 0 0) 1 Try.underlying27 hi hz0 hz1 .i64 .i64 _ _ cs.length rfl rfl rfl rfl ?c1 ?c2 ?c3 ?_)
  case c1 => rw [hz2]; omega
  case c2 => unfold maxLen; omega
  case c3 => omega
  intro w1 ho1 hg1
  have hb1 : Below w.heap.size w w1 := (Below.refl _ _).grown hg1 (Nat.le_refl _) (by intro k hk; cases hk)
  clear hg1
  go_wp2
  go_loopw [4] (fun i wr => ∃ (k : Nat) (ys : List Value) (L : Nat → Value), i = .int .i64 k ∧ k ≤ cs.length ∧ wr.ownsRow w.heap.size 26 1 (.slice (some ⟨w.heap.size, 0, none⟩) cs.length cs.length) cs.length ys ∧ DoneII wr (w.heap.size + 1) ys L cs k ∧ Below w.heap.size w wr) (fun i _ => cs.length - (intOf i).toNat)
  case atStart => exact ⟨0, _, fun _ => .slice none 0 0, rfl, by omega, ho1, DoneII.start _ _ _ _ _, hb1⟩
  case round =>
    obtain ⟨k, ys, L, rfl, hk, hown, hys, hbr⟩ := hrel
    clear ho1 hb1
    have HOW : Hid (wr.ownsRow w.heap.size 26 1 (.slice (some ⟨w.heap.size, 0, none⟩) cs.length cs.length) cs.length ys) := hown
    have HD : Hid (DoneII wr (w.heap.size + 1) ys L cs k) := hys
    clear hown hys
    by_cases hlt : k < cs.length
    · obtain ⟨b, o, rfl, hb, hj⟩ := HR.out (by omega)
      obtain ⟨u, hu, ru⟩ := hj k hlt
      obtain ⟨ou, cu, rfl, -, -⟩ := id ru
      have hcell : wr.cell? ⟨b, o + k, none⟩ = some (.slice ou (il cs k).length cu) := (hbr.cell (p := ⟨b, o + k, none⟩) hb).trans hu
      have c := toI_row _ (il cs k) wr (ru.later hbr) (HF.out _ (il_mem hlt))
      clear hj ru hu
      go_wp2_with fail
      refine c.mono ?_
      rintro e w2 ⟨g2, rfl, ho2, hb2⟩
      clear c hcell
      have hgl : w.heap.size < wr.heap.size := (HOW.out.lt w.heap.size rfl).2
      have hown := own_below HOW.out hb2
      have hdone := HD.out.below hb2
      have hbw := hbr.trans (hb2.mono hbr.size)
      have hlen : ys.length = cs.length := by have := hown.1; omega
      obtain ⟨u0, hc0⟩ : ∃ u, w2.cell? ⟨w.heap.size, k, none⟩ = some u := ⟨ys[k]'(by omega), by rw [hown.cellAt k (by omega)]; exact List.getElem?_eq_getElem _⟩
      have hf0 : w2.frozen? ⟨w.heap.size, k, none⟩ = false := hown.frozenAt _
      have DS := hdone.stored (by omega) HD.out.lt ho2 (by omega)
      have OS := (hown.stored k (.slice (some ⟨g2, 0, none⟩) (il cs k).length (il cs k).length)).1
      have BS : Below w.heap.size w (w2.setCell ⟨w.heap.size, k, none⟩ (.slice (some ⟨g2, 0, none⟩) (il cs k).length (il cs k).length)) := hbw.setCell (p := ⟨w.heap.size, k, none⟩) (Nat.le_refl _) _
      have HX : Hid ((w2.setCell ⟨w.heap.size, k, none⟩ (.slice (some ⟨g2, 0, none⟩) (il cs k).length (il cs k).length)).ownsRow w.heap.size 26 1 (.slice (some ⟨w.heap.size, 0, none⟩) cs.length cs.length) cs.length (ys.set k (.slice (some ⟨g2, 0, none⟩) (il cs k).length (il cs k).length)) ∧ DoneII (w2.setCell ⟨w.heap.size, k, none⟩ (.slice (some ⟨g2, 0, none⟩) (il cs k).length (il cs k).length)) (w.heap.size + 1) (ys.set k (.slice (some ⟨g2, 0, none⟩) (il cs k).length (il cs k).length)) (fun j => if j = k then .slice (some ⟨g2, 0, none⟩) (il cs k).length (il cs k).length else L j) cs (k + 1) ∧ Below w.heap.size w (w2.setCell ⟨w.heap.size, k, none⟩ (.slice (some ⟨g2, 0, none⟩) (il cs k).length (il cs k).length))) := ⟨OS, DS, BS⟩
      clear DS OS BS hown hdone hbw ho2 hb2 hbr HOW HD
      go_wp2
      go_roundw
      case rel => exact ⟨k + 1, _, _, by go_num, by omega, HX.out.1, HX.out.2.1, HX.out.2.2⟩
      case measure => simp [intOf]; omega
    · obtain rfl : k = cs.length := by omega
      go_wp2
      go_ret
      exact ⟨_, L, ys, rfl, HD.out.sep HOW.out, hbr⟩
set_option maxHeartbeats 800000 in
theorem eqII_row (va vb : Value) (cs : List (List Int)) (w : World) (ha : RowII w va cs) (hb : RowII w vb cs) (hn : cs.length ≤ 1099511627776) (he : ∀ c ∈ cs, c.length ≤ 1099511627776) :
    Calls Try.prog 54 #[va, vb] w fun e w' => e = .returned (.bool true) ∧ Below w.heap.size w w' := by
  have mixed : Try.prog.follows .mixedOrders = true := by kernel_rfl
  obtain ⟨oa, ca, rfl, hca, hra⟩ := ha
  obtain ⟨ob, cb, rfl, hcb, hrb⟩ := hb
  have HA : Hid (0 < cs.length → ∃ g o, oa = some ⟨g, o, none⟩ ∧ g < w.heap.size ∧ ∀ j, j < cs.length → ∃ u, w.cell? ⟨g, o + j, none⟩ = some u ∧ RowI w u (il cs j)) := hra
  have HB : Hid (0 < cs.length → ∃ g o, ob = some ⟨g, o, none⟩ ∧ g < w.heap.size ∧ ∀ j, j < cs.length → ∃ u, w.cell? ⟨g, o + j, none⟩ = some u ∧ RowI w u (il cs j)) := hrb
  have HE : Hid (∀ c ∈ cs, c.length ≤ 1099511627776) := he
  clear hra hrb he
  go_enter Try.func54, Try.ntmps54
  go_wp2
  go_loopw [5] (fun i wr => ∃ k : Nat, i = .int .i64 k ∧ k ≤ cs.length ∧ Below w.heap.size w wr) (fun i _ => cs.length - (intOf i).toNat)
  case atStart => exact ⟨0, rfl, by omega, Below.refl _ _⟩
  case round =>
    obtain ⟨k, rfl, hk, hbr⟩ := hrel
    by_cases hlt : k < cs.length
    · obtain ⟨g, o, rfl, hg, hj⟩ := HA.out (by omega)
      obtain ⟨g', o', rfl, hg', hj'⟩ := HB.out (by omega)
      obtain ⟨u, hu, ru⟩ := hj k hlt
      obtain ⟨u', hu', ru'⟩ := hj' k hlt
      obtain ⟨p1, q1, rfl, -, -⟩ := id ru
      obtain ⟨p2, q2, rfl, -, -⟩ := id ru'
      have a1 : wr.cell? ⟨g, o + k, none⟩ = some (.slice p1 (il cs k).length q1) := (hbr.cell (p := ⟨g, o + k, none⟩) hg).trans hu
      have a2 : wr.cell? ⟨g', o' + k, none⟩ = some (.slice p2 (il cs k).length q2) := (hbr.cell (p := ⟨g', o' + k, none⟩) hg').trans hu'
      have cE := fun d os => Calls.regrown_of (eqI_row _ _ (il cs k) (Go.Sort.grow (redrawn wr d) os) ((ru.later hbr).later (below_regrown wr d os)) ((ru'.later hbr).later (below_regrown wr d os)) (HE.out _ (il_mem hlt)))
      have d1 := fun d os => cell_regrown a1 d os
      have d2 := fun d os => cell_regrown a2 d os
      have HBR : Hid (∀ d os, Below w.heap.size w (Go.Sort.grow (redrawn wr d) os)) := fun d os => hbr.trans ((below_regrown wr d os).mono hbr.size)
      clear hj hj' hu hu' ru ru' a1 a2 hbr
      go_wp2
      refine wp_region_quiet_below mixed (by kernel_rfl) ?_
      repeat (go_big_quiet_step (with_reducible exact cE _ _))
      refine wpQuiet_nil ?_
      intro _ hw'
      obtain ⟨⟨dq, osq⟩, hw''⟩ := hw'
      subst hw''
      clear cE d1 d2
      go_wp2
      go_roundw
      case rel => exact ⟨k + 1, by go_num, by omega, HBR.out _ _⟩
      case measure => simp [intOf]; omega
    · go_wp2
      go_ret
      exact ⟨rfl, hbr⟩
end Go.Proofs.Ytobimpgapfecoab
