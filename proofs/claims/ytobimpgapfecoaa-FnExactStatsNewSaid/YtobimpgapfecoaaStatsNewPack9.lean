/- Texts of this claim, put together: part 9. -/
import Derived.Test.YtobimpgapfecoaaStatsNewPack8
import Derived.Test.YtobimpgapfecoaaStatsNewPack6
import Derived.Test.YtobimpgapfecoaaStatsNewPack3
import Derived.Test.YtobimpgapfecoaaStatsNewPack4
import Derived.Test.YtobimpgapfecoaaStatsNewPack2
/- What the laws' own helpers write over a schema, and look at again. -/
namespace Go.Proofs.Ytobimpgapfecoaa
open Go.RowKit
set_option maxRecDepth 100000
def pOf (ls : List AttrD) (j : Nat) : Nat := (ad ls j).cuts.length
def qOf (ls : List AttrD) (j : Nat) : Nat := (ad ls j).vals.length
theorem SepL.spine {base : Nat} {w : World} {v : Value} {L : Nat → Value × Value} {ys : List Value} {ls : List AttrD} {n : Nat} (h : SepL base w v L ys ls n) (K : Nat → Nat) : Spine base w v L K n 0 ys :=
  ⟨h.row, fun j hj => ⟨(h.cells j hj).2.1, (h.cells j hj).2.2⟩, fun j hj => by omega⟩
theorem SepL.rows {base : Nat} {w : World} {v : Value} {L : Nat → Value × Value} {ys : List Value} {ls : List AttrD} {n : Nat} (h : SepL base w v L ys ls n) (K : Nat → Nat) : Rows2 base w L (pOf ls) (qOf ls) K n 0 0 :=
  ⟨fun j hj => ⟨_, h.ints j hj, fun h => by omega⟩, fun j hj => ⟨_, h.strs j hj, fun h => by omega⟩⟩
theorem SepL.ord {base : Nat} {w : World} {v : Value} {L : Nat → Value × Value} {ys : List Value} {ls : List AttrD} {n : Nat} (h : SepL base w v L ys ls n) : Ord L n := by
  refine ⟨fun i j hi hj hne => ne_of_ord fun a b ha hb => ?_, fun i j hi hj hne => ne_of_ord fun a b ha hb => ?_⟩
  · rcases Nat.lt_or_gt_of_ne hne with h1 | h1
    · have := h.ord1 i j a b h1 hj ha hb; omega
    · have := h.ord1 j i b a h1 hi hb ha; omega
  · rcases Nat.lt_or_gt_of_ne hne with h1 | h1
    · have := h.ord2 i j a b h1 hj ha hb; omega
    · have := h.ord2 j i b a h1 hi hb ha; omega
/-- A schema whose lists bear the law's marks. -/
structure MarkSch (base : Nat) (w : World) (va vc : Value) (L : Nat → Value × Value) (p q : Nat → Nat) (n c k0 : Nat) : Prop where
  spine : ∃ ys, Spine base w va L (mkK k0 p q) n n ys
  rows : Rows2 base w L p q (mkK k0 p q) n n n
  cls : ∃ zs, w.ownsRow base 9 1 vc c zs ∧ ∀ t, t < c → zs[t]? = some (mkS (mkK k0 p q n) t)
theorem MarkSch.below {base : Nat} {w w' : World} {va vc : Value} {L : Nat → Value × Value} {p q : Nat → Nat} {n c k0 : Nat} (h : MarkSch base w va vc L p q n c k0) (hb : Below w.heap.size w w') : MarkSch base w' va vc L p q n c k0 := by
  obtain ⟨ys, h1⟩ := h.spine
  obtain ⟨zs, h2, h3⟩ := h.cls
  exact ⟨⟨ys, h1.below hb⟩, h.rows.below hb, zs, own_below h2 hb, h3⟩
/-- The blocks that the marks of a schema may turn. -/
def InS (va vc : Value) (L : Nat → Value × Value) (n : Nat) (k : Nat) : Prop := InL va L n k ∨ vc.ownBlock = some k
theorem markAttrS_all (v : Value) (n base k0 : Nat) (L : Nat → Value × Value) (p q : Nat → Nat) (ys : List Value) (w : World) (hS : Spine base w v L (mkK k0 p q) n 0 ys) (hR : Rows2 base w L p q (mkK k0 p q) n 0 0) (hO : Ord L n)
    (hn : n ≤ 1048576) (h0 : 0 < k0) (hK : mkK k0 p q n ≤ 35184372088832) :
    Calls Try.prog 80 #[v, .int .i64 (k0 : Int)] w fun e w' => e = .returned (.int .i64 ((mkK k0 p q n : Nat) : Int)) ∧ (∃ ys, Spine base w' v L (mkK k0 p q) n n ys) ∧ Rows2 base w' L p q (mkK k0 p q) n n n ∧ GrownS w w' (InL v L n) := by
  have hform : ∀ j, j < n → (∃ a l c, (L j).1 = .slice a l c) ∧ ∃ a l c, (L j).2 = .slice a l c := fun j hj => by
    obtain ⟨xs, h1, _⟩ := hR.ints j hj
    obtain ⟨zs, h2, _⟩ := hR.strs j hj
    obtain ⟨a, c, e⟩ := own_form h1
    obtain ⟨a', c', e'⟩ := own_form h2
    exact ⟨⟨a, _, c, e⟩, a', _, c', e'⟩
  rcases id hS.row.2 with ⟨rfl, rfl⟩ | ⟨g, cap, cur, rfl, _⟩
  · refine (markAttrS_zero k0 w).mono fun e w' ⟨he, hw⟩ => ?_
    subst he hw
    exact ⟨rfl, ⟨ys, hS⟩, hR, GrownS.refl _ _⟩
  · exact markAttrS_pos g cap n base k0 L p q ys w hS hR hO hn h0 hK hform
set_option maxHeartbeats 800000 in
theorem markSchema_any (va vc : Value) (L : Nat → Value × Value) (ys zs : List Value) (ls : List AttrD) (n c base k0 : Nat) (w : World) (h : SepL base w va L ys ls n) (hc : w.ownsRow base 9 1 vc c zs)
    (hord : ∀ j a b, j < n → vc.ownBlock = some a → (L j).2.ownBlock = some b → a ≠ b) (hn : n ≤ 1048576) (hcl : c ≤ 1048576) (h0 : 0 < k0) (hK : mkK k0 (pOf ls) (qOf ls) n ≤ 35184372088832) :
    Calls Try.prog 37 #[.agg #[va, vc], .int .i64 (k0 : Int)] w fun e w' => e = .returned (.int .i64 ((mkK k0 (pOf ls) (qOf ls) n + c : Nat) : Int)) ∧ MarkSch base w' va vc L (pOf ls) (qOf ls) n c k0 ∧ GrownS w w' (InS va vc L n) := by
  obtain ⟨K, B0⟩ := blk_1 27 w #[va, vc]
  have h1 := h.below B0
  have hc1 := own_below hc B0
  have cA := markAttrS_all va n base k0 L (pOf ls) (qOf ls) ys _ (h1.spine _) (h1.rows _) h.ord hn h0 hK
  have HP : Hid (0 < mkK k0 (pOf ls) (qOf ls) n) := mkK_pos h0 n
  have HLT : Hid (∀ k, InL va L n k → k < w.heap.size) := by
    intro k hk
    rcases hk with hk | ⟨j, hj, hk | hk⟩
    · exact (h.row.lt k hk).2
    · exact ((h.ints j hj).lt k hk).2
    · exact ((h.strs j hj).lt k hk).2
  have HNI : Hid (∀ k, vc.ownBlock = some k → ¬ InL va L n k) := by
    intro k hk hin
    rcases hin with hin | ⟨j, hj, hin | hin⟩
    · rcases apart_ty hc h.row (by decide) with e | e
      · rw [e] at hk; cases hk
      · exact e (hk.trans hin.symm)
    · rcases apart_ty hc (h.ints j hj) (by decide) with e | e
      · rw [e] at hk; cases hk
      · exact e (hk.trans hin.symm)
    · exact hord j k k hj hk hin rfl
  have HC1 : Hid ((w.alloc (.cells #[va, vc] 27)).ownsRow base 9 1 vc c zs) := hc1
  have HN2 : Hid (∀ j, j < n → (L j).2.ownBlock = none ∨ (L j).2.ownBlock ≠ vc.ownBlock) := fun j hj => ne_of_ord fun a b ha hb => by have := hord j b a hj hb ha; omega
  clear h h1 hc hc1 hord
  go_enter Try.func37, Try.ntmps37
  go_wp2_with fail
  refine cA.mono ?_
  rintro e w1 ⟨rfl, ⟨ys1, hs1⟩, hr1, hg1⟩
  clear cA
  have K1 := hg1.blk K (fun e => by have := HLT.out _ e; omega)
  have hcv := own_keptS HC1.out hg1 HNI.out
  have k1 : w1.cell? ⟨w.heap.size, 1, none⟩ = some vc := K1.cell 1
  have cS := markS_all c base (mkK k0 (pOf ls) (qOf ls) n) vc zs w1 (by omega) HP.out (by omega) hcv
  have HX : Hid (Spine base w1 va L (mkK k0 (pOf ls) (qOf ls)) n n ys1 ∧ Rows2 base w1 L (pOf ls) (qOf ls) (mkK k0 (pOf ls) (qOf ls)) n n n ∧ GrownS (w.alloc (.cells #[va, vc] 27)) w1 (InL va L n) ∧ w1.ownsRow base 9 1 vc c zs) := ⟨hs1, hr1, hg1, hcv⟩
  clear hs1 hr1 hg1 hcv K K1
  go_wp2_with fail
  refine cS.mono ?_
  rintro e w2 ⟨rfl, ⟨us, ho2, hus⟩, hg2⟩
  clear cS k1
  obtain ⟨hs1, hr1, hg1, hcv⟩ := HX.out
  have S2 := hs1.kept hg2 (apart_ty hs1.row hcv (by decide))
  have R2 := hr1.kept hg2 (fun j hj => by obtain ⟨xs, a, _⟩ := hr1.ints j hj; exact apart_ty a hcv (by decide)) HN2.out
  have G2 : GrownS w w2 (InS va vc L n) := (hg1.alloc.mono (fun k hk => .inl hk)).grown hg2 (fun j hj => .inl (.inr hj))
  have HY : Hid (MarkSch base w2 va vc L (pOf ls) (qOf ls) n c k0 ∧ GrownS w w2 (InS va vc L n)) := ⟨⟨⟨_, S2⟩, R2, us, ho2, hus⟩, G2⟩
  clear S2 R2 G2 hs1 hr1 hg1 hcv HX ho2 hus hg2
  go_wp2
  go_ret
  exact ⟨ret_int (by omega), HY.out.1, HY.out.2⟩
end Go.Proofs.Ytobimpgapfecoaa
/- How many bins an attribute has, in plain words. -/
namespace Go.Proofs.Ytobimpgapfecoaa
def bins (a : AttrD) : Int := if attrOk a = true then (if a.vals.length = 0 then (a.cuts.length : Int) + 1 else a.vals.length) else 0
theorem ok_kind {a : AttrD} (h : attrOk a = true) : (a.vals.length = 0 ↔ a.cuts.length ≠ 0) := by
  unfold attrOk at h
  rw [Bool.and_eq_true] at h
  have h2 := h.2
  by_cases h0 : a.cuts.length = 0
  · rw [if_pos h0] at h2
    unfold choices at h2
    rw [Bool.and_eq_true] at h2
    have := of_decide_eq_true h2.1
    omega
  · rw [if_neg h0, Bool.and_eq_true] at h2
    have := of_decide_eq_true h2.1
    omega

end Go.Proofs.Ytobimpgapfecoaa
/- Chapter 8 in plain words: what a leaf has counted. -/
namespace Go.Proofs.Ytobimpgapfecoaa
open Go.RowKit
set_option maxRecDepth 100000
structure StatsD where
  totals : List Int
  cells : List (List Int)
def il (cs : List (List Int)) (j : Nat) : List Int := cs.getD j []
theorem il_eq {cs : List (List Int)} {j : Nat} (h : j < cs.length) : il cs j = cs[j] := by simp [il, h]
theorem il_mem {cs : List (List Int)} {j : Nat} (h : j < cs.length) : il cs j ∈ cs := by rw [il_eq h]; exact List.getElem_mem h
/-- What a function knows of a list of lists of numbers that it is handed. -/
def RowII (w : World) (v : Value) (cs : List (List Int)) : Prop :=
  ∃ oa cap, v = .slice oa cs.length cap ∧ cs.length ≤ cap ∧ (0 < cs.length → ∃ g o, oa = some ⟨g, o, none⟩ ∧ g < w.heap.size ∧ ∀ j, j < cs.length → ∃ u, w.cell? ⟨g, o + j, none⟩ = some u ∧ RowI w u (il cs j))
theorem RowII.later {w w' : World} {v : Value} {cs : List (List Int)} (h : RowII w v cs) (hb : Below w.heap.size w w') : RowII w' v cs := by
  obtain ⟨oa, cap, rfl, hc, hr⟩ := h
  refine ⟨oa, cap, rfl, hc, fun h0 => ?_⟩
  obtain ⟨g, o, rfl, hg, hj⟩ := hr h0
  exact ⟨g, o, rfl, Nat.lt_of_lt_of_le hg hb.size, fun j hlt => by
    obtain ⟨u, h1, h2⟩ := hj j hlt
    exact ⟨u, (hb.cell (p := ⟨g, o + j, none⟩) hg).trans h1, h2.later hb⟩⟩
/-- What a function knows of the counts that it is handed. -/
def StatsAt (w : World) (v : Value) (t : StatsD) : Prop := ∃ vt vc, v = .agg #[vt, vc] ∧ RowI w vt t.totals ∧ RowII w vc t.cells
theorem StatsAt.later {w w' : World} {v : Value} {t : StatsD} (h : StatsAt w v t) (hb : Below w.heap.size w w') : StatsAt w' v t := by
  obtain ⟨vt, vc, rfl, h1, h2⟩ := h
  exact ⟨vt, vc, rfl, h1.later hb, h2.later hb⟩
structure okSt (t : StatsD) : Prop where
  totals : t.totals.length ≤ 1099511627776
  cells : t.cells.length ≤ 1099511627776
  each : ∀ c ∈ t.cells, c.length ≤ 1099511627776
/-- The place of the greatest number, the first of such. -/
def topFrom (l : List Int) (at' : Int) (k : Nat) : Nat → Int
  | 0 => at'
  | n + 1 => if at' < 0 ∨ l.getD at'.toNat 0 < l.getD k 0 then topFrom l k (k + 1) n else topFrom l at' (k + 1) n
def topOf (l : List Int) : Int := topFrom l (-1) 0 l.length
theorem topFrom_step {l : List Int} {at' : Int} {k n : Nat} (h : k < n) : topFrom l at' k (n - k) = if at' < 0 ∨ l.getD at'.toNat 0 < l.getD k 0 then topFrom l k (k + 1) (n - (k + 1)) else topFrom l at' (k + 1) (n - (k + 1)) := by
  rw [show n - k = (n - (k + 1)) + 1 by omega]; rfl
def sumL (l : List Int) : Int := l.foldl (· + ·) 0
theorem sumL_snoc (l : List Int) (x : Int) : sumL (l ++ [x]) = sumL l + x := by simp [sumL]
def inW (x : Int) : Bool := decide (0 ≤ x ∧ x ≤ 999)
/-- The cells of one attribute and class: place b * classes + k. -/
def colAt (c : List Int) (m k b : Nat) : Int := c.getD (b * m + k) 0
def colL (c : List Int) (m k n : Nat) : List Int := (List.range n).map (colAt c m k)
def colOk (t : StatsD) (c : List Int) (m n k : Nat) : Bool := (colL c m k n).all inW && decide (sumL (colL c m k n) ≤ t.totals.getD k 0)
def cellOk (s : SchemaD) (t : StatsD) (i : Nat) : Bool :=
  decide (((il t.cells i).length : Int) = bins (ad s.attrs i) * s.classes.length) && (List.range s.classes.length).all (colOk t (il t.cells i) s.classes.length (bins (ad s.attrs i)).toNat)
def statsOk (s : SchemaD) (t : StatsD) : Bool :=
  schemaOk s && (decide (t.totals.length = s.classes.length) && (t.totals.all inW && (decide (sumL t.totals ≤ 999) && (decide (t.cells.length = 0) || (decide (t.cells.length = s.attrs.length) && (List.range t.cells.length).all (cellOk s t))))))
def statsSame (a b : StatsD) : Bool := decide (a.totals = b.totals) && decide (a.cells = b.cells)
end Go.Proofs.Ytobimpgapfecoaa
/- Lists of lists of numbers of the call's own: no two of them share memory. -/
namespace Go.Proofs.Ytobimpgapfecoaa
open Go.RowKit
set_option maxRecDepth 100000
/-- The lists that a row leads to, each in a block of its own. -/
structure SepII (base : Nat) (w : World) (v : Value) (L : Nat → Value) (ys : List Value) (cs : List (List Int)) (n : Nat) : Prop where
  row : w.ownsRow base 28 1 v n ys
  cells : ∀ j, j < n → ys[j]? = some (L j)
  ints : ∀ j, j < n → w.ownsRow base 3 1 (L j) (il cs j).length ((il cs j).map (Value.int .i64))
  ord : ∀ i j a b, i < j → j < n → (L i).ownBlock = some a → (L j).ownBlock = some b → a ≠ b
theorem SepII.below {base : Nat} {w w' : World} {v : Value} {L : Nat → Value} {ys : List Value} {cs : List (List Int)} {n : Nat} (h : SepII base w v L ys cs n) (hb : Below w.heap.size w w') : SepII base w' v L ys cs n :=
  ⟨own_below h.row hb, h.cells, fun j hj => own_below (h.ints j hj) hb, h.ord⟩
theorem SepII.base {b b' : Nat} {w : World} {v : Value} {L : Nat → Value} {ys : List Value} {cs : List (List Int)} {n : Nat} (h : SepII b w v L ys cs n) (hb : b' ≤ b) : SepII b' w v L ys cs n :=
  ⟨own_base h.row hb, h.cells, fun j hj => own_base (h.ints j hj) hb, h.ord⟩
theorem SepII.setCell {base : Nat} {w : World} {v : Value} {L : Nat → Value} {ys : List Value} {cs : List (List Int)} {n : Nat} (h : SepII base w v L ys cs n) (p : Addr) (u : Value) (hp : p.block < base) : SepII base (w.setCell p u) v L ys cs n :=
  ⟨own_setCell h.row p u hp, h.cells, fun j hj => own_setCell (h.ints j hj) p u hp, h.ord⟩
theorem SepII.setRow {base : Nat} {w : World} {v : Value} {L : Nat → Value} {ys : List Value} {cs : List (List Int)} {n : Nat} (h : SepII base w v L ys cs n) (k : Nat) (c : Array Value) (hp : k < base) : SepII base (w.setRow k c) v L ys cs n :=
  ⟨own_setRow h.row k c hp, h.cells, fun j hj => own_setRow (h.ints j hj) k c hp, h.ord⟩
theorem SepII.at {base : Nat} {w : World} {v : Value} {L : Nat → Value} {ys : List Value} {cs : List (List Int)} (h : SepII base w v L ys cs cs.length) : RowII w v cs := by
  rcases id h.row.2 with ⟨rfl, h0⟩ | ⟨g, cap, cur, rfl, hg, hcur, hcap, r⟩
  · exact ⟨none, 0, by rw [h0], by omega, fun h1 => by omega⟩
  · refine ⟨_, _, rfl, hcap, fun h0 => ⟨g, 0, rfl, (h.row.lt g rfl).2, fun j hj => ⟨L j, ?_, RowI.of_own (h.ints j hj) rfl⟩⟩⟩
    rw [Nat.zero_add, h.row.cellAt j (by omega)]; exact h.cells j hj
/-- Counts of the call's own, no two lists in one block. -/
def OwnSt (base : Nat) (w : World) (v : Value) (t : StatsD) : Prop :=
  ∃ vt vc L ys, v = .agg #[vt, vc] ∧ w.ownsRow base 3 1 vt t.totals.length (t.totals.map (Value.int .i64)) ∧ SepII base w vc L ys t.cells t.cells.length ∧ ∀ j a b, j < t.cells.length → vt.ownBlock = some a → (L j).ownBlock = some b → a ≠ b
theorem OwnSt.at {base : Nat} {w : World} {v : Value} {t : StatsD} (h : OwnSt base w v t) : StatsAt w v t := by
  obtain ⟨vt, vc, L, ys, rfl, h1, h2, -⟩ := h
  exact ⟨vt, vc, rfl, RowI.of_own h1 rfl, h2.at⟩
theorem OwnSt.below {base : Nat} {w w' : World} {v : Value} {t : StatsD} (h : OwnSt base w v t) (hb : Below w.heap.size w w') : OwnSt base w' v t := by
  obtain ⟨vt, vc, L, ys, rfl, h1, h2, h3⟩ := h
  exact ⟨vt, vc, L, ys, rfl, own_below h1 hb, h2.below hb, h3⟩
theorem OwnSt.base {b b' : Nat} {w : World} {v : Value} {t : StatsD} (h : OwnSt b w v t) (hb : b' ≤ b) : OwnSt b' w v t := by
  obtain ⟨vt, vc, L, ys, rfl, h1, h2, h3⟩ := h
  exact ⟨vt, vc, L, ys, rfl, own_base h1 hb, h2.base hb, h3⟩
/-- The first k lists of a row of the call's own are these; they lie behind the row, one behind the other. -/
structure DoneII (w : World) (b : Nat) (ys : List Value) (L : Nat → Value) (cs : List (List Int)) (k : Nat) : Prop where
  cells : ∀ j, j < k → ys[j]? = some (L j)
  ints : ∀ j, j < k → w.ownsRow b 3 1 (L j) (il cs j).length ((il cs j).map (Value.int .i64))
  ord : ∀ i j a b, i < j → j < k → (L i).ownBlock = some a → (L j).ownBlock = some b → a ≠ b
theorem DoneII.start (w : World) (b : Nat) (ys : List Value) (L : Nat → Value) (cs : List (List Int)) : DoneII w b ys L cs 0 :=
  ⟨fun j hj => by omega, fun j hj => by omega, fun _ _ _ _ _ h => by omega⟩
theorem DoneII.below {w w' : World} {b : Nat} {ys : List Value} {L : Nat → Value} {cs : List (List Int)} {k : Nat} (h : DoneII w b ys L cs k) (hb : Below w.heap.size w w') : DoneII w' b ys L cs k :=
  ⟨h.cells, fun j hj => own_below (h.ints j hj) hb, h.ord⟩
theorem DoneII.lt {w : World} {b : Nat} {ys : List Value} {L : Nat → Value} {cs : List (List Int)} {k : Nat} (h : DoneII w b ys L cs k) : ∀ j, j < k → ∀ a, (L j).ownBlock = some a → a < w.heap.size :=
  fun j hj a ha => ((h.ints j hj).lt a ha).2
theorem DoneII.sep {w : World} {g n : Nat} {ys : List Value} {L : Nat → Value} {cs : List (List Int)} {v : Value} (h : DoneII w (g + 1) ys L cs n) (ho : w.ownsRow g 28 1 v n ys) : SepII g w v L ys cs n :=
  ⟨ho, h.cells, fun j hj => own_base (h.ints j hj) (by omega), h.ord⟩
theorem DoneII.stored {w : World} {g k B : Nat} {ys : List Value} {L : Nat → Value} {cs : List (List Int)} {y : Value} (h : DoneII w (g + 1) ys L cs k) (hl : k < ys.length)
    (hlt : ∀ j, j < k → ∀ a, (L j).ownBlock = some a → a < B) (hy : w.ownsRow B 3 1 y (il cs k).length ((il cs k).map (Value.int .i64))) (hB : g + 1 ≤ B) :
    DoneII (w.setCell ⟨g, k, none⟩ y) (g + 1) (ys.set k y) (fun j => if j = k then y else L j) cs (k + 1) := by
  have key : ∀ {e n : Nat} {v : Value} {xs : List Value}, w.ownsRow (g + 1) e 1 v n xs → (w.setCell ⟨g, k, none⟩ y).ownsRow (g + 1) e 1 v n xs := fun h => own_setCell h _ _ (by simp)
  refine ⟨fun j hj => ?_, fun j hj => ?_, fun i j a b hij hj ha hb => ?_⟩
  · by_cases e : j = k
    · subst e; rw [List.getElem?_set_self (by omega), if_pos rfl]
    · rw [List.getElem?_set_ne (by omega), if_neg e]; exact h.cells j (by omega)
  · by_cases e : j = k
    · subst e; rw [if_pos rfl]; exact key (own_base hy hB)
    · rw [if_neg e]; exact key (h.ints j (by omega))
  · rw [if_neg (by omega)] at ha
    by_cases e : j = k
    · rw [if_pos e] at hb
      have h1 := hlt i (by omega) a ha
      have h2 := (hy.lt b hb).1
      omega
    · rw [if_neg e] at hb
      exact h.ord i j a b hij (by omega) ha hb
/-- The blocks that the marks may turn. -/
def InII (L : Nat → Value) (n : Nat) (k : Nat) : Prop := ∃ j, j < n ∧ (L j).ownBlock = some k
end Go.Proofs.Ytobimpgapfecoaa
