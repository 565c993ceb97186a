/- Texts of this claim, put together: part 22. -/
import Derived.Test.YtobimpgapfecoabBranchTotalsPack10
import Derived.Test.YtobimpgapfecoabBranchTotalsPack21
import Derived.Test.YtobimpgapfecoabBranchTotalsPack8
import Derived.Test.YtobimpgapfecoabBranchTotalsPack13
import Derived.Test.YtobimpgapfecoabBranchTotalsPack19
import Derived.Test.YtobimpgapfecoabBranchTotalsPack11
import Derived.Laws.OwnMore
import Derived.Test.YtobimpgapfecoabBranchTotalsPack18
/- A list of lists that grows at its end. -/
namespace Go.Proofs.Ytobimpgapfecoab
open Go.RowKit
set_option maxRecDepth 100000
theorem DoneII.snoc {w : World} {b k B : Nat} {ys : List Value} {L : Nat → Value} {cs : List (List Int)} {u : Value} (h : DoneII w b ys L cs k) (hys : ys.length = k)
    (hlt : ∀ j, j < k → ∀ a, (L j).ownBlock = some a → a < B) (hu : w.ownsRow B 3 1 u (il cs k).length ((il cs k).map (Value.int .i64))) (hB : b ≤ B) : DoneII w b (ys ++ [u]) (fun j => if j = k then u else L j) cs (k + 1) := by
  refine ⟨fun j hj => ?_, fun j hj => ?_, fun i j a c hij hj ha hc => ?_⟩
  · by_cases e : j = k
    · subst e; rw [if_pos rfl, List.getElem?_append_right (by omega), hys, Nat.sub_self]; rfl
    · rw [if_neg e, List.getElem?_append_left (by omega)]; exact h.cells j (by omega)
  · by_cases e : j = k
    · subst e; rw [if_pos rfl]; exact own_base hu hB
    · rw [if_neg e]; exact h.ints j (by omega)
  · rw [if_neg (by omega)] at ha
    by_cases e : j = k
    · rw [if_pos e] at hc
      have h1 := hlt i (by omega) a ha
      have h2 := (hu.lt c hc).1
      omega
    · rw [if_neg e] at hc
      exact h.ord i j a c hij (by omega) ha hc
/-- The row may turn: the lists lie elsewhere. -/
theorem DoneII.keptRow {w w' : World} {b b' k n : Nat} {ys xs : List Value} {L : Nat → Value} {cs : List (List Int)} {v : Value} (h : DoneII w b ys L cs k) (hrow : w.ownsRow b' 26 1 v n xs) (hg : w.grownBy w' v.ownBlock) : DoneII w' b ys L cs k :=
  ⟨h.cells, fun j hj => (h.ints j hj).kept hg (apart_ty (h.ints j hj) hrow (by decide)), h.ord⟩
theorem DoneII.setCellN {w : World} {b k p q : Nat} {t : TypeId} {c : Array Value} {ys : List Value} {L : Nat → Value} {cs : List (List Int)} (h : DoneII w b ys L cs k) (hp : Blk t w p c) (ht : 3 ≠ t) (u : Value) : DoneII (w.setCell ⟨p, q, none⟩ u) b ys L cs k :=
  ⟨h.cells, fun j hj => own_setCellN (h.ints j hj) p q u (own_ne_blk (h.ints j hj) hp ht), h.ord⟩
theorem DoneII.setRowN {w : World} {b k p : Nat} {t : TypeId} {c : Array Value} {ys : List Value} {L : Nat → Value} {cs : List (List Int)} (h : DoneII w b ys L cs k) (hp : Blk t w p c) (ht : 3 ≠ t) (d : Array Value) : DoneII (w.setRow p d) b ys L cs k :=
  ⟨h.cells, fun j hj => own_setRowN (h.ints j hj) p d (own_ne_blk (h.ints j hj) hp ht), h.ord⟩
theorem DoneII.alloc {w : World} {b k : Nat} {ys : List Value} {L : Nat → Value} {cs : List (List Int)} (h : DoneII w b ys L cs k) (o : Obj) : DoneII (w.alloc o) b ys L cs k :=
  h.below ((Below.refl _ _).alloc (Nat.le_refl _) _)
/-- Counts of their own, put together. -/
theorem ownSt_mk {base B : Nat} {w : World} {vt vc : Value} {ys : List Value} {L : Nat → Value} {t : StatsD} (ht : w.ownsRow base 3 1 vt t.totals.length (t.totals.map (Value.int .i64))) (htl : ∀ a, vt.ownBlock = some a → a < B)
    (hrow : w.ownsRow B 26 1 vc t.cells.length ys) (hd : DoneII w B ys L t.cells t.cells.length) (hB : base ≤ B) : OwnSt base w (.agg #[vt, vc]) t :=
  ⟨vt, vc, L, ys, rfl, ht, ⟨own_base hrow hB, hd.cells, fun j hj => own_base (hd.ints j hj) hB, hd.ord⟩, fun j a c hj ha hc => by
    have h1 := htl a ha
    have h2 := ((hd.ints j hj).lt c hc).1
    omega⟩
theorem newcV (w : World) (u : Value) (t : TypeId) : ∀ (j : Nat) (x : Value), ([u] : List Value)[j]? = some x → (w.alloc (.cells #[u] t)).cell? ((⟨w.heap.size, 0, none⟩ : Addr).add j) = some x := by
  intro j x hj
  have e : (⟨w.heap.size, 0, none⟩ : Addr).add j = ⟨w.heap.size, j, none⟩ := by cases j <;> simp [Addr.add]
  rw [e, (Blk.new t w #[u]).cell j]
  simpa using hj
end Go.Proofs.Ytobimpgapfecoab
/- A list of noughts made; counts of noughts, in plain words. -/
namespace Go.Proofs.Ytobimpgapfecoab
open Go.RowKit
set_option maxRecDepth 100000
theorem run_make_ints (base n : Nat) (w : World) (hn : n ≤ 1048576) (hb : base ≤ w.heap.size) : ∃ w', (Instr.makeSlice 26 (.int .i64 (n : Int)) (.int .i64 (n : Int))).run Try.prog w = .ok (.slice (some ⟨w.heap.size, 0, none⟩) n n) w' ∧
    w'.ownsRow base 3 1 (.slice (some ⟨w.heap.size, 0, none⟩) n n) n ((List.replicate n (0 : Int)).map (Value.int .i64)) ∧ w.grownBy w' none := by
  obtain ⟨i0, hi, hz0, hz1, hz2⟩ := info_parts intInfo
  obtain ⟨w', h1, h2, h3⟩ := run_make_full (P := Try.prog) w base 26 3 i0 (.int .i64 0) 1 Try.underlying26 hi hz0 hz1 .i64 .i64 n (by rw [hz2]; omega) (by unfold maxLen; omega) hb
  refine ⟨w', h1, ?_, h3⟩
  have e : (madeCells (Value.int .i64 0).cells (n * 1)).toList = (List.replicate n (0 : Int)).map (Value.int .i64) := by
    rw [Nat.mul_one, List.map_replicate]
    exact toList_madeCells_one _ _
  rw [← e]
  exact h2
theorem wp_make_ints {o : Oper} {a : Act} {w : World} {K : Act → World → Prop} {Q : Exit → Act → World → Prop} (l : Operand) (ho : o.op = .makeSlice 26 l l) (base n : Nat) (x : Int) (hx : x = (n : Int)) (hl : a.eval l = .int .i64 x) (hn : n ≤ 1048576) (hb : base ≤ w.heap.size)
    (hK : ∀ w', w'.ownsRow base 3 1 (.slice (some ⟨w.heap.size, 0, none⟩) n n) n ((List.replicate n (0 : Int)).map (Value.int .i64)) → w.grownBy w' none → K (a.put o.dst (.slice (some ⟨w.heap.size, 0, none⟩) n n)) w') : Oper.wp Try.prog o a w K Q := by
  subst hx
  obtain ⟨w', h1, h2, h3⟩ := run_make_ints base n w hn hb
  unfold Oper.wp
  simp [execOp, ho, hl, h1, Result.andThen]
  exact hK w' h2 h3
theorem wpList_make_ints {ops : Array Oper} {rest : List Oper} {o : Oper} {a : Act} {w : World} {Q : Exit → Act → World → Prop} (hg : o.guard = none) (l : Operand) (ho : o.op = .makeSlice 26 l l) (base n : Nat) (x : Int) (hx : x = (n : Int)) (hl : a.eval l = .int .i64 x) (hn : n ≤ 1048576) (hb : base ≤ w.heap.size)
    (hK : ∀ w', w'.ownsRow base 3 1 (.slice (some ⟨w.heap.size, 0, none⟩) n n) n ((List.replicate n (0 : Int)).map (Value.int .i64)) → w.grownBy w' none → wpList Try.prog ops Q rest (a.put o.dst (.slice (some ⟨w.heap.size, 0, none⟩) n n)) w') : wpList Try.prog ops Q (o :: rest) a w :=
  wpList_plain hg fun _ hK' => wp_make_ints l ho base n x hx hl hn hb fun w' h1 h2 => hK' _ _ (hK w' h1 h2)
/-- The same, the new block told outright. -/
theorem made_ints (n : Nat) (hn : n ≤ 1048576) : ∃ Z : Array Value, (∀ (x : Int) (W : World), x = (n : Int) → (Instr.makeSlice 26 (.int .i64 x) (.int .i64 x)).run Try.prog W = .ok (.slice (some ⟨W.heap.size, 0, none⟩) n n) (W.alloc (.cells Z 3))) ∧
    ∀ (W : World) (base : Nat), base ≤ W.heap.size → (W.alloc (.cells Z 3)).ownsRow base 3 1 (.slice (some ⟨W.heap.size, 0, none⟩) n n) n ((List.replicate n (0 : Int)).map (Value.int .i64)) := by
  obtain ⟨i0, hi, hz0, hz1, hz2⟩ := info_parts intInfo
  refine ⟨madeCells (Value.int .i64 0).cells (n * 1), fun x W hx => ?_, fun W base hb => ?_⟩
  · subst hx
    have h := run_make (P := Try.prog) W 26 3 i0 (.int .i64 0) Try.underlying26 hi hz0 .i64 .i64 n n (by omega) (Int.le_refl _) (by rw [hz2]; omega) (by omega)
    simp only [Int.toNat_natCast, hz1] at h
    exact h
  · have e : (madeCells (Value.int .i64 0).cells (n * 1)).toList = (List.replicate n (0 : Int)).map (Value.int .i64) := by
      rw [Nat.mul_one, List.map_replicate]
      exact toList_madeCells_one _ _
    rw [← e]
    exact World.ownsRow_lit W _ n hb (by unfold maxLen; omega) (size_madeCells _ _)
def binsN (a : AttrD) : Nat := (bins a).toNat
theorem binsN_eq (a : AttrD) : bins a = (binsN a : Int) := (Int.toNat_of_nonneg (small_bins a).1).symm
theorem binsN_le (a : AttrD) : binsN a ≤ 4 := by have := (small_bins a).2; have := binsN_eq a; omega
def newCells (s : SchemaD) : List (List Int) := s.attrs.map fun a => List.replicate (binsN a * s.classes.length) 0
def statsNew (s : SchemaD) : StatsD := if schemaOk s = true then ⟨List.replicate s.classes.length 0, newCells s⟩ else ⟨[], []⟩
theorem newCells_at {s : SchemaD} {k : Nat} (h : k < s.attrs.length) : il (newCells s) k = List.replicate (binsN (ad s.attrs k) * s.classes.length) 0 := by
  unfold newCells
  rw [il_eq (by simpa using h), List.getElem_map, ad_eq h]
theorem newCells_len (s : SchemaD) : (newCells s).length = s.attrs.length := by simp [newCells]
theorem ownSt_nil (base : Nat) (w : World) : OwnSt base w (.agg #[.slice none 0 0, .slice none 0 0]) ⟨[], []⟩ :=
  ⟨_, _, fun _ => .slice none 0 0, [], rfl, World.ownsRow_nil _ _ _ _, ⟨World.ownsRow_nil _ _ _ _, fun j hj => by simp at hj, fun j hj => by simp at hj, fun i j a b _ hj => by simp at hj⟩, fun j a b hj => by simp at hj⟩
end Go.Proofs.Ytobimpgapfecoab
/- The total of counts, by the specification. (What is plain.) -/
namespace Go.Proofs.Ytobimpgapfecoab
open Go.RowKit
set_option maxRecDepth 100000
set_option linter.unusedSimpArgs false
def statsTotal (s : SchemaD) (t : StatsD) : Int := if statsOk s t = true then sumL t.totals else 0
theorem statsOk_parts {s : SchemaD} {t : StatsD} (h : statsOk s t = true) : schemaOk s = true ∧ t.totals.length = s.classes.length ∧ t.totals.all inW = true ∧ sumL t.totals ≤ 999 := by
  unfold statsOk at h
  rw [Bool.and_eq_true, Bool.and_eq_true, Bool.and_eq_true, Bool.and_eq_true, decide_eq_true_eq, decide_eq_true_eq] at h
  exact ⟨h.1, h.2.1, h.2.2.1, h.2.2.2.1⟩
theorem allW_at {l : List Int} (h : l.all inW = true) {k : Nat} (hk : k < l.length) : 0 ≤ l.getD k 0 ∧ l.getD k 0 ≤ 999 := by
  rw [List.all_eq_true] at h
  have := of_decide_eq_true (h _ (List.getElem_mem hk))
  rwa [List.getD_eq_getElem?_getD, List.getElem?_eq_getElem hk]
end Go.Proofs.Ytobimpgapfecoab
/- What a branch has of each class, by the program. -/
namespace Go.Proofs.Ytobimpgapfecoab
open Go.RowKit
set_option maxRecDepth 100000
set_option linter.unusedSimpArgs false
theorem totals_none {s : SchemaD} {t : StatsD} {f : ForkD} {i : Int} (h : totalsOk s t f i = false) : branchTotals s t f i = [] := by unfold branchTotals; rw [if_neg (by rw [h]; exact Bool.false_ne_true)]
theorem counted_none {s : SchemaD} {t : StatsD} {f : ForkD} {i : Int} (h : (statsOk s t && decide (t.cells.length ≠ 0)) = false) : (statsOk s t && (decide (t.cells.length ≠ 0) && (forkOk s f && decide (0 ≤ i ∧ i ≤ branches s f - 1)))) = false := by
  rw [← Bool.and_assoc, h, Bool.false_and]
theorem statsOk_schema {s : SchemaD} {t : StatsD} (h : statsOk s t = true) : schemaOk s = true := (statsOk_parts h).1
theorem fork_bins {s : SchemaD} {f : ForkD} (h : forkOk s f = true) : 1 ≤ bins (forkAttr s f) := by
  have h1 := fork_attr h
  have h2 := ok_kind h1
  unfold bins
  rw [if_pos h1]
  split <;> omega
set_option maxHeartbeats 6400000 in
theorem implBranchTotals_any (vs vt : Value) (s : SchemaD) (t : StatsD) (f : ForkD) (i : Int) (w : World) (hs : SchemaAt w vs s) (ht : StatsAt w vt t) (hn : okSch s) (hb : okSt t) :
    Calls Try.prog 31 #[vs, vt, forkV f, .int .i64 i] w fun e w' => ∃ v, e = .returned v ∧ OwnI w w' v (branchTotals s t f i) := by
  unfold forkV
  have HS : Hid (∀ W, Below w.heap.size w W → SchemaAt W vs s) := fun W h => hs.later h
  have HT : Hid (∀ W, Below w.heap.size w W → StatsAt W vt t) := fun W h => ht.later h
  have HOK : Hid (okSch s) := hn
  have HOT : Hid (okSt t) := hb
  have CQ : Hid (∀ W, Below w.heap.size w W → Calls Try.prog 68 #[vs, forkV f] W fun e w' => e = .returned (.tuple #[questionV s f, .bool (forkOk s f)]) ∧ Below W.heap.size W w') := fun W hW => questionOf_any vs s f W (hs.later hW) hn
  unfold forkV at CQ
  obtain ⟨va, vc, rfl, ra, rc⟩ := hs
  obtain ⟨oa, ka, rfl, -, -⟩ := id ra
  obtain ⟨oc, kc, rfl, -, -⟩ := id rc
  obtain ⟨vx, vy, rfl, rx, ry⟩ := ht
  obtain ⟨ox, kx, rfl, -, -⟩ := id rx
  obtain ⟨oy, ky, rfl, -, -⟩ := id ry
  clear ra rc rx ry
  have la := hn.attrs
  clear hn hb
  obtain ⟨KS, KT, KF, B⟩ := blk_3 40 35 60 w #[.slice oa s.attrs.length ka, .slice oc s.classes.length kc] #[.slice ox t.totals.length kx, .slice oy t.cells.length ky] #[.int .i64 f.attr, .int .i64 f.pos]
  go_enter Try.func31, Try.ntmps31
  have cc := CQ.out _ B
  have kS0 : (((w.alloc (.cells #[.slice oa s.attrs.length ka, .slice oc s.classes.length kc] 40)).alloc (.cells #[.slice ox t.totals.length kx, .slice oy t.cells.length ky] 35)).alloc (.cells #[.int .i64 f.attr, .int .i64 f.pos] 60)).cell? ⟨w.heap.size, 0, none⟩ = some (.slice oa s.attrs.length ka) := KS.cell 0
  have kS1 : (((w.alloc (.cells #[.slice oa s.attrs.length ka, .slice oc s.classes.length kc] 40)).alloc (.cells #[.slice ox t.totals.length kx, .slice oy t.cells.length ky] 35)).alloc (.cells #[.int .i64 f.attr, .int .i64 f.pos] 60)).cell? ⟨w.heap.size, 1, none⟩ = some (.slice oc s.classes.length kc) := KS.cell 1
  have kF0 : (((w.alloc (.cells #[.slice oa s.attrs.length ka, .slice oc s.classes.length kc] 40)).alloc (.cells #[.slice ox t.totals.length kx, .slice oy t.cells.length ky] 35)).alloc (.cells #[.int .i64 f.attr, .int .i64 f.pos] 60)).cell? ⟨w.heap.size + 1 + 1, 0, none⟩ = some (.int .i64 f.attr) := KF.cell 0
  have kF1 : (((w.alloc (.cells #[.slice oa s.attrs.length ka, .slice oc s.classes.length kc] 40)).alloc (.cells #[.slice ox t.totals.length kx, .slice oy t.cells.length ky] 35)).alloc (.cells #[.int .i64 f.attr, .int .i64 f.pos] 60)).cell? ⟨w.heap.size + 1 + 1, 1, none⟩ = some (.int .i64 f.pos) := KF.cell 1
  go_wp2_with fail
  refine cc.mono ?_
  clear cc
  clear kS0 kS1 kF0 kF1
  rintro e w1 ⟨rfl, hb⟩
  replace KS := KS.below hb
  replace KT := KT.below hb
  replace KF := KF.below hb
  replace B := B.trans (hb.mono B.size)
  clear hb
  clear CQ
  cases hk : forkOk s f with
  | false =>
    have HE : Hid (branchTotals s t f i = []) := totals_none (by unfold totalsOk; rw [hk]; simp)
    go_wp2
    go_ret
    exact ⟨_, rfl, by rw [HE.out]; exact World.ownsRow_nil _ _ _ _, B⟩
  | true =>
    have HQ : Hid (forkOk s f = true) := hk
    clear hk
    have cc := counted_any _ _ s t _ (HS.out _ B) (HT.out _ B) HOK.out HOT.out
    have kS0 : w1.cell? ⟨w.heap.size, 0, none⟩ = some (.slice oa s.attrs.length ka) := KS.cell 0
    have kS1 : w1.cell? ⟨w.heap.size, 1, none⟩ = some (.slice oc s.classes.length kc) := KS.cell 1
    have kT0 : w1.cell? ⟨w.heap.size + 1, 0, none⟩ = some (.slice ox t.totals.length kx) := KT.cell 0
    have kT1 : w1.cell? ⟨w.heap.size + 1, 1, none⟩ = some (.slice oy t.cells.length ky) := KT.cell 1
    go_wp2_with fail
    refine cc.mono ?_
    clear cc
    clear kS0 kS1 kT0 kT1
    rintro e w2 ⟨rfl, hb⟩
    replace KS := KS.below hb
    replace KT := KT.below hb
    replace KF := KF.below hb
    replace B := B.trans (hb.mono B.size)
    clear hb
    cases hk : (statsOk s t && decide (t.cells.length ≠ 0)) with
    | false =>
      have HE : Hid (branchTotals s t f i = []) := totals_none (by unfold totalsOk; exact counted_none hk)
      go_wp2
      go_ret
      exact ⟨_, rfl, by rw [HE.out]; exact World.ownsRow_nil _ _ _ _, B⟩
    | true =>
      have HST : Hid (statsOk s t = true) := (counted_yes hk).1
      have HN0 : Hid (t.cells.length ≠ 0) := (counted_yes hk).2
      clear hk
      by_cases hi : i < 0
      ·
        have HE : Hid (branchTotals s t f i = []) := totals_none (by unfold totalsOk; rw [decide_eq_false (show ¬ (0 ≤ i ∧ i ≤ branches s f - 1) by omega)]; simp)
        go_wp2
        go_ret
        exact ⟨_, rfl, by rw [HE.out]; exact World.ownsRow_nil _ _ _ _, B⟩
      have cc := branchesOf_any s f w2
      go_wp2_with fail
      refine cc.mono ?_
      clear cc
      rintro e w3 ⟨rfl, hb⟩
      replace KS := KS.below hb
      replace KT := KT.below hb
      replace KF := KF.below hb
      replace B := B.trans (hb.mono B.size)
      clear hb
      have HBR : Hid (∀ z, z = branches s f → (0 ≤ i ∧ i ≤ z - 1) = (0 ≤ i ∧ i ≤ branches s f - 1)) := fun z h => by rw [h]
      obtain ⟨nb, hnb⟩ : ∃ nb, branches s f = nb := ⟨_, rfl⟩
      rw [hnb]
      have HNB : Hid (branches s f = nb) := hnb
      clear hnb HBR
      by_cases hi2 : nb ≤ i
      ·
        have HE : Hid (branchTotals s t f i = []) := totals_none (by unfold totalsOk; rw [decide_eq_false (show ¬ (0 ≤ i ∧ i ≤ branches s f - 1) by rw [HNB.out]; omega)]; simp)
        go_wp2
        go_ret
        exact ⟨_, rfl, by rw [HE.out]; exact World.ownsRow_nil _ _ _ _, B⟩
      have HTO : totalsOk s t f i = true := by
        unfold totalsOk
        rw [HST.out, decide_eq_true HN0.out, HQ.out, decide_eq_true (show 0 ≤ i ∧ i ≤ branches s f - 1 by rw [HNB.out]; omega)]; rfl
      obtain ⟨-, ⟨a, hfa, hal, hat⟩, -, -⟩ := fork_parts HQ.out
      obtain ⟨hac, hlen, hcol⟩ := cells_right HST.out HN0.out hal
      have hm := sch_classes (statsOk_schema HST.out)
      have hn4 := small_bins (ad s.attrs a)
      have HRES : Hid (branchTotals s t f i = curL s f i (il t.cells a) s.classes.length ((bins (ad s.attrs a)).toNat * s.classes.length)) := by show _ = _; rw [curL_all HTO, hat, hfa]; rfl
      have HAB : Hid (bins (forkAttr s f) = bins (ad s.attrs a)) := by show _ = _; rw [hat]
      obtain ⟨m, hmm⟩ : ∃ m, s.classes.length = m := ⟨_, rfl⟩
      obtain ⟨n, hnn⟩ : ∃ n, (bins (ad s.attrs a)).toNat = n := ⟨_, rfl⟩
      have HBN : Hid (bins (ad s.attrs a) = (n : Int)) := by show _ = _; omega
      have hn5 : n ≤ 4 := by omega
      rw [hmm, hnn] at hcol hlen HRES
      rw [hmm] at hm
      have HCOL : Hid (∀ b k, b < n → k < m → inW (colAt (il t.cells a) m k b) = true) := hcol
      clear hcol hnn hn4 HTO hat
      obtain ⟨c, hc⟩ : ∃ c, il t.cells a = c := ⟨_, rfl⟩
      rw [hc] at hlen HRES HCOL
      have hnm : n * m ≤ 12 := by have := Nat.mul_le_mul hn5 hm.2; omega
      have HMM : Hid (s.classes.length = m) := hmm
      have HCC : Hid (il t.cells a = c) := hc
      rw [hmm] at KS
      clear hmm hc
      by_cases hp : f.pos = -1
      · have hqv := questionV_yes HQ.out
        rw [if_pos hp] at hqv
        have CBR : Hid (∀ b W, Calls Try.prog 114 #[.agg #[.int .i64 (bins (forkAttr s f))], .int .i64 b] W fun e w' => e = .returned (.int .i64 (qBranch s f b)) ∧ Below W.heap.size W w') := fun b W => ((branch_any s f b W HQ.out (fun _ h => And.intro rfl h)).1 hp).2
        clear hp
        generalize questionV s f = qv at hqv ⊢
        subst hqv
        have kS1 : w3.cell? ⟨w.heap.size, 1, none⟩ = some (.slice oc m kc) := KS.cell 1
        have hib : decide (i < 0) = false := decide_eq_false (show ¬ i < 0 by omega)
        have hnbb : decide (nb ≤ i) = false := decide_eq_false (show ¬ nb ≤ i by omega)
        have hsz := B.size
        go_wp2_with (at_make; refine wpList_make_ints rfl _ rfl w3.heap.size m _ rfl rfl (by omega) (Nat.le_refl _) ?_)
        intro w6 hown hg
        clear kS1 hi hi2 hib hnbb
        have bM : Below w3.heap.size w3 w6 := (Below.refl _ _).grown hg (Nat.le_refl _) (fun k hk => by cases hk)
        clear hg
        have HK : Hid (∀ W, Below w3.heap.size w3 W → Blk 40 W w.heap.size #[.slice oa s.attrs.length ka, .slice oc m kc] ∧ Blk 35 W (w.heap.size + 1) #[.slice ox t.totals.length kx, .slice oy t.cells.length ky] ∧ Blk 60 W (w.heap.size + 1 + 1) #[.int .i64 f.attr, .int .i64 f.pos]) := fun W h => ⟨KS.below h, KT.below h, KF.below h⟩
        have HB5 : Hid (Below w.heap.size w w3) := B
        clear KS KT KF B
        obtain ⟨vx', vy', e', -, ry⟩ := HT.out w (Below.refl _ _)
        cases e'
        obtain ⟨oy', ky', e', -, hry⟩ := ry
        cases e'
        obtain ⟨gy, fy, rfl, hgy, hjy⟩ := hry (by omega)
        obtain ⟨u, hcu, hru⟩ := hjy a hac
        rw [HCC.out] at hru
        obtain ⟨og, kg, rfl, -, hrr⟩ := hru
        have hcp : 0 < c.length := by
          rw [hlen]
          exact Nat.mul_pos (by have := fork_bins HQ.out; rw [HAB.out, HBN.out] at this; omega) (by omega)
        obtain ⟨gb, ob, rfl, hgb, hjc⟩ := hrr hcp
        have HCJ : Hid (∀ W, Below w.heap.size w W → ∀ j, j < c.length → W.cell? ⟨gb, ob + j, none⟩ = some (.int .i64 (c.getD j 0))) := fun W h j hj => (h.cell (p := ⟨gb, ob + j, none⟩) hgb).trans (hjc j hj)
        have hcu6 := ((HB5.out.trans (bM.mono hsz)).cell (p := ⟨gy, fy + a, none⟩) hgy).trans hcu
        clear hjy hry hjc hrr hcu
        have kT1 : w6.cell? ⟨w.heap.size + 1, 1, none⟩ = some (.slice (some ⟨gy, fy, none⟩) t.cells.length ky) := (HK.out _ bM).2.1.cell 1
        have kF0 : w6.cell? ⟨w.heap.size + 1 + 1, 0, none⟩ = some (.int .i64 (a : Int)) := by rw [← hfa]; exact (HK.out _ bM).2.2.cell 0
        have HFA : Hid (f.attr = (a : Int)) := hfa
        clear hfa
        replace hown : w6.ownsRow w3.heap.size 3 1 (.slice (some ⟨w3.heap.size, 0, none⟩) m m) m ((curL s f i c m 0).map (Value.int .i64)) := by rw [curL_zero, List.map_replicate]; exact hown
        generalize hgo : w3.heap.size = go at hown ⊢
        have HGO : Hid (w3.heap.size = go) := hgo
        clear hgo
        go_wp2
        go_loopw [50] (fun idx wr => ∃ p : Nat, idx = .int .i64 p ∧ p ≤ c.length ∧ wr.ownsRow go 3 1 (.slice (some ⟨go, 0, none⟩) m m) m ((curL s f i c m p).map (Value.int .i64)) ∧ Hid (Below w3.heap.size w3 wr)) (fun idx _ => c.length - (intOf idx).toNat)
        case atStart => exact ⟨0, rfl, by omega, hown, bM⟩
        case round =>
          clear hown bM kT1 kF0 hcu6
          obtain ⟨p, rfl, hp, hown, HBR⟩ := hrel
          have hbr := HBR.out
          by_cases hlt : p < c.length
          rotate_left
          · obtain rfl : p = c.length := by omega
            go_wp2
            go_ret
            have hfin : branchTotals s t f i = curL s f i c m c.length := by rw [HRES.out, hlen]
            exact ⟨_, rfl, by rw [hfin, curL_len]; exact own_base hown (by rw [← HGO.out]; exact hsz), HB5.out.trans (hbr.mono hsz)⟩
          have B := HB5.out.trans (hbr.mono hsz)
          have hcx := HCJ.out wr B p hlt
          have hx := place_col (show 0 < m by omega) (show p < n * m by omega) HCOL.out
          obtain ⟨hpb, hpr, -⟩ := place_parts (show 0 < m by omega) (show p < n * m by omega)
          have hz := plSum_le (s := s) (f := f) (i := i) (k := p % m) (show 0 < m by omega) HCOL.out p (by omega)
          have HHIT : Hid (branchOf s f ((p / m : Nat) : Int) = i → curL s f i c m (p + 1) = (curL s f i c m p).set (p % m) (plSum s f i c m (p % m) p + c.getD p 0)) := fun h => curL_hit (by omega) h
          have HMISS : Hid (¬ branchOf s f ((p / m : Nat) : Int) = i → curL s f i c m (p + 1) = curL s f i c m p) := fun h => curL_miss h
          have HAT : Hid ((curL s f i c m p).getD (p % m) 0 = plSum s f i c m (p % m) p) := curL_at hpr
          have HBO : Hid (branchOf s f ((p / m : Nat) : Int) = qBranch s f ((p / m : Nat) : Int)) := branchOf_yes HQ.out (Int.natCast_nonneg _) (by rw [HAB.out, HBN.out]; exact Int.ofNat_lt.2 hpb)
          have cc := keyAt_any p m wr (by omega) (by omega) (by omega)
          generalize c.getD p 0 = x at hcx hx HHIT
          generalize plSum s f i c m (p % m) p = z at hz HHIT HAT
          generalize p / m = b at cc HBO HHIT HMISS hpb
          generalize p % m = r at cc hpr HHIT HAT
          rw [HBO.out] at HHIT HMISS
          have kS1 : wr.cell? ⟨w.heap.size, 1, none⟩ = some (.slice oc m kc) := (HK.out _ hbr).1.cell 1
          go_wp2_with fail
          refine cc.mono ?_
          clear cc kS1 hcx HBO
          rintro e w7 ⟨rfl, hb⟩
          replace hown := own_below hown hb
          replace hbr := hbr.trans (hb.mono hbr.size)
          clear hb B
          have bK : Below w7.heap.size w7 (w7.alloc (.cells #[.int .i64 (b : Int), .int .i64 (r : Int)] 78)) := (Below.refl _ _).alloc (Nat.le_refl _) _
          have KK := Blk.new 78 w7 #[.int .i64 (b : Int), .int .i64 (r : Int)]
          replace hown := own_below hown bK
          replace hbr := hbr.trans (bK.mono hbr.size)
          have hpk : w7.heap.size < (w7.alloc (.cells #[.int .i64 (b : Int), .int .i64 (r : Int)] 78)).heap.size := by simp
          clear bK
          have cc := CBR.out (b : Int) (w7.alloc (.cells #[.int .i64 (b : Int), .int .i64 (r : Int)] 78))
          generalize qBranch s f (b : Int) = y at cc HHIT HMISS
          have kK0 : (w7.alloc (.cells #[.int .i64 (b : Int), .int .i64 (r : Int)] 78)).cell? ⟨w7.heap.size, 0, none⟩ = some (.int .i64 (b : Int)) := KK.cell 0
          go_wp2_with fail
          refine cc.mono ?_
          clear cc kK0
          rintro e w8 ⟨rfl, hb⟩
          replace hown := own_below hown hb
          replace hbr := hbr.trans (hb.mono hbr.size)
          replace KK := KK.below hb
          clear hb
          by_cases hyi : y = i
          · have hq : (y == i) = true := by rw [hyi]; exact beq_self_eq_true i
            have HNX := HHIT.out hyi
            have HNXT : Hid (curL s f i c m (p + 1) = (curL s f i c m p).set r (z + x)) := HNX
            clear HNX hyi HHIT HMISS
            have hrl : r < (curL s f i c m p).length := by rw [curL_len]; exact hpr
            have kK1 : w8.cell? ⟨w7.heap.size, 1, none⟩ = some (.int .i64 (r : Int)) := KK.cell 1
            have hcO : w8.cell? ⟨go, r, none⟩ = some (.int .i64 z) := by rw [hown.cellAt r (by omega), getD_mapI _ r hrl, HAT.out]
            have hfO : w8.frozen? ⟨go, r, none⟩ = false := hown.frozenAt r
            have hst := hown.stored r (.int .i64 (z + x))
            clear KK hrl
            go_wp2
            go_roundw
            case rel =>
              refine ⟨p + 1, by go_num, by omega, ?_, hbr.grown hst.2 hbr.size (fun k hk => by cases hk; exact Nat.le_of_eq HGO.out)⟩
              rw [HNXT.out, List.map_set]
              exact hst.1
            case measure => simp [intOf]; omega
          · have hq : (y == i) = false := by rw [beq_eq_false_iff_ne]; exact hyi
            have HNX := HMISS.out hyi
            have HNXT : Hid (curL s f i c m (p + 1) = curL s f i c m p) := HNX
            clear HNX hyi HHIT HMISS KK
            go_wp2
            go_roundw
            case rel =>
              refine ⟨p + 1, by go_num, by omega, ?_, hbr⟩
              rw [HNXT.out]
              exact hown
            case measure => simp [intOf]; omega
      by_cases hv : 0 < (forkAttr s f).vals.length
      · have hqv := questionV_yes HQ.out
        rw [if_neg hp, if_pos hv] at hqv
        have CBR : Hid (∀ b W, Calls Try.prog 115 #[.agg #[.int .i64 f.pos], .int .i64 b] W fun e w' => e = .returned (.int .i64 (qBranch s f b)) ∧ Below W.heap.size W w') := fun b W => ((branch_any s f b W HQ.out (fun _ h => And.intro rfl h)).2.1 hp hv).2
        clear hp hv
        generalize questionV s f = qv at hqv ⊢
        subst hqv
        have kS1 : w3.cell? ⟨w.heap.size, 1, none⟩ = some (.slice oc m kc) := KS.cell 1
        have hib : decide (i < 0) = false := decide_eq_false (show ¬ i < 0 by omega)
        have hnbb : decide (nb ≤ i) = false := decide_eq_false (show ¬ nb ≤ i by omega)
        have hsz := B.size
        go_wp2_with (at_make; refine wpList_make_ints rfl _ rfl w3.heap.size m _ rfl rfl (by omega) (Nat.le_refl _) ?_)
        intro w6 hown hg
        clear kS1 hi hi2 hib hnbb
        have bM : Below w3.heap.size w3 w6 := (Below.refl _ _).grown hg (Nat.le_refl _) (fun k hk => by cases hk)
        clear hg
        have HK : Hid (∀ W, Below w3.heap.size w3 W → Blk 40 W w.heap.size #[.slice oa s.attrs.length ka, .slice oc m kc] ∧ Blk 35 W (w.heap.size + 1) #[.slice ox t.totals.length kx, .slice oy t.cells.length ky] ∧ Blk 60 W (w.heap.size + 1 + 1) #[.int .i64 f.attr, .int .i64 f.pos]) := fun W h => ⟨KS.below h, KT.below h, KF.below h⟩
        have HB5 : Hid (Below w.heap.size w w3) := B
        clear KS KT KF B
        obtain ⟨vx', vy', e', -, ry⟩ := HT.out w (Below.refl _ _)
        cases e'
        obtain ⟨oy', ky', e', -, hry⟩ := ry
        cases e'
        obtain ⟨gy, fy, rfl, hgy, hjy⟩ := hry (by omega)
        obtain ⟨u, hcu, hru⟩ := hjy a hac
        rw [HCC.out] at hru
        obtain ⟨og, kg, rfl, -, hrr⟩ := hru
        have hcp : 0 < c.length := by
          rw [hlen]
          exact Nat.mul_pos (by have := fork_bins HQ.out; rw [HAB.out, HBN.out] at this; omega) (by omega)
        obtain ⟨gb, ob, rfl, hgb, hjc⟩ := hrr hcp
        have HCJ : Hid (∀ W, Below w.heap.size w W → ∀ j, j < c.length → W.cell? ⟨gb, ob + j, none⟩ = some (.int .i64 (c.getD j 0))) := fun W h j hj => (h.cell (p := ⟨gb, ob + j, none⟩) hgb).trans (hjc j hj)
        have hcu6 := ((HB5.out.trans (bM.mono hsz)).cell (p := ⟨gy, fy + a, none⟩) hgy).trans hcu
        clear hjy hry hjc hrr hcu
        have kT1 : w6.cell? ⟨w.heap.size + 1, 1, none⟩ = some (.slice (some ⟨gy, fy, none⟩) t.cells.length ky) := (HK.out _ bM).2.1.cell 1
        have kF0 : w6.cell? ⟨w.heap.size + 1 + 1, 0, none⟩ = some (.int .i64 (a : Int)) := by rw [← hfa]; exact (HK.out _ bM).2.2.cell 0
        have HFA : Hid (f.attr = (a : Int)) := hfa
        clear hfa
        replace hown : w6.ownsRow w3.heap.size 3 1 (.slice (some ⟨w3.heap.size, 0, none⟩) m m) m ((curL s f i c m 0).map (Value.int .i64)) := by rw [curL_zero, List.map_replicate]; exact hown
        generalize hgo : w3.heap.size = go at hown ⊢
        have HGO : Hid (w3.heap.size = go) := hgo
        clear hgo
        go_wp2
        go_loopw [50] (fun idx wr => ∃ p : Nat, idx = .int .i64 p ∧ p ≤ c.length ∧ wr.ownsRow go 3 1 (.slice (some ⟨go, 0, none⟩) m m) m ((curL s f i c m p).map (Value.int .i64)) ∧ Hid (Below w3.heap.size w3 wr)) (fun idx _ => c.length - (intOf idx).toNat)
        case atStart => exact ⟨0, rfl, by omega, hown, bM⟩
        case round =>
          clear hown bM kT1 kF0 hcu6
          obtain ⟨p, rfl, hp, hown, HBR⟩ := hrel
          have hbr := HBR.out
          by_cases hlt : p < c.length
          rotate_left
          · obtain rfl : p = c.length := by omega
            go_wp2
            go_ret
            have hfin : branchTotals s t f i = curL s f i c m c.length := by rw [HRES.out, hlen]
            exact ⟨_, rfl, by rw [hfin, curL_len]; exact own_base hown (by rw [← HGO.out]; exact hsz), HB5.out.trans (hbr.mono hsz)⟩
          have B := HB5.out.trans (hbr.mono hsz)
          have hcx := HCJ.out wr B p hlt
          have hx := place_col (show 0 < m by omega) (show p < n * m by omega) HCOL.out
          obtain ⟨hpb, hpr, -⟩ := place_parts (show 0 < m by omega) (show p < n * m by omega)
          have hz := plSum_le (s := s) (f := f) (i := i) (k := p % m) (show 0 < m by omega) HCOL.out p (by omega)
          have HHIT : Hid (branchOf s f ((p / m : Nat) : Int) = i → curL s f i c m (p + 1) = (curL s f i c m p).set (p % m) (plSum s f i c m (p % m) p + c.getD p 0)) := fun h => curL_hit (by omega) h
          have HMISS : Hid (¬ branchOf s f ((p / m : Nat) : Int) = i → curL s f i c m (p + 1) = curL s f i c m p) := fun h => curL_miss h
          have HAT : Hid ((curL s f i c m p).getD (p % m) 0 = plSum s f i c m (p % m) p) := curL_at hpr
          have HBO : Hid (branchOf s f ((p / m : Nat) : Int) = qBranch s f ((p / m : Nat) : Int)) := branchOf_yes HQ.out (Int.natCast_nonneg _) (by rw [HAB.out, HBN.out]; exact Int.ofNat_lt.2 hpb)
          have cc := keyAt_any p m wr (by omega) (by omega) (by omega)
          generalize c.getD p 0 = x at hcx hx HHIT
          generalize plSum s f i c m (p % m) p = z at hz HHIT HAT
          generalize p / m = b at cc HBO HHIT HMISS hpb
          generalize p % m = r at cc hpr HHIT HAT
          rw [HBO.out] at HHIT HMISS
          have kS1 : wr.cell? ⟨w.heap.size, 1, none⟩ = some (.slice oc m kc) := (HK.out _ hbr).1.cell 1
          go_wp2_with fail
          refine cc.mono ?_
          clear cc kS1 hcx HBO
          rintro e w7 ⟨rfl, hb⟩
          replace hown := own_below hown hb
          replace hbr := hbr.trans (hb.mono hbr.size)
          clear hb B
          have bK : Below w7.heap.size w7 (w7.alloc (.cells #[.int .i64 (b : Int), .int .i64 (r : Int)] 78)) := (Below.refl _ _).alloc (Nat.le_refl _) _
          have KK := Blk.new 78 w7 #[.int .i64 (b : Int), .int .i64 (r : Int)]
          replace hown := own_below hown bK
          replace hbr := hbr.trans (bK.mono hbr.size)
          have hpk : w7.heap.size < (w7.alloc (.cells #[.int .i64 (b : Int), .int .i64 (r : Int)] 78)).heap.size := by simp
          clear bK
          have cc := CBR.out (b : Int) (w7.alloc (.cells #[.int .i64 (b : Int), .int .i64 (r : Int)] 78))
          generalize qBranch s f (b : Int) = y at cc HHIT HMISS
          have kK0 : (w7.alloc (.cells #[.int .i64 (b : Int), .int .i64 (r : Int)] 78)).cell? ⟨w7.heap.size, 0, none⟩ = some (.int .i64 (b : Int)) := KK.cell 0
          go_wp2_with fail
          refine cc.mono ?_
          clear cc kK0
          rintro e w8 ⟨rfl, hb⟩
          replace hown := own_below hown hb
          replace hbr := hbr.trans (hb.mono hbr.size)
          replace KK := KK.below hb
          clear hb
          by_cases hyi : y = i
          · have hq : (y == i) = true := by rw [hyi]; exact beq_self_eq_true i
            have HNX := HHIT.out hyi
            have HNXT : Hid (curL s f i c m (p + 1) = (curL s f i c m p).set r (z + x)) := HNX
            clear HNX hyi HHIT HMISS
            have hrl : r < (curL s f i c m p).length := by rw [curL_len]; exact hpr
            have kK1 : w8.cell? ⟨w7.heap.size, 1, none⟩ = some (.int .i64 (r : Int)) := KK.cell 1
            have hcO : w8.cell? ⟨go, r, none⟩ = some (.int .i64 z) := by rw [hown.cellAt r (by omega), getD_mapI _ r hrl, HAT.out]
            have hfO : w8.frozen? ⟨go, r, none⟩ = false := hown.frozenAt r
            have hst := hown.stored r (.int .i64 (z + x))
            clear KK hrl
            go_wp2
            go_roundw
            case rel =>
              refine ⟨p + 1, by go_num, by omega, ?_, hbr.grown hst.2 hbr.size (fun k hk => by cases hk; exact Nat.le_of_eq HGO.out)⟩
              rw [HNXT.out, List.map_set]
              exact hst.1
            case measure => simp [intOf]; omega
          · have hq : (y == i) = false := by rw [beq_eq_false_iff_ne]; exact hyi
            have HNX := HMISS.out hyi
            have HNXT : Hid (curL s f i c m (p + 1) = curL s f i c m p) := HNX
            clear HNX hyi HHIT HMISS KK
            go_wp2
            go_roundw
            case rel =>
              refine ⟨p + 1, by go_num, by omega, ?_, hbr⟩
              rw [HNXT.out]
              exact hown
            case measure => simp [intOf]; omega
      · have hqv := questionV_yes HQ.out
        rw [if_neg hp, if_neg hv] at hqv
        have CBR : Hid (∀ b W, Calls Try.prog 117 #[.agg #[.int .i64 f.pos], .int .i64 b] W fun e w' => e = .returned (.int .i64 (qBranch s f b)) ∧ Below W.heap.size W w') := fun b W => ((branch_any s f b W HQ.out (fun _ h => And.intro rfl h)).2.2 hp hv).2
        clear hp hv
        generalize questionV s f = qv at hqv ⊢
        subst hqv
        have kS1 : w3.cell? ⟨w.heap.size, 1, none⟩ = some (.slice oc m kc) := KS.cell 1
        have hib : decide (i < 0) = false := decide_eq_false (show ¬ i < 0 by omega)
        have hnbb : decide (nb ≤ i) = false := decide_eq_false (show ¬ nb ≤ i by omega)
        have hsz := B.size
        go_wp2_with (at_make; refine wpList_make_ints rfl _ rfl w3.heap.size m _ rfl rfl (by omega) (Nat.le_refl _) ?_)
        intro w6 hown hg
        clear kS1 hi hi2 hib hnbb
        have bM : Below w3.heap.size w3 w6 := (Below.refl _ _).grown hg (Nat.le_refl _) (fun k hk => by cases hk)
        clear hg
        have HK : Hid (∀ W, Below w3.heap.size w3 W → Blk 40 W w.heap.size #[.slice oa s.attrs.length ka, .slice oc m kc] ∧ Blk 35 W (w.heap.size + 1) #[.slice ox t.totals.length kx, .slice oy t.cells.length ky] ∧ Blk 60 W (w.heap.size + 1 + 1) #[.int .i64 f.attr, .int .i64 f.pos]) := fun W h => ⟨KS.below h, KT.below h, KF.below h⟩
        have HB5 : Hid (Below w.heap.size w w3) := B
        clear KS KT KF B
        obtain ⟨vx', vy', e', -, ry⟩ := HT.out w (Below.refl _ _)
        cases e'
        obtain ⟨oy', ky', e', -, hry⟩ := ry
        cases e'
        obtain ⟨gy, fy, rfl, hgy, hjy⟩ := hry (by omega)
        obtain ⟨u, hcu, hru⟩ := hjy a hac
        rw [HCC.out] at hru
        obtain ⟨og, kg, rfl, -, hrr⟩ := hru
        have hcp : 0 < c.length := by
          rw [hlen]
          exact Nat.mul_pos (by have := fork_bins HQ.out; rw [HAB.out, HBN.out] at this; omega) (by omega)
        obtain ⟨gb, ob, rfl, hgb, hjc⟩ := hrr hcp
        have HCJ : Hid (∀ W, Below w.heap.size w W → ∀ j, j < c.length → W.cell? ⟨gb, ob + j, none⟩ = some (.int .i64 (c.getD j 0))) := fun W h j hj => (h.cell (p := ⟨gb, ob + j, none⟩) hgb).trans (hjc j hj)
        have hcu6 := ((HB5.out.trans (bM.mono hsz)).cell (p := ⟨gy, fy + a, none⟩) hgy).trans hcu
        clear hjy hry hjc hrr hcu
        have kT1 : w6.cell? ⟨w.heap.size + 1, 1, none⟩ = some (.slice (some ⟨gy, fy, none⟩) t.cells.length ky) := (HK.out _ bM).2.1.cell 1
        have kF0 : w6.cell? ⟨w.heap.size + 1 + 1, 0, none⟩ = some (.int .i64 (a : Int)) := by rw [← hfa]; exact (HK.out _ bM).2.2.cell 0
        have HFA : Hid (f.attr = (a : Int)) := hfa
        clear hfa
        replace hown : w6.ownsRow w3.heap.size 3 1 (.slice (some ⟨w3.heap.size, 0, none⟩) m m) m ((curL s f i c m 0).map (Value.int .i64)) := by rw [curL_zero, List.map_replicate]; exact hown
        generalize hgo : w3.heap.size = go at hown ⊢
        have HGO : Hid (w3.heap.size = go) := hgo
        clear hgo
        go_wp2
        go_loopw [50] (fun idx wr => ∃ p : Nat, idx = .int .i64 p ∧ p ≤ c.length ∧ wr.ownsRow go 3 1 (.slice (some ⟨go, 0, none⟩) m m) m ((curL s f i c m p).map (Value.int .i64)) ∧ Hid (Below w3.heap.size w3 wr)) (fun idx _ => c.length - (intOf idx).toNat)
        case atStart => exact ⟨0, rfl, by omega, hown, bM⟩
        case round =>
          clear hown bM kT1 kF0 hcu6
          obtain ⟨p, rfl, hp, hown, HBR⟩ := hrel
          have hbr := HBR.out
          by_cases hlt : p < c.length
          rotate_left
          · obtain rfl : p = c.length := by omega
            go_wp2
            go_ret
            have hfin : branchTotals s t f i = curL s f i c m c.length := by rw [HRES.out, hlen]
            exact ⟨_, rfl, by rw [hfin, curL_len]; exact own_base hown (by rw [← HGO.out]; exact hsz), HB5.out.trans (hbr.mono hsz)⟩
          have B := HB5.out.trans (hbr.mono hsz)
          have hcx := HCJ.out wr B p hlt
          have hx := place_col (show 0 < m by omega) (show p < n * m by omega) HCOL.out
          obtain ⟨hpb, hpr, -⟩ := place_parts (show 0 < m by omega) (show p < n * m by omega)
          have hz := plSum_le (s := s) (f := f) (i := i) (k := p % m) (show 0 < m by omega) HCOL.out p (by omega)
          have HHIT : Hid (branchOf s f ((p / m : Nat) : Int) = i → curL s f i c m (p + 1) = (curL s f i c m p).set (p % m) (plSum s f i c m (p % m) p + c.getD p 0)) := fun h => curL_hit (by omega) h
          have HMISS : Hid (¬ branchOf s f ((p / m : Nat) : Int) = i → curL s f i c m (p + 1) = curL s f i c m p) := fun h => curL_miss h
          have HAT : Hid ((curL s f i c m p).getD (p % m) 0 = plSum s f i c m (p % m) p) := curL_at hpr
          have HBO : Hid (branchOf s f ((p / m : Nat) : Int) = qBranch s f ((p / m : Nat) : Int)) := branchOf_yes HQ.out (Int.natCast_nonneg _) (by rw [HAB.out, HBN.out]; exact Int.ofNat_lt.2 hpb)
          have cc := keyAt_any p m wr (by omega) (by omega) (by omega)
          generalize c.getD p 0 = x at hcx hx HHIT
          generalize plSum s f i c m (p % m) p = z at hz HHIT HAT
          generalize p / m = b at cc HBO HHIT HMISS hpb
          generalize p % m = r at cc hpr HHIT HAT
          rw [HBO.out] at HHIT HMISS
          have kS1 : wr.cell? ⟨w.heap.size, 1, none⟩ = some (.slice oc m kc) := (HK.out _ hbr).1.cell 1
          go_wp2_with fail
          refine cc.mono ?_
          clear cc kS1 hcx HBO
          rintro e w7 ⟨rfl, hb⟩
          replace hown := own_below hown hb
          replace hbr := hbr.trans (hb.mono hbr.size)
          clear hb B
          have bK : Below w7.heap.size w7 (w7.alloc (.cells #[.int .i64 (b : Int), .int .i64 (r : Int)] 78)) := (Below.refl _ _).alloc (Nat.le_refl _) _
          have KK := Blk.new 78 w7 #[.int .i64 (b : Int), .int .i64 (r : Int)]
          replace hown := own_below hown bK
          replace hbr := hbr.trans (bK.mono hbr.size)
          have hpk : w7.heap.size < (w7.alloc (.cells #[.int .i64 (b : Int), .int .i64 (r : Int)] 78)).heap.size := by simp
          clear bK
          have cc := CBR.out (b : Int) (w7.alloc (.cells #[.int .i64 (b : Int), .int .i64 (r : Int)] 78))
          generalize qBranch s f (b : Int) = y at cc HHIT HMISS
          have kK0 : (w7.alloc (.cells #[.int .i64 (b : Int), .int .i64 (r : Int)] 78)).cell? ⟨w7.heap.size, 0, none⟩ = some (.int .i64 (b : Int)) := KK.cell 0
          go_wp2_with fail
          refine cc.mono ?_
          clear cc kK0
          rintro e w8 ⟨rfl, hb⟩
          replace hown := own_below hown hb
          replace hbr := hbr.trans (hb.mono hbr.size)
          replace KK := KK.below hb
          clear hb
          by_cases hyi : y = i
          · have hq : (y == i) = true := by rw [hyi]; exact beq_self_eq_true i
            have HNX := HHIT.out hyi
            have HNXT : Hid (curL s f i c m (p + 1) = (curL s f i c m p).set r (z + x)) := HNX
            clear HNX hyi HHIT HMISS
            have hrl : r < (curL s f i c m p).length := by rw [curL_len]; exact hpr
            have kK1 : w8.cell? ⟨w7.heap.size, 1, none⟩ = some (.int .i64 (r : Int)) := KK.cell 1
            have hcO : w8.cell? ⟨go, r, none⟩ = some (.int .i64 z) := by rw [hown.cellAt r (by omega), getD_mapI _ r hrl, HAT.out]
            have hfO : w8.frozen? ⟨go, r, none⟩ = false := hown.frozenAt r
            have hst := hown.stored r (.int .i64 (z + x))
            clear KK hrl
            go_wp2
            go_roundw
            case rel =>
              refine ⟨p + 1, by go_num, by omega, ?_, hbr.grown hst.2 hbr.size (fun k hk => by cases hk; exact Nat.le_of_eq HGO.out)⟩
              rw [HNXT.out, List.map_set]
              exact hst.1
            case measure => simp [intOf]; omega
          · have hq : (y == i) = false := by rw [beq_eq_false_iff_ne]; exact hyi
            have HNX := HMISS.out hyi
            have HNXT : Hid (curL s f i c m (p + 1) = curL s f i c m p) := HNX
            clear HNX hyi HHIT HMISS KK
            go_wp2
            go_roundw
            case rel =>
              refine ⟨p + 1, by go_num, by omega, ?_, hbr⟩
              rw [HNXT.out]
              exact hown
            case measure => simp [intOf]; omega
end Go.Proofs.Ytobimpgapfecoab
