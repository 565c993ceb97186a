/- Texts of this claim, put together: part 21. -/
import Derived.Test.YtfflodcapcamcabBranchTotalsPack14
import Derived.Test.YtfflodcapcamcabBranchTotalsPack3
import Derived.Test.YtfflodcapcamcabBranchTotalsPack1
import Derived.Test.YtfflodcapcamcabBranchTotalsPack10
import Derived.Test.YtfflodcapcamcabBranchTotalsPack8
import Derived.Test.YtfflodcapcamcabBranchTotalsPack13
import Derived.Test.YtfflodcapcamcabBranchTotalsPack19
import Derived.Test.YtfflodcapcamcabBranchTotalsPack11
import Derived.Laws.OwnMore
/- What a branch has of each class, in plain words: cell by cell. -/
namespace Go.Proofs.Ytfflodcapcamcab
open Go.RowKit
set_option maxRecDepth 100000
theorem totals_parts {s : SchemaD} {t : StatsD} {f : ForkD} {i : Int} (h : totalsOk s t f i = true) : statsOk s t = true ∧ t.cells.length ≠ 0 ∧ forkOk s f = true ∧ 0 ≤ i ∧ i ≤ branches s f - 1 := by
  unfold totalsOk at h
  rw [Bool.and_eq_true, Bool.and_eq_true, Bool.and_eq_true, decide_eq_true_eq, decide_eq_true_eq] at h
  exact ⟨h.1, h.2.1, h.2.2.1, h.2.2.2.1, h.2.2.2.2⟩
theorem cells_right {s : SchemaD} {t : StatsD} (h : statsOk s t = true) (h0 : t.cells.length ≠ 0) {a : Nat} (ha : a < s.attrs.length) :
    a < t.cells.length ∧ (il t.cells a).length = (bins (ad s.attrs a)).toNat * s.classes.length ∧ ∀ b k, b < (bins (ad s.attrs a)).toNat → k < s.classes.length → inW (colAt (il t.cells a) s.classes.length k b) = true := by
  unfold statsOk at h
  rw [Bool.and_eq_true, Bool.and_eq_true, Bool.and_eq_true, Bool.and_eq_true, Bool.or_eq_true] at h
  rcases h.2.2.2.2 with h1 | h1
  · exact absurd (of_decide_eq_true h1) h0
  · rw [Bool.and_eq_true, decide_eq_true_eq] at h1
    have h2 := h1.2
    rw [List.all_eq_true] at h2
    have hlt : a < t.cells.length := by omega
    have h3 := h2 a (List.mem_range.2 hlt)
    unfold cellOk at h3
    rw [Bool.and_eq_true, decide_eq_true_eq, List.all_eq_true] at h3
    have hb := (small_bins (ad s.attrs a)).1
    refine ⟨hlt, ?_, fun b k hb2 hk => ?_⟩
    · have h4 := h3.1
      have h5 : bins (ad s.attrs a) = ((bins (ad s.attrs a)).toNat : Int) := (Int.toNat_of_nonneg hb).symm
      rw [h5, ← Int.natCast_mul] at h4
      exact Int.ofNat.inj h4
    · have h4 := h3.2 k (List.mem_range.2 hk)
      unfold colOk at h4
      rw [Bool.and_eq_true] at h4
      have h5 := h4.1
      unfold colL at h5
      rw [List.all_map, List.all_eq_true] at h5
      exact h5 b (List.mem_range.2 hb2)
theorem place_parts {m n j : Nat} (hm : 0 < m) (hj : j < n * m) : j / m < n ∧ j % m < m ∧ j / m * m + j % m = j := by
  refine ⟨Nat.div_lt_of_lt_mul (by rw [Nat.mul_comm]; exact hj), Nat.mod_lt _ hm, ?_⟩
  rw [Nat.mul_comm]; exact Nat.div_add_mod j m
theorem place_col {c : List Int} {m n j : Nat} (hm : 0 < m) (hj : j < n * m) (hc : ∀ b k, b < n → k < m → inW (colAt c m k b) = true) : 0 ≤ c.getD j 0 ∧ c.getD j 0 ≤ 999 := by
  obtain ⟨h1, h2, h3⟩ := place_parts hm hj
  have := of_decide_eq_true (hc _ _ h1 h2)
  unfold colAt at this
  rwa [h3] at this
theorem plSum_le {s : SchemaD} {f : ForkD} {i : Int} {c : List Int} {m k n : Nat} (hm : 0 < m) (hc : ∀ b k, b < n → k < m → inW (colAt c m k b) = true) : ∀ p, p ≤ n * m → 0 ≤ plSum s f i c m k p ∧ plSum s f i c m k p ≤ p * 999 := by
  intro p
  induction p with
  | zero => intro _; constructor <;> exact Int.le_of_eq rfl
  | succ p ih =>
    intro hp
    have h1 := ih (by omega)
    have h2 := place_col hm (show p < n * m by omega) hc
    rw [plSum_succ]
    unfold plAt
    split <;> omega
/-- What stands in the list behind p places. -/
def curL (s : SchemaD) (f : ForkD) (i : Int) (c : List Int) (m p : Nat) : List Int := (List.range m).map fun k => plSum s f i c m k p
theorem curL_len (s : SchemaD) (f : ForkD) (i : Int) (c : List Int) (m p : Nat) : (curL s f i c m p).length = m := by simp [curL]
theorem curL_at {s : SchemaD} {f : ForkD} {i : Int} {c : List Int} {m p k : Nat} (hk : k < m) : (curL s f i c m p).getD k 0 = plSum s f i c m k p := by
  unfold curL
  rw [List.getD_eq_getElem?_getD, List.getElem?_map, List.getElem?_range hk]; rfl
theorem curL_zero (s : SchemaD) (f : ForkD) (i : Int) (c : List Int) (m : Nat) : curL s f i c m 0 = List.replicate m 0 := by
  have h : ∀ k : Nat, plSum s f i c m k 0 = 0 := fun _ => rfl
  unfold curL
  simp only [h]
  exact List.eq_replicate_iff.2 ⟨by simp, fun b hb => by obtain ⟨_, _, rfl⟩ := List.mem_map.1 hb; rfl⟩
theorem curL_hit {s : SchemaD} {f : ForkD} {i : Int} {c : List Int} {m p : Nat} (_hm : 0 < m) (hb : branchOf s f ((p / m : Nat) : Int) = i) : curL s f i c m (p + 1) = (curL s f i c m p).set (p % m) (plSum s f i c m (p % m) p + c.getD p 0) := by
  apply List.ext_getElem (by simp [curL])
  intro k h1 h2
  have hk : k < m := by simpa [curL] using h1
  rw [List.getElem_set]
  simp only [curL, List.getElem_map, List.getElem_range]
  by_cases e : p % m = k
  · rw [if_pos e, plSum_succ, e]
    unfold plAt
    rw [if_pos (And.intro e hb)]
  · rw [if_neg e, plSum_succ]
    unfold plAt
    rw [if_neg (fun h => e (And.left h))]; omega
theorem curL_miss {s : SchemaD} {f : ForkD} {i : Int} {c : List Int} {m p : Nat} (hb : ¬ branchOf s f ((p / m : Nat) : Int) = i) : curL s f i c m (p + 1) = curL s f i c m p := by
  unfold curL
  apply List.map_congr_left
  intro k _
  rw [plSum_succ]
  unfold plAt
  rw [if_neg (fun h => hb (And.right h))]; omega
theorem curL_all {s : SchemaD} {t : StatsD} {f : ForkD} {i : Int} (h : totalsOk s t f i = true) : branchTotals s t f i = curL s f i (il t.cells f.attr.toNat) s.classes.length ((bins (forkAttr s f)).toNat * s.classes.length) := by
  unfold branchTotals curL
  rw [if_pos h]
  apply List.map_congr_left
  intro k hk
  exact (plSum_all s f i _ _ k (List.mem_range.1 hk) _).symm
end Go.Proofs.Ytfflodcapcamcab
/- Rows beside blocks of another kind. -/
namespace Go.Proofs.Ytfflodcapcamcab
open Go.RowKit
set_option maxRecDepth 100000
theorem apart_d {w : World} {v v' : Value} {b b' e e' s s' n n' : Nat} {xs xs' : List Value} (h : w.ownsRow b e s v n xs) (h' : w.ownsRow b' e' s' v' n' xs') (he : e ≠ e') : v.ownBlock = none ∨ v.ownBlock ≠ v'.ownBlock := by
  rcases h.2 with ⟨rfl, _⟩ | ⟨g, cap, cur, rfl, _, hc, _⟩
  · exact .inl rfl
  · refine .inr fun eq => ?_
    rcases h'.2 with ⟨rfl, _⟩ | ⟨g', cap', cur', rfl, _, hc', _⟩
    · cases eq
    · injection eq with eq
      simp only at eq
      subst eq
      rw [hc] at hc'
      injection hc' with hc'
      injection hc' with _ h2 _
      exact he h2
theorem own_ne_blk {w : World} {v : Value} {b e s n p : Nat} {t : TypeId} {cs : Array Value} {xs : List Value} (h : w.ownsRow b e s v n xs) (hp : Blk t w p cs) (he : e ≠ t) : v.ownBlock ≠ some p := by
  rcases h.2 with ⟨rfl, _⟩ | ⟨g, cap, cur, rfl, _, hc, _⟩
  · intro e'; cases e'
  · intro e'
    injection e' with e'
    simp only at e'
    subst e'
    unfold Blk at hp
    rw [hc] at hp
    injection hp with hp
    injection hp with _ h2 _
    exact he h2
theorem own_setCellN {w : World} {base e s n : Nat} {v : Value} {xs : List Value} (h : w.ownsRow base e s v n xs) (p k : Nat) (u : Value) (hp : v.ownBlock ≠ some p) : (w.setCell ⟨p, k, none⟩ u).ownsRow base e s v n xs := by
  refine ⟨h.1, ?_⟩
  rcases h.2 with h' | ⟨g, cap, cur, rfl, hg, hc, r⟩
  · exact .inl h'
  · refine .inr ⟨g, cap, cur, rfl, hg, ?_, r⟩
    have : p ≠ g := fun e => hp (by rw [e]; rfl)
    simp only [World.setCell, Array.getElem?_modify]
    rw [if_neg this]; exact hc
theorem own_setRowN {w : World} {base e s n : Nat} {v : Value} {xs : List Value} (h : w.ownsRow base e s v n xs) (p : Nat) (c : Array Value) (hp : v.ownBlock ≠ some p) : (w.setRow p c).ownsRow base e s v n xs := by
  refine ⟨h.1, ?_⟩
  rcases h.2 with h' | ⟨g, cap, cur, rfl, hg, hc, r⟩
  · exact .inl h'
  · refine .inr ⟨g, cap, cur, rfl, hg, ?_, r⟩
    have : g ≠ p := fun e => hp (by rw [← e]; rfl)
    rw [Go.setRow_other w p g c this]; exact hc
end Go.Proofs.Ytfflodcapcamcab
/- A list of lists that grows at its end. -/
namespace Go.Proofs.Ytfflodcapcamcab
open Go.RowKit
set_option maxRecDepth 100000
theorem DoneII.snoc {w : World} {b k B : Nat} {ys : List Value} {L : Nat → Value} {cs : List (List Int)} {u : Value} (h : DoneII w b ys L cs k) (hys : ys.length = k)
    (hlt : ∀ j, j < k → ∀ a, (L j).ownBlock = some a → a < B) (hu : w.ownsRow B 3 1 u (il cs k).length ((il cs k).map (Value.int .i64))) (hB : b ≤ B) : DoneII w b (ys ++ [u]) (fun j => if j = k then u else L j) cs (k + 1) := by
  refine ⟨fun j hj => ?_, fun j hj => ?_, fun i j a c hij hj ha hc => ?_⟩
  · by_cases e : j = k
    · subst e; rw [if_pos rfl, List.getElem?_append_right (by omega), hys, Nat.sub_self]; rfl
    · rw [if_neg e, List.getElem?_append_left (by omega)]; exact h.cells j (by omega)
  · by_cases e : j = k
    · subst e; rw [if_pos rfl]; exact own_base hu hB
    · rw [if_neg e]; exact h.ints j (by omega)
  · rw [if_neg (by omega)] at ha
    by_cases e : j = k
    · rw [if_pos e] at hc
      have h1 := hlt i (by omega) a ha
      have h2 := (hu.lt c hc).1
      omega
    · rw [if_neg e] at hc
      exact h.ord i j a c hij (by omega) ha hc
/-- The row may turn: the lists lie elsewhere. -/
theorem DoneII.keptRow {w w' : World} {b b' k n : Nat} {ys xs : List Value} {L : Nat → Value} {cs : List (List Int)} {v : Value} (h : DoneII w b ys L cs k) (hrow : w.ownsRow b' 26 1 v n xs) (hg : w.grownBy w' v.ownBlock) : DoneII w' b ys L cs k :=
  ⟨h.cells, fun j hj => (h.ints j hj).kept hg (apart_ty (h.ints j hj) hrow (by decide)), h.ord⟩
theorem DoneII.setCellN {w : World} {b k p q : Nat} {t : TypeId} {c : Array Value} {ys : List Value} {L : Nat → Value} {cs : List (List Int)} (h : DoneII w b ys L cs k) (hp : Blk t w p c) (ht : 3 ≠ t) (u : Value) : DoneII (w.setCell ⟨p, q, none⟩ u) b ys L cs k :=
  ⟨h.cells, fun j hj => own_setCellN (h.ints j hj) p q u (own_ne_blk (h.ints j hj) hp ht), h.ord⟩
theorem DoneII.setRowN {w : World} {b k p : Nat} {t : TypeId} {c : Array Value} {ys : List Value} {L : Nat → Value} {cs : List (List Int)} (h : DoneII w b ys L cs k) (hp : Blk t w p c) (ht : 3 ≠ t) (d : Array Value) : DoneII (w.setRow p d) b ys L cs k :=
  ⟨h.cells, fun j hj => own_setRowN (h.ints j hj) p d (own_ne_blk (h.ints j hj) hp ht), h.ord⟩
theorem DoneII.alloc {w : World} {b k : Nat} {ys : List Value} {L : Nat → Value} {cs : List (List Int)} (h : DoneII w b ys L cs k) (o : Obj) : DoneII (w.alloc o) b ys L cs k :=
  h.below ((Below.refl _ _).alloc (Nat.le_refl _) _)
/-- Counts of their own, put together. -/
theorem ownSt_mk {base B : Nat} {w : World} {vt vc : Value} {ys : List Value} {L : Nat → Value} {t : StatsD} (ht : w.ownsRow base 3 1 vt t.totals.length (t.totals.map (Value.int .i64))) (htl : ∀ a, vt.ownBlock = some a → a < B)
    (hrow : w.ownsRow B 26 1 vc t.cells.length ys) (hd : DoneII w B ys L t.cells t.cells.length) (hB : base ≤ B) : OwnSt base w (.agg #[vt, vc]) t :=
  ⟨vt, vc, L, ys, rfl, ht, ⟨own_base hrow hB, hd.cells, fun j hj => own_base (hd.ints j hj) hB, hd.ord⟩, fun j a c hj ha hc => by
    have h1 := htl a ha
    have h2 := ((hd.ints j hj).lt c hc).1
    omega⟩
theorem newcV (w : World) (u : Value) (t : TypeId) : ∀ (j : Nat) (x : Value), ([u] : List Value)[j]? = some x → (w.alloc (.cells #[u] t)).cell? ((⟨w.heap.size, 0, none⟩ : Addr).add j) = some x := by
  intro j x hj
  have e : (⟨w.heap.size, 0, none⟩ : Addr).add j = ⟨w.heap.size, j, none⟩ := by cases j <;> simp [Addr.add]
  rw [e, (Blk.new t w #[u]).cell j]
  simpa using hj
end Go.Proofs.Ytfflodcapcamcab
/- A list of noughts made; counts of noughts, in plain words. -/
namespace Go.Proofs.Ytfflodcapcamcab
open Go.RowKit
set_option maxRecDepth 100000
theorem run_make_ints (base n : Nat) (w : World) (hn : n ≤ 1048576) (hb : base ≤ w.heap.size) : ∃ w', (Instr.makeSlice 26 (.int .i64 (n : Int)) (.int .i64 (n : Int))).run Try.prog w = .ok (.slice (some ⟨w.heap.size, 0, none⟩) n n) w' ∧
    w'.ownsRow base 3 1 (.slice (some ⟨w.heap.size, 0, none⟩) n n) n ((List.replicate n (0 : Int)).map (Value.int .i64)) ∧ w.grownBy w' none := by
  obtain ⟨i0, hi, hz0, hz1, hz2⟩ := info_parts intInfo
  obtain ⟨w', h1, h2, h3⟩ := run_make_full (P := Try.prog) w base 26 3 i0 (.int .i64 0) 1 Try.underlying26 hi hz0 hz1 .i64 .i64 n (by rw [hz2]; omega) (by unfold maxLen; omega) hb
  refine ⟨w', h1, ?_, h3⟩
  have e : (madeCells (Value.int .i64 0).cells (n * 1)).toList = (List.replicate n (0 : Int)).map (Value.int .i64) := by
    rw [Nat.mul_one, List.map_replicate]
    exact toList_madeCells_one _ _
  rw [← e]
  exact h2
theorem wp_make_ints {o : Oper} {a : Act} {w : World} {K : Act → World → Prop} {Q : Exit → Act → World → Prop} (l : Operand) (ho : o.op = .makeSlice 26 l l) (base n : Nat) (x : Int) (hx : x = (n : Int)) (hl : a.eval l = .int .i64 x) (hn : n ≤ 1048576) (hb : base ≤ w.heap.size)
    (hK : ∀ w', w'.ownsRow base 3 1 (.slice (some ⟨w.heap.size, 0, none⟩) n n) n ((List.replicate n (0 : Int)).map (Value.int .i64)) → w.grownBy w' none → K (a.put o.dst (.slice (some ⟨w.heap.size, 0, none⟩) n n)) w') : Oper.wp Try.prog o a w K Q := by
  subst hx
  obtain ⟨w', h1, h2, h3⟩ := run_make_ints base n w hn hb
  unfold Oper.wp
  simp [execOp, ho, hl, h1, Result.andThen]
  exact hK w' h2 h3
theorem wpList_make_ints {ops : Array Oper} {rest : List Oper} {o : Oper} {a : Act} {w : World} {Q : Exit → Act → World → Prop} (hg : o.guard = none) (l : Operand) (ho : o.op = .makeSlice 26 l l) (base n : Nat) (x : Int) (hx : x = (n : Int)) (hl : a.eval l = .int .i64 x) (hn : n ≤ 1048576) (hb : base ≤ w.heap.size)
    (hK : ∀ w', w'.ownsRow base 3 1 (.slice (some ⟨w.heap.size, 0, none⟩) n n) n ((List.replicate n (0 : Int)).map (Value.int .i64)) → w.grownBy w' none → wpList Try.prog ops Q rest (a.put o.dst (.slice (some ⟨w.heap.size, 0, none⟩) n n)) w') : wpList Try.prog ops Q (o :: rest) a w :=
  wpList_plain hg fun _ hK' => wp_make_ints l ho base n x hx hl hn hb fun w' h1 h2 => hK' _ _ (hK w' h1 h2)
/-- The same, the new block told outright. -/
theorem made_ints (n : Nat) (hn : n ≤ 1048576) : ∃ Z : Array Value, (∀ (x : Int) (W : World), x = (n : Int) → (Instr.makeSlice 26 (.int .i64 x) (.int .i64 x)).run Try.prog W = .ok (.slice (some ⟨W.heap.size, 0, none⟩) n n) (W.alloc (.cells Z 3))) ∧
    ∀ (W : World) (base : Nat), base ≤ W.heap.size → (W.alloc (.cells Z 3)).ownsRow base 3 1 (.slice (some ⟨W.heap.size, 0, none⟩) n n) n ((List.replicate n (0 : Int)).map (Value.int .i64)) := by
  obtain ⟨i0, hi, hz0, hz1, hz2⟩ := info_parts intInfo
  refine ⟨madeCells (Value.int .i64 0).cells (n * 1), fun x W hx => ?_, fun W base hb => ?_⟩
  · subst hx
    have h := run_make (P := Try.prog) W 26 3 i0 (.int .i64 0) Try.underlying26 hi hz0 .i64 .i64 n n (by omega) (Int.le_refl _) (by rw [hz2]; omega) (by omega)
    simp only [Int.toNat_natCast, hz1] at h
    exact h
  · have e : (madeCells (Value.int .i64 0).cells (n * 1)).toList = (List.replicate n (0 : Int)).map (Value.int .i64) := by
      rw [Nat.mul_one, List.map_replicate]
      exact toList_madeCells_one _ _
    rw [← e]
    exact World.ownsRow_lit W _ n hb (by unfold maxLen; omega) (size_madeCells _ _)
def binsN (a : AttrD) : Nat := (bins a).toNat
theorem binsN_eq (a : AttrD) : bins a = (binsN a : Int) := (Int.toNat_of_nonneg (small_bins a).1).symm
theorem binsN_le (a : AttrD) : binsN a ≤ 4 := by have := (small_bins a).2; have := binsN_eq a; omega
def newCells (s : SchemaD) : List (List Int) := s.attrs.map fun a => List.replicate (binsN a * s.classes.length) 0
def statsNew (s : SchemaD) : StatsD := if schemaOk s = true then ⟨List.replicate s.classes.length 0, newCells s⟩ else ⟨[], []⟩
theorem newCells_at {s : SchemaD} {k : Nat} (h : k < s.attrs.length) : il (newCells s) k = List.replicate (binsN (ad s.attrs k) * s.classes.length) 0 := by
  unfold newCells
  rw [il_eq (by simpa using h), List.getElem_map, ad_eq h]
theorem newCells_len (s : SchemaD) : (newCells s).length = s.attrs.length := by simp [newCells]
theorem ownSt_nil (base : Nat) (w : World) : OwnSt base w (.agg #[.slice none 0 0, .slice none 0 0]) ⟨[], []⟩ :=
  ⟨_, _, fun _ => .slice none 0 0, [], rfl, World.ownsRow_nil _ _ _ _, ⟨World.ownsRow_nil _ _ _ _, fun j hj => by simp at hj, fun j hj => by simp at hj, fun i j a b _ hj => by simp at hj⟩, fun j a b hj => by simp at hj⟩
end Go.Proofs.Ytfflodcapcamcab
