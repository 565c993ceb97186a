/- Texts of this claim, put together: part 13. -/
import Derived.Test.YtobimpgapfecoabBranchTotalsPack10
import Derived.Test.YtobimpgapfecoabBranchTotalsPack8
import Derived.Test.YtobimpgapfecoabBranchTotalsPack12
import Derived.Test.YtobimpgapfecoabBranchTotalsPack6
import Derived.Test.YtobimpgapfecoabBranchTotalsPack11
import Derived.Test.YtobimpgapfecoabBranchTotalsPack4
/- Counts of the call's own, beside what turns other memory. -/
namespace Go.Proofs.Ytobimpgapfecoab
open Go.RowKit
set_option maxRecDepth 100000
theorem SepII.keptS {base n : Nat} {w w' : World} {v : Value} {L : Nat → Value} {ys : List Value} {cs : List (List Int)} {R : Nat → Prop} (h : SepII base w v L ys cs n) (hg : GrownS w w' R) (h1 : ∀ k, v.ownBlock = some k → ¬ R k) (h2 : ∀ k, InII L n k → ¬ R k) : SepII base w' v L ys cs n :=
  ⟨own_keptS h.row hg h1, h.cells, fun j hj => own_keptS (h.ints j hj) hg (fun k hk => h2 k ⟨j, hj, hk⟩), h.ord⟩
theorem SepII.keptG {base n : Nat} {w w' : World} {v : Value} {L : Nat → Value} {ys : List Value} {cs : List (List Int)} {r : Option Nat} (h : SepII base w v L ys cs n) (hg : w.grownBy w' r) (h1 : ∀ k, v.ownBlock = some k → r ≠ some k) (h2 : ∀ k, InII L n k → r ≠ some k) : SepII base w' v L ys cs n := by
  refine ⟨h.row.kept hg ?_, h.cells, fun j hj => (h.ints j hj).kept hg ?_, h.ord⟩
  · cases e : v.ownBlock with
    | none => exact .inl rfl
    | some k => exact .inr fun e' => h1 k e e'.symm
  · cases e : (L j).ownBlock with
    | none => exact .inl rfl
    | some k => exact .inr fun e' => h2 k ⟨j, hj, e⟩ e'.symm
/-- All blocks of counts: their totals', their row's, their lists'. -/
def AllSt (vt vc : Value) (L : Nat → Value) (n : Nat) (k : Nat) : Prop := vt.ownBlock = some k ∨ vc.ownBlock = some k ∨ InII L n k
theorem all_st {base c n : Nat} {w : World} {vt vc : Value} {L : Nat → Value} {xs ys : List Value} {cs : List (List Int)} (ht : w.ownsRow base 3 1 vt c xs) (h : SepII base w vc L ys cs n) : ∀ k, AllSt vt vc L n k → base ≤ k ∧ k < w.heap.size := by
  intro k hk
  rcases hk with hk | hk | ⟨j, hj, hk⟩
  · exact ht.lt k hk
  · exact h.row.lt k hk
  · exact (h.ints j hj).lt k hk
end Go.Proofs.Ytobimpgapfecoab
/- Counts of the call's own, beside what the laws' helpers turn. -/
namespace Go.Proofs.Ytobimpgapfecoab
open Go.RowKit
set_option maxRecDepth 100000
theorem in_all {vt vc : Value} {L : Nat → Value} {n k : Nat} (h : InSt vt L n k) : AllSt vt vc L n k := h.elim .inl (fun h => .inr (.inr h))
theorem mkC_bound {k0 M : Nat} {p : Nat → Nat} : ∀ n, (∀ j, j < n → p j ≤ M) → mkC k0 p n ≤ k0 + n * M
  | 0, _ => by simp [mkC]
  | n + 1, h => by
    have h1 := mkC_bound (k0 := k0) (M := M) (p := p) n fun j hj => h j (by omega)
    have h2 := h n (by omega)
    simp only [mkC]
    rw [Nat.succ_mul]
    omega
theorem fitSt_mark {t : StatsD} (h : fitSt t) (k0 : Nat) : mkC k0 (lenL t.cells) t.cells.length ≤ k0 + 1099511627776 := by
  have h1 := mkC_bound (k0 := k0) (M := 1048576) (p := lenL t.cells) t.cells.length fun j hj => h.each _ (il_mem hj)
  have h2 := Nat.mul_le_mul_right 1048576 h.cells
  omega
end Go.Proofs.Ytobimpgapfecoab
/- Counts that come in to a law: what their reading says of their cells. -/
namespace Go.Proofs.Ytobimpgapfecoab
open Go.ChangeShapes Go.WideShapes Go.ChangeAt Go.RowKit Go.Deep
set_option maxRecDepth 100000
theorem stats_cells : Try.prog.cellsOf 29 = 2 := by kernel_rfl
theorem cells1_intss : Try.prog.cellsOf 27 = 1 := by kernel_rfl
theorem row_intss {H : Type} {enc : TypeId × Value → H} {W : World} {base fuel : Nat} {hd : Bool} {cs : List Value} {x : DataW H × List MemPlace}
    (h : DataW.trod enc Try.prog W base (fun _ => true) hd fuel 27 cs = some x) : ∃ v ls, cs = [v] ∧ RowII W v ls ∧ ls.length ≤ 9223372036854775807 ∧ ∀ c ∈ ls, c.length ≤ 9223372036854775807 := by
  rcases open_slice Try.underlying27 h with ⟨hcs, _⟩ | ⟨x, l, c, m, n, D, Pl, hcs, _, hl, hm, hmm, _, hcell⟩
  · exact ⟨_, [], hcs, ⟨none, 0, rfl, Nat.le_refl _, fun h0 => absurd h0 (by simp)⟩, by simp, fun s hs => by cases hs⟩
  · have hmc : m = c := by simpa using hmm
    subst hmc
    have key : ∀ i, i < m → ∃ (a : List Int), a.length ≤ 9223372036854775807 ∧ ∃ u, W.cell? (x.add i) = some u ∧ RowI W u a := by
      intro i hi
      obtain ⟨cs', hc', ht'⟩ := hcell i hi
      obtain ⟨u, zs, hcs', r1, l1⟩ := row_ints ht'
      rw [cells1_ints, hcs'] at hc'
      have hS := World.cells?_some hc'
      refine ⟨zs, l1, u, ?_, r1⟩
      have := hS.2.2 0 (by omega)
      rw [add_add] at this
      simpa using this
    obtain ⟨F, hF⟩ := choose_lt key
    refine ⟨_, (List.range l).map F, hcs, ⟨some x, m, by simp, by simpa using hl, fun h0 => ?_⟩, by simpa using Nat.le_trans hl (small_len hm), fun a ha => ?_⟩
    · have hl0 : 0 < l := by simpa using h0
      obtain ⟨b, o, sp⟩ := x
      obtain ⟨_, _, hc0, _⟩ := hF 0 (by omega)
      have hsp : sp = none := by simpa [Addr.add] using World.cell?_spot hc0
      subst hsp
      refine ⟨b, o, rfl, lt_of_cell (a := ⟨b, o, none⟩) (by simpa [Addr.add] using hc0), fun j hj => ?_⟩
      have hj' : j < l := by simpa using hj
      have e : ∀ i, (⟨b, o, none⟩ : Addr).add i = ⟨b, o + i, none⟩ := by intro i; cases i <;> simp [Addr.add]
      have ea : il ((List.range l).map F) j = F j := by rw [il_eq hj]; simp
      obtain ⟨_, u, h1, h2⟩ := hF j (by omega)
      rw [ea]
      rw [e] at h1
      exact ⟨u, h1, h2⟩
    · obtain ⟨j, hj, rfl⟩ := List.mem_map.1 ha
      exact (hF j (by have := List.mem_range.1 hj; omega)).1
theorem open_stats {H : Type} {enc : TypeId × Value → H} {W : World} {r : Reach} {b0 base : Nat} {hd : Bool} {v : Value} {d : DataW H} {ps : List MemPlace}
    (hval : Value.okWide Try.prog W r b0 29 v) (h : DataW.Trod enc Try.prog W base (fun _ => true) hd 29 v d ps) : ∃ a : StatsD, StatsAt W v a ∧ inSt a := by
  obtain ⟨cs, rfl, hs⟩ := okWide_struct Try.underlying29 hval
  obtain ⟨fuel, hf⟩ := h
  obtain ⟨y0, y1, n, -, hl, t0, t1⟩ := trod_struct2 Try.underlying29 hf
  rw [stats_cells] at hl
  obtain ⟨l⟩ := cs
  simp [Value.cells] at hl t0 t1
  match l, hl with
  | [c0, c1], _ =>
    obtain ⟨va, zs, ha, ra, la⟩ := row_ints t0
    obtain ⟨vv, ls, hv, rv, lv, ev⟩ := row_intss t1
    simp [cells1_ints, cells1_intss] at ha hv
    exact ⟨⟨zs, ls⟩, ⟨va, vv, by rw [ha, hv], ra, rv⟩, ⟨la, lv, ev⟩⟩
end Go.Proofs.Ytobimpgapfecoab
/- Whether counts are right, in plain words: what the walks ask. -/
namespace Go.Proofs.Ytobimpgapfecoab
open Go.RowKit
theorem small_bins (a : AttrD) : 0 ≤ bins a ∧ bins a ≤ 4 := by
  unfold bins
  split
  · rename_i h
    unfold attrOk at h
    rw [Bool.and_eq_true] at h
    have h2 := h.2
    split at h2
    · unfold choices at h2
      rw [Bool.and_eq_true] at h2
      have := of_decide_eq_true h2.1
      split <;> omega
    · rw [Bool.and_eq_true, Bool.and_eq_true] at h2
      have h3 := of_decide_eq_true h2.1
      have h4 := of_decide_eq_true h2.2.1
      split <;> omega
  · omega
theorem sch_classes {s : SchemaD} (h : schemaOk s = true) : 2 ≤ s.classes.length ∧ s.classes.length ≤ 3 := by
  unfold schemaOk choices at h
  rw [Bool.and_eq_true, Bool.and_eq_true, Bool.and_eq_true, decide_eq_true_eq, decide_eq_true_eq] at h
  omega
theorem sum_take {l : List Int} {k : Nat} (h : k < l.length) : sumL (l.take (k + 1)) = sumL (l.take k) + l.getD k 0 := by
  rw [List.take_succ_eq_append_getElem h, sumL_snoc, List.getD_eq_getElem?_getD, List.getElem?_eq_getElem h]; rfl
theorem inW_yes {x : Int} (h : 0 ≤ x ∧ x ≤ 999) : inW x = true := decide_eq_true h
theorem inW_no {x : Int} (h : ¬ (0 ≤ x ∧ x ≤ 999)) : inW x = false := decide_eq_false h
theorem allW_yes {l : List Int} (h : ∀ j, j < l.length → inW (l.getD j 0) = true) : l.all inW = true := by
  rw [List.all_eq_true]
  intro x hx
  obtain ⟨j, hj, rfl⟩ := List.getElem_of_mem hx
  have := h j hj
  rwa [List.getD_eq_getElem?_getD, List.getElem?_eq_getElem hj] at this
theorem allW_no {l : List Int} {k : Nat} (hk : k < l.length) (h : inW (l.getD k 0) = false) : l.all inW = false := by
  cases e : l.all inW with
  | false => rfl
  | true =>
    rw [List.all_eq_true] at e
    have := e _ (List.getElem_mem hk)
    rw [List.getD_eq_getElem?_getD, List.getElem?_eq_getElem hk] at h
    simp only [Option.getD_some] at h
    rw [h] at this; cases this
theorem range_yes {n : Nat} {f : Nat → Bool} (h : ∀ j, j < n → f j = true) : (List.range n).all f = true := by
  rw [List.all_eq_true]
  intro j hj
  exact h j (List.mem_range.1 hj)
theorem range_no {n : Nat} {f : Nat → Bool} {k : Nat} (hk : k < n) (h : f k = false) : (List.range n).all f = false := by
  cases e : (List.range n).all f with
  | false => rfl
  | true =>
    rw [List.all_eq_true] at e
    have := e k (List.mem_range.2 hk)
    rw [h] at this; cases this
theorem col_succ (c : List Int) (m k b : Nat) : sumL (colL c m k (b + 1)) = sumL (colL c m k b) + colAt c m k b := by
  unfold colL
  rw [List.range_succ, List.map_append, List.map_singleton, sumL_snoc]
theorem col_yes {c : List Int} {m k n : Nat} (h : ∀ b, b < n → inW (colAt c m k b) = true) : (colL c m k n).all inW = true := by
  unfold colL
  rw [List.all_map]
  exact range_yes h
theorem col_no {c : List Int} {m k n b : Nat} (hb : b < n) (h : inW (colAt c m k b) = false) : (colL c m k n).all inW = false := by
  unfold colL
  rw [List.all_map]
  exact range_no hb h
end Go.Proofs.Ytobimpgapfecoab
