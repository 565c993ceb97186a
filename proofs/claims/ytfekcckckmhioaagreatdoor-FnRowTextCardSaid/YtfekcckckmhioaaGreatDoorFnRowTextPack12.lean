/- Texts of this claim, put together: part 12. -/
import Derived.Test.YtfekcckckmhioaaGreatDoorFnRowTextPack11
import Derived.Test.YtfekcckckmhioaaGreatDoorRows
import Derived.WalkKit
import Derived.ProofKit
import Derived.OpenShut
import Derived.Deep.RegionHeld3
import Derived.Test.YtfekcckckmhioaaGreatDoorFnRowTextPack3
/- Draws of chapter 7: an example, right or not. -/
namespace Go.Proofs.YtfekcckckmhioaaGreatDoor
open Go.RowKit
set_option maxRecDepth 100000
set_option linter.unusedSimpArgs false
theorem own_setNe7 {w : World} {base e s n : Nat} {v : Value} {xs : List Value} (h : w.ownsRow base e s v n xs) (p : Addr) (u : Value) (hp : v.ownBlock ≠ some p.block) : (w.setCell p u).ownsRow base e s v n xs := by
  refine ⟨h.1, ?_⟩
  rcases h.2 with h' | ⟨g, cap, cur, hv, hg, hc, r⟩
  · exact .inl h'
  · refine .inr ⟨g, cap, cur, hv, hg, ?_, r⟩
    simp only [World.setCell, Array.getElem?_modify]
    rw [if_neg (fun e' => hp (by rw [hv, e']; rfl))]; exact hc
theorem own_notBlk7 {w : World} {base e s n t g : Nat} {v : Value} {xs : List Value} {cs : Array Value} (h : w.ownsRow base e s v n xs) (hb : Blk t w g cs) (hne : e ≠ t) : v.ownBlock ≠ some g := by
  rcases h.2 with ⟨rfl, _⟩ | ⟨g', cap, cur, rfl, _, hc, _⟩
  · intro e'; cases e'
  · intro e'
    injection e' with e'
    simp only at e'
    subst e'
    unfold Blk at hb
    rw [hc] at hb
    injection hb with hb
    injection hb with _ h2 _
    exact hne h2
set_option maxHeartbeats 6400000 in
theorem draw7_any (g : Nat) (a : Option Addr) (len cap : Nat) (zs : List Int) (vs : Value) (s : SchemaD) (b : Nat) (w : World) (hc : IsCur w g a len cap) (hr : IsRow .u8 w a len cap zs) (hs : OwnS b w vs s) (hgb : g < b) (ht : tinyS s) :
    Calls Tryz.prog 64 #[.pointer (some ⟨g, 0, none⟩), vs] w fun e w' => ∃ v d, e = .returned v ∧ OwnE w.heap.size w' v d ∧ d.bins.length ≤ 7 ∧ IsCur w' g a len cap ∧ w.grownBy w' (some g) := by
  have hgw : g < w.heap.size := hc.lt
  obtain ⟨i0, hi, hi0, hi1, hi2⟩ := info_parts intInfo
  have HR : Hid (∀ w', w.grownBy w' (some g) → IsRow .u8 w' a len cap zs) := fun w' h => hr.aside hc h
  have HTN : Hid (tinyS s) := ht
  have la := ht.attrs
  obtain ⟨va, vc, rfl, ra, rc⟩ := id hs.at
  obtain ⟨oa, ka, rfl, -, -⟩ := id ra
  obtain ⟨oc, kc, rfl, -, -⟩ := id rc
  clear ra rc ht
  obtain ⟨K1, K2, B0⟩ := blk_2 35 30 w #[.slice oa s.attrs.length ka, .slice oc s.classes.length kc] #[.slice none 0 0, .int .i64 0]
  have gr0 : w.grownBy ((w.alloc (.cells #[.slice oa s.attrs.length ka, .slice oc s.classes.length kc] 35)).alloc (.cells #[.slice none 0 0, .int .i64 0] 30)) (some g) := grown_trans (grown_alloc w _ _) (grown_alloc _ _ _)
  have os0 := hs.below7 B0
  have e1 := right7_any g a len cap zs _ s b ((w.alloc (.cells #[.slice oa s.attrs.length ka, .slice oc s.classes.length kc] 35)).alloc (.cells #[.slice none 0 0, .int .i64 0] 30)) ((hc.alloc _).alloc _) (HR.out _ gr0) os0 hgb HTN.out
  clear hc hr hs B0 K1 os0
  go_enter Tryz.func64, Tryz.ntmps64
  go_wp2_with fail
  refine e1.mono ?_
  clear e1
  rintro e w1 ⟨v1, d, rfl, ⟨vb, rfl, ow1⟩, hdl, -, cu1, h1⟩
  obtain ⟨ov, cv, rfl⟩ := own_slice ow1
  have gr1 := grown_trans gr0 h1
  have R1 := K2.kept h1 (by intro e; injection e; omega)
  have hls : w.heap.size + 1 < w1.heap.size := R1.lt
  have ow1' := own_base ow1 (b' := w.heap.size + 2) (by simp)
  have hd6 : d.bins.length ≤ 6 := by omega
  have HNE : Hid (∀ j, (Value.slice ov d.bins.length cv).ownBlock = some j → w.heap.size + 2 ≤ j ∧ j < w1.heap.size) := ow1'.lt
  clear h1 gr0 K2 ow1 hdl
  obtain ⟨E2, B2⟩ := blk_1 30 w1 #[.slice ov d.bins.length cv, .int .i64 d.cls]
  have R2 := R1.below B2
  have ow2 := own_below ow1' B2
  have cu2 := cu1.kept (grown_of_below B2 none) (by intro e; cases e)
  have gr2 := grown_trans gr1 (grown_of_below B2 _)
  clear B2 R1 ow1' cu1 gr1
  have e1 := l1Below_any g a len cap zs 12 _ cu2 (HR.out _ gr2) (by decide) (by decide)
  go_wp2_with fail
  refine e1.mono ?_
  clear e1
  rintro e w6 ⟨t, rfl, ht12, cu6, h6⟩
  have gr6 := grown_trans gr2 h6
  have R6 := R2.kept h6 (by intro e; injection e; omega)
  have E6 := E2.kept h6 (by intro e; injection e; omega)
  have ow6 := own_curW ow2 (by omega) h6
  have hE6 := E6.lt
  clear h6 gr2 cu2 R2 E2 ow2
  by_cases t0 : t = 0
  · subst t0
    have e1 := pickN [-1, -2, 3, 2, 9223372036854775807] g a len cap zs w6 cu6 (HR.out _ gr6) (by simp) (by simp)
    simp only [List.map_cons, List.map_nil, List.length_cons, List.length_nil, Nat.zero_add, Nat.reduceAdd] at e1
    go_wp2_with fail
    refine e1.mono ?_
    clear e1
    rintro e w7 ⟨y, rfl, -, cu7, h7⟩
    have gr7 := grown_trans gr6 h7
    have R7 := R6.kept h7 (by intro e; injection e; omega)
    have E7 := E6.kept h7 (by intro e; injection e; omega)
    have ow7 := own_curW ow6 (by omega) h7
    clear h7 gr6 cu6 R6 E6 ow6
    have q1 : w7.cell? ⟨w1.heap.size, 1, none⟩ = some (.int .i64 d.cls) := E7.cell 1
    have f1 := E7.frozen 1
    have R8 := R7.setCell_other ⟨w1.heap.size, 1, none⟩ (.int .i64 y) (by simp; omega)
    have E8 := E7.setCell 1 (.int .i64 y)
    have ow8 := own_setNe7 ow7 ⟨w1.heap.size, 1, none⟩ (.int .i64 y) (fun e => absurd (HNE.out _ e).2 (Nat.lt_irrefl _))
    have cu8 := cu7.cellW (p := w1.heap.size) 1 (.int .i64 y) (by omega)
    have gr8 := grown_cell gr7 (p := w1.heap.size) (k := 1) (by omega) (.int .i64 y)
    clear R7 E7 ow7 cu7 gr7
    go_wp2_with (first | (with_reducible refine wp_ex_load rfl _ rfl ?_; refine ⟨_, rfl, _, _, E8, ?_⟩) | (with_reducible refine wp_ex_store rfl _ _ rfl ?_; refine ⟨_, rfl, _, _, _, _, rfl, _, _, R8, ?_⟩))
    exact bodyPost_ret (res_ex rfl _ _ _ _ _ rfl (R8.setRow _)) rfl ⟨_, ⟨d.bins, y⟩, rfl, ⟨_, rfl, own_base (own_setRow ow8 _ _ (by omega)) (by omega)⟩, (show d.bins.length ≤ 7 by omega), cu8.rowW _ (by omega), grown_row gr8 (by omega) _⟩
  have b0 : ((t : Int) == 0) = false := by rw [beq_eq_false_iff_ne]; omega
  by_cases t1 : t = 1
  · subst t1
    have q0 : w6.cell? ⟨w1.heap.size, 0, none⟩ = some (.slice ov d.bins.length cv) := E6.cell 0
    go_wp2_with (at_builtin; refine wpList_append_own _ rfl _ _ 28 rfl (w.heap.size + 2) 3 i0 (.int .i64 0) 1 8 Tryz.underlying28 hi hi0 hi1 hi2 rfl (by decide) _ _ _ rfl (ow6.alloc _) ⟨w6.heap.size, 0, none⟩ 1 1 [_] rfl rfl (newc _ _ _) ?d2 ?d3 ?d4 ?d5 ?_)
    case d2 => intro u hu; simp at hu; subst hu; rfl
    case d3 => unfold maxLen; omega
    case d4 => omega
    case d5 => simp; omega
    intro v' w5 hown' hgrow _
    have HNN : Hid (∀ j, v'.ownBlock = some j → j ≠ w1.heap.size) := fun j hj e => by
      have K := (E6.alloc (.cells #[.int .i64 0] 3)).kept hgrow (fun e => by have := (HNE.out _ e).2; omega)
      exact own_notBlk7 hown' K (by decide) (by rw [hj, e])
    obtain ⟨ov', cv', rfl⟩ := own_slice hown'
    have G2 := (R6.alloc (.cells #[.int .i64 0] 3)).kept hgrow (fun e => by have := (HNE.out _ e).1; omega)
    have G3 := (E6.alloc (.cells #[.int .i64 0] 3)).kept hgrow (fun e => by have := (HNE.out _ e).2; omega)
    have cu5 := (cu6.alloc (.cells #[.int .i64 0] 3)).kept hgrow (fun e => by have := (HNE.out _ e).1; omega)
    have gr5 := grown_own (grown_trans gr6 (grown_alloc w6 (.cells #[.int .i64 0] 3) _)) hgrow (fun j e => by have := (HNE.out _ e).1; omega)
    have R : w5.ownsRow (w.heap.size + 2) 3 1 (.slice ov' (d.bins.length + 1) cv') (d.bins ++ [0]).length ((d.bins ++ [0]).map (Value.int .i64)) := by simpa using hown'
    have f5 := G3.frozen 0
    have q5 : w5.cell? ⟨w1.heap.size, 0, none⟩ = some (.slice ov d.bins.length cv) := G3.cell 0
    have R8 := G2.setCell_other ⟨w1.heap.size, 0, none⟩ (.slice ov' (d.bins.length + 1) cv') (by simp; omega)
    have E8 := G3.setCell 0 (.slice ov' (d.bins.length + 1) cv')
    have ow8 := own_setNe7 R ⟨w1.heap.size, 0, none⟩ (.slice ov' (d.bins.length + 1) cv') (fun e => HNN.out _ e rfl)
    have cu8 := cu5.cellW (p := w1.heap.size) 0 (.slice ov' (d.bins.length + 1) cv') (by omega)
    have gr8 := grown_cell gr5 (p := w1.heap.size) (k := 0) (by omega) (.slice ov' (d.bins.length + 1) cv')
    clear hown' hgrow ow6 E6 R6 cu6 gr6 G2 G3 cu5 gr5 R q0
    go_wp2_with (first | (with_reducible refine wp_ex_load rfl _ rfl ?_; refine ⟨_, rfl, _, _, E8, ?_⟩) | (with_reducible refine wp_ex_store rfl _ _ rfl ?_; refine ⟨_, rfl, _, _, _, _, rfl, _, _, R8, ?_⟩))
    exact bodyPost_ret (res_ex rfl _ _ _ _ _ rfl (R8.setRow _)) rfl ⟨_, ⟨d.bins ++ [0], d.cls⟩, rfl, ⟨_, rfl, own_base (own_setRow ow8 _ _ (by omega)) (by omega)⟩, (show (d.bins ++ [0]).length ≤ 7 by simp; omega), cu8.rowW _ (by omega), grown_row gr8 (by omega) _⟩
  have b1 : ((t : Int) == 1) = false := by rw [beq_eq_false_iff_ne]; omega
  by_cases t2 : t = 2
  · subst t2
    have q0 : w6.cell? ⟨w1.heap.size, 0, none⟩ = some (.slice ov d.bins.length cv) := E6.cell 0
    by_cases hb0 : 0 < d.bins.length
    rotate_left
    · have hbz : ¬ (0 : Int) < (d.bins.length : Int) := by omega
      go_wp2_with (first | (with_reducible refine wp_ex_load rfl _ rfl ?_; refine ⟨_, rfl, _, _, E6, ?_⟩) | (with_reducible refine wp_ex_store rfl _ _ rfl ?_; refine ⟨_, rfl, _, _, _, _, rfl, _, _, R6, ?_⟩))
      exact bodyPost_ret (res_ex rfl _ _ _ _ _ rfl (R6.setRow _)) rfl ⟨_, ⟨d.bins, d.cls⟩, rfl, ⟨_, rfl, own_base (own_setRow ow6 _ _ (by omega)) (by omega)⟩, (show d.bins.length ≤ 7 by omega), cu6.rowW _ (by omega), grown_row gr6 (by omega) _⟩
    have hbz : (0 : Int) < (d.bins.length : Int) := by omega
    obtain ⟨go, rfl⟩ : ∃ go, ov = some ⟨go, 0, none⟩ := by
      rcases ow6.2 with ⟨h1, h2⟩ | ⟨g', cap', cur', hv', _⟩
      · omega
      · injection hv' with e1 e2 e3; exact ⟨g', e1⟩
    have E6d : Blk 30 w6.drew w1.heap.size #[.slice (some ⟨go, 0, none⟩) d.bins.length cv, .int .i64 d.cls] := E6
    have R6d : Blk 30 w6.drew (w.heap.size + 1) #[.slice none 0 0, .int .i64 0] := R6
    have ow6d : w6.drew.ownsRow (w.heap.size + 2) 3 1 (.slice (some ⟨go, 0, none⟩) d.bins.length cv) d.bins.length (d.bins.map (Value.int .i64)) := ow6
    have cu6d : IsCur w6.drew g a len cap := cu6
    have gr6d : w.grownBy w6.drew (some g) := ⟨gr6.os, gr6.tape, gr6.output, gr6.size, gr6.block⟩
    have e1 := pickN [-2, 4, 3, -1] g a len cap zs w6.drew cu6d (HR.out _ gr6d) (by simp) (by simp)
    simp only [List.map_cons, List.map_nil, List.length_cons, List.length_nil, Nat.zero_add, Nat.reduceAdd] at e1
    have d0 : w6.drew.cell? ⟨w1.heap.size, 0, none⟩ = some (.slice (some ⟨go, 0, none⟩) d.bins.length cv) := E6d.cell 0
    have d0a : (w6.drew.alloc (.cells #[.int .i64 (-2), .int .i64 4, .int .i64 3, .int .i64 (-1)] 3)).cell? ⟨w1.heap.size, 0, none⟩ = some (.slice (some ⟨go, 0, none⟩) d.bins.length cv) := (E6d.alloc _).cell 0
    have hgo := HNE.out go rfl
    have e2 : Calls Tryz.prog 92 #[.pointer (some ⟨g, 0, none⟩), .slice (some ⟨w6.heap.size, 0, none⟩) 4 4] (w6.alloc (.cells #[.int .i64 (-2), .int .i64 4, .int .i64 3, .int .i64 (-1)] 3)).drew fun e w' => ∃ x : Int, e = .returned (.int .i64 x) ∧ x ∈ [-2, 4, 3, -1] ∧ IsCur w' g a len cap ∧ w6.drew.grownBy w' (some g) := e1
    clear e1
    go_wp2
    go_region_law (first
      | (refine step_wp rfl ?_; unfold Oper.wp; go_simp; go_at_call 92; refine e2.mono ?_; clear e2; rintro e w7 ⟨y, rfl, -, cu7, h7⟩; have E7 := E6d.kept h7 (by intro e; injection e; omega); have ow7 := own_curW ow6d (by omega) h7; have d7 : w7.cell? ⟨w1.heap.size, 0, none⟩ = some (.slice (some ⟨go, 0, none⟩) d.bins.length cv) := E7.cell 0; obtain ⟨old, hold⟩ : ∃ old, w7.cell? ⟨go, 0, none⟩ = some old := ⟨_, (ow7.cellAt 0 (by omega)).trans (List.getElem?_eq_getElem (by simp; omega))⟩; have f7 : w7.frozen? ⟨go, 0, none⟩ = false := ow7.frozenAt 0))
    all_goals
      have gr7 := grown_trans gr6d h7
      have R7 := R6d.kept h7 (by intro e; injection e; omega)
      have ow8 := (ow7.stored 0 (.int .i64 y)).1
      have R8 := R7.setCell_other ⟨go, 0, none⟩ (.int .i64 y) (by simp; omega)
      have E8 := E7.setCell_other ⟨go, 0, none⟩ (.int .i64 y) (by simp; omega)
      have cu8 := cu7.cellW (p := go) 0 (.int .i64 y) (by omega)
      have gr8 := grown_cell gr7 (p := go) (k := 0) (by omega) (.int .i64 y)
      have ow9 : (w7.setCell ⟨go, 0, none⟩ (.int .i64 y)).ownsRow (w.heap.size + 2) 3 1 (.slice (some ⟨go, 0, none⟩) d.bins.length cv) (d.bins.set 0 y).length ((d.bins.set 0 y).map (Value.int .i64)) := by rw [List.length_set, List.map_set]; exact ow8
      clear ow8 R7 E7 ow7 cu7 gr7 h7 q0 d0 d0a d7 hold f7 E6 R6 ow6 cu6 gr6 E6d R6d ow6d cu6d gr6d
      go_wp2_with (first | (with_reducible refine wp_ex_load rfl _ rfl ?_; refine ⟨_, rfl, _, _, E8, ?_⟩) | (with_reducible refine wp_ex_store rfl _ _ rfl ?_; refine ⟨_, rfl, _, _, _, _, rfl, _, _, R8, ?_⟩))
      exact bodyPost_ret (res_ex rfl _ _ _ _ _ rfl (R8.setRow _)) rfl ⟨_, ⟨d.bins.set 0 y, d.cls⟩, rfl, ⟨_, rfl, own_base (own_setRow ow9 _ _ (by omega)) (by omega)⟩, (show (d.bins.set 0 y).length ≤ 7 by rw [List.length_set]; omega), cu8.rowW _ (by omega), grown_row gr8 (by omega) _⟩
  have b2 : ((t : Int) == 2) = false := by rw [beq_eq_false_iff_ne]; omega
  clear t0 t1 t2
  go_wp2_with (first | (with_reducible refine wp_ex_load rfl _ rfl ?_; refine ⟨_, rfl, _, _, E6, ?_⟩) | (with_reducible refine wp_ex_store rfl _ _ rfl ?_; refine ⟨_, rfl, _, _, _, _, rfl, _, _, R6, ?_⟩))
  exact bodyPost_ret (res_ex rfl _ _ _ _ _ rfl (R6.setRow _)) rfl ⟨_, ⟨d.bins, d.cls⟩, rfl, ⟨_, rfl, own_base (own_setRow ow6 _ _ (by omega)) (by omega)⟩, (show d.bins.length ≤ 7 by omega), cu6.rowW _ (by omega), grown_row gr6 (by omega) _⟩
end Go.Proofs.YtfekcckckmhioaaGreatDoor
/- In a region that draws its order: what may be taken first, what comes next. -/
namespace Go.Proofs.YtfekcckckmhioaaGreatDoor
open Go.RowKit
set_option maxRecDepth 100000

section
variable {Pr : Program} {ops : Array Oper} {Q : Exit → Act → World → Prop} {md : Region.Mode} {S : World → Prop}
/-- An operation that may come up now is taken first; it is read off the list, so that it stands written out. -/
theorem takeL (i : Nat) {oi : Oper} (v : Value) {fuel : Nat} {listed : Array Bool} {a : Act} {w : World} (hi : ops.toList[i]? = some oi)
    (hs : Region.noSelect ops = true) (hf : Region.free md ops listed i = true) (hr : (Region.ready md ops listed).contains i = true)
    (hQ : ∀ c a w, Q (.panic c) (a.put oi.dst v) w → Q (.panic c) a w) (hy : YieldsIf Pr ops S oi v a) (hS : S w)
    (h : wpAnyH Pr md ops Q S fuel (listed.setIfInBounds i true) (a.put oi.dst v) w) : wpAnyH Pr md ops Q S (fuel + 1) listed a w :=
  wpAnyH_take (by simpa using hi) hs hf hr hQ hy hS h
/-- The one operation that may come up now. -/
theorem nextL (i : Nat) {oi : Oper} {fuel : Nat} {listed : Array Bool} {a : Act} {w : World} (hi : ops.toList[i]? = some oi) (hr : Region.ready md ops listed = [i])
    (hw : Region.wanted oi (yielded ops a.tmps) = true)
    (h : ∀ K' : Act → World → Prop, (∀ a w, S w → (S w → wpAnyH Pr md ops Q S fuel (listed.setIfInBounds i true) a w) → K' a w) → Oper.wp Pr oi a w K' Q) : wpAnyH Pr md ops Q S (fuel + 1) listed a w := by
  refine wpAnyH_ready hr (by simp) (AllReadyH.cons (o := oi) (by simpa using hi) (fun K hK => ?_) AllReadyH.nil)
  rw [if_pos hw]
  exact h K hK.out
/-- Two may come up now, in either order. -/
theorem next2L (i j : Nat) {oi oj : Oper} {fuel : Nat} {listed : Array Bool} {a : Act} {w : World} (hi : ops.toList[i]? = some oi) (hj : ops.toList[j]? = some oj) (hr : Region.ready md ops listed = [i, j])
    (hw : Region.wanted oi (yielded ops a.tmps) = true) (hw2 : Region.wanted oj (yielded ops a.tmps) = true)
    (h : ∀ K' : Act → World → Prop, (∀ a w, S w → (S w → wpAnyH Pr md ops Q S fuel (listed.setIfInBounds i true) a w) → K' a w) → Oper.wp Pr oi a w K' Q)
    (h2 : ∀ K' : Act → World → Prop, (∀ a w, S w → (S w → wpAnyH Pr md ops Q S fuel (listed.setIfInBounds j true) a w) → K' a w) → Oper.wp Pr oj a w K' Q) : wpAnyH Pr md ops Q S (fuel + 1) listed a w := by
  refine wpAnyH_ready hr (by simp) (AllReadyH.cons (o := oi) (by simpa using hi) (fun K hK => ?_) (AllReadyH.cons (o := oj) (by simpa using hj) (fun K hK => ?_) AllReadyH.nil))
  · rw [if_pos hw]
    exact h K hK.out
  · rw [if_pos hw2]
    exact h2 K hK.out
end

section
variable {ops : Array Oper} {S : World → Prop} {op : Oper} {a : Act}
/-- The load of one integer. -/
theorem yields_int (hw : Region.wanted op (yielded ops a.tmps) = true) (x : Operand) (ho : op.op = .load 3 x) (p : Addr) (hx : a.eval x = .pointer (some p)) (n : Int)
    (hS : ∀ w, S w → w.cell? p = some (.int .i64 n)) : YieldsIf Tryz.prog ops S op (.int .i64 n) a :=
  .inl ⟨hw, fun w hw' => by
    have h := hS w hw'
    unfold execOp
    simp only [ho, hx]
    go_simp⟩
/-- A quotient. -/
theorem yields_quo (hw : Region.wanted op (yielded ops a.tmps) = true) (x y : Operand) (ho : op.op = .binOp .quo 3 x y 3) (m n : Int) (hx : a.eval x = .int .i64 m) (hy : a.eval y = .int .i64 n)
    (h0 : 0 ≤ m) (h1 : m ≤ 9223372036854775807) (h2 : 0 < n) : YieldsIf Tryz.prog ops S op (.int .i64 (m / n)) a :=
  .inl ⟨hw, fun w hw' => by
    have hle : m / n ≤ m := Int.ediv_le_self _ h0
    have hge : 0 ≤ m / n := Int.ediv_nonneg h0 (by omega)
    unfold execOp
    simp only [ho, hx, hy]
    go_simp
    have e : IntKind.i64.wrap (m.tdiv n) = m / n := by rw [IntKind.wrap_i64, Int.tdiv_eq_ediv_of_nonneg h0]; omega
    rw [if_neg (by omega), e]⟩
/-- Two texts, one behind the other. -/
theorem yields_cat (hw : Region.wanted op (yielded ops a.tmps) = true) (x y : Operand) (ho : op.op = .binOp .add 9 x y 9) (s t : ByteArray) (hx : a.eval x = .string s) (hy : a.eval y = .string t)
    (h : s.size + t.size ≤ 1000000) : YieldsIf Tryz.prog ops S op (.string (s ++ t)) a :=
  .inl ⟨hw, fun w hw' => by
    unfold execOp
    simp only [ho, hx, hy]
    go_simp
    omega⟩
end
end Go.Proofs.YtfekcckckmhioaaGreatDoor
/- In a region that draws its order: the load of a whole struct. -/
namespace Go.Proofs.YtfekcckckmhioaaGreatDoor
open Go.RowKit
set_option maxRecDepth 100000

theorem yields_row {ops : Array Oper} {S : World → Prop} {op : Oper} {a : Act} {T : TypeId} {d : Array Field} {cs : Array Value} (hu : Tryz.prog.underlying T = some (.struct d))
    (hi : (Tryz.prog.info? T).map (·.size) = some cs.size) (hw : Region.wanted op (yielded ops a.tmps) = true) (x : Operand) (ho : op.op = .load T x)
    (g : Nat) (hx : a.eval x = .pointer (some ⟨g, 0, none⟩)) (hS : ∀ w, S w → Blk T w g cs) : YieldsIf Tryz.prog ops S op (.agg cs) a :=
  .inl ⟨hw, fun w hw' => by
    unfold execOp
    simp only [ho, hx, Instr.loadAt, Instr.sureAddr, Sem.run_bind, Sem.run_pure, Result.andThen_ok, run_loadVar_row w g _ T _ _ _ (hS w hw') hu rfl hi]⟩
end Go.Proofs.YtfekcckckmhioaaGreatDoor
/- What the laws on examples draw. -/
namespace Go.Proofs.YtfekcckckmhioaaGreatDoor
open Go.RowKit
set_option maxRecDepth 100000
set_option linter.unusedSimpArgs false
theorem OwnS.rowX {w : World} {b k : Nat} {v : Value} {s : SchemaD} (c : Array Value) (h : OwnS b w v s) (hk : k < b) : OwnS b (w.setRow k c) v s := by
  obtain ⟨va, vc, rfl, h1, h2⟩ := h
  exact ⟨va, vc, rfl, h1.setRow k c hk, own_setRow h2 k c hk⟩
theorem OwnS.baseX {w : World} {b b' : Nat} {v : Value} {s : SchemaD} (h : OwnS b w v s) (hb : b' ≤ b) : OwnS b' w v s := by
  obtain ⟨va, vc, rfl, h1, h2⟩ := h
  exact ⟨va, vc, rfl, h1.base hb, own_base h2 hb⟩
theorem OwnE.rowX {w : World} {b k : Nat} {v : Value} {s : ExD} (c : Array Value) (h : OwnE b w v s) (hk : k < b) : OwnE b (w.setRow k c) v s := by
  obtain ⟨vb, rfl, h1⟩ := h
  exact ⟨vb, rfl, own_setRow h1 k c hk⟩
theorem OwnE.baseX {w : World} {b b' : Nat} {v : Value} {s : ExD} (h : OwnE b w v s) (hb : b' ≤ b) : OwnE b' w v s := by
  obtain ⟨vb, rfl, h1⟩ := h
  exact ⟨vb, rfl, own_base h1 hb⟩
theorem tinyS.okX {d : SchemaD} (h : tinyS d) : okSch d :=
  ⟨by have := h.attrs; omega, fun a ha => (h.each a ha).ok7, by have := h.classes; omega, fun s hs => by have := h.sizes s hs; omega⟩
theorem yields_mvX {ops : Array Oper} {S : World → Prop} {op : Oper} {a : Act} (hw : Region.wanted op (yielded ops a.tmps) = true) (x : Operand) (ho : op.op = .move x) (v : Value) (hx : a.eval x = v) : YieldsIf Tryz.prog ops S op v a :=
  .inl ⟨hw, fun w _ => by unfold execOp; simp only [ho, hx]; go_simp⟩
theorem res_se {fn : Func} {p q : Tmp} (h : fn.results = #[.cell p 35, .cell q 30]) (tmps : Array Value) (w : World) (g k : Nat) (c0 c1 d0 d1 : Value)
    (hp : tmps.getD p undef = .pointer (some ⟨g, 0, none⟩)) (hq : tmps.getD q undef = .pointer (some ⟨k, 0, none⟩)) (hg : Blk 35 w g #[c0, c1]) (hk : Blk 30 w k #[d0, d1]) : (results fn tmps).run Tryz.prog w = .ok (.tuple #[.agg #[c0, c1], .agg #[d0, d1]]) w := by
  have hp' : tmps[p]?.getD undef = .pointer (some ⟨g, 0, none⟩) := by simpa using hp
  have hq' : tmps[q]?.getD undef = .pointer (some ⟨k, 0, none⟩) := by simpa using hq
  simp [results, h, hp', hq', asAddr, run_loadVar_row w g _ 35 _ _ _ hg Tryz.underlying35 rfl sch_size, run_loadVar_row w k _ 30 _ _ _ hk Tryz.underlying30 rfl ex_size]
set_option maxHeartbeats 3200000 in
theorem drawExOk_any (a : Option Addr) (len cap : Nat) (zs : List Int) (w : World) (hr : IsRow .u8 w a len cap zs) (hn : len ≤ 1048576) :
    Calls Tryz.prog 40 #[.slice a len cap] w fun e w' => ∃ vs d ve x, e = .returned (.tuple #[vs, ve]) ∧ OwnS w.heap.size w' vs d ∧ tinyS d ∧ OwnE w.heap.size w' ve x ∧ x.bins.length ≤ 7 ∧ Below w.heap.size w w' := by
  obtain ⟨R1, Q1, B1⟩ := blk_2 35 30 w #[.slice none 0 0, .slice none 0 0] #[.slice none 0 0, .int .i64 0]
  have e1 := l1New_any a len cap zs ((w.alloc (.cells #[.slice none 0 0, .slice none 0 0] 35)).alloc (.cells #[.slice none 0 0, .int .i64 0] 30)) (hr.later B1) hn
  have HR1 := hr.later B1
  rw [show ((w.alloc (.cells #[.slice none 0 0, .slice none 0 0] 35)).alloc (.cells #[.slice none 0 0, .int .i64 0] 30)).heap.size = w.heap.size + 2 by simp] at e1
  clear hr
  go_enter Tryz.func40, Tryz.ntmps40
  go_wp2_with fail
  refine e1.mono ?_
  clear e1
  rintro e w2 ⟨rfl, c2, hb2, -⟩
  have hr2 := HR1.later (hb2.mono (by simp))
  have R2 := R1.below (hb2.mono (by simp))
  have Q2 := Q1.below (hb2.mono (by simp))
  have B2 : Below w.heap.size w w2 := B1.trans (hb2.mono (by omega))
  have hg2 := c2.lt
  clear HR1 R1 Q1 B1 hb2
  go_wp2_with fail
  refine (draw5_any (w.heap.size + 2) a len cap zs w2 c2 hr2).mono ?_
  rintro e w3 ⟨v, d, rfl, os, htn, c3, h3⟩
  have R3 := R2.kept h3 (by intro e; injection e; omega)
  have Q3 := Q2.kept h3 (by intro e; injection e; omega)
  have B3 : Below w.heap.size w w3 := B2.grown h3 B2.size (fun k hk => by injection hk; omega)
  have hr3 := hr2.aside c2 h3
  have HTN : Hid (tinyS d) := htn
  clear h3 c2 R2 Q2 B2 hr2 htn
  obtain ⟨y1, y2, rfl, rr1, rr2⟩ := id os.at
  obtain ⟨oa, ka, rfl, -, -⟩ := id rr1
  obtain ⟨oc, kc, rfl, -, -⟩ := id rr2
  clear rr1 rr2
  obtain ⟨P3, BP⟩ := blk_1 35 w3 #[.slice oa d.attrs.length ka, .slice oc d.classes.length kc]
  have R4 := R3.below BP
  have Q4 := Q3.below BP
  have os4 := os.below7 BP
  have c4 := c3.kept (grown_of_below BP none) (by intro e; cases e)
  have hr4 := hr3.later BP
  have B4 := B3.trans (BP.mono B3.size)
  have hp : w.heap.size + 2 < w3.heap.size := by have := c3.lt; omega
  clear R3 Q3 os c3 hr3 B3 BP
  go_wp2_with fail
  refine wp_region_held_drew (S := fun w' => Blk 35 w' w3.heap.size #[.slice oa d.attrs.length ka, .slice oc d.classes.length kc] ∧ (∃ c0 c1, Blk 35 w' w.heap.size #[c0, c1]) ∧ ∃ c0 c1, Blk 30 w' (w.heap.size + 1) #[c0, c1]) (by kernel_rfl) ⟨P3, ⟨_, _, R4⟩, _, _, Q4⟩ ?_
  intro hS
  have R5 : Blk 35 (w3.alloc (.cells #[.slice oa d.attrs.length ka, .slice oc d.classes.length kc] 35)).drew w.heap.size #[.slice none 0 0, .slice none 0 0] := R4
  have Q5 : Blk 30 (w3.alloc (.cells #[.slice oa d.attrs.length ka, .slice oc d.classes.length kc] 35)).drew (w.heap.size + 1) #[.slice none 0 0, .int .i64 0] := Q4
  have P5 : Blk 35 (w3.alloc (.cells #[.slice oa d.attrs.length ka, .slice oc d.classes.length kc] 35)).drew w3.heap.size #[.slice oa d.attrs.length ka, .slice oc d.classes.length kc] := P3
  have bd : Below (w3.alloc (.cells #[.slice oa d.attrs.length ka, .slice oc d.classes.length kc] 35)).heap.size (w3.alloc (.cells #[.slice oa d.attrs.length ka, .slice oc d.classes.length kc] 35)) (w3.alloc (.cells #[.slice oa d.attrs.length ka, .slice oc d.classes.length kc] 35)).drew := below_drewN (Below.refl _ _) 1
  have os5 := os4.below7 bd
  have c5 := c4.kept (grown_of_below bd none) (by intro e; cases e)
  have hr5 := hr4.later bd
  have B5 := B4.trans (bd.mono B4.size)
  clear R4 Q4 P3 os4 c4 hr4 B4 bd
  generalize (w3.alloc (.cells #[.slice oa d.attrs.length ka, .slice oc d.classes.length kc] 35)).drew = W at hS R5 Q5 P5 os5 c5 hr5 B5
  refine takeL 0 (.agg #[.slice oa d.attrs.length ka, .slice oc d.classes.length kc]) rfl (by kernel_rfl) (by kernel_rfl) (by kernel_rfl) (fun _ _ _ h => h) (yields_row Tryz.underlying35 (by kernel_rfl) (by rfl) _ rfl _ rfl (fun _ h => h.1)) hS ?_
  simp only [Act.put, List.setIfInBounds_toArray, List.set_cons_zero, List.set_cons_succ]
  refine takeL 1 (.pointer (some ⟨w.heap.size + 2, 0, none⟩)) rfl (by kernel_rfl) (by kernel_rfl) (by kernel_rfl) (fun _ _ _ h => h) (yields_mvX (by rfl) _ rfl _ rfl) hS ?_
  simp only [Act.put, List.setIfInBounds_toArray, List.set_cons_zero, List.set_cons_succ]
  refine takeL 2 (.agg #[.slice oa d.attrs.length ka, .slice oc d.classes.length kc]) rfl (by kernel_rfl) (by kernel_rfl) (by kernel_rfl) (fun _ _ _ h => h) (yields_row Tryz.underlying35 (by kernel_rfl) (by rfl) _ rfl _ rfl (fun _ h => h.1)) hS ?_
  simp only [Act.put, List.setIfInBounds_toArray, List.set_cons_zero, List.set_cons_succ]
  refine nextL 3 rfl (by kernel_rfl) (by rfl) fun K hK => ?_
  have dd := draw7_any (w.heap.size + 2) a len cap zs _ d w2.heap.size W c5 hr5 os5 hg2 HTN.out
  go_simp
  refine dd.mono ?_
  rintro e w5 ⟨v5, x, rfl, ⟨vb, rfl, oE⟩, hxl, c6, h6⟩
  obtain ⟨ob, kb, rfl⟩ := own_slice oE
  have R6 := R5.kept h6 (by intro e; injection e; omega)
  have Q6 := Q5.kept h6 (by intro e; injection e; omega)
  have P6 := P5.kept h6 (by intro e; injection e; omega)
  have os6 := os5.curW7 hg2 h6
  have B6 : Below w.heap.size w w5 := B5.grown h6 B5.size (fun k hk => by injection hk; omega)
  have hWl := P5.lt
  refine hK _ _ ⟨P6, ⟨_, _, R6⟩, _, _, Q6⟩ ?_
  clear hK K dd hS R5 Q5 P5 os5 B5 h6 c5 c6 hr5
  intro hS
  refine nextL 4 rfl (by kernel_rfl) (by rfl) fun K hK => ?_
  refine wp_store_row 35 _ _ rfl w.heap.size #[.slice oa d.attrs.length ka, .slice oc d.classes.length kc] rfl rfl _ _ R6 sch_size rfl (by simp [Value.oneCell']) ?_
  have P7 := P6.setRow_other #[.slice oa d.attrs.length ka, .slice oc d.classes.length kc] (show w3.heap.size ≠ w.heap.size by omega)
  have R7 := R6.setRow #[.slice oa d.attrs.length ka, .slice oc d.classes.length kc]
  have Q7 := Q6.setRow_other #[.slice oa d.attrs.length ka, .slice oc d.classes.length kc] (show w.heap.size + 1 ≠ w.heap.size by omega)
  have os7 := os6.rowX #[.slice oa d.attrs.length ka, .slice oc d.classes.length kc] (show w.heap.size < w2.heap.size by omega)
  have oE7 := own_setRow oE w.heap.size #[.slice oa d.attrs.length ka, .slice oc d.classes.length kc] (by omega)
  have B7 := below_row B6 (Nat.le_refl _) #[.slice oa d.attrs.length ka, .slice oc d.classes.length kc]
  refine hK _ _ ⟨P7, ⟨_, _, R7⟩, _, _, Q7⟩ ?_
  clear hK K hS P6 R6 Q6 os6 oE B6
  intro hS
  refine nextL 5 rfl (by kernel_rfl) (by rfl) fun K hK => ?_
  refine wp_store_row 30 _ _ rfl (w.heap.size + 1) #[.slice ob x.bins.length kb, .int .i64 x.cls] rfl rfl _ _ Q7 ex_size rfl (by simp [Value.oneCell']) ?_
  have P8 := P7.setRow_other #[.slice ob x.bins.length kb, .int .i64 x.cls] (show w3.heap.size ≠ w.heap.size + 1 by omega)
  have R8 := R7.setRow_other #[.slice ob x.bins.length kb, .int .i64 x.cls] (show w.heap.size ≠ w.heap.size + 1 by omega)
  have Q8 := Q7.setRow #[.slice ob x.bins.length kb, .int .i64 x.cls]
  have os8 := os7.rowX #[.slice ob x.bins.length kb, .int .i64 x.cls] (show w.heap.size + 1 < w2.heap.size by omega)
  have oE8 := own_setRow oE7 (w.heap.size + 1) #[.slice ob x.bins.length kb, .int .i64 x.cls] (by omega)
  have B8 := below_row B7 (show w.heap.size ≤ w.heap.size + 1 by omega) #[.slice ob x.bins.length kb, .int .i64 x.cls]
  refine hK _ _ ⟨P8, ⟨_, _, R8⟩, _, _, Q8⟩ ?_
  clear hK K hS P7 R7 Q7 os7 oE7 B7
  intro hS
  clear hS
  refine wpAnyH_done (by kernel_rfl) ?_ _
  go_wp2
  exact bodyPost_ret (res_se rfl _ _ _ _ _ _ _ _ rfl rfl R8 Q8) rfl ⟨_, d, _, x, rfl, os8.baseX (by omega), HTN.out, ⟨_, rfl, own_base oE8 (by omega)⟩, hxl, B8⟩
set_option maxHeartbeats 1600000 in
theorem drawExText_any (a : Option Addr) (len cap : Nat) (zs : List Int) (w : World) (hr : IsRow .u8 w a len cap zs) (hn : len ≤ 1048576) :
    Calls Tryz.prog 18 #[.slice a len cap] w fun e w' => ∃ vs d ve x, e = .returned (.tuple #[vs, ve]) ∧ OwnS w.heap.size w' vs d ∧ tinyS d ∧ OwnE w.heap.size w' ve x ∧ x.bins.length ≤ 7 ∧ Below w.heap.size w w' := by
  obtain ⟨R1, Q1, B1⟩ := blk_2 35 30 w #[.slice none 0 0, .slice none 0 0] #[.slice none 0 0, .int .i64 0]
  have e1 := drawExOk_any a len cap zs ((w.alloc (.cells #[.slice none 0 0, .slice none 0 0] 35)).alloc (.cells #[.slice none 0 0, .int .i64 0] 30)) (hr.later B1) hn
  clear hr
  go_enter Tryz.func18, Tryz.ntmps18
  go_wp2_with fail
  refine e1.mono ?_
  clear e1
  rintro e w2 ⟨vs, d, ve, x, rfl, os, htn, ⟨vb, rfl, oE⟩, hxl, hb2⟩
  have R2 := R1.below hb2
  have Q2 := Q1.below hb2
  have B2 := B1.trans (hb2.mono B1.size)
  have os2 := os.baseX (b' := w.heap.size + 2) (by simp)
  have oE2 := own_base oE (b' := w.heap.size + 2) (by simp)
  clear R1 Q1 B1 hb2 os oE
  obtain ⟨y1, y2, rfl, rr1, rr2⟩ := id os2.at
  obtain ⟨oa, ka, rfl, -, -⟩ := id rr1
  obtain ⟨oc, kc, rfl, -, -⟩ := id rr2
  obtain ⟨ob, kb, rfl⟩ := own_slice oE2
  clear rr1 rr2
  have R3 := R2.setRow #[.slice oa d.attrs.length ka, .slice oc d.classes.length kc]
  have Q3 := Q2.setRow_other #[.slice oa d.attrs.length ka, .slice oc d.classes.length kc] (show w.heap.size + 1 ≠ w.heap.size by omega)
  have os3 := os2.rowX #[.slice oa d.attrs.length ka, .slice oc d.classes.length kc] (show w.heap.size < w.heap.size + 2 by omega)
  have oE3 := own_setRow oE2 w.heap.size #[.slice oa d.attrs.length ka, .slice oc d.classes.length kc] (by omega)
  have B3 := below_row B2 (Nat.le_refl _) #[.slice oa d.attrs.length ka, .slice oc d.classes.length kc]
  have R4 := R3.setRow_other #[.slice ob x.bins.length kb, .int .i64 x.cls] (show w.heap.size ≠ w.heap.size + 1 by omega)
  have Q4 := Q3.setRow #[.slice ob x.bins.length kb, .int .i64 x.cls]
  have os4 := os3.rowX #[.slice ob x.bins.length kb, .int .i64 x.cls] (show w.heap.size + 1 < w.heap.size + 2 by omega)
  have oE4 := own_setRow oE3 (w.heap.size + 1) #[.slice ob x.bins.length kb, .int .i64 x.cls] (by omega)
  have B4 := below_row B3 (show w.heap.size ≤ w.heap.size + 1 by omega) #[.slice ob x.bins.length kb, .int .i64 x.cls]
  clear os2 os3 oE2 oE3 B2 B3
  go_wp2_with (first | (with_reducible refine wp_sc_store rfl _ _ rfl ?_; refine ⟨_, rfl, _, _, _, _, _, _, rfl, _, _, R2, ?_⟩) | (with_reducible refine wp_ex_store rfl _ _ rfl ?_; refine ⟨_, rfl, _, _, _, _, rfl, _, _, Q3, ?_⟩))
  exact bodyPost_ret (res_se rfl _ _ _ _ _ _ _ _ rfl rfl R4 Q4) rfl ⟨_, d, _, x, rfl, os4.baseX (by omega), htn, ⟨_, rfl, own_base oE4 (by omega)⟩, hxl, B4⟩
end Go.Proofs.YtfekcckckmhioaaGreatDoor
