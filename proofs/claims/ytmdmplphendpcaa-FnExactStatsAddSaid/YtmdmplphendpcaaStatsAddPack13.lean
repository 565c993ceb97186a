/- Texts of this claim, put together: part 13. -/
import Derived.Test.YtmdmplphendpcaaStatsAddPack3
import Derived.Test.YtmdmplphendpcaaStatsAddPack5
import Derived.Test.YtmdmplphendpcaaStatsAddPack12
import Derived.Test.YtmdmplphendpcaaStatsAddPack6
import Derived.Test.YtmdmplphendpcaaStatsAddPack7
import Derived.Test.YtmdmplphendpcaaRows
import Derived.WalkKit
import Derived.ProofKit
import Derived.OpenShut
/- What the laws' own helpers do with an example that came in: its size, a copy of it, two held against each other. -/
namespace Go.Proofs.Ytmdmplphendpcaa
open Go.RowKit
set_option maxRecDepth 100000
set_option maxHeartbeats 800000 in
theorem toEx_row (v : Value) (a : ExD) (w : World) (h : ExAt w v a) (hn : a.bins.length ≤ 1048576) :
    Calls Try.prog 35 #[v] w fun e w' => ∃ v', e = .returned v' ∧ OwnE w.heap.size w' v' a ∧ Below w.heap.size w w' := by
  obtain ⟨vc, rfl, hc⟩ := h
  have HC : Hid (RowI w vc a.bins) := hc
  clear hc
  go_enter Try.func35, Try.ntmps35
  go_wp2_with fail
  obtain ⟨K1, K2, K3, B0⟩ := blk_3 61 33 33 w #[vc, .int .i64 a.cls] #[.slice none 0 0, .int .i64 0] #[.slice none 0 0, .int .i64 0]
  refine (toI_row vc a.bins _ (HC.out.later B0) hn).mono ?_
  rintro e w1 ⟨g1, rfl, ho1, hb1⟩
  replace K1 := K1.below hb1
  replace K2 := K2.below hb1
  replace K3 := K3.below hb1
  have hsz := hb1.size
  simp at hsz
  have ho1 := own_base ho1 (b' := w.heap.size + 3) (by simp)
  have B1 : Below w.heap.size w w1 := B0.trans (hb1.mono (by simp; omega))
  clear hb1 B0
  have c3 : w1.cell? ⟨w.heap.size + 1 + 1, 0, none⟩ = some (.slice none 0 0) := K3.cell 0
  have c31 : w1.cell? ⟨w.heap.size + 1 + 1, 1, none⟩ = some (.int .i64 0) := K3.cell 1
  have f3 := K3.frozen 0
  have f31 := K3.frozen 1
  have S1 := K1.setCell_other ⟨w.heap.size + 1 + 1, 0, none⟩ (.slice (some ⟨g1, 0, none⟩) a.bins.length a.bins.length) (by simp; omega)
  have S2 := K2.setCell_other ⟨w.heap.size + 1 + 1, 0, none⟩ (.slice (some ⟨g1, 0, none⟩) a.bins.length a.bins.length) (by simp)
  have S3 := K3.setCell 0 (.slice (some ⟨g1, 0, none⟩) a.bins.length a.bins.length)
  have B2 : Below w.heap.size w (w1.setCell ⟨w.heap.size + 1 + 1, 0, none⟩ (.slice (some ⟨g1, 0, none⟩) a.bins.length a.bins.length)) := B1.setCell (p := ⟨w.heap.size + 1 + 1, 0, none⟩) (by simp; omega) _
  have O1 := own_setCell ho1 ⟨w.heap.size + 1 + 1, 0, none⟩ (.slice (some ⟨g1, 0, none⟩) a.bins.length a.bins.length) (by simp)
  have cS : (w1.setCell ⟨w.heap.size + 1 + 1, 0, none⟩ (.slice (some ⟨g1, 0, none⟩) a.bins.length a.bins.length)).cell? ⟨w.heap.size, 1, none⟩ = some (.int .i64 a.cls) := S1.cell 1
  have cT : (w1.setCell ⟨w.heap.size + 1 + 1, 0, none⟩ (.slice (some ⟨g1, 0, none⟩) a.bins.length a.bins.length)).cell? ⟨w.heap.size + 1 + 1, 1, none⟩ = some (.int .i64 0) := S3.cell 1
  have fT := S3.frozen 1
  have T2 := S2.setCell_other ⟨w.heap.size + 1 + 1, 1, none⟩ (.int .i64 a.cls) (by simp)
  have T3 := S3.setCell 1 (.int .i64 a.cls)
  have B3 := B2.setCell (p := ⟨w.heap.size + 1 + 1, 1, none⟩) (by simp; omega) (.int .i64 a.cls)
  have O2 := own_setCell O1 ⟨w.heap.size + 1 + 1, 1, none⟩ (.int .i64 a.cls) (by simp)
  have HT : Hid (Below w.heap.size w ((w1.setCell ⟨w.heap.size + 1 + 1, 0, none⟩ (.slice (some ⟨g1, 0, none⟩) a.bins.length a.bins.length)).setCell ⟨w.heap.size + 1 + 1, 1, none⟩ (.int .i64 a.cls)) ∧ ((w1.setCell ⟨w.heap.size + 1 + 1, 0, none⟩ (.slice (some ⟨g1, 0, none⟩) a.bins.length a.bins.length)).setCell ⟨w.heap.size + 1 + 1, 1, none⟩ (.int .i64 a.cls)).ownsRow (w.heap.size + 3) 3 1 (.slice (some ⟨g1, 0, none⟩) a.bins.length a.bins.length) a.bins.length (a.bins.map (Value.int .i64))) := ⟨B3, O2⟩
  have HT2 : Hid (Blk 33 ((w1.setCell ⟨w.heap.size + 1 + 1, 0, none⟩ (.slice (some ⟨g1, 0, none⟩) a.bins.length a.bins.length)).setCell ⟨w.heap.size + 1 + 1, 1, none⟩ (.int .i64 a.cls)) (w.heap.size + 1) #[.slice none 0 0, .int .i64 0] ∧ Blk 33 ((w1.setCell ⟨w.heap.size + 1 + 1, 0, none⟩ (.slice (some ⟨g1, 0, none⟩) a.bins.length a.bins.length)).setCell ⟨w.heap.size + 1 + 1, 1, none⟩ (.int .i64 a.cls)) (w.heap.size + 1 + 1) #[.slice (some ⟨g1, 0, none⟩) a.bins.length a.bins.length, .int .i64 a.cls]) := ⟨T2, T3⟩
  clear K1 K2 K3 S1 S2 S3 B2 O1 ho1 B1 T2 T3 B3 O2
  go_wp2_with (first | (with_reducible refine wp_ex_load rfl _ rfl ?_; refine ⟨_, rfl, _, _, HT2.out.2, ?_⟩) | (with_reducible refine wp_ex_store rfl _ _ rfl ?_; refine ⟨_, rfl, _, _, _, _, rfl, _, _, HT2.out.1, ?_⟩))
  refine bodyPost_ret (res_ex Try.results35 _ _ _ _ _ rfl (HT2.out.1.setRow _)) rfl ⟨_, rfl, ⟨_, rfl, ?_⟩, ?_⟩
  · exact own_base (own_setRow HT.out.2 _ _ (by omega)) (by omega)
  · exact below_row HT.out.1 (by omega) _

set_option maxHeartbeats 400000 in
theorem szEx_row (v : Value) (a : ExD) (left : Int) (w : World) (h : ExAt w v a) (hn : inE a) (h0 : 0 ≤ left) (h1 : left ≤ 1048576) :
    Calls Try.prog 34 #[v, .int .i64 left] w fun e w' => ∃ r : Int, e = .returned (.int .i64 r) ∧ ((0 ≤ r ∧ r ≤ left ∧ fitE a) ∨ r = -1) ∧ Below w.heap.size w w' := by
  obtain ⟨vc, rfl, hc⟩ := h
  obtain ⟨oc, cc, rfl, hcc, hcr⟩ := hc
  have HO : Hid (inE a) := hn
  clear hcr hn
  go_enter Try.func34, Try.ntmps34
  go_wp2_with fail
  obtain ⟨K, B0⟩ := blk_1 61 w #[.slice oc a.bins.length cc, .int .i64 a.cls]
  refine (szI_any oc a.bins.length cc _ _ HO.out.bins h0 h1).mono ?_
  rintro e w1 ⟨r, rfl, hr, hb1⟩
  have B1 := B0.trans (hb1.mono (by simp))
  clear K B0 hb1
  rcases hr with ⟨r0, r1, r2⟩ | rfl
  · go_wp2
    go_ret
    exact ⟨_, rfl, .inl ⟨r0, r1, ⟨by omega⟩⟩, B1⟩
  · go_wp2
    go_ret
    exact ⟨_, rfl, .inr rfl, B1⟩
end Go.Proofs.Ytmdmplphendpcaa
/- An example that comes in to a law: what its reading says of its cells. -/
namespace Go.Proofs.Ytmdmplphendpcaa
open Go.ChangeShapes Go.WideShapes Go.ChangeAt Go.RowKit Go.Deep
set_option maxRecDepth 100000
theorem ex_cells : Try.prog.cellsOf 61 = 2 := by kernel_rfl
theorem open_ex {H : Type} {enc : TypeId × Value → H} {W : World} {r : Reach} {b0 base : Nat} {hd : Bool} {v : Value} {d : DataW H} {ps : List MemPlace}
    (hval : Value.okWide Try.prog W r b0 61 v) (h : DataW.Trod enc Try.prog W base (fun _ => true) hd 61 v d ps) : ∃ a : ExD, ExAt W v a ∧ inE a := by
  obtain ⟨cs, rfl, hs⟩ := okWide_struct Try.underlying61 hval
  obtain ⟨fuel, hf⟩ := h
  obtain ⟨y0, y1, n, -, hl, t0, t1⟩ := trod_struct2 Try.underlying61 hf
  rw [ex_cells] at hl
  obtain ⟨l⟩ := cs
  simp [Value.cells] at hl t0 t1
  match l, hl with
  | [c0, c1], _ =>
    obtain ⟨vb, zs, hb, rb, lb⟩ := row_ints t0
    obtain ⟨m, hm, -⟩ := DataW.trod_int Try.underlying3 t1
    simp [cells1_ints, cells1_int] at hb hm
    exact ⟨⟨zs, m⟩, ⟨vb, by rw [hb, hm], rb⟩, ⟨lb⟩⟩
end Go.Proofs.Ytmdmplphendpcaa
/- What the laws' own helpers write over the list of an example, and look at again. -/
namespace Go.Proofs.Ytmdmplphendpcaa
open Go.RowKit
set_option maxRecDepth 100000
/-- A list of numbers that bears the law's marks from k0 on. -/
def MarkE (base : Nat) (w : World) (vb : Value) (p k0 : Nat) : Prop := ∃ ys, w.ownsRow base 3 1 vb p ys ∧ ∀ j, j < p → ys[j]? = some (mkI ((k0 : Int) + j))
theorem MarkE.below {base : Nat} {w w' : World} {vb : Value} {p k0 : Nat} (h : MarkE base w vb p k0) (hb : Below w.heap.size w w') : MarkE base w' vb p k0 := by
  obtain ⟨ys, h1, h2⟩ := h
  exact ⟨ys, own_below h1 hb, h2⟩
theorem below_grown {n : Nat} {w0 w w' : World} {r : Option Nat} (h : w.grownBy w' r) (hb : Below n w0 w) (hn : n ≤ w.heap.size) (hr : ∀ k, r = some k → n ≤ k) : Below n w0 w' :=
  ⟨h.os.trans hb.os, h.tape.trans hb.tape, h.output.trans hb.output, Nat.le_trans hb.size h.size, fun k hk => (h.block k (by omega) (fun e => by have := hr k e.symm; omega)).trans (hb.block k hk)⟩
set_option maxHeartbeats 400000 in
theorem markEx_any (vb : Value) (c : Int) (p k0 base : Nat) (xs : List Value) (w : World) (hc : w.ownsRow base 3 1 vb p xs) (hp : p ≤ 2097152) (h1 : k0 ≤ 70368744177664) :
    Calls Try.prog 37 #[.agg #[vb, .int .i64 c], .int .i64 (k0 : Int)] w fun e w' => e = .returned (.int .i64 ((k0 : Int) + p)) ∧ MarkE base w' vb p k0 ∧ w.grownBy w' vb.ownBlock := by
  obtain ⟨K, B0⟩ := blk_1 33 w #[vb, .int .i64 c]
  have cI := markI_any p base vb k0 xs _ (by omega) (by omega) (by omega) (own_below hc B0)
  clear hc K
  go_enter Try.func37, Try.ntmps37
  go_wp2_with fail
  refine cI.mono ?_
  rintro e w1 ⟨rfl, ⟨ys, ho1, hys⟩, hg1⟩
  have HY : Hid (MarkE base w1 vb p k0) := ⟨ys, ho1, hys⟩
  clear cI ho1 hys
  go_wp2
  go_ret
  have hz := hg1.size
  rw [World.size_alloc] at hz
  exact ⟨rfl, HY.out, hg1.os, hg1.tape, hg1.output, by omega, fun k hk hr => (hg1.block k (by rw [World.size_alloc]; omega) hr).trans (B0.block k hk)⟩
end Go.Proofs.Ytmdmplphendpcaa
/- A step of a region that draws; a row as a slice. -/
namespace Go.Proofs.Ytmdmplphendpcaa
open Go.RowKit
set_option maxRecDepth 100000
theorem step_wp {P : Program} {ops : Array Oper} {o : Oper} {a : Act} {w : World} {K : Act → World → Prop} {Q : Exit → Act → World → Prop} {E : Prop} (hg : o.guard = none) (h : Oper.wp P o a w K Q) :
    if Region.wanted o (yielded ops a.tmps) = true then Oper.wp P o a w K Q else E := by
  rw [if_pos (by simp [Region.wanted, hg])]; exact h
theorem own_slice {w : World} {b e s n : Nat} {v : Value} {xs : List Value} (h : w.ownsRow b e s v n xs) : ∃ o c, v = .slice o n c := by
  rcases h.2 with ⟨rfl, h0⟩ | ⟨g, cap, cur, rfl, _⟩
  · exact ⟨none, 0, by rw [h0]⟩
  · exact ⟨_, _, rfl⟩
end Go.Proofs.Ytmdmplphendpcaa
