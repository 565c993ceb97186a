/- What the laws' own helpers do with an example that came in: its size, a copy of it, two held against each other. -/
import Derived.Test.YtfekcckckmhioaaVtp
import Derived.Test.YtfekcckckmhioaaVs
import Derived.Test.YtfekcckckmhioaaExr
namespace Go.Proofs.Ytfekcckckmhioaa
open Go.RowKit
set_option maxRecDepth 100000
structure inE (e : ExD) : Prop where
  bins : e.bins.length ≤ 9223372036854775807
structure fitE (e : ExD) : Prop where
  bins : e.bins.length ≤ 1048576
set_option maxHeartbeats 800000 in
theorem toEx_row (v : Value) (a : ExD) (w : World) (h : ExAt w v a) (hn : a.bins.length ≤ 1048576) :
    Calls Try.prog 9 #[v] w fun e w' => ∃ v', e = .returned v' ∧ OwnE w.heap.size w' v' a ∧ Below w.heap.size w w' := by
  obtain ⟨vc, rfl, hc⟩ := h
  have HC : Hid (RowI w vc a.bins) := hc
  clear hc
  go_enter Try.func9, Try.ntmps9
  go_wp2_with fail
  obtain ⟨K1, K2, K3, B0⟩ := blk_3 28 36 36 w #[vc, .int .i64 a.cls] #[.slice none 0 0, .int .i64 0] #[.slice none 0 0, .int .i64 0]
  refine (toI_row vc a.bins _ (HC.out.later B0) hn).mono ?_
  rintro e w1 ⟨g1, rfl, ho1, hb1⟩
  replace K1 := K1.below hb1
  replace K2 := K2.below hb1
  replace K3 := K3.below hb1
  have hsz := hb1.size
  simp at hsz
  have ho1 := own_base ho1 (b' := w.heap.size + 3) (by simp)
  have B1 : Below w.heap.size w w1 := B0.trans (hb1.mono (by simp; omega))
  clear hb1 B0
  have c3 : w1.cell? ⟨w.heap.size + 1 + 1, 0, none⟩ = some (.slice none 0 0) := K3.cell 0
  have c31 : w1.cell? ⟨w.heap.size + 1 + 1, 1, none⟩ = some (.int .i64 0) := K3.cell 1
  have f3 := K3.frozen 0
  have f31 := K3.frozen 1
  have S1 := K1.setCell_other ⟨w.heap.size + 1 + 1, 0, none⟩ (.slice (some ⟨g1, 0, none⟩) a.bins.length a.bins.length) (by simp; omega)
  have S2 := K2.setCell_other ⟨w.heap.size + 1 + 1, 0, none⟩ (.slice (some ⟨g1, 0, none⟩) a.bins.length a.bins.length) (by simp)
  have S3 := K3.setCell 0 (.slice (some ⟨g1, 0, none⟩) a.bins.length a.bins.length)
  have B2 : Below w.heap.size w (w1.setCell ⟨w.heap.size + 1 + 1, 0, none⟩ (.slice (some ⟨g1, 0, none⟩) a.bins.length a.bins.length)) := B1.setCell (p := ⟨w.heap.size + 1 + 1, 0, none⟩) (by simp; omega) _
  have O1 := own_setCell ho1 ⟨w.heap.size + 1 + 1, 0, none⟩ (.slice (some ⟨g1, 0, none⟩) a.bins.length a.bins.length) (by simp)
  have cS : (w1.setCell ⟨w.heap.size + 1 + 1, 0, none⟩ (.slice (some ⟨g1, 0, none⟩) a.bins.length a.bins.length)).cell? ⟨w.heap.size, 1, none⟩ = some (.int .i64 a.cls) := S1.cell 1
  have cT : (w1.setCell ⟨w.heap.size + 1 + 1, 0, none⟩ (.slice (some ⟨g1, 0, none⟩) a.bins.length a.bins.length)).cell? ⟨w.heap.size + 1 + 1, 1, none⟩ = some (.int .i64 0) := S3.cell 1
  have fT := S3.frozen 1
  have T2 := S2.setCell_other ⟨w.heap.size + 1 + 1, 1, none⟩ (.int .i64 a.cls) (by simp)
  have T3 := S3.setCell 1 (.int .i64 a.cls)
  have B3 := B2.setCell (p := ⟨w.heap.size + 1 + 1, 1, none⟩) (by simp; omega) (.int .i64 a.cls)
  have O2 := own_setCell O1 ⟨w.heap.size + 1 + 1, 1, none⟩ (.int .i64 a.cls) (by simp)
  have HT : Hid (Below w.heap.size w ((w1.setCell ⟨w.heap.size + 1 + 1, 0, none⟩ (.slice (some ⟨g1, 0, none⟩) a.bins.length a.bins.length)).setCell ⟨w.heap.size + 1 + 1, 1, none⟩ (.int .i64 a.cls)) ∧ ((w1.setCell ⟨w.heap.size + 1 + 1, 0, none⟩ (.slice (some ⟨g1, 0, none⟩) a.bins.length a.bins.length)).setCell ⟨w.heap.size + 1 + 1, 1, none⟩ (.int .i64 a.cls)).ownsRow (w.heap.size + 3) 3 1 (.slice (some ⟨g1, 0, none⟩) a.bins.length a.bins.length) a.bins.length (a.bins.map (Value.int .i64))) := ⟨B3, O2⟩
  have HT2 : Hid (Blk 36 ((w1.setCell ⟨w.heap.size + 1 + 1, 0, none⟩ (.slice (some ⟨g1, 0, none⟩) a.bins.length a.bins.length)).setCell ⟨w.heap.size + 1 + 1, 1, none⟩ (.int .i64 a.cls)) (w.heap.size + 1) #[.slice none 0 0, .int .i64 0] ∧ Blk 36 ((w1.setCell ⟨w.heap.size + 1 + 1, 0, none⟩ (.slice (some ⟨g1, 0, none⟩) a.bins.length a.bins.length)).setCell ⟨w.heap.size + 1 + 1, 1, none⟩ (.int .i64 a.cls)) (w.heap.size + 1 + 1) #[.slice (some ⟨g1, 0, none⟩) a.bins.length a.bins.length, .int .i64 a.cls]) := ⟨T2, T3⟩
  clear K1 K2 K3 S1 S2 S3 B2 O1 ho1 B1 T2 T3 B3 O2
  go_wp2_with (first | (with_reducible refine wp_ex_load rfl _ rfl ?_; refine ⟨_, rfl, _, _, HT2.out.2, ?_⟩) | (with_reducible refine wp_ex_store rfl _ _ rfl ?_; refine ⟨_, rfl, _, _, _, _, rfl, _, _, HT2.out.1, ?_⟩))
  refine bodyPost_ret (res_ex Try.results9 _ _ _ _ _ rfl (HT2.out.1.setRow _)) rfl ⟨_, rfl, ⟨_, rfl, ?_⟩, ?_⟩
  · exact own_base (own_setRow HT.out.2 _ _ (by omega)) (by omega)
  · exact below_row HT.out.1 (by omega) _

theorem eqEx_row (va vb : Value) (a : ExD) (w : World) (ha : ExAt w va a) (hb : ExAt w vb a) (hn : a.bins.length ≤ 1099511627776) :
    Calls Try.prog 12 #[va, vb] w fun e w' => e = .returned (.bool true) ∧ Below w.heap.size w w' := by
  obtain ⟨ca, rfl, ha1⟩ := ha
  obtain ⟨cb, rfl, hb1⟩ := hb
  have HA : Hid (RowI w ca a.bins ∧ RowI w cb a.bins) := ⟨ha1, hb1⟩
  clear ha1 hb1
  go_enter Try.func12, Try.ntmps12
  go_wp2_with fail
  obtain ⟨K1, K2, B0⟩ := blk_2 36 36 w #[ca, .int .i64 a.cls] #[cb, .int .i64 a.cls]
  obtain ⟨h1, h2⟩ := HA.out
  refine (eqI_row ca cb a.bins _ (h1.later B0) (h2.later B0) hn).mono ?_
  rintro e w1 ⟨rfl, hb1⟩
  have B1 := B0.trans (hb1.mono (by simp; omega))
  have k1 : w1.cell? ⟨w.heap.size, 1, none⟩ = some (.int .i64 a.cls) := (K1.below hb1).cell 1
  have k2 : w1.cell? ⟨w.heap.size + 1, 1, none⟩ = some (.int .i64 a.cls) := (K2.below hb1).cell 1
  clear HA h1 h2 K1 K2 B0 hb1
  go_wp2
  go_ret
  exact ⟨rfl, B1⟩

set_option maxHeartbeats 400000 in
theorem szEx_row (v : Value) (a : ExD) (left : Int) (w : World) (h : ExAt w v a) (hn : inE a) (h0 : 0 ≤ left) (h1 : left ≤ 1048576) :
    Calls Try.prog 6 #[v, .int .i64 left] w fun e w' => ∃ r : Int, e = .returned (.int .i64 r) ∧ ((0 ≤ r ∧ r ≤ left ∧ fitE a) ∨ r = -1) ∧ Below w.heap.size w w' := by
  obtain ⟨vc, rfl, hc⟩ := h
  obtain ⟨oc, cc, rfl, hcc, hcr⟩ := hc
  have HO : Hid (inE a) := hn
  clear hcr hn
  go_enter Try.func6, Try.ntmps6
  go_wp2_with fail
  obtain ⟨K, B0⟩ := blk_1 28 w #[.slice oc a.bins.length cc, .int .i64 a.cls]
  refine (szI_any oc a.bins.length cc _ _ HO.out.bins h0 h1).mono ?_
  rintro e w1 ⟨r, rfl, hr, hb1⟩
  have B1 := B0.trans (hb1.mono (by simp))
  clear K B0 hb1
  rcases hr with ⟨r0, r1, r2⟩ | rfl
  · go_wp2
    go_ret
    exact ⟨_, rfl, .inl ⟨r0, r1, ⟨by omega⟩⟩, B1⟩
  · go_wp2
    go_ret
    exact ⟨_, rfl, .inr rfl, B1⟩
end Go.Proofs.Ytfekcckckmhioaa
