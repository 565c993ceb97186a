/- What the laws' own helpers do with counts as a whole. -/
import Derived.Test.YtmdmplphendpcabShs
import Derived.Test.YtmdmplphendpcabStr
namespace Go.Proofs.Ytmdmplphendpcab
open Go.RowKit
set_option maxRecDepth 100000
set_option linter.unusedSimpArgs false
structure inSt (t : StatsD) : Prop where
  totals : t.totals.length ≤ 9223372036854775807
  cells : t.cells.length ≤ 9223372036854775807
  each : ∀ c ∈ t.cells, c.length ≤ 9223372036854775807
structure fitSt (t : StatsD) : Prop where
  totals : t.totals.length ≤ 1048576
  cells : t.cells.length ≤ 1048576
  each : ∀ c ∈ t.cells, c.length ≤ 1048576
theorem fitSt.ok {t : StatsD} (h : fitSt t) : okSt t := ⟨by have := h.totals; omega, by have := h.cells; omega, fun c hc => by have := h.each c hc; omega⟩
set_option maxHeartbeats 800000 in
theorem toStats_row (v : Value) (a : StatsD) (w : World) (h : StatsAt w v a) (hf : fitSt a) :
    Calls Try.prog 13 #[v] w fun e w' => ∃ v', e = .returned v' ∧ OwnSt w.heap.size w' v' a ∧ Below w.heap.size w w' := by
  obtain ⟨vc, vv, rfl, hc, hv⟩ := h
  have HC : Hid (RowI w vc a.totals) := hc
  have HV : Hid (RowII w vv a.cells) := hv
  clear hc hv
  go_enter Try.func13, Try.ntmps13
  go_wp2_with fail
  obtain ⟨K1, K2, K3, B0⟩ := blk_3 29 37 37 w #[vc, vv] #[.slice none 0 0, .slice none 0 0] #[.slice none 0 0, .slice none 0 0]
  refine (toI_row vc a.totals _ (HC.out.later B0) hf.totals).mono ?_
  rintro e w1 ⟨g1, rfl, ho1, hb1⟩
  replace K1 := K1.below hb1
  replace K2 := K2.below hb1
  replace K3 := K3.below hb1
  have hsz := hb1.size
  simp at hsz
  have ho1 := own_base ho1 (b' := w.heap.size + 3) (by simp)
  have HLB : Hid (∀ b, (Value.slice (some ⟨g1, 0, none⟩) a.totals.length a.totals.length).ownBlock = some b → b < w1.heap.size) := fun b hb => (ho1.lt b hb).2
  have B1 : Below w.heap.size w w1 := B0.trans (hb1.mono (by simp; omega))
  clear hb1 B0
  generalize hV1 : Value.slice (some ⟨g1, 0, none⟩) a.totals.length a.totals.length = V1 at ho1 HLB
  have c3 : w1.cell? ⟨w.heap.size + 1 + 1, 0, none⟩ = some (.slice none 0 0) := K3.cell 0
  have f3 := K3.frozen 0
  have S1 := K1.setCell_other ⟨w.heap.size + 1 + 1, 0, none⟩ V1 (by simp; omega)
  have S2 := K2.setCell_other ⟨w.heap.size + 1 + 1, 0, none⟩ V1 (by simp)
  have S3 := K3.setCell 0 V1
  have B2 : Below w.heap.size w (w1.setCell ⟨w.heap.size + 1 + 1, 0, none⟩ V1) := B1.setCell (p := ⟨w.heap.size + 1 + 1, 0, none⟩) (by simp; omega) _
  have hsz2 : (w1.setCell ⟨w.heap.size + 1 + 1, 0, none⟩ V1).heap.size = w1.heap.size := by simp [World.setCell]
  have O1 := own_setCell ho1 ⟨w.heap.size + 1 + 1, 0, none⟩ V1 (by simp)
  have cS : (w1.setCell ⟨w.heap.size + 1 + 1, 0, none⟩ V1).cell? ⟨w.heap.size, 1, none⟩ = some vv := S1.cell 1
  subst hV1
  have HO1 : Hid ((w1.setCell ⟨w.heap.size + 1 + 1, 0, none⟩ (.slice (some ⟨g1, 0, none⟩) a.totals.length a.totals.length)).ownsRow (w.heap.size + 3) 3 1 (.slice (some ⟨g1, 0, none⟩) a.totals.length a.totals.length) a.totals.length (a.totals.map (Value.int .i64))) := O1
  have HS : Hid (Blk 37 (w1.setCell ⟨w.heap.size + 1 + 1, 0, none⟩ (.slice (some ⟨g1, 0, none⟩) a.totals.length a.totals.length)) (w.heap.size + 1) #[.slice none 0 0, .slice none 0 0] ∧ Blk 37 (w1.setCell ⟨w.heap.size + 1 + 1, 0, none⟩ (.slice (some ⟨g1, 0, none⟩) a.totals.length a.totals.length)) (w.heap.size + 1 + 1) #[(.slice (some ⟨g1, 0, none⟩) a.totals.length a.totals.length), .slice none 0 0] ∧ Below w.heap.size w (w1.setCell ⟨w.heap.size + 1 + 1, 0, none⟩ (.slice (some ⟨g1, 0, none⟩) a.totals.length a.totals.length))) := ⟨S2, S3, B2⟩
  clear K1 K2 K3 S1 S2 S3 B2 O1 ho1 B1
  go_wp2_with fail
  clear c3 f3
  refine (toII_row vv a.cells _ (HV.out.later HS.out.2.2) hf.cells hf.each).mono ?_
  rintro e w2 ⟨g2, L, ys, rfl, ho2, hb2⟩
  have O1 := own_below HO1.out hb2
  obtain ⟨S2, S3, B2⟩ := HS.out
  replace S2 := S2.below hb2
  replace S3 := S3.below hb2
  have B3 := B2.trans (hb2.mono B2.size)
  have hsz3 := hb2.size
  have HO2B : Hid (∀ j, j < a.cells.length → ∀ b, (L j).ownBlock = some b → w1.heap.size ≤ b) := fun j hj b hb => by have := ((ho2.ints j hj).lt b hb).1; rw [hsz2] at this; exact this
  have ho2 := ho2.base (b' := w.heap.size + 3) (by omega)
  clear HS HO1 HC HV hb2 B2
  have c3 : w2.cell? ⟨w.heap.size + 1 + 1, 1, none⟩ = some (.slice none 0 0) := S3.cell 1
  have f3 := S3.frozen 1
  have T2 := S2.setCell_other ⟨w.heap.size + 1 + 1, 1, none⟩ (.slice (some ⟨g2, 0, none⟩) a.cells.length a.cells.length) (by simp)
  have T3 := S3.setCell 1 (.slice (some ⟨g2, 0, none⟩) a.cells.length a.cells.length)
  have B4 : Below w.heap.size w (w2.setCell ⟨w.heap.size + 1 + 1, 1, none⟩ (.slice (some ⟨g2, 0, none⟩) a.cells.length a.cells.length)) := B3.setCell (p := ⟨w.heap.size + 1 + 1, 1, none⟩) (by simp; omega) _
  have O1 := own_setCell O1 ⟨w.heap.size + 1 + 1, 1, none⟩ (.slice (some ⟨g2, 0, none⟩) a.cells.length a.cells.length) (by simp)
  have O2 := ho2.setCell ⟨w.heap.size + 1 + 1, 1, none⟩ (.slice (some ⟨g2, 0, none⟩) a.cells.length a.cells.length) (by simp)
  have HT : Hid (Below w.heap.size w (w2.setCell ⟨w.heap.size + 1 + 1, 1, none⟩ (.slice (some ⟨g2, 0, none⟩) a.cells.length a.cells.length)) ∧ (w2.setCell ⟨w.heap.size + 1 + 1, 1, none⟩ (.slice (some ⟨g2, 0, none⟩) a.cells.length a.cells.length)).ownsRow (w.heap.size + 3) 3 1 (.slice (some ⟨g1, 0, none⟩) a.totals.length a.totals.length) a.totals.length (a.totals.map (Value.int .i64)) ∧ SepII (w.heap.size + 3) (w2.setCell ⟨w.heap.size + 1 + 1, 1, none⟩ (.slice (some ⟨g2, 0, none⟩) a.cells.length a.cells.length)) (.slice (some ⟨g2, 0, none⟩) a.cells.length a.cells.length) L ys a.cells a.cells.length) := ⟨B4, O1, O2⟩
  have HT2 : Hid (Blk 37 (w2.setCell ⟨w.heap.size + 1 + 1, 1, none⟩ (.slice (some ⟨g2, 0, none⟩) a.cells.length a.cells.length)) (w.heap.size + 1) #[.slice none 0 0, .slice none 0 0] ∧ Blk 37 (w2.setCell ⟨w.heap.size + 1 + 1, 1, none⟩ (.slice (some ⟨g2, 0, none⟩) a.cells.length a.cells.length)) (w.heap.size + 1 + 1) #[(.slice (some ⟨g1, 0, none⟩) a.totals.length a.totals.length), (.slice (some ⟨g2, 0, none⟩) a.cells.length a.cells.length)]) := ⟨T2, T3⟩
  clear S2 S3 T2 T3 B4 O1 O2 ho2 B3
  go_wp2_with (first | (with_reducible refine wp_st_load rfl _ rfl ?_; refine ⟨_, rfl, _, _, HT2.out.2, ?_⟩) | (with_reducible refine wp_st_store rfl _ _ rfl ?_; refine ⟨_, rfl, _, _, _, _, _, _, rfl, _, _, HT2.out.1, ?_⟩))
  refine bodyPost_ret (res_st Try.results13 _ _ _ _ _ rfl (HT2.out.1.setRow _)) rfl ⟨_, rfl, ⟨_, _, L, ys, rfl, ?_, ?_, fun j c b hj hc hb => ?_⟩, ?_⟩
  · exact own_base (own_setRow HT.out.2.1 _ _ (by omega)) (by omega)
  · exact (HT.out.2.2.setRow _ _ (by omega)).base (by omega)
  · have h1 := HO2B.out j hj b hb
    have h2 := HLB.out c hc
    omega
  · exact below_row HT.out.1 (by omega) _
theorem eqStats_row (va vb : Value) (a : StatsD) (w : World) (ha : StatsAt w va a) (hb : StatsAt w vb a) (hn : okSt a) :
    Calls Try.prog 16 #[va, vb] w fun e w' => e = .returned (.bool true) ∧ Below w.heap.size w w' := by
  obtain ⟨ca, sa, rfl, ha1, ha2⟩ := ha
  obtain ⟨cb, sb, rfl, hb1, hb2⟩ := hb
  have HA : Hid (RowI w ca a.totals ∧ RowII w sa a.cells ∧ RowI w cb a.totals ∧ RowII w sb a.cells ∧ okSt a) := ⟨ha1, ha2, hb1, hb2, hn⟩
  clear ha1 ha2 hb1 hb2 hn
  go_enter Try.func16, Try.ntmps16
  go_wp2_with fail
  obtain ⟨K1, K2, B0⟩ := blk_2 37 37 w #[ca, sa] #[cb, sb]
  obtain ⟨h1, h2, h3, h4, hn⟩ := HA.out
  refine (eqI_row ca cb a.totals _ (h1.later B0) (h3.later B0) hn.totals).mono ?_
  rintro e w1 ⟨rfl, hb1⟩
  have B1 := B0.trans (hb1.mono (by simp; omega))
  have k1 : w1.cell? ⟨w.heap.size, 1, none⟩ = some sa := (K1.below hb1).cell 1
  have k2 : w1.cell? ⟨w.heap.size + 1, 1, none⟩ = some sb := (K2.below hb1).cell 1
  have h2 := h2.later B1
  have h4 := h4.later B1
  clear HA h1 h3 K1 K2 B0 hb1
  go_wp2_with fail
  refine (eqII_row sa sb a.cells _ h2 h4 hn.cells hn.each).mono ?_
  rintro e w2 ⟨rfl, hb2⟩
  clear h2 h4 k1 k2 hn
  go_wp2
  go_ret
  exact ⟨rfl, B1.trans (hb2.mono B1.size)⟩
set_option maxHeartbeats 400000 in
theorem szStats_row (v : Value) (a : StatsD) (left : Int) (w : World) (h : StatsAt w v a) (hn : inSt a) (h0 : 0 ≤ left) (h1 : left ≤ 1048576) :
    Calls Try.prog 10 #[v, .int .i64 left] w fun e w' => ∃ r : Int, e = .returned (.int .i64 r) ∧ ((0 ≤ r ∧ r ≤ left ∧ fitSt a) ∨ r = -1) ∧ Below w.heap.size w w' := by
  obtain ⟨vc, vv, rfl, hc, hv⟩ := h
  obtain ⟨oc, cc, rfl, hcc, hcr⟩ := hc
  have HO : Hid (inSt a) := hn
  have HV : Hid (RowII w vv a.cells) := hv
  clear hv hcr hn
  go_enter Try.func10, Try.ntmps10
  go_wp2_with fail
  obtain ⟨K, B0⟩ := blk_1 29 w #[.slice oc a.totals.length cc, vv]
  refine (szI_any oc a.totals.length cc _ _ HO.out.totals (by omega) (by omega)).mono ?_
  rintro e w1 ⟨r, rfl, hr, hb1⟩
  have B1 := B0.trans (hb1.mono (by simp))
  have k2 : w1.cell? ⟨w.heap.size, 1, none⟩ = some vv := (K.below hb1).cell 1
  clear K B0 hb1
  rcases hr with ⟨r0, r1, r2⟩ | rfl
  · go_wp2_with fail
    refine (szII_row vv a.cells r w1 (HV.out.later B1) HO.out.cells HO.out.each (by omega) (by omega)).mono ?_
    rintro e w2 ⟨r', rfl, hr', hb2⟩
    clear k2
    have B2 := B1.trans (hb2.mono B1.size)
    rcases hr' with ⟨q0, q1, q2, q3⟩ | rfl
    · have HQ : Hid (∀ s ∈ a.cells, (s.length : Int) ≤ r) := q3
      clear q3
      go_wp2
      go_ret
      refine ⟨_, rfl, .inl ⟨q0, by omega, ⟨by omega, by omega, fun s hs => ?_⟩⟩, B2⟩
      have := HQ.out s hs
      omega
    · go_wp2
      go_ret
      exact ⟨_, rfl, .inr rfl, B2⟩
  · go_wp2
    go_ret
    exact ⟨_, rfl, .inr rfl, B1⟩
end Go.Proofs.Ytmdmplphendpcab
