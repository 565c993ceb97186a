/- What the laws' own helpers do with an attribute that came in: its size, a copy of it, two held against each other. -/
import Derived.Test.YtmdmplphendpcabVtp
import Derived.Test.YtmdmplphendpcabVs
import Derived.Test.YtmdmplphendpcabVap
namespace Go.Proofs.Ytmdmplphendpcab
open Go.RowKit
set_option maxRecDepth 100000
set_option maxHeartbeats 800000 in
theorem toAttr_row (v : Value) (a : AttrD) (w : World) (h : AttrAt w v a) (hn : a.cuts.length ≤ 1048576) (hm : a.vals.length ≤ 1048576) :
    Calls Try.prog 56 #[v] w fun e w' => ∃ v', e = .returned v' ∧ OwnA w.heap.size w' v' a ∧ Below w.heap.size w w' := by
  obtain ⟨vc, vv, rfl, hc, hv⟩ := h
  have HC : Hid (RowI w vc a.cuts) := hc
  have HV : Hid (RowS w vv a.vals) := hv
  clear hc hv
  go_enter Try.func56, Try.ntmps56
  go_wp2_with fail
  obtain ⟨K1, K2, K3, B0⟩ := blk_3 66 70 70 w #[.string a.name, vc, vv] #[.string ⟨#[]⟩, .slice none 0 0, .slice none 0 0] #[.string a.name, .slice none 0 0, .slice none 0 0]
  refine (toI_row vc a.cuts _ (HC.out.later B0) hn).mono ?_
  rintro e w1 ⟨g1, rfl, ho1, hb1⟩
  replace K1 := K1.below hb1
  replace K2 := K2.below hb1
  replace K3 := K3.below hb1
  have hsz := hb1.size
  simp at hsz
  have ho1 := own_base ho1 (b' := w.heap.size + 3) (by simp)
  have B1 : Below w.heap.size w w1 := B0.trans (hb1.mono (by simp; omega))
  clear hb1 B0
  have c3 : w1.cell? ⟨w.heap.size + 1 + 1, 1, none⟩ = some (.slice none 0 0) := K3.cell 1
  have f3 := K3.frozen 1
  have S1 := K1.setCell_other ⟨w.heap.size + 1 + 1, 1, none⟩ (.slice (some ⟨g1, 0, none⟩) a.cuts.length a.cuts.length) (by simp; omega)
  have S2 := K2.setCell_other ⟨w.heap.size + 1 + 1, 1, none⟩ (.slice (some ⟨g1, 0, none⟩) a.cuts.length a.cuts.length) (by simp)
  have S3 := K3.setCell 1 (.slice (some ⟨g1, 0, none⟩) a.cuts.length a.cuts.length)
  have B2 : Below w.heap.size w (w1.setCell ⟨w.heap.size + 1 + 1, 1, none⟩ (.slice (some ⟨g1, 0, none⟩) a.cuts.length a.cuts.length)) := B1.setCell (p := ⟨w.heap.size + 1 + 1, 1, none⟩) (by simp; omega) _
  have hsz2 : (w1.setCell ⟨w.heap.size + 1 + 1, 1, none⟩ (.slice (some ⟨g1, 0, none⟩) a.cuts.length a.cuts.length)).heap.size = w1.heap.size := by simp [World.setCell]
  have O1 := own_setCell ho1 ⟨w.heap.size + 1 + 1, 1, none⟩ (.slice (some ⟨g1, 0, none⟩) a.cuts.length a.cuts.length) (by simp)
  have HO1 : Hid ((w1.setCell ⟨w.heap.size + 1 + 1, 1, none⟩ (.slice (some ⟨g1, 0, none⟩) a.cuts.length a.cuts.length)).ownsRow (w.heap.size + 3) 3 1 (.slice (some ⟨g1, 0, none⟩) a.cuts.length a.cuts.length) a.cuts.length (a.cuts.map (Value.int .i64))) := O1
  have HS : Hid (Blk 70 (w1.setCell ⟨w.heap.size + 1 + 1, 1, none⟩ (.slice (some ⟨g1, 0, none⟩) a.cuts.length a.cuts.length)) (w.heap.size + 1) #[.string ⟨#[]⟩, .slice none 0 0, .slice none 0 0] ∧ Blk 70 (w1.setCell ⟨w.heap.size + 1 + 1, 1, none⟩ (.slice (some ⟨g1, 0, none⟩) a.cuts.length a.cuts.length)) (w.heap.size + 1 + 1) #[.string a.name, (.slice (some ⟨g1, 0, none⟩) a.cuts.length a.cuts.length), .slice none 0 0] ∧ Below w.heap.size w (w1.setCell ⟨w.heap.size + 1 + 1, 1, none⟩ (.slice (some ⟨g1, 0, none⟩) a.cuts.length a.cuts.length))) := ⟨S2, S3, B2⟩
  have cS : (w1.setCell ⟨w.heap.size + 1 + 1, 1, none⟩ (.slice (some ⟨g1, 0, none⟩) a.cuts.length a.cuts.length)).cell? ⟨w.heap.size, 2, none⟩ = some vv := S1.cell 2
  clear K1 K2 K3 S1 S2 S3 B2 O1 ho1 B1
  go_wp2_with fail
  clear c3 f3
  refine (toS_row vv a.vals _ (HV.out.later HS.out.2.2) hm).mono ?_
  rintro e w2 ⟨g2, rfl, ho2, hb2⟩
  have O1 := own_below HO1.out hb2
  obtain ⟨S2, S3, B2⟩ := HS.out
  replace S2 := S2.below hb2
  replace S3 := S3.below hb2
  have B3 := B2.trans (hb2.mono B2.size)
  have hsz3 := hb2.size
  have ho2 := own_base ho2 (b' := w.heap.size + 3) (by omega)
  clear HS HO1 HC HV hb2 B2
  have c3 : w2.cell? ⟨w.heap.size + 1 + 1, 2, none⟩ = some (.slice none 0 0) := S3.cell 2
  have f3 := S3.frozen 2
  have T2 := S2.setCell_other ⟨w.heap.size + 1 + 1, 2, none⟩ (.slice (some ⟨g2, 0, none⟩) a.vals.length a.vals.length) (by simp)
  have T3 := S3.setCell 2 (.slice (some ⟨g2, 0, none⟩) a.vals.length a.vals.length)
  have B4 : Below w.heap.size w (w2.setCell ⟨w.heap.size + 1 + 1, 2, none⟩ (.slice (some ⟨g2, 0, none⟩) a.vals.length a.vals.length)) := B3.setCell (p := ⟨w.heap.size + 1 + 1, 2, none⟩) (by simp; omega) _
  have O1 := own_setCell O1 ⟨w.heap.size + 1 + 1, 2, none⟩ (.slice (some ⟨g2, 0, none⟩) a.vals.length a.vals.length) (by simp)
  have O2 := own_setCell ho2 ⟨w.heap.size + 1 + 1, 2, none⟩ (.slice (some ⟨g2, 0, none⟩) a.vals.length a.vals.length) (by simp)
  have HT : Hid (Below w.heap.size w (w2.setCell ⟨w.heap.size + 1 + 1, 2, none⟩ (.slice (some ⟨g2, 0, none⟩) a.vals.length a.vals.length)) ∧ (w2.setCell ⟨w.heap.size + 1 + 1, 2, none⟩ (.slice (some ⟨g2, 0, none⟩) a.vals.length a.vals.length)).ownsRow (w.heap.size + 3) 3 1 (.slice (some ⟨g1, 0, none⟩) a.cuts.length a.cuts.length) a.cuts.length (a.cuts.map (Value.int .i64)) ∧ (w2.setCell ⟨w.heap.size + 1 + 1, 2, none⟩ (.slice (some ⟨g2, 0, none⟩) a.vals.length a.vals.length)).ownsRow (w.heap.size + 3) 9 1 (.slice (some ⟨g2, 0, none⟩) a.vals.length a.vals.length) a.vals.length (a.vals.map Value.string)) := ⟨B4, O1, O2⟩
  have HT2 : Hid (Blk 70 (w2.setCell ⟨w.heap.size + 1 + 1, 2, none⟩ (.slice (some ⟨g2, 0, none⟩) a.vals.length a.vals.length)) (w.heap.size + 1) #[.string ⟨#[]⟩, .slice none 0 0, .slice none 0 0] ∧ Blk 70 (w2.setCell ⟨w.heap.size + 1 + 1, 2, none⟩ (.slice (some ⟨g2, 0, none⟩) a.vals.length a.vals.length)) (w.heap.size + 1 + 1) #[.string a.name, (.slice (some ⟨g1, 0, none⟩) a.cuts.length a.cuts.length), (.slice (some ⟨g2, 0, none⟩) a.vals.length a.vals.length)]) := ⟨T2, T3⟩
  clear S2 S3 T2 T3 B4 O1 O2 ho2 B3
  go_wp2_with (first | (with_reducible refine wp_at_load rfl _ rfl ?_; refine ⟨_, rfl, _, _, _, HT2.out.2, ?_⟩) | (with_reducible refine wp_at_store rfl _ _ rfl ?_; refine ⟨_, rfl, _, _, _, _, _, _, _, rfl, _, _, _, HT2.out.1, ?_⟩))
  refine bodyPost_ret (res_at Try.results56 _ _ _ _ _ _ rfl (HT2.out.1.setRow _)) rfl ⟨_, rfl, ⟨_, _, rfl, ?_, ?_⟩, ?_⟩
  · exact own_base (own_setRow HT.out.2.1 _ _ (by omega)) (by omega)
  · exact own_base (own_setRow HT.out.2.2 _ _ (by omega)) (by omega)
  · exact below_row HT.out.1 (by omega) _

theorem eqAttr_row (va vb : Value) (a : AttrD) (w : World) (ha : AttrAt w va a) (hb : AttrAt w vb a) (hn : okA a) :
    Calls Try.prog 60 #[va, vb] w fun e w' => e = .returned (.bool true) ∧ Below w.heap.size w w' := by
  obtain ⟨ca, sa, rfl, ha1, ha2⟩ := ha
  obtain ⟨cb, sb, rfl, hb1, hb2⟩ := hb
  have HA : Hid (RowI w ca a.cuts ∧ RowS w sa a.vals ∧ RowI w cb a.cuts ∧ RowS w sb a.vals ∧ okA a) := ⟨ha1, ha2, hb1, hb2, hn⟩
  clear ha1 ha2 hb1 hb2 hn
  go_enter Try.func60, Try.ntmps60
  go_wp2_with fail
  obtain ⟨K1, K2, B0⟩ := blk_2 70 70 w #[.string a.name, ca, sa] #[.string a.name, cb, sb]
  obtain ⟨h1, h2, h3, h4, hn⟩ := HA.out
  refine (eqI_row ca cb a.cuts _ (h1.later B0) (h3.later B0) hn.cuts).mono ?_
  rintro e w1 ⟨rfl, hb1⟩
  have B1 := B0.trans (hb1.mono (by simp; omega))
  have k1 : w1.cell? ⟨w.heap.size, 2, none⟩ = some sa := (K1.below hb1).cell 2
  have k2 : w1.cell? ⟨w.heap.size + 1, 2, none⟩ = some sb := (K2.below hb1).cell 2
  have h2 := h2.later B1
  have h4 := h4.later B1
  clear HA h1 h3 K1 K2 B0 hb1
  go_wp2_with fail
  refine (eqS_row sa sb a.vals _ h2 h4 hn.vals.1).mono ?_
  rintro e w2 ⟨rfl, hb2⟩
  clear h2 h4 k1 k2 hn
  go_wp2
  go_ret
  exact ⟨rfl, B1.trans (hb2.mono B1.size)⟩

set_option maxHeartbeats 400000 in
theorem szAttr_row (v : Value) (a : AttrD) (left : Int) (w : World) (h : AttrAt w v a) (hn : inA a) (h0 : 0 ≤ left) (h1 : left ≤ 1048576) :
    Calls Try.prog 52 #[v, .int .i64 left] w fun e w' => ∃ r : Int, e = .returned (.int .i64 r) ∧ ((0 ≤ r ∧ r ≤ left ∧ fitA a) ∨ r = -1) ∧ Below w.heap.size w w' := by
  obtain ⟨vc, vv, rfl, hc, hv⟩ := h
  obtain ⟨oc, cc, rfl, hcc, hcr⟩ := hc
  have hnm := hn.name
  have HO : Hid (inA a) := hn
  have HV : Hid (RowS w vv a.vals) := hv
  clear hv hcr hn
  by_cases hl : left - (a.name.size : Int) < 0
  · go_enter Try.func52, Try.ntmps52
    go_wp2
    go_ret
    exact ⟨_, rfl, .inr rfl, (Below.refl _ _).alloc (Nat.le_refl _) _⟩
  · go_enter Try.func52, Try.ntmps52
    go_wp2_with fail
    obtain ⟨K, B0⟩ := blk_1 66 w #[.string a.name, .slice oc a.cuts.length cc, vv]
    refine (szI_any oc a.cuts.length cc _ _ HO.out.cuts (by omega) (by omega)).mono ?_
    rintro e w1 ⟨r, rfl, hr, hb1⟩
    have B1 := B0.trans (hb1.mono (by simp))
    have k2 : w1.cell? ⟨w.heap.size, 2, none⟩ = some vv := (K.below hb1).cell 2
    clear K B0 hb1
    rcases hr with ⟨r0, r1, r2⟩ | rfl
    · go_wp2_with fail
      refine (szS_row vv a.vals r w1 (HV.out.later B1) HO.out.vals HO.out.each (by omega) (by omega)).mono ?_
      rintro e w2 ⟨r', rfl, hr', hb2⟩
      clear k2
      have B2 := B1.trans (hb2.mono B1.size)
      rcases hr' with ⟨q0, q1, q2, q3⟩ | rfl
      · have HQ : Hid (∀ s ∈ a.vals, (s.size : Int) ≤ r) := q3
        clear q3
        go_wp2
        go_ret
        refine ⟨_, rfl, .inl ⟨q0, by omega, ⟨by omega, by omega, by omega, fun s hs => ?_⟩⟩, B2⟩
        have := HQ.out s hs
        omega
      · go_wp2
        go_ret
        exact ⟨_, rfl, .inr rfl, B2⟩
    · go_wp2
      go_ret
      exact ⟨_, rfl, .inr rfl, B1⟩
end Go.Proofs.Ytmdmplphendpcab
