/- Two schemas held against each other, by the specification. -/
import Derived.Test.YtlpjigpnpafkiabSn
import Derived.Lib.QuietBelow
import Derived.BigQuiet
namespace Go.Proofs.Ytlpjigpnpafkiab
open Go.RowKit
set_option maxRecDepth 100000

theorem ss_len {a b : SchemaD} (h : a.attrs.length ≠ b.attrs.length) : schemaSame a b = false := by unfold schemaSame; rw [as_len h]; rfl
theorem ss_cls {a b : SchemaD} (h : decide (a.classes = b.classes) = false) : schemaSame a b = false := by unfold schemaSame; rw [h]; simp
theorem ss_cls' {a b : SchemaD} (h : decide (a.classes = b.classes) = true) : schemaSame a b = attrsSame a.attrs b.attrs := by unfold schemaSame; rw [h]; simp
theorem at_no0 {a b : AttrD} (h : a.name ≠ b.name) : attrSame a b = false := by unfold attrSame; rw [decide_eq_false h]; rfl
theorem at_no1 {a b : AttrD} (h : decide (a.cuts = b.cuts) = false) : attrSame a b = false := by unfold attrSame; rw [h]; simp
theorem at_no2 {a b : AttrD} (h : decide (a.vals = b.vals) = false) : attrSame a b = false := by unfold attrSame; rw [h]; simp
theorem at_yes {a b : AttrD} (h : a.name = b.name) (h1 : decide (a.cuts = b.cuts) = true) (h2 : decide (a.vals = b.vals) = true) : attrSame a b = true := by unfold attrSame; rw [decide_eq_true h, h1, h2]; rfl

set_option maxHeartbeats 3200000 in
theorem specSame_any (va vb : Value) (a b : SchemaD) (w : World) (ha : SchemaAt w va a) (hb : SchemaAt w vb b) (hn : okSch a) :
    Calls Try.prog 5 #[va, vb] w fun e w' => e = .returned (.bool (schemaSame a b)) ∧ Below w.heap.size w w' := by
  have mixed : Try.prog.follows .mixedOrders = true := by kernel_rfl
  obtain ⟨ca, sa, rfl, ha1, ha2⟩ := ha
  obtain ⟨cb, sb, rfl, hb1, hb2⟩ := hb
  obtain ⟨oa, ka, rfl, hca, hra⟩ := ha1
  obtain ⟨ob, kb, rfl, hcb, hrb⟩ := hb1
  obtain ⟨pa, la, rfl, -, -⟩ := id ha2
  obtain ⟨pb, lb, rfl, -, -⟩ := id hb2
  have HA : Hid (0 < a.attrs.length → ∃ g o, oa = some ⟨g, o, none⟩ ∧ g < w.heap.size ∧ ∀ j, j < a.attrs.length → CellsA w g (o + j * 3) (ad a.attrs j)) := hra
  have HB : Hid (0 < b.attrs.length → ∃ g o, ob = some ⟨g, o, none⟩ ∧ g < w.heap.size ∧ ∀ j, j < b.attrs.length → CellsA w g (o + j * 3) (ad b.attrs j)) := hrb
  have HC : Hid (RowS w (.slice pa a.classes.length la) a.classes ∧ RowS w (.slice pb b.classes.length lb) b.classes) := ⟨ha2, hb2⟩
  have HO : Hid (okSch a) := hn
  have hna := hn.attrs
  clear hra hrb ha2 hb2 hn
  obtain ⟨K1, K2, B0⟩ := blk_2 30 30 w #[.slice oa a.attrs.length ka, .slice pa a.classes.length la] #[.slice ob b.attrs.length kb, .slice pb b.classes.length lb]
  by_cases hl : a.attrs.length = b.attrs.length
  rotate_left
  · have HF : Hid (schemaSame a b = false) := ss_len hl
    have hq : ((a.attrs.length : Int) == (b.attrs.length : Int)) = false := by simp; omega
    clear K1 K2
    go_enter Try.func5, Try.ntmps5
    go_wp2
    go_ret
    exact ⟨by rw [HF.out]; rfl, B0⟩
  have c1 := specSameS_any _ _ a.classes b.classes _ (HC.out.1.later B0) (HC.out.2.later B0) HO.out.classes.1
  obtain ⟨n, hnn⟩ : ∃ n, n = a.attrs.length := ⟨_, rfl⟩
  have HNA : Hid (n = a.attrs.length) := hnn
  have HNB : Hid (n = b.attrs.length) := hnn.trans hl
  rw [← hl, ← hnn] at K1 K2 B0 c1
  rw [← hl, ← hnn]
  have HL : Hid (a.attrs.length = b.attrs.length) := hl
  rw [← hnn] at hca hna
  clear hl hnn hcb
  cases hc : decide (a.classes = b.classes) with
  | false =>
    have HF : Hid (schemaSame a b = false) := ss_cls hc
    rw [hc] at c1
    clear K1 K2 hc
    go_enter Try.func5, Try.ntmps5
    go_wp2_with fail
    refine c1.mono ?_
    rintro e w1 ⟨rfl, hb1⟩
    clear c1
    go_wp2
    go_ret
    exact ⟨by rw [HF.out]; rfl, B0.trans (hb1.mono B0.size)⟩
  | true =>
    have HS : Hid (schemaSame a b = attrsSame a.attrs b.attrs) := ss_cls' hc
    rw [hc] at c1
    clear hc
    go_enter Try.func5, Try.ntmps5
    go_wp2_with fail
    refine c1.mono ?_
    rintro e w1 ⟨rfl, hb1⟩
    clear c1
    have B1 := B0.trans (hb1.mono B0.size)
    have HK1 : Hid (Blk 30 w1 w.heap.size #[.slice oa n ka, .slice pa a.classes.length la]) := K1.below hb1
    have HK2 : Hid (Blk 30 w1 (w.heap.size + 1) #[.slice ob n kb, .slice pb b.classes.length lb]) := K2.below hb1
    clear K1 K2 B0 hb1
    go_wp2
    go_loopw [5] (fun i wr => ∃ k : Nat, i = .int .i64 k ∧ k ≤ n ∧ (∀ j, j < k → attrSame (ad a.attrs j) (ad b.attrs j) = true) ∧ Below w1.heap.size w1 wr) (fun i _ => n - (intOf i).toNat)
    case atStart => exact ⟨0, rfl, by omega, by omega, Below.refl _ _⟩
    case round =>
      obtain ⟨k, rfl, hk, hal, hbr⟩ := hrel
      have HK : Hid (∀ j, j < k → attrSame (ad a.attrs j) (ad b.attrs j) = true) := hal
      clear hal
      have hbw := B1.trans (hbr.mono B1.size)
      have u1 : wr.cell? ⟨w.heap.size, 0, none⟩ = some (.slice oa n ka) := (HK1.out.below hbr).cell 0
      have u2 : wr.cell? ⟨w.heap.size + 1, 0, none⟩ = some (.slice ob n kb) := (HK2.out.below hbr).cell 0
      by_cases hlt : k < n
      · obtain ⟨g, o, rfl, hg, hj⟩ := HA.out (by have := HNA.out; omega)
        obtain ⟨g', o', rfl, hg', hj'⟩ := HB.out (by have := HNB.out; omega)
        obtain ⟨vc, vv, p0, p1, p2, r1, r2⟩ := (hj k (by have := HNA.out; omega)).later hbw hg
        obtain ⟨vc', vv', p0', p1', p2', r1', r2'⟩ := (hj' k (by have := HNB.out; omega)).later hbw hg'
        have hok := HO.out.each _ (ad_mem (ls := a.attrs) (j := k) (by have := HNA.out; omega))
        have cI := fun d os => Calls.regrown_of (specSameI_any vc vc' (ad a.attrs k).cuts (ad b.attrs k).cuts (Go.Sort.grow (redrawn wr d) os) (r1.later (below_regrown wr d os)) (r1'.later (below_regrown wr d os)) hok.cuts)
        have cS := fun d os => Calls.regrown_of (specSameS_any vv vv' (ad a.attrs k).vals (ad b.attrs k).vals (Go.Sort.grow (redrawn wr d) os) (r2.later (below_regrown wr d os)) (r2'.later (below_regrown wr d os)) hok.vals.1)
        have d1 := fun d os => cell_regrown u1 d os
        have d2 := fun d os => cell_regrown u2 d os
        have e0 := fun d os => cell_regrown p0 d os
        have e1 := fun d os => cell_regrown p1 d os
        have e2 := fun d os => cell_regrown p2 d os
        have e0' := fun d os => cell_regrown p0' d os
        have e1' := fun d os => cell_regrown p1' d os
        have e2' := fun d os => cell_regrown p2' d os
        have hbR := fun d os => hbr.trans ((below_regrown wr d os).mono hbr.size)
        have HBR : Hid (∀ d os, Below w1.heap.size w1 (Go.Sort.grow (redrawn wr d) os)) := hbR
        clear hj hj' p0 p1 p2 p0' p1' p2' r1 r2 r1' r2' hbr hbR hok hbw
        by_cases he : (ad a.attrs k).name = (ad b.attrs k).name
        rotate_left
        · have HF : Hid (attrsSame a.attrs b.attrs = false) := as_no k (by have := HNA.out; omega) (at_no0 he)
          have hq : ((ad a.attrs k).name.toList == (ad b.attrs k).name.toList) = false := by rw [beq_eq_false_iff_ne]; exact fun h => he (bytes_eq_iff.1 h)
          clear he cI cS e1 e2 e1' e2'
          generalize (ad a.attrs k).name = s1 at e0 hq
          generalize (ad b.attrs k).name = s2 at e0' hq
          go_wp2
          refine wp_region_quiet_below mixed (by kernel_rfl) ?_
          repeat (go_big_quiet_step (fail))
          refine wpQuiet_nil ?_
          intro _ hw'
          obtain ⟨⟨dq, osq⟩, hw''⟩ := hw'
          subst hw''
          clear d1 d2 e0 e0'
          go_wp2
          go_ret
          exact ⟨by rw [HS.out, HF.out]; rfl, B1.trans ((HBR.out _ _).mono B1.size)⟩
        have hq : ((ad a.attrs k).name.toList == (ad b.attrs k).name.toList) = true := by rw [he]; simp
        have HE : Hid ((ad a.attrs k).name = (ad b.attrs k).name) := he
        clear he
        cases hcu : decide ((ad a.attrs k).cuts = (ad b.attrs k).cuts) with
        | false =>
          have HF : Hid (attrsSame a.attrs b.attrs = false) := as_no k (by have := HNA.out; omega) (at_no1 hcu)
          rw [hcu] at cI
          clear hcu cS e2 e2'
          generalize (ad a.attrs k).name = s1 at e0 hq
          generalize (ad b.attrs k).name = s2 at e0' hq
          go_wp2
          refine wp_region_quiet_below mixed (by kernel_rfl) ?_
          repeat (go_big_quiet_step (exact cI _ _))
          refine wpQuiet_nil ?_
          intro _ hw'
          obtain ⟨⟨dq, osq⟩, hw''⟩ := hw'
          subst hw''
          clear d1 d2 e0 e0' cI e1 e1'
          go_wp2
          go_ret
          exact ⟨by rw [HS.out, HF.out]; rfl, B1.trans ((HBR.out _ _).mono B1.size)⟩
        | true =>
          rw [hcu] at cI
          cases hvu : decide ((ad a.attrs k).vals = (ad b.attrs k).vals) with
          | false =>
            have HF : Hid (attrsSame a.attrs b.attrs = false) := as_no k (by have := HNA.out; omega) (at_no2 hvu)
            rw [hvu] at cS
            clear hcu hvu
            generalize (ad a.attrs k).name = s1 at e0 hq
            generalize (ad b.attrs k).name = s2 at e0' hq
            go_wp2
            refine wp_region_quiet_below mixed (by kernel_rfl) ?_
            repeat (go_big_quiet_step (first | exact cI _ _ | exact cS _ _))
            refine wpQuiet_nil ?_
            intro _ hw'
            obtain ⟨⟨dq, osq⟩, hw''⟩ := hw'
            subst hw''
            clear d1 d2 e0 e0' cI e1 e1' cS e2 e2'
            go_wp2
            go_ret
            exact ⟨by rw [HS.out, HF.out]; rfl, B1.trans ((HBR.out _ _).mono B1.size)⟩
          | true =>
            have HF : Hid (attrSame (ad a.attrs k) (ad b.attrs k) = true) := at_yes HE.out hcu hvu
            rw [hvu] at cS
            clear hcu hvu
            generalize (ad a.attrs k).name = s1 at e0 hq
            generalize (ad b.attrs k).name = s2 at e0' hq
            go_wp2
            refine wp_region_quiet_below mixed (by kernel_rfl) ?_
            repeat (go_big_quiet_step (first | exact cI _ _ | exact cS _ _))
            refine wpQuiet_nil ?_
            intro _ hw'
            obtain ⟨⟨dq, osq⟩, hw''⟩ := hw'
            subst hw''
            clear d1 d2 e0 e0' cI e1 e1' cS e2 e2'
            go_wp2
            go_roundw
            case rel =>
              refine ⟨k + 1, by go_num, by omega, ?_, HBR.out _ _⟩
              intro j hj
              by_cases e : j = k
              · subst e; exact HF.out
              · exact HK.out j (by omega)
            case measure => simp [intOf]; omega
      · have HF : Hid (attrsSame a.attrs b.attrs = true) := as_yes HL.out fun j hj => HK.out j (by have := HNA.out; omega)
        go_wp2
        go_ret
        exact ⟨by rw [HS.out, HF.out]; rfl, hbw⟩
end Go.Proofs.Ytlpjigpnpafkiab
