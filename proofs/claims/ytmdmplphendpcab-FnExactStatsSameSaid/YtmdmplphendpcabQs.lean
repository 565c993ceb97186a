/- Counts held against each other, by the specification. -/
import Derived.Test.YtmdmplphendpcabQmp
import Derived.Test.YtmdmplphendpcabSmi
import Derived.Test.YtmdmplphendpcabBl
import Derived.Lib.QuietBelow
import Derived.BigQuiet
namespace Go.Proofs.Ytmdmplphendpcab
open Go.RowKit
set_option maxRecDepth 100000
set_option linter.unusedSimpArgs false
set_option maxHeartbeats 800000 in
theorem specStatsSame_any (va vb : Value) (a b : StatsD) (w : World) (ha : StatsAt w va a) (hb : StatsAt w vb b) (hn : okSt a) :
    Calls Try.prog 29 #[va, vb] w fun e w' => e = .returned (.bool (statsSame a b)) ∧ Below w.heap.size w w' := by
  have mixed : Try.prog.follows .mixedOrders = true := by kernel_rfl
  obtain ⟨ca, sa, rfl, ha1, ha2⟩ := ha
  obtain ⟨cb, sb, rfl, hb1, hb2⟩ := hb
  obtain ⟨oa, ka, rfl, hca, hra⟩ := ha2
  obtain ⟨ob, kb, rfl, hcb, hrb⟩ := hb2
  have HA : Hid (0 < a.cells.length → ∃ g o, oa = some ⟨g, o, none⟩ ∧ g < w.heap.size ∧ ∀ j, j < a.cells.length → ∃ u, w.cell? ⟨g, o + j, none⟩ = some u ∧ RowI w u (il a.cells j)) := hra
  have HB : Hid (0 < b.cells.length → ∃ g o, ob = some ⟨g, o, none⟩ ∧ g < w.heap.size ∧ ∀ j, j < b.cells.length → ∃ u, w.cell? ⟨g, o + j, none⟩ = some u ∧ RowI w u (il b.cells j)) := hrb
  have HO : Hid (okSt a) := hn
  have hna := hn.cells
  clear hra hrb hn
  obtain ⟨K1, K2, B0⟩ := blk_2 37 37 w #[ca, .slice oa a.cells.length ka] #[cb, .slice ob b.cells.length kb]
  have c1 := specSameI_any ca cb a.totals b.totals _ (ha1.later B0) (hb1.later B0) HO.out.totals
  clear ha1 hb1
  cases hc : decide (a.totals = b.totals) with
  | false =>
    have HF : Hid (statsSame a b = false) := st_tot hc
    rw [hc] at c1
    clear hc K1 K2
    go_enter Try.func29, Try.ntmps29
    go_wp2_with fail
    refine c1.mono ?_
    rintro e w1 ⟨rfl, hb1⟩
    clear c1
    go_wp2
    go_ret
    exact ⟨by rw [HF.out]; rfl, B0.trans (hb1.mono B0.size)⟩
  | true =>
    have HS : Hid (statsSame a b = decide (a.cells = b.cells)) := st_tot' hc
    rw [hc] at c1
    clear hc
    by_cases hl : a.cells.length = b.cells.length
    rotate_left
    · have HF : Hid (decide (a.cells = b.cells) = false) := same_len hl
      have hq : ((a.cells.length : Int) == (b.cells.length : Int)) = false := by simp; omega
      go_enter Try.func29, Try.ntmps29
      go_wp2_with fail
      refine c1.mono ?_
      rintro e w1 ⟨rfl, hb1⟩
      have j1 : w1.cell? ⟨w.heap.size, 1, none⟩ = some (.slice oa a.cells.length ka) := (K1.below hb1).cell 1
      have j2 : w1.cell? ⟨w.heap.size + 1, 1, none⟩ = some (.slice ob b.cells.length kb) := (K2.below hb1).cell 1
      clear c1 K1 K2
      go_wp2
      go_ret
      exact ⟨by rw [HS.out, HF.out]; rfl, B0.trans (hb1.mono B0.size)⟩
    obtain ⟨n, hnn⟩ : ∃ n, n = a.cells.length := ⟨_, rfl⟩
    have HNA : Hid (n = a.cells.length) := hnn
    have HNB : Hid (n = b.cells.length) := hnn.trans hl
    have HL : Hid (a.cells.length = b.cells.length) := hl
    rw [← hl, ← hnn] at K1 K2 B0 c1
    rw [← hl, ← hnn]
    rw [← hnn] at hca hna
    clear hl hnn hcb
    go_enter Try.func29, Try.ntmps29
    go_wp2_with fail
    refine c1.mono ?_
    rintro e w1 ⟨rfl, hb1⟩
    clear c1
    have B1 := B0.trans (hb1.mono B0.size)
    have HK1 : Hid (Blk 37 w1 w.heap.size #[ca, .slice oa n ka]) := K1.below hb1
    have HK2 : Hid (Blk 37 w1 (w.heap.size + 1) #[cb, .slice ob n kb]) := K2.below hb1
    have j1 : w1.cell? ⟨w.heap.size, 1, none⟩ = some (.slice oa n ka) := HK1.out.cell 1
    have j2 : w1.cell? ⟨w.heap.size + 1, 1, none⟩ = some (.slice ob n kb) := HK2.out.cell 1
    clear K1 K2 B0 hb1
    go_wp2
    clear j1 j2
    go_loopw [5] (fun i wr => ∃ k : Nat, i = .int .i64 k ∧ k ≤ n ∧ (∀ j, j < k → decide (il a.cells j = il b.cells j) = true) ∧ Below w1.heap.size w1 wr) (fun i _ => n - (intOf i).toNat)
    case atStart => exact ⟨0, rfl, by omega, by omega, Below.refl _ _⟩
    case round =>
      obtain ⟨k, rfl, hk, hal, hbr⟩ := hrel
      have HK : Hid (∀ j, j < k → decide (il a.cells j = il b.cells j) = true) := hal
      clear hal
      have hbw := B1.trans (hbr.mono B1.size)
      have u1 : wr.cell? ⟨w.heap.size, 1, none⟩ = some (.slice oa n ka) := (HK1.out.below hbr).cell 1
      have u2 : wr.cell? ⟨w.heap.size + 1, 1, none⟩ = some (.slice ob n kb) := (HK2.out.below hbr).cell 1
      by_cases hlt : k < n
      · obtain ⟨g, o, rfl, hg, hj⟩ := HA.out (by have := HNA.out; omega)
        obtain ⟨g', o', rfl, hg', hj'⟩ := HB.out (by have := HNB.out; omega)
        obtain ⟨u, hu, ru⟩ := hj k (by have := HNA.out; omega)
        obtain ⟨u', hu', ru'⟩ := hj' k (by have := HNB.out; omega)
        obtain ⟨p1, q1, rfl, -, -⟩ := id ru
        obtain ⟨p2, q2, rfl, -, -⟩ := id ru'
        have a1 : wr.cell? ⟨g, o + k, none⟩ = some (.slice p1 (il a.cells k).length q1) := (hbw.cell (p := ⟨g, o + k, none⟩) hg).trans hu
        have a2 : wr.cell? ⟨g', o' + k, none⟩ = some (.slice p2 (il b.cells k).length q2) := (hbw.cell (p := ⟨g', o' + k, none⟩) hg').trans hu'
        have cI := fun d os => Calls.regrown_of (specSameI_any _ _ (il a.cells k) (il b.cells k) (Go.Sort.grow (redrawn wr d) os) ((ru.later hbw).later (below_regrown wr d os)) ((ru'.later hbw).later (below_regrown wr d os)) (HO.out.each _ (il_mem (by have := HNA.out; omega))))
        have d1 := fun d os => cell_regrown u1 d os
        have d2 := fun d os => cell_regrown u2 d os
        have e1 := fun d os => cell_regrown a1 d os
        have e2 := fun d os => cell_regrown a2 d os
        have hbR := fun d os => hbr.trans ((below_regrown wr d os).mono hbr.size)
        have HBR : Hid (∀ d os, Below w1.heap.size w1 (Go.Sort.grow (redrawn wr d) os)) := hbR
        clear hj hj' hu hu' ru ru' a1 a2 hbR hbr hbw
        cases hs : decide (il a.cells k = il b.cells k) with
        | false =>
          have HF : Hid (decide (a.cells = b.cells) = false) := cc_no k hs
          rw [hs] at cI
          clear hs
          go_wp2
          refine wp_region_quiet_below mixed (by kernel_rfl) ?_
          repeat (go_big_quiet_step (with_reducible exact cI _ _))
          refine wpQuiet_nil ?_
          intro _ hw'
          obtain ⟨⟨dq, osq⟩, hw''⟩ := hw'
          subst hw''
          clear d1 d2 e1 e2 cI
          go_wp2
          go_ret
          exact ⟨by rw [HS.out, HF.out]; rfl, B1.trans ((HBR.out _ _).mono B1.size)⟩
        | true =>
          have HSS : Hid (decide (il a.cells k = il b.cells k) = true) := hs
          rw [hs] at cI
          clear hs
          go_wp2
          refine wp_region_quiet_below mixed (by kernel_rfl) ?_
          repeat (go_big_quiet_step (with_reducible exact cI _ _))
          refine wpQuiet_nil ?_
          intro _ hw'
          obtain ⟨⟨dq, osq⟩, hw''⟩ := hw'
          subst hw''
          clear d1 d2 e1 e2 cI
          go_wp2
          go_roundw
          case rel =>
            refine ⟨k + 1, by go_num, by omega, ?_, HBR.out _ _⟩
            intro j hj
            by_cases e : j = k
            · subst e; exact HSS.out
            · exact HK.out j (by omega)
          case measure => simp [intOf]; omega
      · have HF : Hid (decide (a.cells = b.cells) = true) := cc_yes HL.out fun j hj => HK.out j (by have := HNA.out; omega)
        go_wp2
        go_ret
        exact ⟨by rw [HS.out, HF.out]; rfl, hbw⟩
end Go.Proofs.Ytmdmplphendpcab
