/- Texts of this claim, put together: part 31. -/
import Derived.Test.YtmdmplphendpcaaFnCountedPack3
import Derived.Test.YtmdmplphendpcaaFnCountedPack4
import Derived.Lib.QuietBelow
import Derived.BigQuiet
/- Two lists held against each other, in plain words. -/
namespace Go.Proofs.Ytmdmplphendpcaa
open Go.RowKit
set_option maxRecDepth 100000
theorem same_len {α : Type} [DecidableEq α] {a b : List α} (h : a.length ≠ b.length) : decide (a = b) = false := decide_eq_false fun e => h (by rw [e])
theorem sameI_yes {a b : List Int} (hl : a.length = b.length) (h : ∀ j, j < a.length → a.getD j 0 = b.getD j 0) : decide (a = b) = true := by
  apply decide_eq_true
  apply List.ext_getElem hl
  intro i h1 h2
  have := h i h1
  simpa [h1, h2] using this
theorem sameI_no {a b : List Int} {k : Nat} (h : a.getD k 0 ≠ b.getD k 0) : decide (a = b) = false := decide_eq_false fun e => h (by rw [e])
theorem sameS_yes {a b : List ByteArray} (hl : a.length = b.length) (h : ∀ j, j < a.length → tx a j = tx b j) : decide (a = b) = true := by
  apply decide_eq_true
  apply List.ext_getElem hl
  intro i h1 h2
  have := h i h1
  rwa [tx_eq h1, tx_eq h2] at this
theorem sameS_no {a b : List ByteArray} {k : Nat} (h : tx a k ≠ tx b k) : decide (a = b) = false := decide_eq_false fun e => h (by rw [e])

end Go.Proofs.Ytmdmplphendpcaa
/- Lists of lists of numbers held against each other, in plain words. -/
namespace Go.Proofs.Ytmdmplphendpcaa
open Go.RowKit
set_option maxRecDepth 100000
theorem cc_yes {a b : List (List Int)} (hl : a.length = b.length) (h : ∀ j, j < a.length → decide (il a j = il b j) = true) : decide (a = b) = true := by
  refine decide_eq_true (List.ext_getElem hl fun i h1 h2 => ?_)
  have := of_decide_eq_true (h i h1)
  rwa [il_eq h1, il_eq h2] at this
theorem cc_no {a b : List (List Int)} (k : Nat) (h : decide (il a k = il b k) = false) : decide (a = b) = false := by
  refine decide_eq_false fun e => ?_
  subst e
  simp at h
theorem st_tot {a b : StatsD} (h : decide (a.totals = b.totals) = false) : statsSame a b = false := by unfold statsSame; rw [h]; rfl
theorem st_tot' {a b : StatsD} (h : decide (a.totals = b.totals) = true) : statsSame a b = decide (a.cells = b.cells) := by unfold statsSame; rw [h]; rfl
theorem st_len {a b : StatsD} (h : a.cells.length ≠ b.cells.length) : statsSame a b = false := by unfold statsSame; rw [same_len h]; simp
theorem statsSame_iff {a b : StatsD} : statsSame a b = true ↔ a = b := by
  unfold statsSame
  rw [Bool.and_eq_true, decide_eq_true_eq, decide_eq_true_eq]
  constructor
  · rintro ⟨h1, h2⟩; cases a; cases b; simp at h1 h2; simp [h1, h2]
  · rintro rfl; exact ⟨rfl, rfl⟩
end Go.Proofs.Ytmdmplphendpcaa
/- Two lists of numbers held against each other, by the specification. -/
namespace Go.Proofs.Ytmdmplphendpcaa
open Go.RowKit
set_option maxRecDepth 100000
set_option maxHeartbeats 800000 in
theorem specSameI_any (va vb : Value) (za zb : List Int) (w : World) (ha : RowI w va za) (hb : RowI w vb zb) (hna : za.length ≤ 1099511627776) :
    Calls Try.prog 53 #[va, vb] w fun e w' => e = .returned (.bool (decide (za = zb))) ∧ Below w.heap.size w w' := by
  obtain ⟨oa, ca, rfl, hca, hra⟩ := ha
  obtain ⟨ob, cb, rfl, hcb, hrb⟩ := hb
  have HA : Hid (0 < za.length → ∃ g o, oa = some ⟨g, o, none⟩ ∧ g < w.heap.size ∧ ∀ j, j < za.length → w.cell? ⟨g, o + j, none⟩ = some (.int .i64 (za.getD j 0))) := hra
  have HB : Hid (0 < zb.length → ∃ g o, ob = some ⟨g, o, none⟩ ∧ g < w.heap.size ∧ ∀ j, j < zb.length → w.cell? ⟨g, o + j, none⟩ = some (.int .i64 (zb.getD j 0))) := hrb
  clear hra hrb
  by_cases hl : za.length = zb.length
  rotate_left
  · have HF : Hid (decide (za = zb) = false) := same_len hl
    have hq : ((za.length : Int) == (zb.length : Int)) = false := by simp; omega
    go_enter Try.func53, Try.ntmps53
    go_wp2
    go_ret
    exact ⟨by rw [HF.out]; rfl, Below.refl _ _⟩
  have HL : Hid (za.length = zb.length) := hl
  obtain ⟨n, hn⟩ : ∃ n, n = za.length := ⟨_, rfl⟩
  have HNA : Hid (n = za.length) := hn
  have HNB : Hid (n = zb.length) := hn.trans hl
  rw [← hl, ← hn]
  rw [← hn] at hca hna
  clear hl hn hcb
  go_enter Try.func53, Try.ntmps53
  go_wp2
  go_loopw [5] (fun i wr => ∃ k q : Nat, i = .int .i64 k ∧ k ≤ n ∧ (∀ j, j < k → za.getD j 0 = zb.getD j 0) ∧ wr = w.drewN q) (fun i _ => n - (intOf i).toNat)
  case atStart => exact ⟨0, 0, rfl, by omega, by omega, rfl⟩
  case round =>
    obtain ⟨k, q, rfl, hk, hal, rfl⟩ := hrel
    have HK : Hid (∀ j, j < k → za.getD j 0 = zb.getD j 0) := hal
    clear hal
    by_cases hlt : k < n
    · obtain ⟨g, o, rfl, _, hj⟩ := HA.out (by have := HNA.out; omega)
      obtain ⟨g', o', rfl, _, hj'⟩ := HB.out (by have := HNB.out; omega)
      have ha' := hj k (by have := HNA.out; omega)
      have hb' := hj' k (by have := HNB.out; omega)
      clear hj hj' HA HB
      by_cases he : za.getD k 0 = zb.getD k 0
      · have HE : Hid (za.getD k 0 = zb.getD k 0) := he
        have hq : (za.getD k 0 == zb.getD k 0) = true := by rw [he]; simp
        clear he
        generalize za.getD k 0 = x at ha' hq
        generalize zb.getD k 0 = y at hb' hq
        go_wp2
        go_quiet (fail)
        all_goals go_wp2
        all_goals go_roundw
        case rel =>
          refine ⟨k + 1, _, by go_num, by omega, ?_, by first | rfl | (simp only [World.drewN_drewN]; rfl)⟩
          intro j hj
          by_cases e : j = k
          · subst e; exact HE.out
          · exact HK.out j (by omega)
        case measure => simp [intOf]; omega
      · have HF : Hid (decide (za = zb) = false) := sameI_no he
        have hq : (za.getD k 0 == zb.getD k 0) = false := by simpa using he
        clear he
        generalize za.getD k 0 = x at ha' hq
        generalize zb.getD k 0 = y at hb' hq
        go_wp2
        go_quiet (fail)
        all_goals go_wp2
        all_goals go_ret
        all_goals exact ⟨by rw [HF.out]; rfl, below_drewN (below_drewN (Below.refl _ _) _) _⟩
    · have HF : Hid (decide (za = zb) = true) := sameI_yes HL.out fun j hj => HK.out j (by have := HNA.out; omega)
      go_wp2
      go_ret
      exact ⟨by rw [HF.out]; rfl, below_drewN (Below.refl _ _) _⟩
end Go.Proofs.Ytmdmplphendpcaa
/- Counts held against each other, by the specification. -/
namespace Go.Proofs.Ytmdmplphendpcaa
open Go.RowKit
set_option maxRecDepth 100000
set_option linter.unusedSimpArgs false
set_option maxHeartbeats 800000 in
theorem specStatsSame_any (va vb : Value) (a b : StatsD) (w : World) (ha : StatsAt w va a) (hb : StatsAt w vb b) (hn : okSt a) :
    Calls Try.prog 14 #[va, vb] w fun e w' => e = .returned (.bool (statsSame a b)) ∧ Below w.heap.size w w' := by
  have mixed : Try.prog.follows .mixedOrders = true := by kernel_rfl
  obtain ⟨ca, sa, rfl, ha1, ha2⟩ := ha
  obtain ⟨cb, sb, rfl, hb1, hb2⟩ := hb
  obtain ⟨oa, ka, rfl, hca, hra⟩ := ha2
  obtain ⟨ob, kb, rfl, hcb, hrb⟩ := hb2
  have HA : Hid (0 < a.cells.length → ∃ g o, oa = some ⟨g, o, none⟩ ∧ g < w.heap.size ∧ ∀ j, j < a.cells.length → ∃ u, w.cell? ⟨g, o + j, none⟩ = some u ∧ RowI w u (il a.cells j)) := hra
  have HB : Hid (0 < b.cells.length → ∃ g o, ob = some ⟨g, o, none⟩ ∧ g < w.heap.size ∧ ∀ j, j < b.cells.length → ∃ u, w.cell? ⟨g, o + j, none⟩ = some u ∧ RowI w u (il b.cells j)) := hrb
  have HO : Hid (okSt a) := hn
  have hna := hn.cells
  clear hra hrb hn
  obtain ⟨K1, K2, B0⟩ := blk_2 31 31 w #[ca, .slice oa a.cells.length ka] #[cb, .slice ob b.cells.length kb]
  have c1 := specSameI_any ca cb a.totals b.totals _ (ha1.later B0) (hb1.later B0) HO.out.totals
  clear ha1 hb1
  cases hc : decide (a.totals = b.totals) with
  | false =>
    have HF : Hid (statsSame a b = false) := st_tot hc
    rw [hc] at c1
    clear hc K1 K2
    go_enter Try.func14, Try.ntmps14
    go_wp2_with fail
    refine c1.mono ?_
    rintro e w1 ⟨rfl, hb1⟩
    clear c1
    go_wp2
    go_ret
    exact ⟨by rw [HF.out]; rfl, B0.trans (hb1.mono B0.size)⟩
  | true =>
    have HS : Hid (statsSame a b = decide (a.cells = b.cells)) := st_tot' hc
    rw [hc] at c1
    clear hc
    by_cases hl : a.cells.length = b.cells.length
    rotate_left
    · have HF : Hid (decide (a.cells = b.cells) = false) := same_len hl
      have hq : ((a.cells.length : Int) == (b.cells.length : Int)) = false := by simp; omega
      go_enter Try.func14, Try.ntmps14
      go_wp2_with fail
      refine c1.mono ?_
      rintro e w1 ⟨rfl, hb1⟩
      have j1 : w1.cell? ⟨w.heap.size, 1, none⟩ = some (.slice oa a.cells.length ka) := (K1.below hb1).cell 1
      have j2 : w1.cell? ⟨w.heap.size + 1, 1, none⟩ = some (.slice ob b.cells.length kb) := (K2.below hb1).cell 1
      clear c1 K1 K2
      go_wp2
      go_ret
      exact ⟨by rw [HS.out, HF.out]; rfl, B0.trans (hb1.mono B0.size)⟩
    obtain ⟨n, hnn⟩ : ∃ n, n = a.cells.length := ⟨_, rfl⟩
    have HNA : Hid (n = a.cells.length) := hnn
    have HNB : Hid (n = b.cells.length) := hnn.trans hl
    have HL : Hid (a.cells.length = b.cells.length) := hl
    rw [← hl, ← hnn] at K1 K2 B0 c1
    rw [← hl, ← hnn]
    rw [← hnn] at hca hna
    clear hl hnn hcb
    go_enter Try.func14, Try.ntmps14
    go_wp2_with fail
    refine c1.mono ?_
    rintro e w1 ⟨rfl, hb1⟩
    clear c1
    have B1 := B0.trans (hb1.mono B0.size)
    have HK1 : Hid (Blk 31 w1 w.heap.size #[ca, .slice oa n ka]) := K1.below hb1
    have HK2 : Hid (Blk 31 w1 (w.heap.size + 1) #[cb, .slice ob n kb]) := K2.below hb1
    have j1 : w1.cell? ⟨w.heap.size, 1, none⟩ = some (.slice oa n ka) := HK1.out.cell 1
    have j2 : w1.cell? ⟨w.heap.size + 1, 1, none⟩ = some (.slice ob n kb) := HK2.out.cell 1
    clear K1 K2 B0 hb1
    go_wp2
    clear j1 j2
    go_loopw [5] (fun i wr => ∃ k : Nat, i = .int .i64 k ∧ k ≤ n ∧ (∀ j, j < k → decide (il a.cells j = il b.cells j) = true) ∧ Below w1.heap.size w1 wr) (fun i _ => n - (intOf i).toNat)
    case atStart => exact ⟨0, rfl, by omega, by omega, Below.refl _ _⟩
    case round =>
      obtain ⟨k, rfl, hk, hal, hbr⟩ := hrel
      have HK : Hid (∀ j, j < k → decide (il a.cells j = il b.cells j) = true) := hal
      clear hal
      have hbw := B1.trans (hbr.mono B1.size)
      have u1 : wr.cell? ⟨w.heap.size, 1, none⟩ = some (.slice oa n ka) := (HK1.out.below hbr).cell 1
      have u2 : wr.cell? ⟨w.heap.size + 1, 1, none⟩ = some (.slice ob n kb) := (HK2.out.below hbr).cell 1
      by_cases hlt : k < n
      · obtain ⟨g, o, rfl, hg, hj⟩ := HA.out (by have := HNA.out; omega)
        obtain ⟨g', o', rfl, hg', hj'⟩ := HB.out (by have := HNB.out; omega)
        obtain ⟨u, hu, ru⟩ := hj k (by have := HNA.out; omega)
        obtain ⟨u', hu', ru'⟩ := hj' k (by have := HNB.out; omega)
        obtain ⟨p1, q1, rfl, -, -⟩ := id ru
        obtain ⟨p2, q2, rfl, -, -⟩ := id ru'
        have a1 : wr.cell? ⟨g, o + k, none⟩ = some (.slice p1 (il a.cells k).length q1) := (hbw.cell (p := ⟨g, o + k, none⟩) hg).trans hu
        have a2 : wr.cell? ⟨g', o' + k, none⟩ = some (.slice p2 (il b.cells k).length q2) := (hbw.cell (p := ⟨g', o' + k, none⟩) hg').trans hu'
        have cI := fun d os => Calls.regrown_of (specSameI_any _ _ (il a.cells k) (il b.cells k) (Go.Sort.grow (redrawn wr d) os) ((ru.later hbw).later (below_regrown wr d os)) ((ru'.later hbw).later (below_regrown wr d os)) (HO.out.each _ (il_mem (by have := HNA.out; omega))))
        have d1 := fun d os => cell_regrown u1 d os
        have d2 := fun d os => cell_regrown u2 d os
        have e1 := fun d os => cell_regrown a1 d os
        have e2 := fun d os => cell_regrown a2 d os
        have hbR := fun d os => hbr.trans ((below_regrown wr d os).mono hbr.size)
        have HBR : Hid (∀ d os, Below w1.heap.size w1 (Go.Sort.grow (redrawn wr d) os)) := hbR
        clear hj hj' hu hu' ru ru' a1 a2 hbR hbr hbw
        cases hs : decide (il a.cells k = il b.cells k) with
        | false =>
          have HF : Hid (decide (a.cells = b.cells) = false) := cc_no k hs
          rw [hs] at cI
          clear hs
          go_wp2
          refine wp_region_quiet_below mixed (by kernel_rfl) ?_
          repeat (go_big_quiet_step (with_reducible exact cI _ _))
          refine wpQuiet_nil ?_
          intro _ hw'
          obtain ⟨⟨dq, osq⟩, hw''⟩ := hw'
          subst hw''
          clear d1 d2 e1 e2 cI
          go_wp2
          go_ret
          exact ⟨by rw [HS.out, HF.out]; rfl, B1.trans ((HBR.out _ _).mono B1.size)⟩
        | true =>
          have HSS : Hid (decide (il a.cells k = il b.cells k) = true) := hs
          rw [hs] at cI
          clear hs
          go_wp2
          refine wp_region_quiet_below mixed (by kernel_rfl) ?_
          repeat (go_big_quiet_step (with_reducible exact cI _ _))
          refine wpQuiet_nil ?_
          intro _ hw'
          obtain ⟨⟨dq, osq⟩, hw''⟩ := hw'
          subst hw''
          clear d1 d2 e1 e2 cI
          go_wp2
          go_roundw
          case rel =>
            refine ⟨k + 1, by go_num, by omega, ?_, HBR.out _ _⟩
            intro j hj
            by_cases e : j = k
            · subst e; exact HSS.out
            · exact HK.out j (by omega)
          case measure => simp [intOf]; omega
      · have HF : Hid (decide (a.cells = b.cells) = true) := cc_yes HL.out fun j hj => HK.out j (by have := HNA.out; omega)
        go_wp2
        go_ret
        exact ⟨by rw [HS.out, HF.out]; rfl, hbw⟩
end Go.Proofs.Ytmdmplphendpcaa
