/- Counts held against each other, by the program. -/
import Derived.Test.YtmdmplphendpcabQmp
import Derived.Test.YtmdmplphendpcabSml
import Derived.Test.YtmdmplphendpcabBl
namespace Go.Proofs.Ytmdmplphendpcab
open Go.RowKit
set_option maxRecDepth 100000
set_option linter.unusedSimpArgs false
set_option maxHeartbeats 800000 in
theorem equalFuncI_any (va vb : Value) (la lb : List (List Int)) (w : World) (ha : RowII w va la) (hb : RowII w vb lb) (hna : la.length ≤ 1099511627776) (he : ∀ c ∈ la, c.length ≤ 1099511627776) :
    Calls Try.prog 51 #[va, vb, .func (.func 50) #[] #[]] w fun e w' => e = .returned (.bool (decide (la = lb))) ∧ Below w.heap.size w w' := by
  obtain ⟨oa, ca, rfl, hca, hra⟩ := ha
  obtain ⟨ob, cb, rfl, hcb, hrb⟩ := hb
  have HA : Hid (0 < la.length → ∃ g o, oa = some ⟨g, o, none⟩ ∧ g < w.heap.size ∧ ∀ j, j < la.length → ∃ u, w.cell? ⟨g, o + j, none⟩ = some u ∧ RowI w u (il la j)) := hra
  have HB : Hid (0 < lb.length → ∃ g o, ob = some ⟨g, o, none⟩ ∧ g < w.heap.size ∧ ∀ j, j < lb.length → ∃ u, w.cell? ⟨g, o + j, none⟩ = some u ∧ RowI w u (il lb j)) := hrb
  have HE : Hid (∀ c ∈ la, c.length ≤ 1099511627776) := he
  clear hra hrb he
  by_cases hl : la.length = lb.length
  rotate_left
  · have HF : Hid (decide (la = lb) = false) := same_len hl
    have hq : ((la.length : Int) == (lb.length : Int)) = false := by simp; omega
    go_enter Try.func51, Try.ntmps51
    go_wp2
    go_ret
    exact ⟨by rw [HF.out]; rfl, Below.refl _ _⟩
  have HL : Hid (la.length = lb.length) := hl
  obtain ⟨n, hn⟩ : ∃ n, n = la.length := ⟨_, rfl⟩
  have HNA : Hid (n = la.length) := hn
  have HNB : Hid (n = lb.length) := hn.trans hl
  rw [← hl, ← hn]
  rw [← hn] at hca hna
  clear hl hn hcb
  go_enter Try.func51, Try.ntmps51
  go_wp2
  go_loopw [17] (fun i wr => ∃ k : Nat, i = .int .i64 k ∧ k ≤ n ∧ (∀ j, j < k → decide (il la j = il lb j) = true) ∧ Below w.heap.size w wr) (fun i _ => n - (intOf i).toNat)
  case atStart => exact ⟨0, rfl, by omega, by omega, Below.refl _ _⟩
  case round =>
    obtain ⟨k, rfl, hk, hal, hbr⟩ := hrel
    have HK : Hid (∀ j, j < k → decide (il la j = il lb j) = true) := hal
    clear hal
    by_cases hlt : k < n
    · obtain ⟨g, o, rfl, hg, hj⟩ := HA.out (by have := HNA.out; omega)
      obtain ⟨g', o', rfl, hg', hj'⟩ := HB.out (by have := HNB.out; omega)
      obtain ⟨u, hu, ru⟩ := hj k (by have := HNA.out; omega)
      obtain ⟨u', hu', ru'⟩ := hj' k (by have := HNB.out; omega)
      obtain ⟨p1, q1, rfl, -, -⟩ := id ru
      obtain ⟨p2, q2, rfl, -, -⟩ := id ru'
      have a1 : wr.cell? ⟨g, o + k, none⟩ = some (.slice p1 (il la k).length q1) := (hbr.cell (p := ⟨g, o + k, none⟩) hg).trans hu
      have a2 : wr.cell? ⟨g', o' + k, none⟩ = some (.slice p2 (il lb k).length q2) := (hbr.cell (p := ⟨g', o' + k, none⟩) hg').trans hu'
      have c := libSameI_any _ _ (il la k) (il lb k) wr (ru.later hbr) (ru'.later hbr) (HE.out _ (il_mem (by have := HNA.out; omega)))
      clear hj hj' hu hu' ru ru'
      cases hs : decide (il la k = il lb k) with
      | false =>
        have HF : Hid (decide (la = lb) = false) := cc_no k hs
        rw [hs] at c
        clear hs
        go_wp2_with fail
        refine c.mono ?_
        rintro e w1 ⟨rfl, hb1⟩
        have hb2 := hbr.trans (hb1.mono hbr.size)
        clear c hb1
        go_wp2
        go_ret
        exact ⟨by rw [HF.out]; rfl, hb2⟩
      | true =>
        have HS : Hid (decide (il la k = il lb k) = true) := hs
        rw [hs] at c
        clear hs
        go_wp2_with fail
        refine c.mono ?_
        rintro e w1 ⟨rfl, hb1⟩
        have hb2 := hbr.trans (hb1.mono hbr.size)
        clear c hb1
        go_wp2
        go_roundw
        case rel =>
          refine ⟨k + 1, by go_num, by omega, ?_, hb2⟩
          intro j hj
          by_cases e : j = k
          · subst e; exact HS.out
          · exact HK.out j (by omega)
        case measure => simp [intOf]; omega
    · have HF : Hid (decide (la = lb) = true) := cc_yes HL.out fun j hj => HK.out j (by have := HNA.out; omega)
      go_wp2
      go_ret
      exact ⟨by rw [HF.out]; rfl, hbr⟩
theorem implStatsSame_any (va vb : Value) (a b : StatsD) (w : World) (ha : StatsAt w va a) (hb : StatsAt w vb b) (hn : okSt a) :
    Calls Try.prog 30 #[va, vb] w fun e w' => e = .returned (.bool (statsSame a b)) ∧ Below w.heap.size w w' := by
  obtain ⟨ca, sa, rfl, ha1, ha2⟩ := ha
  obtain ⟨cb, sb, rfl, hb1, hb2⟩ := hb
  have HA : Hid (RowI w ca a.totals ∧ RowII w sa a.cells ∧ RowI w cb b.totals ∧ RowII w sb b.cells ∧ okSt a) := ⟨ha1, ha2, hb1, hb2, hn⟩
  clear ha1 ha2 hb1 hb2 hn
  obtain ⟨K1, K2, B0⟩ := blk_2 37 37 w #[ca, sa] #[cb, sb]
  obtain ⟨h1, h2, h3, h4, hn⟩ := HA.out
  have c1 := libSameI_any ca cb a.totals b.totals _ (h1.later B0) (h3.later B0) hn.totals
  cases hc : decide (a.totals = b.totals) with
  | false =>
    have HF : Hid (statsSame a b = false) := st_tot hc
    rw [hc] at c1
    clear h1 h2 h3 h4 hn K1 K2 HA hc
    go_enter Try.func30, Try.ntmps30
    go_wp2_with fail
    refine c1.mono ?_
    rintro e w1 ⟨rfl, hb1⟩
    clear c1
    go_wp2
    go_ret
    exact ⟨by rw [HF.out]; rfl, B0.trans (hb1.mono B0.size)⟩
  | true =>
    have HF : Hid (statsSame a b = decide (a.cells = b.cells)) := st_tot' hc
    rw [hc] at c1
    clear h1 h2 h3 h4 hn hc
    go_enter Try.func30, Try.ntmps30
    go_wp2_with fail
    refine c1.mono ?_
    rintro e w1 ⟨rfl, hb1⟩
    clear c1
    obtain ⟨h1, h2, h3, h4, hn⟩ := HA.out
    have B1 := B0.trans (hb1.mono B0.size)
    have c2 := equalFuncI_any sa sb a.cells b.cells _ (h2.later B1) (h4.later B1) hn.cells hn.each
    have k1 : w1.cell? ⟨w.heap.size, 1, none⟩ = some sa := (K1.below hb1).cell 1
    have k2 : w1.cell? ⟨w.heap.size + 1, 1, none⟩ = some sb := (K2.below hb1).cell 1
    clear h1 h2 h3 h4 hn HA K1 K2 hb1 B0
    go_wp2_with fail
    refine c2.mono ?_
    rintro e w2 ⟨rfl, hb2⟩
    clear c2
    go_wp2
    go_ret
    exact ⟨by rw [HF.out]; rfl, B1.trans (hb2.mono B1.size)⟩
end Go.Proofs.Ytmdmplphendpcab
