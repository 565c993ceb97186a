/- What the laws' own helpers do with counts that came in: their size, a copy of them, two held against each other. -/
import Derived.Test.YtmdmplphendpcabShp
import Derived.Test.YtmdmplphendpcabVs
import Derived.Lib.QuietBelow
import Derived.BigQuiet
namespace Go.Proofs.Ytmdmplphendpcab
open Go.RowKit
set_option maxRecDepth 100000
set_option linter.unusedSimpArgs false
theorem intsInfo : (Try.prog.info? 26).map (fun i => (i.zero, i.size, i.bytes)) = some (some (.slice none 0 0), 1, 24) := by kernel_rfl
set_option maxHeartbeats 800000 in
theorem szII_row (v : Value) (cs : List (List Int)) (left : Int) (w : World) (h : RowII w v cs) (hn : cs.length ≤ 9223372036854775807) (hs : ∀ c ∈ cs, c.length ≤ 9223372036854775807) (h0 : 0 ≤ left) (h1 : left ≤ 1048576) :
    Calls Try.prog 34 #[v, .int .i64 left] w fun e w' => ∃ r : Int, e = .returned (.int .i64 r) ∧ ((0 ≤ r ∧ r ≤ left ∧ (cs.length : Int) ≤ left ∧ ∀ c ∈ cs, (c.length : Int) ≤ left) ∨ r = -1) ∧ Below w.heap.size w w' := by
  obtain ⟨oa, cap, rfl, hc, hr⟩ := h
  have HR : Hid (0 < cs.length → ∃ g o, oa = some ⟨g, o, none⟩ ∧ g < w.heap.size ∧ ∀ j, j < cs.length → ∃ u, w.cell? ⟨g, o + j, none⟩ = some u ∧ RowI w u (il cs j)) := hr
  have HS : Hid (∀ c ∈ cs, c.length ≤ 9223372036854775807) := hs
  clear hr hs
  by_cases hl : left - (cs.length : Int) < 0
  · go_enter Try.func34, Try.ntmps34
    go_wp2
    go_ret
    exact ⟨_, rfl, .inr rfl, Below.refl _ _⟩
  · go_enter Try.func34, Try.ntmps34
    go_wp2
    go_loopw [1, 5] (fun l i wr => ∃ (k : Nat) (x : Int), i = .int .i64 k ∧ l = .int .i64 x ∧ 0 ≤ x ∧ x ≤ left ∧ k ≤ cs.length ∧ Hid (∀ j, j < k → ((il cs j).length : Int) ≤ left) ∧ Below w.heap.size w wr) (fun _ i _ => cs.length - (intOf i).toNat)
    case atStart => exact ⟨0, _, rfl, rfl, by omega, by omega, by omega, fun j hj => by omega, Below.refl _ _⟩
    case round =>
      obtain ⟨k, x, rfl, rfl, hx0, hx1, hk, HA, hb⟩ := hrel
      by_cases hlt : k < cs.length
      · obtain ⟨g, o, rfl, hg, hj⟩ := HR.out (by omega)
        obtain ⟨u, hu, ru⟩ := hj k hlt
        obtain ⟨ou, cu, rfl, -, -⟩ := id ru
        have hcell : wr.cell? ⟨g, o + k, none⟩ = some (.slice ou (il cs k).length cu) := (hb.cell (p := ⟨g, o + k, none⟩) hg).trans hu
        have e1 := szI_any ou (il cs k).length cu x wr (HS.out _ (il_mem hlt)) hx0 (by omega)
        clear hj hu ru
        go_wp2_with fail
        refine e1.mono ?_
        clear e1
        rintro e w1 ⟨r, rfl, hr, hb1⟩
        have B1 := hb.trans (hb1.mono hb.size)
        rcases hr with ⟨r0, r1, r2⟩ | rfl
        · have r0n : ¬ r < 0 := by omega
          go_wp2
          go_roundw
          case rel =>
            refine ⟨k + 1, r, by go_num, rfl, by omega, by omega, by omega, fun j hj => ?_, B1⟩
            by_cases e : j = k
            · subst e; omega
            · exact HA.out j (by omega)
          case measure => simp [intOf]; omega
        · go_wp2
          go_ret
          exact ⟨_, rfl, .inr rfl, B1⟩
      · go_wp2
        go_ret
        refine ⟨_, rfl, .inl ⟨hx0, hx1, by omega, fun c hc' => ?_⟩, hb⟩
        obtain ⟨j, hj, rfl⟩ := List.mem_iff_getElem.1 hc'
        have := HA.out j (by omega)
        rwa [il_eq hj] at this
set_option maxHeartbeats 800000 in
theorem toII_row (v : Value) (cs : List (List Int)) (w : World) (h : RowII w v cs) (hn : cs.length ≤ 1048576) (hf : ∀ c ∈ cs, c.length ≤ 1048576) :
    Calls Try.prog 38 #[v] w fun e w' => ∃ g L ys, e = .returned (.slice (some ⟨g, 0, none⟩) cs.length cs.length) ∧ SepII w.heap.size w' (.slice (some ⟨g, 0, none⟩) cs.length cs.length) L ys cs cs.length ∧ Below w.heap.size w w' := by
  obtain ⟨i0, hi, hz0, hz1, hz2⟩ := info_parts intsInfo
  obtain ⟨oa, cap, rfl, hc, hr⟩ := h
  have HR : Hid (0 < cs.length → ∃ g o, oa = some ⟨g, o, none⟩ ∧ g < w.heap.size ∧ ∀ j, j < cs.length → ∃ u, w.cell? ⟨g, o + j, none⟩ = some u ∧ RowI w u (il cs j)) := hr
  have HF : Hid (∀ c ∈ cs, c.length ≤ 1048576) := hf
  clear hr hf
  go_enter Try.func38, Try.ntmps38
  go_wp2_with (at_make; refine wpList_make_full _ rfl _ _ 27 rfl w.heap.size 26 i0 (.slice none 0 0) 1 Try.underlying27 hi hz0 hz1 .i64 .i64 _ _ cs.length rfl rfl rfl rfl ?c1 ?c2 ?c3 ?_)
  case c1 => rw [hz2]; omega
  case c2 => unfold maxLen; omega
  case c3 => omega
  intro w1 ho1 hg1
  have hb1 : Below w.heap.size w w1 := (Below.refl _ _).grown hg1 (Nat.le_refl _) (by intro k hk; cases hk)
  clear hg1
  go_wp2
  go_loopw [4] (fun i wr => ∃ (k : Nat) (ys : List Value) (L : Nat → Value), i = .int .i64 k ∧ k ≤ cs.length ∧ wr.ownsRow w.heap.size 26 1 (.slice (some ⟨w.heap.size, 0, none⟩) cs.length cs.length) cs.length ys ∧ DoneII wr (w.heap.size + 1) ys L cs k ∧ Below w.heap.size w wr) (fun i _ => cs.length - (intOf i).toNat)
  case atStart => exact ⟨0, _, fun _ => .slice none 0 0, rfl, by omega, ho1, DoneII.start _ _ _ _ _, hb1⟩
  case round =>
    obtain ⟨k, ys, L, rfl, hk, hown, hys, hbr⟩ := hrel
    clear ho1 hb1
    have HOW : Hid (wr.ownsRow w.heap.size 26 1 (.slice (some ⟨w.heap.size, 0, none⟩) cs.length cs.length) cs.length ys) := hown
    have HD : Hid (DoneII wr (w.heap.size + 1) ys L cs k) := hys
    clear hown hys
    by_cases hlt : k < cs.length
    · obtain ⟨b, o, rfl, hb, hj⟩ := HR.out (by omega)
      obtain ⟨u, hu, ru⟩ := hj k hlt
      obtain ⟨ou, cu, rfl, -, -⟩ := id ru
      have hcell : wr.cell? ⟨b, o + k, none⟩ = some (.slice ou (il cs k).length cu) := (hbr.cell (p := ⟨b, o + k, none⟩) hb).trans hu
      have c := toI_row _ (il cs k) wr (ru.later hbr) (HF.out _ (il_mem hlt))
      clear hj ru hu
      go_wp2_with fail
      refine c.mono ?_
      rintro e w2 ⟨g2, rfl, ho2, hb2⟩
      clear c hcell
      have hgl : w.heap.size < wr.heap.size := (HOW.out.lt w.heap.size rfl).2
      have hown := own_below HOW.out hb2
      have hdone := HD.out.below hb2
      have hbw := hbr.trans (hb2.mono hbr.size)
      have hlen : ys.length = cs.length := by have := hown.1; omega
      obtain ⟨u0, hc0⟩ : ∃ u, w2.cell? ⟨w.heap.size, k, none⟩ = some u := ⟨ys[k]'(by omega), by rw [hown.cellAt k (by omega)]; exact List.getElem?_eq_getElem _⟩
      have hf0 : w2.frozen? ⟨w.heap.size, k, none⟩ = false := hown.frozenAt _
      have DS := hdone.stored (by omega) HD.out.lt ho2 (by omega)
      have OS := (hown.stored k (.slice (some ⟨g2, 0, none⟩) (il cs k).length (il cs k).length)).1
      have BS : Below w.heap.size w (w2.setCell ⟨w.heap.size, k, none⟩ (.slice (some ⟨g2, 0, none⟩) (il cs k).length (il cs k).length)) := hbw.setCell (p := ⟨w.heap.size, k, none⟩) (Nat.le_refl _) _
      have HX : Hid ((w2.setCell ⟨w.heap.size, k, none⟩ (.slice (some ⟨g2, 0, none⟩) (il cs k).length (il cs k).length)).ownsRow w.heap.size 26 1 (.slice (some ⟨w.heap.size, 0, none⟩) cs.length cs.length) cs.length (ys.set k (.slice (some ⟨g2, 0, none⟩) (il cs k).length (il cs k).length)) ∧ DoneII (w2.setCell ⟨w.heap.size, k, none⟩ (.slice (some ⟨g2, 0, none⟩) (il cs k).length (il cs k).length)) (w.heap.size + 1) (ys.set k (.slice (some ⟨g2, 0, none⟩) (il cs k).length (il cs k).length)) (fun j => if j = k then .slice (some ⟨g2, 0, none⟩) (il cs k).length (il cs k).length else L j) cs (k + 1) ∧ Below w.heap.size w (w2.setCell ⟨w.heap.size, k, none⟩ (.slice (some ⟨g2, 0, none⟩) (il cs k).length (il cs k).length))) := ⟨OS, DS, BS⟩
      clear DS OS BS hown hdone hbw ho2 hb2 hbr HOW HD
      go_wp2
      go_roundw
      case rel => exact ⟨k + 1, _, _, by go_num, by omega, HX.out.1, HX.out.2.1, HX.out.2.2⟩
      case measure => simp [intOf]; omega
    · obtain rfl : k = cs.length := by omega
      go_wp2
      go_ret
      exact ⟨_, L, ys, rfl, HD.out.sep HOW.out, hbr⟩
set_option maxHeartbeats 800000 in
theorem eqII_row (va vb : Value) (cs : List (List Int)) (w : World) (ha : RowII w va cs) (hb : RowII w vb cs) (hn : cs.length ≤ 1099511627776) (he : ∀ c ∈ cs, c.length ≤ 1099511627776) :
    Calls Try.prog 43 #[va, vb] w fun e w' => e = .returned (.bool true) ∧ Below w.heap.size w w' := by
  have mixed : Try.prog.follows .mixedOrders = true := by kernel_rfl
  obtain ⟨oa, ca, rfl, hca, hra⟩ := ha
  obtain ⟨ob, cb, rfl, hcb, hrb⟩ := hb
  have HA : Hid (0 < cs.length → ∃ g o, oa = some ⟨g, o, none⟩ ∧ g < w.heap.size ∧ ∀ j, j < cs.length → ∃ u, w.cell? ⟨g, o + j, none⟩ = some u ∧ RowI w u (il cs j)) := hra
  have HB : Hid (0 < cs.length → ∃ g o, ob = some ⟨g, o, none⟩ ∧ g < w.heap.size ∧ ∀ j, j < cs.length → ∃ u, w.cell? ⟨g, o + j, none⟩ = some u ∧ RowI w u (il cs j)) := hrb
  have HE : Hid (∀ c ∈ cs, c.length ≤ 1099511627776) := he
  clear hra hrb he
  go_enter Try.func43, Try.ntmps43
  go_wp2
  go_loopw [5] (fun i wr => ∃ k : Nat, i = .int .i64 k ∧ k ≤ cs.length ∧ Below w.heap.size w wr) (fun i _ => cs.length - (intOf i).toNat)
  case atStart => exact ⟨0, rfl, by omega, Below.refl _ _⟩
  case round =>
    obtain ⟨k, rfl, hk, hbr⟩ := hrel
    by_cases hlt : k < cs.length
    · obtain ⟨g, o, rfl, hg, hj⟩ := HA.out (by omega)
      obtain ⟨g', o', rfl, hg', hj'⟩ := HB.out (by omega)
      obtain ⟨u, hu, ru⟩ := hj k hlt
      obtain ⟨u', hu', ru'⟩ := hj' k hlt
      obtain ⟨p1, q1, rfl, -, -⟩ := id ru
      obtain ⟨p2, q2, rfl, -, -⟩ := id ru'
      have a1 : wr.cell? ⟨g, o + k, none⟩ = some (.slice p1 (il cs k).length q1) := (hbr.cell (p := ⟨g, o + k, none⟩) hg).trans hu
      have a2 : wr.cell? ⟨g', o' + k, none⟩ = some (.slice p2 (il cs k).length q2) := (hbr.cell (p := ⟨g', o' + k, none⟩) hg').trans hu'
      have cE := fun d os => Calls.regrown_of (eqI_row _ _ (il cs k) (Go.Sort.grow (redrawn wr d) os) ((ru.later hbr).later (below_regrown wr d os)) ((ru'.later hbr).later (below_regrown wr d os)) (HE.out _ (il_mem hlt)))
      have d1 := fun d os => cell_regrown a1 d os
      have d2 := fun d os => cell_regrown a2 d os
      have HBR : Hid (∀ d os, Below w.heap.size w (Go.Sort.grow (redrawn wr d) os)) := fun d os => hbr.trans ((below_regrown wr d os).mono hbr.size)
      clear hj hj' hu hu' ru ru' a1 a2 hbr
      go_wp2
      refine wp_region_quiet_below mixed (by kernel_rfl) ?_
      repeat (go_big_quiet_step (with_reducible exact cE _ _))
      refine wpQuiet_nil ?_
      intro _ hw'
      obtain ⟨⟨dq, osq⟩, hw''⟩ := hw'
      subst hw''
      clear cE d1 d2
      go_wp2
      go_roundw
      case rel => exact ⟨k + 1, by go_num, by omega, HBR.out _ _⟩
      case measure => simp [intOf]; omega
    · go_wp2
      go_ret
      exact ⟨rfl, hbr⟩
end Go.Proofs.Ytmdmplphendpcab
