/- What the laws' own helpers do with a schema that came in: its size, a copy of it, two held against each other. -/
import Derived.Test.YtlpjigpnpafkiabDoorVt
import Derived.Test.YtlpjigpnpafkiabDoorVc
import Derived.Lib.QuietBelow
namespace Go.Proofs.YtlpjigpnpafkiabDoor
open Go.RowKit
set_option maxRecDepth 100000

/-- What came in is small enough to be spoken of at all. -/
structure inS (s : SchemaD) : Prop where
  attrs : s.attrs.length ≤ 9223372036854775807
  each : ∀ a ∈ s.attrs, inA a
  classes : s.classes.length ≤ 9223372036854775807
  sizes : ∀ t ∈ s.classes, t.size ≤ 9223372036854775807
structure fitS (s : SchemaD) : Prop where
  attrs : s.attrs.length ≤ 1048576
  each : ∀ a ∈ s.attrs, fitA a
  classes : s.classes.length ≤ 1048576
  sizes : ∀ t ∈ s.classes, t.size ≤ 1048576
theorem fitS.ok {s : SchemaD} (h : fitS s) : okSch s := ⟨by have := h.attrs; omega, fun a ha => (h.each a ha).ok, by have := h.classes; omega, fun t ht => by have := h.sizes t ht; omega⟩

set_option maxHeartbeats 800000 in
theorem szAttrS_row (v : Value) (ls : List AttrD) (left : Int) (w : World) (h : RowA w v ls) (hn : ls.length ≤ 9223372036854775807) (hs : ∀ a ∈ ls, inA a) (h0 : 0 ≤ left) (h1 : left ≤ 1048576) :
    Calls Tryd.prog 45 #[v, .int .i64 left] w fun e w' => ∃ r : Int, e = .returned (.int .i64 r) ∧ ((0 ≤ r ∧ r ≤ left ∧ (ls.length : Int) ≤ left ∧ ∀ a ∈ ls, fitA a) ∨ r = -1) ∧ Below w.heap.size w w' := by
  obtain ⟨oa, cap, rfl, hc, hr⟩ := h
  have HR : Hid (0 < ls.length → ∃ g o, oa = some ⟨g, o, none⟩ ∧ g < w.heap.size ∧ ∀ j, j < ls.length → CellsA w g (o + j * 3) (ad ls j)) := hr
  have HS : Hid (∀ a ∈ ls, inA a) := hs
  clear hr hs
  by_cases hl : left - (ls.length : Int) < 0
  · go_enter Tryd.func45, Tryd.ntmps45
    go_wp2
    go_ret
    exact ⟨_, rfl, .inr rfl, Below.refl _ _⟩
  · go_enter Tryd.func45, Tryd.ntmps45
    go_wp2
    go_loopw [1, 5] (fun l i wr => ∃ (k : Nat) (x : Int), i = .int .i64 k ∧ l = .int .i64 x ∧ 0 ≤ x ∧ x ≤ left ∧ k ≤ ls.length ∧ (∀ j, j < k → fitA (ad ls j)) ∧ Below w.heap.size w wr) (fun _ i _ => ls.length - (intOf i).toNat)
    case atStart => exact ⟨0, _, rfl, rfl, by omega, by omega, by omega, by omega, Below.refl _ _⟩
    case round =>
      obtain ⟨k, x, rfl, rfl, hx0, hx1, hk, hal, hb⟩ := hrel
      have HA : Hid (∀ j, j < k → fitA (ad ls j)) := hal
      clear hal
      by_cases hlt : k < ls.length
      · obtain ⟨g, o, rfl, hg, hj⟩ := HR.out (by omega)
        obtain ⟨vc, vv, q0, q1, q2, r1, r2⟩ := (hj k hlt).later hb hg
        obtain ⟨o1, c1, rfl, -, -⟩ := id r1
        obtain ⟨o2, c2, rfl, -, -⟩ := id r2
        have c := szAttr_row _ (ad ls k) x wr ⟨_, _, rfl, r1, r2⟩ (HS.out _ (ad_mem hlt)) hx0 (by omega)
        clear hj r1 r2
        go_wp2_with fail
        refine c.mono ?_
        rintro e w1 ⟨r, rfl, hr, hb1⟩
        clear c q0 q1 q2
        have hb2 := hb.trans (hb1.mono hb.size)
        clear hb hb1
        rcases hr with ⟨p0, p1, p2⟩ | rfl
        · have HP : Hid (fitA (ad ls k)) := p2
          have p0' : ¬ r < 0 := by omega
          clear p2
          go_wp2
          go_roundw
          case rel =>
            refine ⟨k + 1, r, by go_num, rfl, by omega, by omega, by omega, ?_, hb2⟩
            intro j hj
            by_cases e : j = k
            · subst e; exact HP.out
            · exact HA.out j (by omega)
          case measure => simp [intOf]; omega
        · go_wp2
          go_ret
          exact ⟨_, rfl, .inr rfl, hb2⟩
      · go_wp2
        go_ret
        refine ⟨_, rfl, .inl ⟨hx0, hx1, by omega, fun a ha => ?_⟩, hb⟩
        obtain ⟨j, hj, rfl⟩ := List.mem_iff_getElem.1 ha
        have := HA.out j (by omega)
        rwa [ad_eq hj] at this

set_option maxHeartbeats 400000 in
theorem szSchema_row (v : Value) (a : SchemaD) (left : Int) (w : World) (h : SchemaAt w v a) (hn : inS a) (h0 : 0 ≤ left) (h1 : left ≤ 1048576) :
    Calls Tryd.prog 16 #[v, .int .i64 left] w fun e w' => ∃ r : Int, e = .returned (.int .i64 r) ∧ ((0 ≤ r ∧ r ≤ left ∧ fitS a) ∨ r = -1) ∧ Below w.heap.size w w' := by
  obtain ⟨va, vc, rfl, ha, hc⟩ := h
  have HO : Hid (inS a) := hn
  have HA : Hid (RowA w va a.attrs) := ha
  have HC : Hid (RowS w vc a.classes) := hc
  clear ha hc hn
  go_enter Tryd.func16, Tryd.ntmps16
  go_wp2_with fail
  obtain ⟨K, B0⟩ := blk_1 38 w #[va, vc]
  refine (szAttrS_row va a.attrs left _ (HA.out.later B0) HO.out.attrs HO.out.each h0 h1).mono ?_
  rintro e w1 ⟨r, rfl, hr, hb1⟩
  have B1 := B0.trans (hb1.mono (by simp))
  have k2 : w1.cell? ⟨w.heap.size, 1, none⟩ = some vc := (K.below hb1).cell 1
  clear K B0 hb1
  rcases hr with ⟨r0, r1, r2, r3⟩ | rfl
  · have HF : Hid (∀ x ∈ a.attrs, fitA x) := r3
    have r0' : ¬ r < 0 := by omega
    clear r3
    go_wp2_with fail
    refine (szS_row vc a.classes r w1 (HC.out.later B1) HO.out.classes HO.out.sizes (by omega) (by omega)).mono ?_
    rintro e w2 ⟨r', rfl, hr', hb2⟩
    clear k2
    have B2 := B1.trans (hb2.mono B1.size)
    rcases hr' with ⟨q0, q1, q2, q3⟩ | rfl
    · have HQ : Hid (∀ s ∈ a.classes, (s.size : Int) ≤ r) := q3
      have q0' : ¬ r' < 0 := by omega
      clear q3
      go_wp2
      go_ret
      refine ⟨_, rfl, .inl ⟨q0, by omega, ⟨by omega, HF.out, by omega, fun s hs => ?_⟩⟩, B2⟩
      have := HQ.out s hs
      omega
    · go_wp2
      go_ret
      exact ⟨_, rfl, .inr rfl, B2⟩
  · go_wp2
    go_ret
    exact ⟨_, rfl, .inr rfl, B1⟩

set_option maxHeartbeats 800000 in
theorem eqAttrS_row (va vb : Value) (ls : List AttrD) (w : World) (ha : RowA w va ls) (hb : RowA w vb ls) (hn : ls.length ≤ 1099511627776) (he : ∀ a ∈ ls, okA a) :
    Calls Tryd.prog 49 #[va, vb] w fun e w' => e = .returned (.bool true) ∧ Below w.heap.size w w' := by
  have mixed : Tryd.prog.follows .mixedOrders = true := by kernel_rfl
  obtain ⟨oa, ca, rfl, hca, hra⟩ := ha
  obtain ⟨ob, cb, rfl, hcb, hrb⟩ := hb
  have HA : Hid (0 < ls.length → ∃ g o, oa = some ⟨g, o, none⟩ ∧ g < w.heap.size ∧ ∀ j, j < ls.length → CellsA w g (o + j * 3) (ad ls j)) := hra
  have HB : Hid (0 < ls.length → ∃ g o, ob = some ⟨g, o, none⟩ ∧ g < w.heap.size ∧ ∀ j, j < ls.length → CellsA w g (o + j * 3) (ad ls j)) := hrb
  have HE : Hid (∀ a ∈ ls, okA a) := he
  clear hra hrb he
  go_enter Tryd.func49, Tryd.ntmps49
  go_wp2
  go_loopw [5] (fun i wr => ∃ k : Nat, i = .int .i64 k ∧ k ≤ ls.length ∧ Below w.heap.size w wr) (fun i _ => ls.length - (intOf i).toNat)
  case atStart => exact ⟨0, rfl, by omega, Below.refl _ _⟩
  case round =>
    obtain ⟨k, rfl, hk, hbr⟩ := hrel
    by_cases hlt : k < ls.length
    · obtain ⟨g, o, rfl, hg, hj⟩ := HA.out (by omega)
      obtain ⟨g', o', rfl, hg', hj'⟩ := HB.out (by omega)
      obtain ⟨vc, vv, p0, p1, p2, r1, r2⟩ := (hj k hlt).later hbr hg
      obtain ⟨vc', vv', p0', p1', p2', r1', r2'⟩ := (hj' k hlt).later hbr hg'
      obtain ⟨o1, c1, rfl, -, -⟩ := id r1
      obtain ⟨o2, c2, rfl, -, -⟩ := id r2
      obtain ⟨o3, c3, rfl, -, -⟩ := id r1'
      obtain ⟨o4, c4, rfl, -, -⟩ := id r2'
      have cM := fun d os => Calls.regrown_of (eqAttr_row (.agg #[.string (ad ls k).name, .slice o1 (ad ls k).cuts.length c1, .slice o2 (ad ls k).vals.length c2]) (.agg #[.string (ad ls k).name, .slice o3 (ad ls k).cuts.length c3, .slice o4 (ad ls k).vals.length c4]) (ad ls k) (Go.Sort.grow (redrawn wr d) os)
        ⟨_, _, rfl, r1.later (below_regrown wr d os), r2.later (below_regrown wr d os)⟩ ⟨_, _, rfl, r1'.later (below_regrown wr d os), r2'.later (below_regrown wr d os)⟩ (HE.out _ (ad_mem hlt)))
      have e0 := fun d os => cell_regrown p0 d os
      have e1 := fun d os => cell_regrown p1 d os
      have e2 := fun d os => cell_regrown p2 d os
      have e0' := fun d os => cell_regrown p0' d os
      have e1' := fun d os => cell_regrown p1' d os
      have e2' := fun d os => cell_regrown p2' d os
      have hbR := fun d os => hbr.trans ((below_regrown wr d os).mono hbr.size)
      have HBR : Hid (∀ d os, Below w.heap.size w (Go.Sort.grow (redrawn wr d) os)) := hbR
      clear hj hj' p0 p1 p2 p0' p1' p2' r1 r2 r1' r2' hbr hbR
      go_wp2
      refine wp_region_quiet_below mixed (by kernel_rfl) ?_
      repeat (quiet_step (exact cM _ _))
      refine wpQuiet_nil ?_
      intro _ hw'
      obtain ⟨⟨dq, osq⟩, hw''⟩ := hw'
      subst hw''
      clear cM e0 e1 e2 e0' e1' e2'
      go_wp2
      go_roundw
      case rel => exact ⟨k + 1, by go_num, by omega, HBR.out _ _⟩
      case measure => simp [intOf]; omega
    · go_wp2
      go_ret
      exact ⟨rfl, hbr⟩

theorem eqSchema_row (va vb : Value) (a : SchemaD) (w : World) (ha : SchemaAt w va a) (hb : SchemaAt w vb a) (hn : okSch a) :
    Calls Tryd.prog 20 #[va, vb] w fun e w' => e = .returned (.bool true) ∧ Below w.heap.size w w' := by
  obtain ⟨ca, sa, rfl, ha1, ha2⟩ := ha
  obtain ⟨cb, sb, rfl, hb1, hb2⟩ := hb
  have HA : Hid (RowA w ca a.attrs ∧ RowS w sa a.classes ∧ RowA w cb a.attrs ∧ RowS w sb a.classes ∧ okSch a) := ⟨ha1, ha2, hb1, hb2, hn⟩
  clear ha1 ha2 hb1 hb2 hn
  go_enter Tryd.func20, Tryd.ntmps20
  go_wp2_with fail
  obtain ⟨K1, K2, B0⟩ := blk_2 43 43 w #[ca, sa] #[cb, sb]
  obtain ⟨h1, h2, h3, h4, hn⟩ := HA.out
  refine (eqAttrS_row ca cb a.attrs _ (h1.later B0) (h3.later B0) hn.attrs hn.each).mono ?_
  rintro e w1 ⟨rfl, hb1⟩
  have B1 := B0.trans (hb1.mono (by simp; omega))
  have k1 : w1.cell? ⟨w.heap.size, 1, none⟩ = some sa := (K1.below hb1).cell 1
  have k2 : w1.cell? ⟨w.heap.size + 1, 1, none⟩ = some sb := (K2.below hb1).cell 1
  have h2 := h2.later B1
  have h4 := h4.later B1
  clear HA h1 h3 K1 K2 B0 hb1
  go_wp2_with fail
  refine (eqS_row sa sb a.classes _ h2 h4 hn.classes.1).mono ?_
  rintro e w2 ⟨rfl, hb2⟩
  clear h2 h4 k1 k2 hn
  go_wp2
  go_ret
  exact ⟨rfl, B1.trans (hb2.mono B1.size)⟩
end Go.Proofs.YtlpjigpnpafkiabDoor
