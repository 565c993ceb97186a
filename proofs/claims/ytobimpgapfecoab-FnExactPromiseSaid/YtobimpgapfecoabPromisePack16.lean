/- Texts of this claim, put together: part 16. -/
import Derived.Test.YtobimpgapfecoabPromisePack4
import Derived.Test.YtobimpgapfecoabPromisePack11
import Derived.WalkKit
import Derived.ProofKit
import Derived.OpenShut
import Derived.Lib.QuietBelow
import Derived.Test.YtobimpgapfecoabPromisePack8
import Derived.Test.YtobimpgapfecoabPromisePack15
import Derived.Test.YtobimpgapfecoabPromisePack10
import Derived.Test.YtobimpgapfecoabPromisePack3
import Derived.BigQuiet
import Derived.Test.YtobimpgapfecoabPromisePack9
/- Whether a schema is right, by the specification. -/
namespace Go.Proofs.Ytobimpgapfecoab
open Go.RowKit
set_option maxRecDepth 100000

theorem sch_no1 {s : SchemaD} (h : ¬ ((1 : Int) ≤ s.attrs.length ∧ (s.attrs.length : Int) ≤ 5)) : schemaOk s = false := by
  unfold schemaOk; rw [decide_eq_false (by omega)]; rfl
theorem sch_no2 {s : SchemaD} (h : ¬ ((2 : Int) ≤ s.classes.length ∧ (s.classes.length : Int) ≤ 3)) : schemaOk s = false := by
  unfold schemaOk choices; rw [decide_eq_false h]; simp
theorem sch_no3 {s : SchemaD} (h : wordsOk s.classes = false) : schemaOk s = false := by
  unfold schemaOk choices; rw [h]; simp
theorem sch_yes {s : SchemaD} (h : (1 : Int) ≤ s.attrs.length ∧ (s.attrs.length : Int) ≤ 5) (h2 : (2 : Int) ≤ s.classes.length ∧ (s.classes.length : Int) ≤ 3) (h3 : wordsOk s.classes = true) : schemaOk s = attrsOk s.attrs := by
  unfold schemaOk choices; rw [decide_eq_true (p := 1 ≤ s.attrs.length ∧ s.attrs.length ≤ 5) (by omega), decide_eq_true h2, h3]; rfl

set_option maxHeartbeats 1600000 in
theorem specSchemaOk_any (v : Value) (s : SchemaD) (w : World) (h : SchemaAt w v s) (hn : okSch s) :
    Calls Try.prog 73 #[v] w fun e w' => e = .returned (.bool (schemaOk s)) ∧ Below w.heap.size w w' := by
  obtain ⟨va, vc, rfl, ha, hc⟩ := h
  obtain ⟨oa, ca, rfl, hca, har⟩ := id ha
  obtain ⟨oc, cc, rfl, hcc, hcr⟩ := id hc
  have HAR : Hid (RowA w (.slice oa s.attrs.length ca) s.attrs) := ha
  have HCR : Hid (RowS w (.slice oc s.classes.length cc) s.classes) := hc
  have HO : Hid (okSch s) := hn
  have la := hn.attrs
  clear ha hc har hcr hn
  by_cases h1 : (1 : Int) ≤ s.attrs.length ∧ (s.attrs.length : Int) ≤ 5
  rotate_left
  · have HF : Hid (schemaOk s = false) := sch_no1 h1
    go_enter Try.func73, Try.ntmps73
    go_wp2_with fail
    refine (in_any _ _ _ _).mono ?_
    rintro e w1 ⟨rfl, rfl⟩
    rw [decide_eq_false h1]
    clear h1
    go_wp2
    go_ret
    exact ⟨by rw [HF.out]; rfl, (Below.refl _ _).alloc (Nat.le_refl _) _⟩
  by_cases h2 : (2 : Int) ≤ s.classes.length ∧ (s.classes.length : Int) ≤ 3
  rotate_left
  · have HF : Hid (schemaOk s = false) := sch_no2 h2
    go_enter Try.func73, Try.ntmps73
    go_wp2_with fail
    refine (in_any _ _ _ _).mono ?_
    rintro e w1 ⟨rfl, rfl⟩
    rw [decide_eq_true h1]
    clear h1
    go_wp2_with fail
    refine (in_any _ _ _ _).mono ?_
    rintro e w1 ⟨rfl, rfl⟩
    rw [decide_eq_false h2]
    clear h2
    go_wp2
    go_ret
    exact ⟨by rw [HF.out]; rfl, (Below.refl _ _).alloc (Nat.le_refl _) _⟩
  obtain ⟨K0, B0⟩ := blk_1 40 w #[.slice oa s.attrs.length ca, .slice oc s.classes.length cc]
  have c := specWords_any _ s.classes _ (HCR.out.later B0) HO.out.classes
  cases hw : wordsOk s.classes with
  | false =>
    have HF : Hid (schemaOk s = false) := sch_no3 hw
    rw [hw] at c
    clear hw
    go_enter Try.func73, Try.ntmps73
    go_wp2_with fail
    refine (in_any _ _ _ _).mono ?_
    rintro e w1 ⟨rfl, rfl⟩
    rw [decide_eq_true h1]
    clear h1
    go_wp2_with fail
    refine (in_any _ _ _ _).mono ?_
    rintro e w1 ⟨rfl, rfl⟩
    rw [decide_eq_true h2]
    clear h2
    go_wp2_with fail
    refine c.mono ?_
    rintro e w1 ⟨rfl, hb1⟩
    clear c K0
    go_wp2
    go_ret
    exact ⟨by rw [HF.out]; rfl, B0.trans (hb1.mono B0.size)⟩
  | true =>
    have HW : Hid (schemaOk s = attrsOk s.attrs) := sch_yes h1 h2 hw
    rw [hw] at c
    clear hw
    obtain ⟨ls, has⟩ : ∃ ls, s.attrs = ls := ⟨_, rfl⟩
    obtain ⟨g, o, rfl, hg, hj⟩ : ∃ g o, oa = some ⟨g, o, none⟩ ∧ g < w.heap.size ∧ ∀ j, j < ls.length → CellsA w g (o + j * 3) (ad ls j) := by
      obtain ⟨oa', cap', e, _, hr⟩ := HAR.out
      obtain ⟨g, o, e', hg, hj⟩ := hr (by omega)
      injection e with e1 e2 e3
      exact ⟨g, o, by rw [e1, e'], hg, by rw [← has]; exact hj⟩
    have HJ : Hid (∀ j, j < ls.length → CellsA w g (o + j * 3) (ad ls j)) := hj
    have HE : Hid (∀ j, j < ls.length → okA (ad ls j)) := fun j hj => HO.out.each _ (by rw [has]; exact ad_mem hj)
    have HAS : Hid (s.attrs = ls) := has
    clear hj HAR HCR HO
    rw [has] at h1 la hca K0 B0 c
    go_enter Try.func73, Try.ntmps73
    rw [has]
    clear has
    go_wp2_with fail
    refine (in_any _ _ _ _).mono ?_
    rintro e w1 ⟨rfl, rfl⟩
    rw [decide_eq_true h1]
    go_wp2_with fail
    refine (in_any _ _ _ _).mono ?_
    rintro e w1 ⟨rfl, rfl⟩
    rw [decide_eq_true h2]
    clear h2
    go_wp2_with fail
    refine c.mono ?_
    rintro e w1 ⟨rfl, hb1⟩
    clear c
    have HB1 : Hid (Blk 40 w1 w.heap.size #[.slice (some ⟨g, o, none⟩) ls.length ca, .slice oc s.classes.length cc]) := K0.below hb1
    have B1 := B0.trans (hb1.mono B0.size)
    clear hb1 K0 B0 h1
    go_wp2
    go_loopw [3, 4] (fun i _ wr => ∃ k : Nat, i = .int .i64 k ∧ k ≤ ls.length ∧ (∀ j, j < k → attrAt ls j = true) ∧ Below w1.heap.size w1 wr) (fun i _ _ => ls.length - (intOf i).toNat)
    case atStart => exact ⟨0, rfl, by omega, by omega, Below.refl _ _⟩
    case round =>
      obtain ⟨k, rfl, hk, hal, hb⟩ := hrel
      have HA : Hid (∀ j, j < k → attrAt ls j = true) := hal
      clear hal
      have K : wr.cell? ⟨w.heap.size, 0, none⟩ = some (.slice (some ⟨g, o, none⟩) ls.length ca) := (HB1.out.below hb).cell 0
      have hbw := B1.trans (hb.mono B1.size)
      by_cases hlt : k < ls.length
      · obtain ⟨vc, vv, q0, q1, q2, r1, r2⟩ := (HJ.out k hlt).later hbw hg
        obtain ⟨o1, c1, rfl, -, -⟩ := id r1
        obtain ⟨o2, c2, rfl, -, -⟩ := id r2
        have hx : AttrAt wr (.agg #[.string (ad ls k).name, .slice o1 (ad ls k).cuts.length c1, .slice o2 (ad ls k).vals.length c2]) (ad ls k) := ⟨_, _, rfl, r1, r2⟩
        have c := specAttrOk_any _ (ad ls k) _ hx (HE.out k hlt)
        clear r1 r2 hx
        cases hw : attrOk (ad ls k) with
        | false =>
          have HF : Hid (attrsOk ls = false) := attrs_no k hlt (attrAt_no1 hw)
          rw [hw] at c
          clear hw
          go_wp2_with fail
          refine c.mono ?_
          rintro e w2 ⟨rfl, hb2⟩
          clear c
          go_wp2
          go_ret
          exact ⟨by rw [HW.out, HAS.out, HF.out]; rfl, hbw.trans (hb2.mono hbw.size)⟩
        | true =>
          have HWK : Hid (attrOk (ad ls k) = true) := hw
          rw [hw] at c
          clear hw
          go_wp2_with fail
          refine c.mono ?_
          rintro e w2 ⟨rfl, hb2⟩
          clear c K q0 q1 q2
          have hb3 : Below w1.heap.size w1 w2 := hb.trans (hb2.mono hb.size)
          have hbx : Below w.heap.size w w2 := hbw.trans (hb2.mono hbw.size)
          have K : w2.cell? ⟨w.heap.size, 0, none⟩ = some (.slice (some ⟨g, o, none⟩) ls.length ca) := (HB1.out.below hb3).cell 0
          have q0 : w2.cell? ⟨g, o + k * 3, none⟩ = some (.string (ad ls k).name) := by
            obtain ⟨_, _, q, _⟩ := (HJ.out k hlt).later hbx hg; exact q
          clear hb hb2 hbw
          go_wp2
          go_loopw [4] (fun i wr => ∃ m q : Nat, i = .int .i64 m ∧ m ≤ k ∧ (∀ j, j < m → (ad ls k).name ≠ (ad ls j).name) ∧ wr = w2.drewN q) (fun i _ => k - (intOf i).toNat)
          case atStart => exact ⟨0, 0, rfl, by omega, by omega, rfl⟩
          case round =>
            obtain ⟨m, q, rfl, hm, hne, rfl⟩ := hrel
            have HN : Hid (∀ j, j < m → (ad ls k).name ≠ (ad ls j).name) := hne
            clear hne
            by_cases hmk : m < k
            · have hml : m < ls.length := by omega
              have hcm : w2.cell? ⟨g, o + m * 3, none⟩ = some (.string (ad ls m).name) := by
                obtain ⟨_, _, q, _⟩ := (HJ.out m hml).later hbx hg; exact q
              by_cases he : (ad ls k).name = (ad ls m).name
              · have HF : Hid (attrsOk ls = false) := attrs_no k hlt (attrAt_no2 (hasT_yes (k := m) (by rw [nmsB_len hk]; omega) (by rw [nmsB_at hmk hk]; exact he)))
                have hq : ((ad ls k).name.toList == (ad ls m).name.toList) = true := by rw [← he]; simp
                clear he
                generalize (ad ls k).name = u at q0 hq
                generalize (ad ls m).name = u' at hcm hq
                go_wp2
                go_quiet (fail)
                all_goals go_wp2
                all_goals go_ret
                all_goals exact ⟨by rw [HW.out, HAS.out, HF.out]; rfl, below_drewN (below_drewN hbx _) _⟩
              · have hq : ((ad ls k).name.toList == (ad ls m).name.toList) = false := by
                  rw [beq_eq_false_iff_ne]; exact fun h => he (bytes_eq_iff.1 h)
                have HE' : Hid ((ad ls k).name ≠ (ad ls m).name) := he
                clear he
                generalize hu : (ad ls k).name = u at q0 hq
                generalize hu' : (ad ls m).name = u' at hcm hq
                have HU : Hid ((ad ls k).name = u) := hu
                clear hu hu'
                go_wp2
                go_quiet (fail)
                all_goals go_wp2
                all_goals go_roundw
                case rel =>
                  refine ⟨m + 1, _, by go_num, by omega, ?_, by first | rfl | (simp only [World.drewN_drewN]; rfl)⟩
                  intro j hj
                  rw [← HU.out]
                  by_cases e : j = m
                  · subst e; exact HE'.out
                  · exact HN.out j (by omega)
                case measure => simp [intOf]; omega
            · have HF : Hid (attrAt ls k = true) := attrAt_yes HWK.out (hasT_no fun j hj => by
                have hj' : j < k := by rw [nmsB_len hk] at hj; exact hj
                rw [nmsB_at hj' hk]; exact HN.out j (by omega))
              go_wp2
              go_roundw
              case rel =>
                refine ⟨k + 1, by go_num, by omega, ?_, below_drewN hb3 _⟩
                intro j hj
                by_cases e : j = k
                · subst e; exact HF.out
                · exact HA.out j (by omega)
              case measure => simp [intOf]; omega
      · have HF : Hid (attrsOk ls = true) := attrs_yes fun j hj => HA.out j (by omega)
        go_wp2
        go_ret
        exact ⟨by rw [HW.out, HAS.out, HF.out]; rfl, hbw⟩
end Go.Proofs.Ytobimpgapfecoab
/- A call that changes nothing, in a region that draws its order. -/
namespace Go.Proofs.Ytobimpgapfecoab
open Go.RowKit
set_option maxRecDepth 100000
theorem regrown_same {P : Program} {f : FuncId} {args : Array Value} {w : World} {d : Nat} {os : Array Obj} {v : Value} (h : Calls P f args (Go.Sort.grow (redrawn w d) os) fun e w' => e = .returned v ∧ w' = Go.Sort.grow (redrawn w d) os) :
    Calls P f args (Go.Sort.grow (redrawn w d) os) fun e w'' => e = .returned v ∧ ∃ p : Regrown, w'' = Go.Sort.grow (redrawn w p.d) p.os :=
  h.mono fun _ _ ⟨he, hb⟩ => ⟨he, ⟨d, os⟩, hb⟩
end Go.Proofs.Ytobimpgapfecoab
/- Whether counts are right, by the specification. -/
namespace Go.Proofs.Ytobimpgapfecoab
open Go.RowKit
set_option maxRecDepth 100000
set_option linter.unusedSimpArgs false
set_option maxHeartbeats 3200000 in
theorem specStatsOk_any (vs vt : Value) (s : SchemaD) (t : StatsD) (w : World) (hs : SchemaAt w vs s) (ht : StatsAt w vt t) (hn : okSch s) (hb : okSt t) :
    Calls Try.prog 40 #[vs, vt] w fun r w' => r = .returned (.bool (statsOk s t)) ∧ Below w.heap.size w w' := by
  have mixed : Try.prog.follows .mixedOrders = true := by kernel_rfl
  have HS : Hid (∀ W, Below w.heap.size w W → SchemaAt W vs s) := fun W h => hs.later h
  have HT : Hid (∀ W, Below w.heap.size w W → StatsAt W vt t) := fun W h => ht.later h
  have HOK : Hid (okSch s) := hn
  have HOT : Hid (okSt t) := hb
  obtain ⟨va, vc, rfl, ra, rc⟩ := hs
  obtain ⟨oa, ka, rfl, -, -⟩ := id ra
  obtain ⟨oc, kc, rfl, -, -⟩ := id rc
  obtain ⟨vx, vy, rfl, rx, ry⟩ := ht
  obtain ⟨ox, kx, rfl, -, -⟩ := id rx
  obtain ⟨oy, ky, rfl, -, -⟩ := id ry
  have la := hn.attrs
  have lc := hn.classes.1
  have lx := hb.totals
  have ly := hb.cells
  clear ra rc rx ry hn hb
  have B0 : Below w.heap.size w ((w.alloc (.cells #[.slice oa s.attrs.length ka, .slice oc s.classes.length kc] 40)).alloc (.cells #[.slice ox t.totals.length kx, .slice oy t.cells.length ky] 35)) := ((Below.refl _ _).alloc (Nat.le_refl _) _).alloc (by simp) _
  have K1 := (Blk.new 40 w #[.slice oa s.attrs.length ka, .slice oc s.classes.length kc]).alloc (.cells #[.slice ox t.totals.length kx, .slice oy t.cells.length ky] 35)
  have K2 : Blk 35 ((w.alloc (.cells #[.slice oa s.attrs.length ka, .slice oc s.classes.length kc] 40)).alloc (.cells #[.slice ox t.totals.length kx, .slice oy t.cells.length ky] 35)) (w.heap.size + 1) #[.slice ox t.totals.length kx, .slice oy t.cells.length ky] := by
    have := Blk.new 35 (w.alloc (.cells #[.slice oa s.attrs.length ka, .slice oc s.classes.length kc] 40)) #[.slice ox t.totals.length kx, .slice oy t.cells.length ky]
    rwa [show (w.alloc (.cells #[.slice oa s.attrs.length ka, .slice oc s.classes.length kc] 40)).heap.size = w.heap.size + 1 by simp] at this
  have e1 := specSchemaOk_any _ s _ (HS.out _ B0) HOK.out
  cases hk : schemaOk s with
  | false =>
    have HE : Hid (statsOk s t = false) := by unfold statsOk; rw [hk]; rfl
    rw [hk] at e1
    clear hk K1 K2
    go_enter Try.func40, Try.ntmps40
    go_wp2_with fail
    refine e1.mono ?_
    clear e1
    rintro r w1 ⟨rfl, hb1⟩
    go_wp2
    go_ret
    exact ⟨by rw [HE.out]; rfl, B0.trans (hb1.mono (by simp; omega))⟩
  | true =>
    have lcl := sch_classes hk
    have HX : Hid (statsOk s t = (decide (t.totals.length = s.classes.length) && (t.totals.all inW && (decide (sumL t.totals ≤ 999) && (decide (t.cells.length = 0) || (decide (t.cells.length = s.attrs.length) && (List.range t.cells.length).all (cellOk s t))))))) := by unfold statsOk; rw [hk]; rfl
    rw [hk] at e1
    clear hk
    go_enter Try.func40, Try.ntmps40
    go_wp2_with fail
    refine e1.mono ?_
    clear e1
    rintro r w1 ⟨rfl, hb1⟩
    have B1 := B0.trans (hb1.mono (by simp; omega))
    replace K1 := K1.below hb1
    replace K2 := K2.below hb1
    have p0 : w1.cell? ⟨w.heap.size, 0, none⟩ = some (.slice oa s.attrs.length ka) := K1.cell 0
    have p1 : w1.cell? ⟨w.heap.size, 1, none⟩ = some (.slice oc s.classes.length kc) := K1.cell 1
    have q0 : w1.cell? ⟨w.heap.size + 1, 0, none⟩ = some (.slice ox t.totals.length kx) := K2.cell 0
    have q1 : w1.cell? ⟨w.heap.size + 1, 1, none⟩ = some (.slice oy t.cells.length ky) := K2.cell 1
    clear hb1 B0
    by_cases hl : t.totals.length = s.classes.length
    rotate_left
    · have HE : Hid (statsOk s t = false) := by rw [HX.out, decide_eq_false hl]; rfl
      have hq : ((t.totals.length : Int) != (s.classes.length : Int)) = true := by rw [bne_iff_ne]; omega
      clear hl
      go_wp2
      go_ret
      exact ⟨by rw [HE.out]; rfl, B1⟩
    have hq : ((t.totals.length : Int) != (s.classes.length : Int)) = false := by rw [hl]; simp
    have HLEN : Hid (t.totals.length = s.classes.length) := hl
    have HX1 : Hid (statsOk s t = (t.totals.all inW && (decide (sumL t.totals ≤ 999) && (decide (t.cells.length = 0) || (decide (t.cells.length = s.attrs.length) && (List.range t.cells.length).all (cellOk s t)))))) := by rw [HX.out, decide_eq_true hl]; rfl
    have HK : Hid (Blk 40 w1 w.heap.size #[.slice oa s.attrs.length ka, .slice oc s.classes.length kc] ∧ Blk 35 w1 (w.heap.size + 1) #[.slice ox t.totals.length kx, .slice oy t.cells.length ky]) := ⟨K1, K2⟩
    clear hl HX p0 K1 K2
    go_wp2
    go_loopw [5, 6] (fun a i wr => ∃ (k : Nat) (z : Int), i = .int .i64 k ∧ a = .int .i64 z ∧ k ≤ t.totals.length ∧ 0 ≤ z ∧ z ≤ 999 * (k : Int) ∧ Hid (z = sumL (t.totals.take k) ∧ ∀ j, j < k → inW (t.totals.getD j 0) = true) ∧ Below w1.heap.size w1 wr) (fun _ i _ => t.totals.length - (intOf i).toNat)
    case atStart => exact ⟨0, 0, rfl, rfl, by omega, by omega, by omega, ⟨rfl, fun j hj => by omega⟩, Below.refl _ _⟩
    case round =>
      obtain ⟨k, z, rfl, rfl, hk, hz0, hz1, hal, hbr⟩ := hrel
      have hbw := B1.trans (hbr.mono B1.size)
      have j0 : wr.cell? ⟨w.heap.size + 1, 0, none⟩ = some (.slice ox t.totals.length kx) := (HK.out.2.below hbr).cell 0
      by_cases hlt : k < t.totals.length
      · obtain ⟨vx', vy', e', rX, -⟩ := HT.out wr hbw
        cases e'
        obtain ⟨ox', kx', e', -, hrX⟩ := rX
        cases e'
        obtain ⟨gx, fx, rfl, hgx, hjX⟩ := hrX (by omega)
        have b0 := hjX k hlt
        clear hjX hrX
        have HSM : Hid (sumL (t.totals.take (k + 1)) = sumL (t.totals.take k) + t.totals.getD k 0) := sum_take hlt
        obtain ⟨x, hx⟩ : ∃ x, x = t.totals.getD k 0 := ⟨_, rfl⟩
        have HXK : Hid (x = t.totals.getD k 0) := hx
        rw [← hx] at b0
        clear hx
        have e2 := in_any x 0 999 wr
        by_cases hin : 0 ≤ x ∧ x ≤ 999
        · rw [decide_eq_true hin] at e2
          have HI : Hid (inW (t.totals.getD k 0) = true) := by rw [← HXK.out]; exact inW_yes hin
          go_wp2_with fail
          refine e2.mono ?_
          clear e2
          rintro r w2 ⟨rfl, e2'⟩
          rw [e2']
          clear e2'
          go_wp2
          go_roundw
          case rel =>
            refine ⟨k + 1, _, by go_num, rfl, by omega, by omega, by omega, ⟨?_, fun j hj => ?_⟩, hbr⟩
            · rw [HSM.out, ← hal.out.1, ← HXK.out]
            · by_cases ej : j = k
              · subst ej; exact HI.out
              · exact hal.out.2 j (by omega)
          case measure => simp [intOf]; omega
        · rw [decide_eq_false hin] at e2
          have HI : Hid (statsOk s t = false) := by rw [HX1.out, allW_no hlt (by rw [← HXK.out]; exact inW_no hin)]; rfl
          clear hin
          go_wp2_with fail
          refine e2.mono ?_
          clear e2
          rintro r w2 ⟨rfl, e2'⟩
          rw [e2']
          clear e2'
          go_wp2
          go_ret
          exact ⟨by rw [HI.out]; rfl, hbw⟩
      · obtain rfl : k = t.totals.length := by omega
        have HZ : Hid (z = sumL t.totals) := by have := hal.out.1; rwa [List.take_length] at this
        have HX2 : Hid (statsOk s t = (decide (sumL t.totals ≤ 999) && (decide (t.cells.length = 0) || (decide (t.cells.length = s.attrs.length) && (List.range t.cells.length).all (cellOk s t))))) := by rw [HX1.out, allW_yes hal.out.2]; rfl
        have k0 : wr.cell? ⟨w.heap.size, 0, none⟩ = some (.slice oa s.attrs.length ka) := (HK.out.1.below hbr).cell 0
        have k1 : wr.cell? ⟨w.heap.size, 1, none⟩ = some (.slice oc s.classes.length kc) := (HK.out.1.below hbr).cell 1
        have j1 : wr.cell? ⟨w.heap.size + 1, 1, none⟩ = some (.slice oy t.cells.length ky) := (HK.out.2.below hbr).cell 1
        clear hal HX1 p1 q1 hlt hk
        by_cases hz : 999 < z
        · have HE : Hid (statsOk s t = false) := by rw [HX2.out, ← HZ.out, decide_eq_false (by omega)]; rfl
          go_wp2
          go_ret
          exact ⟨by rw [HE.out]; rfl, hbw⟩
        have HX3 : Hid (statsOk s t = (decide (t.cells.length = 0) || (decide (t.cells.length = s.attrs.length) && (List.range t.cells.length).all (cellOk s t)))) := by rw [HX2.out, ← HZ.out, decide_eq_true (by omega)]; rfl
        clear HX2
        by_cases hc0 : t.cells.length = 0
        · have HE : Hid (statsOk s t = true) := by rw [HX3.out, decide_eq_true hc0]; rfl
          have hcq : ((t.cells.length : Int) == 0) = true := by rw [hc0]; rfl
          clear hc0
          go_wp2
          go_ret
          exact ⟨by rw [HE.out]; rfl, hbw⟩
        have hcq : ((t.cells.length : Int) == 0) = false := by rw [beq_eq_false_iff_ne]; omega
        by_cases hca : t.cells.length = s.attrs.length
        rotate_left
        · have HE : Hid (statsOk s t = false) := by rw [HX3.out, decide_eq_false hc0, decide_eq_false hca]; rfl
          have hcr : ((t.cells.length : Int) != (s.attrs.length : Int)) = true := by rw [bne_iff_ne]; omega
          clear hc0 hca
          go_wp2
          go_ret
          exact ⟨by rw [HE.out]; rfl, hbw⟩
        have hcr : ((t.cells.length : Int) != (s.attrs.length : Int)) = false := by rw [hca]; simp
        have HX4 : Hid (statsOk s t = (List.range t.cells.length).all (cellOk s t)) := by rw [HX3.out, decide_eq_false hc0, decide_eq_true hca]; rfl
        have HCA : Hid (t.cells.length = s.attrs.length) := hca
        have HWR : Hid (Below w1.heap.size w1 wr) := hbr
        clear hc0 hca HX3 hbr hbw
        go_wp2
        clear j0 k0 k1 j1 hcq hcr hq
        go_loopw [7, 8, 9, 10, 11, 12] (fun i _ _ _ _ _ wr => ∃ k : Nat, i = .int .i64 k ∧ k ≤ t.cells.length ∧ Hid (∀ j, j < k → cellOk s t j = true) ∧ Below w1.heap.size w1 wr) (fun i _ _ _ _ _ _ => t.cells.length - (intOf i).toNat)
        case atStart => exact ⟨0, rfl, by omega, fun j hj => by omega, HWR.out⟩
        case round =>
          obtain ⟨i, rfl, hi, hci, hb3⟩ := hrel
          have hbw := B1.trans (hb3.mono B1.size)
          have k0 : wr.cell? ⟨w.heap.size, 0, none⟩ = some (.slice oa s.attrs.length ka) := (HK.out.1.below hb3).cell 0
          have k1 : wr.cell? ⟨w.heap.size, 1, none⟩ = some (.slice oc s.classes.length kc) := (HK.out.1.below hb3).cell 1
          have j0 : wr.cell? ⟨w.heap.size + 1, 0, none⟩ = some (.slice ox t.totals.length kx) := (HK.out.2.below hb3).cell 0
          have j1 : wr.cell? ⟨w.heap.size + 1, 1, none⟩ = some (.slice oy t.cells.length ky) := (HK.out.2.below hb3).cell 1
          by_cases hlt : i < t.cells.length
          · obtain ⟨va', vc', e', rA, -⟩ := HS.out wr hbw
            cases e'
            obtain ⟨oa', ka', e', -, hrA⟩ := rA
            cases e'
            have hkA : i < s.attrs.length := by have := HCA.out; omega
            obtain ⟨ga, fa, rfl, hga, hjA⟩ := hrA (by omega)
            obtain ⟨x1, x2, c0, c1, c2, r1, r2⟩ := hjA i hkA
            obtain ⟨y1, z1, rfl, -, -⟩ := id r1
            obtain ⟨y2, z2, rfl, -, -⟩ := id r2
            have l0 := (small_bins (ad s.attrs i)).1
            have l1 := (small_bins (ad s.attrs i)).2
            have cB := specBins_any (.agg #[.string (ad s.attrs i).name, .slice y1 (ad s.attrs i).cuts.length z1, .slice y2 (ad s.attrs i).vals.length z2]) (ad s.attrs i) wr ⟨_, _, rfl, r1, r2⟩ (HOK.out.each _ (ad_mem hkA))
            obtain ⟨nb, hnb⟩ := Int.eq_ofNat_of_zero_le l0
            have HC : Hid (cellOk s t i = (decide (((il t.cells i).length : Int) = (nb : Int) * (s.classes.length : Int)) && (List.range s.classes.length).all (colOk t (il t.cells i) s.classes.length nb))) := by unfold cellOk; rw [hnb]; rfl
            rw [hnb] at cB l1
            clear hjA hrA r1 r2 hga hnb l0
            go_wp2_with fail
            refine cB.mono ?_
            clear cB c0 c1 c2 k0 k1 j0 j1
            rintro r w2 ⟨rfl, hb2⟩
            have hb4 := hb3.trans (hb2.mono hb3.size)
            have hbw2 := hbw.trans (hb2.mono hbw.size)
            clear hb3 hb2 hbw
            have k1 : w2.cell? ⟨w.heap.size, 1, none⟩ = some (.slice oc s.classes.length kc) := (HK.out.1.below hb4).cell 1
            have j1 : w2.cell? ⟨w.heap.size + 1, 1, none⟩ = some (.slice oy t.cells.length ky) := (HK.out.2.below hb4).cell 1
            obtain ⟨vx', vy', e', -, rY⟩ := HT.out w2 hbw2
            cases e'
            obtain ⟨oy', ky', e', -, hrY⟩ := rY
            cases e'
            obtain ⟨gy, fy, rfl, hgy, hjY⟩ := hrY (by omega)
            obtain ⟨u, cu, rU⟩ := hjY i hlt
            obtain ⟨ou, ku, rfl, -, hrU⟩ := id rU
            have lu := HOT.out.each _ (il_mem hlt)
            have p0 : 0 ≤ (nb : Int) * (s.classes.length : Int) := Int.mul_nonneg (by omega) (by omega)
            have p1 : (nb : Int) * (s.classes.length : Int) ≤ 12 := by
              have := Nat.mul_le_mul (show nb ≤ 4 by omega) lcl.2
              omega
            have HU : Hid (∀ W, Below w2.heap.size w2 W → RowI W (.slice ou (il t.cells i).length ku) (il t.cells i)) := fun W h => rU.later h
            have HCU : Hid (∀ W, Below w2.heap.size w2 W → W.cell? ⟨gy, fy + i, none⟩ = some (.slice ou (il t.cells i).length ku)) := fun W h => (h.cell (p := ⟨gy, fy + i, none⟩) hgy).trans cu
            clear hjY hrY rU hrU hgy
            by_cases heq : ((il t.cells i).length : Int) = (nb : Int) * (s.classes.length : Int)
            rotate_left
            · have HE : Hid (statsOk s t = false) := by rw [HX4.out]; exact range_no hlt (by rw [HC.out, decide_eq_false heq]; rfl)
              have hne : (((il t.cells i).length : Int) != (nb : Int) * (s.classes.length : Int)) = true := by rw [bne_iff_ne]; exact heq
              go_wp2
              go_quiet (fail)
              all_goals go_wp2
              all_goals go_ret
              all_goals exact ⟨by rw [HE.out]; rfl, below_drewN hbw2 _⟩
            have HC2 : Hid (cellOk s t i = (List.range s.classes.length).all (colOk t (il t.cells i) s.classes.length nb)) := by rw [HC.out, decide_eq_true heq]; rfl
            have hne : (((il t.cells i).length : Int) != (nb : Int) * (s.classes.length : Int)) = false := by rw [heq]; simp
            have HEQ : Hid ((il t.cells i).length = nb * s.classes.length) := by have := heq; rw [← Int.natCast_mul] at this; exact Int.ofNat.inj this
            go_wp2
            go_quiet (fail)
            all_goals go_wp2
            clear k1 j1 cu hne heq HC q0
            go_loopw [9, 10, 11, 12] (fun kk _ _ _ wr => ∃ q : Nat, kk = .int .i64 q ∧ q ≤ s.classes.length ∧ Hid (∀ j, j < q → colOk t (il t.cells i) s.classes.length nb j = true) ∧ Below w2.heap.size w2 wr) (fun kk _ _ _ _ => s.classes.length - (intOf kk).toNat)
            case atStart => exact ⟨0, rfl, by omega, fun j hj => by omega, below_drewN (Below.refl _ _) _⟩
            case round =>
              obtain ⟨q, rfl, hq, hcq, hb5⟩ := hrel
              have hb6 := hb4.trans (hb5.mono hb4.size)
              have k1 : wr.cell? ⟨w.heap.size, 1, none⟩ = some (.slice oc s.classes.length kc) := (HK.out.1.below hb6).cell 1
              by_cases hqt : q < s.classes.length
              rotate_left
              · have HE : Hid (cellOk s t i = true) := by rw [HC2.out]; exact range_yes fun j hj => hcq.out j (by omega)
                go_wp2
                go_roundw
                case rel =>
                  refine ⟨i + 1, by go_num, by omega, fun j hj => ?_, hb6⟩
                  by_cases ej : j = i
                  · subst ej; exact HE.out
                  · exact hci.out j (by omega)
                case measure => simp [intOf]; omega
              have HB5 : Hid (Below w2.heap.size w2 wr) := hb5
              go_wp2
              clear k1 hb5 hb6
              go_loopw [10, 11, 12] (fun sm bb _ wr => ∃ (b : Nat) (y : Int), bb = .int .i64 b ∧ sm = .int .i64 y ∧ b ≤ nb ∧ 0 ≤ y ∧ y ≤ 999 * (b : Int) ∧ Hid (y = sumL (colL (il t.cells i) s.classes.length q b) ∧ ∀ j, j < b → inW (colAt (il t.cells i) s.classes.length q j) = true) ∧ Below w2.heap.size w2 wr) (fun _ bb _ _ => nb - (intOf bb).toNat)
              case atStart => exact ⟨0, 0, rfl, rfl, by omega, by omega, by omega, ⟨rfl, fun j hj => by omega⟩, HB5.out⟩
              case round =>
                obtain ⟨b, y, rfl, rfl, hbn, hy0, hy1, hcy, hb5⟩ := hrel
                have hb6 := hb4.trans (hb5.mono hb4.size)
                have hb7 := hbw2.trans (hb5.mono hbw2.size)
                by_cases hbt : b < nb
                · have k1 : wr.cell? ⟨w.heap.size, 1, none⟩ = some (.slice oc s.classes.length kc) := (HK.out.1.below hb6).cell 1
                  have j1 : wr.cell? ⟨w.heap.size + 1, 1, none⟩ = some (.slice (some ⟨gy, fy, none⟩) t.cells.length ky) := (HK.out.2.below hb6).cell 1
                  have cu := HCU.out wr hb5
                  have hix : b * s.classes.length + q < nb * s.classes.length := by
                    have h1 := Nat.mul_le_mul_right s.classes.length (show b + 1 ≤ nb by omega)
                    rw [Nat.add_mul, Nat.one_mul] at h1
                    omega
                  have hix2 : b * s.classes.length + q < (il t.cells i).length := by rw [HEQ.out]; exact hix
                  obtain ⟨ou', ku', e', -, hrU⟩ := HU.out wr hb5
                  cases e'
                  obtain ⟨gu, fu, rfl, hgu, hjU⟩ := hrU (by omega)
                  have cx := hjU _ hix2
                  have HSM : Hid (sumL (colL (il t.cells i) s.classes.length q (b + 1)) = sumL (colL (il t.cells i) s.classes.length q b) + colAt (il t.cells i) s.classes.length q b) := col_succ _ _ _ _
                  obtain ⟨x, hx⟩ : ∃ x, x = (il t.cells i).getD (b * s.classes.length + q) 0 := ⟨_, rfl⟩
                  have HXB : Hid (x = colAt (il t.cells i) s.classes.length q b) := hx
                  rw [← hx] at cx
                  clear hx hjU hrU hgu
                  by_cases hin : 0 ≤ x ∧ x ≤ 999
                  · have HI : Hid (inW (colAt (il t.cells i) s.classes.length q b) = true) := by rw [← HXB.out]; exact inW_yes hin
                    obtain ⟨hx0, hx1⟩ := hin
                    go_wp2
                    go_quiet (fail)
                    all_goals go_wp2
                    all_goals go_roundw
                    case rel =>
                      refine ⟨b + 1, _, by go_num, rfl, by omega, by omega, by omega, ⟨?_, fun j hj => ?_⟩, below_drewN hb5 _⟩
                      · rw [HSM.out, ← hcy.out.1, ← HXB.out]
                      · by_cases ej : j = b
                        · subst ej; exact HI.out
                        · exact hcy.out.2 j (by omega)
                    case measure => simp [intOf]; omega
                  · have HE : Hid (statsOk s t = false) := by
                      rw [HX4.out]
                      refine range_no hlt ?_
                      rw [HC2.out]
                      refine range_no hqt ?_
                      unfold colOk
                      rw [col_no hbt (by rw [← HXB.out]; exact inW_no hin)]; rfl
                    have hin' : x < 0 ∨ 999 < x := by omega
                    clear hin
                    rcases hin' with hin | hin
                    · go_wp2
                      go_quiet (fail)
                      all_goals go_wp2
                      all_goals go_ret
                      all_goals exact ⟨by rw [HE.out]; rfl, below_drewN hb7 _⟩
                    · have hx0 : 0 ≤ x := by omega
                      have HD : Hid (decide (x ≤ 999) = false) := decide_eq_false (by omega)
                      go_wp2
                      go_quiet (fail)
                      all_goals go_wp2
                      all_goals try (rename_i h'; exfalso; rw [HD.out] at h'; exact Bool.noConfusion h')
                      all_goals go_ret
                      all_goals exact ⟨by rw [HE.out]; rfl, below_drewN hb7 _⟩
                · obtain rfl : b = nb := by omega
                  have j0 : wr.cell? ⟨w.heap.size + 1, 0, none⟩ = some (.slice ox t.totals.length kx) := (HK.out.2.below hb6).cell 0
                  obtain ⟨vx', vy', e', rX, -⟩ := HT.out wr hb7
                  cases e'
                  obtain ⟨ox', kx', e', -, hrX⟩ := rX
                  cases e'
                  have hqx : q < t.totals.length := by have := HLEN.out; omega
                  obtain ⟨gx, fx, rfl, hgx, hjX⟩ := hrX (by omega)
                  have cx := hjX q hqx
                  have HAL : Hid ((colL (il t.cells i) s.classes.length q b).all inW = true) := col_yes hcy.out.2
                  have HYS : Hid (y = sumL (colL (il t.cells i) s.classes.length q b)) := hcy.out.1
                  obtain ⟨x, hx⟩ : ∃ x, x = t.totals.getD q 0 := ⟨_, rfl⟩
                  have HXB : Hid (x = t.totals.getD q 0) := hx
                  rw [← hx] at cx
                  clear hx hjX hrX hgx hcy
                  by_cases hgt : x < y
                  · have HE : Hid (statsOk s t = false) := by
                      rw [HX4.out]
                      refine range_no hlt ?_
                      rw [HC2.out]
                      refine range_no hqt ?_
                      unfold colOk
                      rw [HAL.out, ← HYS.out, ← HXB.out, decide_eq_false (by omega)]; rfl
                    go_wp2
                    go_ret
                    exact ⟨by rw [HE.out]; rfl, hb7⟩
                  · have HI : Hid (colOk t (il t.cells i) s.classes.length b q = true) := by
                      unfold colOk
                      rw [HAL.out, ← HYS.out, ← HXB.out, decide_eq_true (by omega)]; rfl
                    go_wp2
                    go_roundw
                    case rel =>
                      refine ⟨q + 1, by go_num, by omega, fun j hj => ?_, hb5⟩
                      by_cases ej : j = q
                      · subst ej; exact HI.out
                      · exact hcq.out j (by omega)
                    case measure => simp [intOf]; omega
          · have HE : Hid (statsOk s t = true) := by rw [HX4.out]; exact range_yes fun j hj => hci.out j (by omega)
            go_wp2
            go_ret
            exact ⟨by rw [HE.out]; rfl, hbw⟩
end Go.Proofs.Ytobimpgapfecoab
/- The total of counts, by the specification. -/
namespace Go.Proofs.Ytobimpgapfecoab
open Go.RowKit
set_option maxRecDepth 100000
set_option linter.unusedSimpArgs false
set_option maxHeartbeats 1600000 in
theorem specTotal_any (vs vt : Value) (s : SchemaD) (t : StatsD) (w : World) (hs : SchemaAt w vs s) (ht : StatsAt w vt t) (hn : okSch s) (hb : okSt t) :
    Calls Try.prog 43 #[vs, vt] w fun r w' => r = .returned (.int .i64 (statsTotal s t)) ∧ Below w.heap.size w w' := by
  have HS : Hid (∀ W, Below w.heap.size w W → SchemaAt W vs s) := fun W h => hs.later h
  have HT : Hid (∀ W, Below w.heap.size w W → StatsAt W vt t) := fun W h => ht.later h
  have HOK : Hid (okSch s) := hn
  have HOT : Hid (okSt t) := hb
  obtain ⟨va, vc, rfl, -, -⟩ := hs
  obtain ⟨vx, vy, rfl, rx, -⟩ := ht
  obtain ⟨ox, kx, rfl, -, -⟩ := id rx
  have lx := hb.totals
  clear rx hn hb
  have B0 : Below w.heap.size w ((w.alloc (.cells #[va, vc] 40)).alloc (.cells #[.slice ox t.totals.length kx, vy] 35)) := ((Below.refl _ _).alloc (Nat.le_refl _) _).alloc (by simp) _
  have K2 : Blk 35 ((w.alloc (.cells #[va, vc] 40)).alloc (.cells #[.slice ox t.totals.length kx, vy] 35)) (w.heap.size + 1) #[.slice ox t.totals.length kx, vy] := by
    have := Blk.new 35 (w.alloc (.cells #[va, vc] 40)) #[.slice ox t.totals.length kx, vy]
    rwa [show (w.alloc (.cells #[va, vc] 40)).heap.size = w.heap.size + 1 by simp] at this
  have e1 := specStatsOk_any _ _ s t _ (HS.out _ B0) (HT.out _ B0) HOK.out HOT.out
  cases hk : statsOk s t with
  | false =>
    have HE : Hid (statsTotal s t = 0) := by unfold statsTotal; rw [hk]; rfl
    rw [hk] at e1
    clear hk K2
    go_enter Try.func43, Try.ntmps43
    go_wp2_with fail
    refine e1.mono ?_
    clear e1
    rintro r w1 ⟨rfl, hb1⟩
    go_wp2
    go_ret
    exact ⟨by rw [HE.out]; rfl, B0.trans (hb1.mono (by simp; omega))⟩
  | true =>
    have HE : Hid (statsTotal s t = sumL t.totals) := by unfold statsTotal; rw [hk]; rfl
    have HP : Hid (t.totals.all inW = true) := (statsOk_parts hk).2.2.1
    have hl3 : t.totals.length ≤ 3 := by rw [(statsOk_parts hk).2.1]; exact (sch_classes (statsOk_parts hk).1).2
    rw [hk] at e1
    clear hk
    go_enter Try.func43, Try.ntmps43
    go_wp2_with fail
    refine e1.mono ?_
    clear e1
    rintro r w1 ⟨rfl, hb1⟩
    have B1 := B0.trans (hb1.mono (by simp; omega))
    have HK : Hid (Blk 35 w1 (w.heap.size + 1) #[.slice ox t.totals.length kx, vy]) := K2.below hb1
    clear hb1 B0 K2
    go_wp2
    go_loopw [5, 6] (fun a i wr => ∃ (k : Nat) (z : Int), i = .int .i64 k ∧ a = .int .i64 z ∧ k ≤ t.totals.length ∧ 0 ≤ z ∧ z ≤ 999 * (k : Int) ∧ Hid (z = sumL (t.totals.take k)) ∧ Below w1.heap.size w1 wr) (fun _ i _ => t.totals.length - (intOf i).toNat)
    case atStart => exact ⟨0, 0, rfl, rfl, by omega, by omega, by omega, rfl, Below.refl _ _⟩
    case round =>
      obtain ⟨k, z, rfl, rfl, hk, hz0, hz1, hal, hbr⟩ := hrel
      have hbw := B1.trans (hbr.mono B1.size)
      have j0 : wr.cell? ⟨w.heap.size + 1, 0, none⟩ = some (.slice ox t.totals.length kx) := (HK.out.below hbr).cell 0
      by_cases hlt : k < t.totals.length
      · obtain ⟨vx', vy', e', rX, -⟩ := HT.out wr hbw
        cases e'
        obtain ⟨ox', kx', e', -, hrX⟩ := rX
        cases e'
        obtain ⟨gx, fx, rfl, hgx, hjX⟩ := hrX (by omega)
        have b0 := hjX k hlt
        clear hjX hrX
        have HSM : Hid (sumL (t.totals.take (k + 1)) = sumL (t.totals.take k) + t.totals.getD k 0) := sum_take hlt
        obtain ⟨hx0, hx1⟩ := allW_at HP.out hlt
        generalize t.totals.getD k 0 = x at b0 HSM hx0 hx1
        go_wp2
        go_roundw
        case rel => exact ⟨k + 1, _, by go_num, rfl, by omega, by omega, by omega, by rw [HSM.out, ← hal.out]; rfl, hbr⟩
        case measure => simp [intOf]; omega
      · obtain rfl : k = t.totals.length := by omega
        have HZ : Hid (z = sumL t.totals) := by have := hal.out; rwa [List.take_length] at this
        go_wp2
        go_ret
        exact ⟨by rw [HE.out, ← HZ.out]; rfl, hbw⟩
end Go.Proofs.Ytobimpgapfecoab
