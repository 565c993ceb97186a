/- Texts of this claim, put together: part 24. -/
import Derived.Test.YtfekcckckmhioaaGreatDoorFnRowTextPack3
import Derived.Test.YtfekcckckmhioaaGreatDoorFnRowTextPack11
import Derived.Test.YtfekcckckmhioaaGreatDoorFnRowTextPack9
import Derived.Test.YtfekcckckmhioaaGreatDoorFnRowTextPack10
import Derived.Lib.QuietBelow
import Derived.BigQuiet
import Derived.Test.YtfekcckckmhioaaGreatDoorFnRowTextPack19
/- Whether a schema is right, by the specification. -/
namespace Go.Proofs.YtfekcckckmhioaaGreatDoor
open Go.RowKit
set_option maxRecDepth 100000

theorem sch_no1 {s : SchemaD} (h : ¬ ((1 : Int) ≤ s.attrs.length ∧ (s.attrs.length : Int) ≤ 5)) : schemaOk s = false := by
  unfold schemaOk; rw [decide_eq_false (by omega)]; rfl
theorem sch_no2 {s : SchemaD} (h : ¬ ((2 : Int) ≤ s.classes.length ∧ (s.classes.length : Int) ≤ 3)) : schemaOk s = false := by
  unfold schemaOk choices; rw [decide_eq_false h]; simp
theorem sch_no3 {s : SchemaD} (h : wordsOk s.classes = false) : schemaOk s = false := by
  unfold schemaOk choices; rw [h]; simp
theorem sch_yes {s : SchemaD} (h : (1 : Int) ≤ s.attrs.length ∧ (s.attrs.length : Int) ≤ 5) (h2 : (2 : Int) ≤ s.classes.length ∧ (s.classes.length : Int) ≤ 3) (h3 : wordsOk s.classes = true) : schemaOk s = attrsOk s.attrs := by
  unfold schemaOk choices; rw [decide_eq_true (p := 1 ≤ s.attrs.length ∧ s.attrs.length ≤ 5) (by omega), decide_eq_true h2, h3]; rfl

set_option maxHeartbeats 1600000 in
theorem specSchemaOk_any (v : Value) (s : SchemaD) (w : World) (h : SchemaAt w v s) (hn : okSch s) :
    Calls Tryz.prog 25 #[v] w fun e w' => e = .returned (.bool (schemaOk s)) ∧ Below w.heap.size w w' := by
  obtain ⟨va, vc, rfl, ha, hc⟩ := h
  obtain ⟨oa, ca, rfl, hca, har⟩ := id ha
  obtain ⟨oc, cc, rfl, hcc, hcr⟩ := id hc
  have HAR : Hid (RowA w (.slice oa s.attrs.length ca) s.attrs) := ha
  have HCR : Hid (RowS w (.slice oc s.classes.length cc) s.classes) := hc
  have HO : Hid (okSch s) := hn
  have la := hn.attrs
  clear ha hc har hcr hn
  by_cases h1 : (1 : Int) ≤ s.attrs.length ∧ (s.attrs.length : Int) ≤ 5
  rotate_left
  · have HF : Hid (schemaOk s = false) := sch_no1 h1
    go_enter Tryz.func25, Tryz.ntmps25
    go_wp2_with fail
    refine (in_any _ _ _ _).mono ?_
    rintro e w1 ⟨rfl, rfl⟩
    rw [decide_eq_false h1]
    clear h1
    go_wp2
    go_ret
    exact ⟨by rw [HF.out]; rfl, (Below.refl _ _).alloc (Nat.le_refl _) _⟩
  by_cases h2 : (2 : Int) ≤ s.classes.length ∧ (s.classes.length : Int) ≤ 3
  rotate_left
  · have HF : Hid (schemaOk s = false) := sch_no2 h2
    go_enter Tryz.func25, Tryz.ntmps25
    go_wp2_with fail
    refine (in_any _ _ _ _).mono ?_
    rintro e w1 ⟨rfl, rfl⟩
    rw [decide_eq_true h1]
    clear h1
    go_wp2_with fail
    refine (in_any _ _ _ _).mono ?_
    rintro e w1 ⟨rfl, rfl⟩
    rw [decide_eq_false h2]
    clear h2
    go_wp2
    go_ret
    exact ⟨by rw [HF.out]; rfl, (Below.refl _ _).alloc (Nat.le_refl _) _⟩
  obtain ⟨K0, B0⟩ := blk_1 35 w #[.slice oa s.attrs.length ca, .slice oc s.classes.length cc]
  have c := specWords_any _ s.classes _ (HCR.out.later B0) HO.out.classes
  cases hw : wordsOk s.classes with
  | false =>
    have HF : Hid (schemaOk s = false) := sch_no3 hw
    rw [hw] at c
    clear hw
    go_enter Tryz.func25, Tryz.ntmps25
    go_wp2_with fail
    refine (in_any _ _ _ _).mono ?_
    rintro e w1 ⟨rfl, rfl⟩
    rw [decide_eq_true h1]
    clear h1
    go_wp2_with fail
    refine (in_any _ _ _ _).mono ?_
    rintro e w1 ⟨rfl, rfl⟩
    rw [decide_eq_true h2]
    clear h2
    go_wp2_with fail
    refine c.mono ?_
    rintro e w1 ⟨rfl, hb1⟩
    clear c K0
    go_wp2
    go_ret
    exact ⟨by rw [HF.out]; rfl, B0.trans (hb1.mono B0.size)⟩
  | true =>
    have HW : Hid (schemaOk s = attrsOk s.attrs) := sch_yes h1 h2 hw
    rw [hw] at c
    clear hw
    obtain ⟨ls, has⟩ : ∃ ls, s.attrs = ls := ⟨_, rfl⟩
    obtain ⟨g, o, rfl, hg, hj⟩ : ∃ g o, oa = some ⟨g, o, none⟩ ∧ g < w.heap.size ∧ ∀ j, j < ls.length → CellsA w g (o + j * 3) (ad ls j) := by
      obtain ⟨oa', cap', e, _, hr⟩ := HAR.out
      obtain ⟨g, o, e', hg, hj⟩ := hr (by omega)
      injection e with e1 e2 e3
      exact ⟨g, o, by rw [e1, e'], hg, by rw [← has]; exact hj⟩
    have HJ : Hid (∀ j, j < ls.length → CellsA w g (o + j * 3) (ad ls j)) := hj
    have HE : Hid (∀ j, j < ls.length → okA (ad ls j)) := fun j hj => HO.out.each _ (by rw [has]; exact ad_mem hj)
    have HAS : Hid (s.attrs = ls) := has
    clear hj HAR HCR HO
    rw [has] at h1 la hca K0 B0 c
    go_enter Tryz.func25, Tryz.ntmps25
    rw [has]
    clear has
    go_wp2_with fail
    refine (in_any _ _ _ _).mono ?_
    rintro e w1 ⟨rfl, rfl⟩
    rw [decide_eq_true h1]
    go_wp2_with fail
    refine (in_any _ _ _ _).mono ?_
    rintro e w1 ⟨rfl, rfl⟩
    rw [decide_eq_true h2]
    clear h2
    go_wp2_with fail
    refine c.mono ?_
    rintro e w1 ⟨rfl, hb1⟩
    clear c
    have HB1 : Hid (Blk 35 w1 w.heap.size #[.slice (some ⟨g, o, none⟩) ls.length ca, .slice oc s.classes.length cc]) := K0.below hb1
    have B1 := B0.trans (hb1.mono B0.size)
    clear hb1 K0 B0 h1
    go_wp2
    go_loopw [3, 4] (fun i _ wr => ∃ k : Nat, i = .int .i64 k ∧ k ≤ ls.length ∧ (∀ j, j < k → attrAt ls j = true) ∧ Below w1.heap.size w1 wr) (fun i _ _ => ls.length - (intOf i).toNat)
    case atStart => exact ⟨0, rfl, by omega, by omega, Below.refl _ _⟩
    case round =>
      obtain ⟨k, rfl, hk, hal, hb⟩ := hrel
      have HA : Hid (∀ j, j < k → attrAt ls j = true) := hal
      clear hal
      have K : wr.cell? ⟨w.heap.size, 0, none⟩ = some (.slice (some ⟨g, o, none⟩) ls.length ca) := (HB1.out.below hb).cell 0
      have hbw := B1.trans (hb.mono B1.size)
      by_cases hlt : k < ls.length
      · obtain ⟨vc, vv, q0, q1, q2, r1, r2⟩ := (HJ.out k hlt).later hbw hg
        obtain ⟨o1, c1, rfl, -, -⟩ := id r1
        obtain ⟨o2, c2, rfl, -, -⟩ := id r2
        have hx : AttrAt wr (.agg #[.string (ad ls k).name, .slice o1 (ad ls k).cuts.length c1, .slice o2 (ad ls k).vals.length c2]) (ad ls k) := ⟨_, _, rfl, r1, r2⟩
        have c := specAttrOk_any _ (ad ls k) _ hx (HE.out k hlt)
        clear r1 r2 hx
        cases hw : attrOk (ad ls k) with
        | false =>
          have HF : Hid (attrsOk ls = false) := attrs_no k hlt (attrAt_no1 hw)
          rw [hw] at c
          clear hw
          go_wp2_with fail
          refine c.mono ?_
          rintro e w2 ⟨rfl, hb2⟩
          clear c
          go_wp2
          go_ret
          exact ⟨by rw [HW.out, HAS.out, HF.out]; rfl, hbw.trans (hb2.mono hbw.size)⟩
        | true =>
          have HWK : Hid (attrOk (ad ls k) = true) := hw
          rw [hw] at c
          clear hw
          go_wp2_with fail
          refine c.mono ?_
          rintro e w2 ⟨rfl, hb2⟩
          clear c K q0 q1 q2
          have hb3 : Below w1.heap.size w1 w2 := hb.trans (hb2.mono hb.size)
          have hbx : Below w.heap.size w w2 := hbw.trans (hb2.mono hbw.size)
          have K : w2.cell? ⟨w.heap.size, 0, none⟩ = some (.slice (some ⟨g, o, none⟩) ls.length ca) := (HB1.out.below hb3).cell 0
          have q0 : w2.cell? ⟨g, o + k * 3, none⟩ = some (.string (ad ls k).name) := by
            obtain ⟨_, _, q, _⟩ := (HJ.out k hlt).later hbx hg; exact q
          clear hb hb2 hbw
          go_wp2
          go_loopw [4] (fun i wr => ∃ m q : Nat, i = .int .i64 m ∧ m ≤ k ∧ (∀ j, j < m → (ad ls k).name ≠ (ad ls j).name) ∧ wr = w2.drewN q) (fun i _ => k - (intOf i).toNat)
          case atStart => exact ⟨0, 0, rfl, by omega, by omega, rfl⟩
          case round =>
            obtain ⟨m, q, rfl, hm, hne, rfl⟩ := hrel
            have HN : Hid (∀ j, j < m → (ad ls k).name ≠ (ad ls j).name) := hne
            clear hne
            by_cases hmk : m < k
            · have hml : m < ls.length := by omega
              have hcm : w2.cell? ⟨g, o + m * 3, none⟩ = some (.string (ad ls m).name) := by
                obtain ⟨_, _, q, _⟩ := (HJ.out m hml).later hbx hg; exact q
              by_cases he : (ad ls k).name = (ad ls m).name
              · have HF : Hid (attrsOk ls = false) := attrs_no k hlt (attrAt_no2 (hasT_yes (k := m) (by rw [nmsB_len hk]; omega) (by rw [nmsB_at hmk hk]; exact he)))
                have hq : ((ad ls k).name.toList == (ad ls m).name.toList) = true := by rw [← he]; simp
                clear he
                generalize (ad ls k).name = u at q0 hq
                generalize (ad ls m).name = u' at hcm hq
                go_wp2
                go_quiet (fail)
                all_goals go_wp2
                all_goals go_ret
                all_goals exact ⟨by rw [HW.out, HAS.out, HF.out]; rfl, below_drewN (below_drewN hbx _) _⟩
              · have hq : ((ad ls k).name.toList == (ad ls m).name.toList) = false := by
                  rw [beq_eq_false_iff_ne]; exact fun h => he (bytes_eq_iff.1 h)
                have HE' : Hid ((ad ls k).name ≠ (ad ls m).name) := he
                clear he
                generalize hu : (ad ls k).name = u at q0 hq
                generalize hu' : (ad ls m).name = u' at hcm hq
                have HU : Hid ((ad ls k).name = u) := hu
                clear hu hu'
                go_wp2
                go_quiet (fail)
                all_goals go_wp2
                all_goals go_roundw
                case rel =>
                  refine ⟨m + 1, _, by go_num, by omega, ?_, by first | rfl | (simp only [World.drewN_drewN]; rfl)⟩
                  intro j hj
                  rw [← HU.out]
                  by_cases e : j = m
                  · subst e; exact HE'.out
                  · exact HN.out j (by omega)
                case measure => simp [intOf]; omega
            · have HF : Hid (attrAt ls k = true) := attrAt_yes HWK.out (hasT_no fun j hj => by
                have hj' : j < k := by rw [nmsB_len hk] at hj; exact hj
                rw [nmsB_at hj' hk]; exact HN.out j (by omega))
              go_wp2
              go_roundw
              case rel =>
                refine ⟨k + 1, by go_num, by omega, ?_, below_drewN hb3 _⟩
                intro j hj
                by_cases e : j = k
                · subst e; exact HF.out
                · exact HA.out j (by omega)
              case measure => simp [intOf]; omega
      · have HF : Hid (attrsOk ls = true) := attrs_yes fun j hj => HA.out j (by omega)
        go_wp2
        go_ret
        exact ⟨by rw [HW.out, HAS.out, HF.out]; rfl, hbw⟩
end Go.Proofs.YtfekcckckmhioaaGreatDoor
/- Whether an example is right, by the specification. -/
namespace Go.Proofs.YtfekcckckmhioaaGreatDoor
open Go.RowKit
set_option maxRecDepth 100000
set_option linter.unusedSimpArgs false
set_option maxHeartbeats 3200000 in
theorem specExOk_any (vs ve : Value) (s : SchemaD) (e : ExD) (w : World) (hs : SchemaAt w vs s) (he : ExAt w ve e) (hn : okSch s) (hb : e.bins.length ≤ 1099511627776) :
    Calls Tryz.prog 20 #[vs, ve] w fun r w' => r = .returned (.bool (exOk s e)) ∧ Below w.heap.size w w' := by
  have mixed : Tryz.prog.follows .mixedOrders = true := by kernel_rfl
  have HS : Hid (∀ W, Below w.heap.size w W → SchemaAt W vs s) := fun W h => hs.later h
  have HEX : Hid (∀ W, Below w.heap.size w W → ExAt W ve e) := fun W h => he.later h
  have HOK : Hid (okSch s) := hn
  obtain ⟨va, vc, rfl, ra, rc⟩ := hs
  obtain ⟨oa, ka, rfl, -, -⟩ := id ra
  obtain ⟨oc, kc, rfl, -, -⟩ := id rc
  obtain ⟨vb, rfl, rb⟩ := he
  obtain ⟨ob, kb, rfl, -, -⟩ := id rb
  have la := hn.attrs
  have lc := hn.classes.1
  clear ra rc rb hn
  have B0 : Below w.heap.size w ((w.alloc (.cells #[.slice oa s.attrs.length ka, .slice oc s.classes.length kc] 35)).alloc (.cells #[.slice ob e.bins.length kb, .int .i64 e.cls] 30)) := ((Below.refl _ _).alloc (Nat.le_refl _) _).alloc (by simp) _
  have K1 := (Blk.new 35 w #[.slice oa s.attrs.length ka, .slice oc s.classes.length kc]).alloc (.cells #[.slice ob e.bins.length kb, .int .i64 e.cls] 30)
  have K2 : Blk 30 ((w.alloc (.cells #[.slice oa s.attrs.length ka, .slice oc s.classes.length kc] 35)).alloc (.cells #[.slice ob e.bins.length kb, .int .i64 e.cls] 30)) (w.heap.size + 1) #[.slice ob e.bins.length kb, .int .i64 e.cls] := by
    have := Blk.new 30 (w.alloc (.cells #[.slice oa s.attrs.length ka, .slice oc s.classes.length kc] 35)) #[.slice ob e.bins.length kb, .int .i64 e.cls]
    rwa [show (w.alloc (.cells #[.slice oa s.attrs.length ka, .slice oc s.classes.length kc] 35)).heap.size = w.heap.size + 1 by simp] at this
  have e1 := specSchemaOk_any _ s _ (HS.out _ B0) HOK.out
  cases hk : schemaOk s with
  | false =>
    have HE : Hid (exOk s e = false) := by unfold exOk; rw [hk]; rfl
    rw [hk] at e1
    clear hk K1 K2
    go_enter Tryz.func20, Tryz.ntmps20
    go_wp2_with fail
    refine e1.mono ?_
    clear e1
    rintro r w1 ⟨rfl, hb1⟩
    go_wp2
    go_ret
    exact ⟨by rw [HE.out]; rfl, B0.trans (hb1.mono (by simp; omega))⟩
  | true =>
    have HX : Hid (exOk s e = (decide (e.bins.length = s.attrs.length) && (decide (-1 ≤ e.cls ∧ e.cls ≤ (s.classes.length : Int) - 1) && binsRight s e))) := by unfold exOk; rw [hk]; rfl
    rw [hk] at e1
    clear hk
    go_enter Tryz.func20, Tryz.ntmps20
    go_wp2_with fail
    refine e1.mono ?_
    clear e1
    rintro r w1 ⟨rfl, hb1⟩
    have B1 := B0.trans (hb1.mono (by simp; omega))
    replace K1 := K1.below hb1
    replace K2 := K2.below hb1
    have p0 : w1.cell? ⟨w.heap.size, 0, none⟩ = some (.slice oa s.attrs.length ka) := K1.cell 0
    have p1 : w1.cell? ⟨w.heap.size, 1, none⟩ = some (.slice oc s.classes.length kc) := K1.cell 1
    have q0 : w1.cell? ⟨w.heap.size + 1, 0, none⟩ = some (.slice ob e.bins.length kb) := K2.cell 0
    have q1 : w1.cell? ⟨w.heap.size + 1, 1, none⟩ = some (.int .i64 e.cls) := K2.cell 1
    clear hb1 B0
    by_cases hl : e.bins.length = s.attrs.length
    rotate_left
    · have HE : Hid (exOk s e = false) := by rw [HX.out, decide_eq_false hl]; rfl
      have hq : ((e.bins.length : Int) != (s.attrs.length : Int)) = true := by rw [bne_iff_ne]; omega
      clear hl
      go_wp2
      go_ret
      exact ⟨by rw [HE.out]; rfl, B1⟩
    have hq : ((e.bins.length : Int) != (s.attrs.length : Int)) = false := by rw [hl]; simp
    have HLEN : Hid (e.bins.length = s.attrs.length) := hl
    have e2 := in_any e.cls (-1) ((s.classes.length : Int) - 1) w1
    by_cases hcl : -1 ≤ e.cls ∧ e.cls ≤ (s.classes.length : Int) - 1
    rotate_left
    · have HE : Hid (exOk s e = false) := by rw [HX.out, decide_eq_false hcl, Bool.false_and, Bool.and_false]; rfl
      rw [decide_eq_false hcl] at e2
      clear hcl hl
      go_wp2_with fail
      refine e2.mono ?_
      clear e2
      rintro r w2 ⟨rfl, e2'⟩
      rw [e2']
      go_wp2
      go_ret
      exact ⟨by rw [HE.out]; rfl, B1⟩
    have HX2 : Hid (exOk s e = binsRight s e) := by rw [HX.out, decide_eq_true hl, decide_eq_true hcl]; rfl
    rw [decide_eq_true hcl] at e2
    clear hcl HX hl
    go_wp2_with fail
    refine e2.mono ?_
    clear e2
    rintro r w2 ⟨rfl, e2'⟩
    rw [e2']
    clear e2' w2
    have HK : Hid (Blk 35 w1 w.heap.size #[.slice oa s.attrs.length ka, .slice oc s.classes.length kc] ∧ Blk 30 w1 (w.heap.size + 1) #[.slice ob e.bins.length kb, .int .i64 e.cls]) := ⟨K1, K2⟩
    clear p0 p1 q1 K1 K2
    go_wp2
    go_loopw [5] (fun i wr => ∃ k : Nat, i = .int .i64 k ∧ k ≤ e.bins.length ∧ Hid (∀ j, j < k → binRight s e j = true) ∧ Below w1.heap.size w1 wr) (fun i _ => e.bins.length - (intOf i).toNat)
    case atStart => exact ⟨0, rfl, by omega, fun j hj => by omega, Below.refl _ _⟩
    case round =>
      obtain ⟨k, rfl, hk, hal, hbr⟩ := hrel
      have hbw := B1.trans (hbr.mono B1.size)
      have k0 : wr.cell? ⟨w.heap.size, 0, none⟩ = some (.slice oa s.attrs.length ka) := (HK.out.1.below hbr).cell 0
      have j0 : wr.cell? ⟨w.heap.size + 1, 0, none⟩ = some (.slice ob e.bins.length kb) := (HK.out.2.below hbr).cell 0
      by_cases hlt : k < e.bins.length
      · obtain ⟨va', vc', e', rA, -⟩ := HS.out wr hbw
        cases e'
        obtain ⟨oa', ka', e', -, hrA⟩ := rA
        cases e'
        have hkA : k < s.attrs.length := by have := HLEN.out; omega
        obtain ⟨ga, fa, rfl, hga, hjA⟩ := hrA (by omega)
        obtain ⟨x1, x2, c0, c1, c2, r1, r2⟩ := hjA k hkA
        obtain ⟨y1, z1, rfl, -, -⟩ := id r1
        obtain ⟨y2, z2, rfl, -, -⟩ := id r2
        obtain ⟨vb', e', rB⟩ := HEX.out wr hbw
        cases e'
        obtain ⟨ob', kb', e', -, hrB⟩ := rB
        cases e'
        obtain ⟨gb, fb, rfl, hgb, hjB⟩ := hrB (by omega)
        have b0 := hjB k hlt
        have hbl := bins_le (HOK.out.each _ (ad_mem hkA))
        obtain ⟨l0, l1⟩ := hbl
        have cB := fun d os => Calls.regrown_of (specBins_any (.agg #[.string (ad s.attrs k).name, .slice y1 (ad s.attrs k).cuts.length z1, .slice y2 (ad s.attrs k).vals.length z2]) (ad s.attrs k) (Go.Sort.grow (redrawn wr d) os) ⟨_, _, rfl, r1.later (below_regrown wr d os), r2.later (below_regrown wr d os)⟩ (HOK.out.each _ (ad_mem hkA)))
        have cI := fun d os => regrown_same (in_any (e.bins.getD k 0) (-1) (bins (ad s.attrs k) - 1) (Go.Sort.grow (redrawn wr d) os))
        have HBT : Hid (-1 ≤ e.bins.getD k 0 ∧ e.bins.getD k 0 ≤ bins (ad s.attrs k) - 1 → binRight s e k = true) := fun h => decide_eq_true h
        have HBF : Hid (¬ (-1 ≤ e.bins.getD k 0 ∧ e.bins.getD k 0 ≤ bins (ad s.attrs k) - 1) → binRight s e k = false) := fun h => decide_eq_false h
        have d0 := fun d os => cell_regrown c0 d os
        have d1 := fun d os => cell_regrown c1 d os
        have d2 := fun d os => cell_regrown c2 d os
        have f0 := fun d os => cell_regrown k0 d os
        have f1 := fun d os => cell_regrown j0 d os
        have f2 := fun d os => cell_regrown b0 d os
        have HBR : Hid (∀ d os, Below w1.heap.size w1 (Go.Sort.grow (redrawn wr d) os)) := fun d os => hbr.trans ((below_regrown wr d os).mono hbr.size)
        have HBW : Hid (∀ d os, Below w.heap.size w (Go.Sort.grow (redrawn wr d) os)) := fun d os => hbw.trans ((below_regrown wr d os).mono hbw.size)
        clear hjA hjB hrA hrB r1 r2 c0 c1 c2 b0 hbr hbw hga hgb
        generalize e.bins.getD k 0 = zb at cI f2 HBT HBF
        generalize bins (ad s.attrs k) = nb at cB cI l0 l1 HBT HBF
        have hkj : k < s.attrs.length := hkA
        by_cases hin : -1 ≤ zb ∧ zb ≤ nb - 1
        · have HT : Hid (binRight s e k = true) := HBT.out hin
          rw [decide_eq_true hin] at cI
          clear hin
          go_wp2
          refine wp_region_quiet_below mixed (by kernel_rfl) ?_
          repeat (go_big_quiet_step (first | with_reducible exact cB _ _ | with_reducible exact cI _ _))
          refine wpQuiet_nil ?_
          intro _ hw'
          obtain ⟨⟨dq, osq⟩, hw''⟩ := hw'
          subst hw''
          clear cB cI d0 d1 d2 f0 f1 f2
          go_wp2
          go_roundw
          case rel =>
            refine ⟨k + 1, by go_num, by omega, fun j hj => ?_, HBR.out _ _⟩
            by_cases ej : j = k
            · subst ej; exact HT.out
            · exact hal.out j (by omega)
          case measure => simp [intOf]; omega
        · have HE : Hid (binsRight s e = false) := binsRight_no k hlt (HBF.out hin)
          rw [decide_eq_false hin] at cI
          clear hin
          go_wp2
          refine wp_region_quiet_below mixed (by kernel_rfl) ?_
          repeat (go_big_quiet_step (first | with_reducible exact cB _ _ | with_reducible exact cI _ _))
          refine wpQuiet_nil ?_
          intro _ hw'
          obtain ⟨⟨dq, osq⟩, hw''⟩ := hw'
          subst hw''
          clear cB cI d0 d1 d2 f0 f1 f2
          go_wp2
          go_ret
          exact ⟨by rw [HX2.out, HE.out]; rfl, HBW.out _ _⟩
      · have HE : Hid (binsRight s e = true) := binsRight_yes fun j hj => hal.out j (by omega)
        go_wp2
        go_ret
        exact ⟨by rw [HX2.out, HE.out]; rfl, hbw⟩
end Go.Proofs.YtfekcckckmhioaaGreatDoor
/- Two lists held against each other, in plain words. -/
namespace Go.Proofs.YtfekcckckmhioaaGreatDoor
open Go.RowKit
set_option maxRecDepth 100000
theorem same_len {α : Type} [DecidableEq α] {a b : List α} (h : a.length ≠ b.length) : decide (a = b) = false := decide_eq_false fun e => h (by rw [e])
theorem sameI_yes {a b : List Int} (hl : a.length = b.length) (h : ∀ j, j < a.length → a.getD j 0 = b.getD j 0) : decide (a = b) = true := by
  apply decide_eq_true
  apply List.ext_getElem hl
  intro i h1 h2
  have := h i h1
  simpa [h1, h2] using this
theorem sameI_no {a b : List Int} {k : Nat} (h : a.getD k 0 ≠ b.getD k 0) : decide (a = b) = false := decide_eq_false fun e => h (by rw [e])
theorem sameS_yes {a b : List ByteArray} (hl : a.length = b.length) (h : ∀ j, j < a.length → tx a j = tx b j) : decide (a = b) = true := by
  apply decide_eq_true
  apply List.ext_getElem hl
  intro i h1 h2
  have := h i h1
  rwa [tx_eq h1, tx_eq h2] at this
theorem sameS_no {a b : List ByteArray} {k : Nat} (h : tx a k ≠ tx b k) : decide (a = b) = false := decide_eq_false fun e => h (by rw [e])

end Go.Proofs.YtfekcckckmhioaaGreatDoor
/- Two lists of numbers held against each other, by the specification. -/
namespace Go.Proofs.YtfekcckckmhioaaGreatDoor
open Go.RowKit
set_option maxRecDepth 100000
set_option maxHeartbeats 800000 in
theorem specSameI_any (va vb : Value) (za zb : List Int) (w : World) (ha : RowI w va za) (hb : RowI w vb zb) (hna : za.length ≤ 1099511627776) :
    Calls Tryz.prog 47 #[va, vb] w fun e w' => e = .returned (.bool (decide (za = zb))) ∧ Below w.heap.size w w' := by
  obtain ⟨oa, ca, rfl, hca, hra⟩ := ha
  obtain ⟨ob, cb, rfl, hcb, hrb⟩ := hb
  have HA : Hid (0 < za.length → ∃ g o, oa = some ⟨g, o, none⟩ ∧ g < w.heap.size ∧ ∀ j, j < za.length → w.cell? ⟨g, o + j, none⟩ = some (.int .i64 (za.getD j 0))) := hra
  have HB : Hid (0 < zb.length → ∃ g o, ob = some ⟨g, o, none⟩ ∧ g < w.heap.size ∧ ∀ j, j < zb.length → w.cell? ⟨g, o + j, none⟩ = some (.int .i64 (zb.getD j 0))) := hrb
  clear hra hrb
  by_cases hl : za.length = zb.length
  rotate_left
  · have HF : Hid (decide (za = zb) = false) := same_len hl
    have hq : ((za.length : Int) == (zb.length : Int)) = false := by simp; omega
    go_enter Tryz.func47, Tryz.ntmps47
    go_wp2
    go_ret
    exact ⟨by rw [HF.out]; rfl, Below.refl _ _⟩
  have HL : Hid (za.length = zb.length) := hl
  obtain ⟨n, hn⟩ : ∃ n, n = za.length := ⟨_, rfl⟩
  have HNA : Hid (n = za.length) := hn
  have HNB : Hid (n = zb.length) := hn.trans hl
  rw [← hl, ← hn]
  rw [← hn] at hca hna
  clear hl hn hcb
  go_enter Tryz.func47, Tryz.ntmps47
  go_wp2
  go_loopw [5] (fun i wr => ∃ k q : Nat, i = .int .i64 k ∧ k ≤ n ∧ (∀ j, j < k → za.getD j 0 = zb.getD j 0) ∧ wr = w.drewN q) (fun i _ => n - (intOf i).toNat)
  case atStart => exact ⟨0, 0, rfl, by omega, by omega, rfl⟩
  case round =>
    obtain ⟨k, q, rfl, hk, hal, rfl⟩ := hrel
    have HK : Hid (∀ j, j < k → za.getD j 0 = zb.getD j 0) := hal
    clear hal
    by_cases hlt : k < n
    · obtain ⟨g, o, rfl, _, hj⟩ := HA.out (by have := HNA.out; omega)
      obtain ⟨g', o', rfl, _, hj'⟩ := HB.out (by have := HNB.out; omega)
      have ha' := hj k (by have := HNA.out; omega)
      have hb' := hj' k (by have := HNB.out; omega)
      clear hj hj' HA HB
      by_cases he : za.getD k 0 = zb.getD k 0
      · have HE : Hid (za.getD k 0 = zb.getD k 0) := he
        have hq : (za.getD k 0 == zb.getD k 0) = true := by rw [he]; simp
        clear he
        generalize za.getD k 0 = x at ha' hq
        generalize zb.getD k 0 = y at hb' hq
        go_wp2
        go_quiet (fail)
        all_goals go_wp2
        all_goals go_roundw
        case rel =>
          refine ⟨k + 1, _, by go_num, by omega, ?_, by first | rfl | (simp only [World.drewN_drewN]; rfl)⟩
          intro j hj
          by_cases e : j = k
          · subst e; exact HE.out
          · exact HK.out j (by omega)
        case measure => simp [intOf]; omega
      · have HF : Hid (decide (za = zb) = false) := sameI_no he
        have hq : (za.getD k 0 == zb.getD k 0) = false := by simpa using he
        clear he
        generalize za.getD k 0 = x at ha' hq
        generalize zb.getD k 0 = y at hb' hq
        go_wp2
        go_quiet (fail)
        all_goals go_wp2
        all_goals go_ret
        all_goals exact ⟨by rw [HF.out]; rfl, below_drewN (below_drewN (Below.refl _ _) _) _⟩
    · have HF : Hid (decide (za = zb) = true) := sameI_yes HL.out fun j hj => HK.out j (by have := HNA.out; omega)
      go_wp2
      go_ret
      exact ⟨by rw [HF.out]; rfl, below_drewN (Below.refl _ _) _⟩
end Go.Proofs.YtfekcckckmhioaaGreatDoor
