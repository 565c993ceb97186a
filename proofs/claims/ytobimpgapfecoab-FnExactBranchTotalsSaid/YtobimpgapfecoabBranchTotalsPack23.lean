/- Texts of this claim, put together: part 23. -/
import Derived.Test.YtobimpgapfecoabBranchTotalsPack4
import Derived.Test.YtobimpgapfecoabBranchTotalsPack17
import Derived.Test.YtobimpgapfecoabBranchTotalsPack3
import Derived.Test.YtobimpgapfecoabBranchTotalsPack9
import Derived.Test.YtobimpgapfecoabBranchTotalsPack15
import Derived.Test.YtobimpgapfecoabBranchTotalsPack10
import Derived.Test.YtobimpgapfecoabBranchTotalsPack13
/- Whether a schema is right, by the specification. -/
namespace Go.Proofs.Ytobimpgapfecoab
open Go.RowKit
set_option maxRecDepth 100000

theorem sch_no1 {s : SchemaD} (h : ¬ ((1 : Int) ≤ s.attrs.length ∧ (s.attrs.length : Int) ≤ 5)) : schemaOk s = false := by
  unfold schemaOk; rw [decide_eq_false (by omega)]; rfl
theorem sch_no2 {s : SchemaD} (h : ¬ ((2 : Int) ≤ s.classes.length ∧ (s.classes.length : Int) ≤ 3)) : schemaOk s = false := by
  unfold schemaOk choices; rw [decide_eq_false h]; simp
theorem sch_no3 {s : SchemaD} (h : wordsOk s.classes = false) : schemaOk s = false := by
  unfold schemaOk choices; rw [h]; simp
theorem sch_yes {s : SchemaD} (h : (1 : Int) ≤ s.attrs.length ∧ (s.attrs.length : Int) ≤ 5) (h2 : (2 : Int) ≤ s.classes.length ∧ (s.classes.length : Int) ≤ 3) (h3 : wordsOk s.classes = true) : schemaOk s = attrsOk s.attrs := by
  unfold schemaOk choices; rw [decide_eq_true (p := 1 ≤ s.attrs.length ∧ s.attrs.length ≤ 5) (by omega), decide_eq_true h2, h3]; rfl

set_option maxHeartbeats 1600000 in
theorem specSchemaOk_any (v : Value) (s : SchemaD) (w : World) (h : SchemaAt w v s) (hn : okSch s) :
    Calls Try.prog 73 #[v] w fun e w' => e = .returned (.bool (schemaOk s)) ∧ Below w.heap.size w w' := by
  obtain ⟨va, vc, rfl, ha, hc⟩ := h
  obtain ⟨oa, ca, rfl, hca, har⟩ := id ha
  obtain ⟨oc, cc, rfl, hcc, hcr⟩ := id hc
  have HAR : Hid (RowA w (.slice oa s.attrs.length ca) s.attrs) := ha
  have HCR : Hid (RowS w (.slice oc s.classes.length cc) s.classes) := hc
  have HO : Hid (okSch s) := hn
  have la := hn.attrs
  clear ha hc har hcr hn
  by_cases h1 : (1 : Int) ≤ s.attrs.length ∧ (s.attrs.length : Int) ≤ 5
  rotate_left
  · have HF : Hid (schemaOk s = false) := sch_no1 h1
    go_enter Try.func73, Try.ntmps73
    go_wp2_with fail
    refine (in_any _ _ _ _).mono ?_
    rintro e w1 ⟨rfl, rfl⟩
    rw [decide_eq_false h1]
    clear h1
    go_wp2
    go_ret
    exact ⟨by rw [HF.out]; rfl, (Below.refl _ _).alloc (Nat.le_refl _) _⟩
  by_cases h2 : (2 : Int) ≤ s.classes.length ∧ (s.classes.length : Int) ≤ 3
  rotate_left
  · have HF : Hid (schemaOk s = false) := sch_no2 h2
    go_enter Try.func73, Try.ntmps73
    go_wp2_with fail
    refine (in_any _ _ _ _).mono ?_
    rintro e w1 ⟨rfl, rfl⟩
    rw [decide_eq_true h1]
    clear h1
    go_wp2_with fail
    refine (in_any _ _ _ _).mono ?_
    rintro e w1 ⟨rfl, rfl⟩
    rw [decide_eq_false h2]
    clear h2
    go_wp2
    go_ret
    exact ⟨by rw [HF.out]; rfl, (Below.refl _ _).alloc (Nat.le_refl _) _⟩
  obtain ⟨K0, B0⟩ := blk_1 40 w #[.slice oa s.attrs.length ca, .slice oc s.classes.length cc]
  have c := specWords_any _ s.classes _ (HCR.out.later B0) HO.out.classes
  cases hw : wordsOk s.classes with
  | false =>
    have HF : Hid (schemaOk s = false) := sch_no3 hw
    rw [hw] at c
    clear hw
    go_enter Try.func73, Try.ntmps73
    go_wp2_with fail
    refine (in_any _ _ _ _).mono ?_
    rintro e w1 ⟨rfl, rfl⟩
    rw [decide_eq_true h1]
    clear h1
    go_wp2_with fail
    refine (in_any _ _ _ _).mono ?_
    rintro e w1 ⟨rfl, rfl⟩
    rw [decide_eq_true h2]
    clear h2
    go_wp2_with fail
    refine c.mono ?_
    rintro e w1 ⟨rfl, hb1⟩
    clear c K0
    go_wp2
    go_ret
    exact ⟨by rw [HF.out]; rfl, B0.trans (hb1.mono B0.size)⟩
  | true =>
    have HW : Hid (schemaOk s = attrsOk s.attrs) := sch_yes h1 h2 hw
    rw [hw] at c
    clear hw
    obtain ⟨ls, has⟩ : ∃ ls, s.attrs = ls := ⟨_, rfl⟩
    obtain ⟨g, o, rfl, hg, hj⟩ : ∃ g o, oa = some ⟨g, o, none⟩ ∧ g < w.heap.size ∧ ∀ j, j < ls.length → CellsA w g (o + j * 3) (ad ls j) := by
      obtain ⟨oa', cap', e, _, hr⟩ := HAR.out
      obtain ⟨g, o, e', hg, hj⟩ := hr (by omega)
      injection e with e1 e2 e3
      exact ⟨g, o, by rw [e1, e'], hg, by rw [← has]; exact hj⟩
    have HJ : Hid (∀ j, j < ls.length → CellsA w g (o + j * 3) (ad ls j)) := hj
    have HE : Hid (∀ j, j < ls.length → okA (ad ls j)) := fun j hj => HO.out.each _ (by rw [has]; exact ad_mem hj)
    have HAS : Hid (s.attrs = ls) := has
    clear hj HAR HCR HO
    rw [has] at h1 la hca K0 B0 c
    go_enter Try.func73, Try.ntmps73
    rw [has]
    clear has
    go_wp2_with fail
    refine (in_any _ _ _ _).mono ?_
    rintro e w1 ⟨rfl, rfl⟩
    rw [decide_eq_true h1]
    go_wp2_with fail
    refine (in_any _ _ _ _).mono ?_
    rintro e w1 ⟨rfl, rfl⟩
    rw [decide_eq_true h2]
    clear h2
    go_wp2_with fail
    refine c.mono ?_
    rintro e w1 ⟨rfl, hb1⟩
    clear c
    have HB1 : Hid (Blk 40 w1 w.heap.size #[.slice (some ⟨g, o, none⟩) ls.length ca, .slice oc s.classes.length cc]) := K0.below hb1
    have B1 := B0.trans (hb1.mono B0.size)
    clear hb1 K0 B0 h1
    go_wp2
    go_loopw [3, 4] (fun i _ wr => ∃ k : Nat, i = .int .i64 k ∧ k ≤ ls.length ∧ (∀ j, j < k → attrAt ls j = true) ∧ Below w1.heap.size w1 wr) (fun i _ _ => ls.length - (intOf i).toNat)
    case atStart => exact ⟨0, rfl, by omega, by omega, Below.refl _ _⟩
    case round =>
      obtain ⟨k, rfl, hk, hal, hb⟩ := hrel
      have HA : Hid (∀ j, j < k → attrAt ls j = true) := hal
      clear hal
      have K : wr.cell? ⟨w.heap.size, 0, none⟩ = some (.slice (some ⟨g, o, none⟩) ls.length ca) := (HB1.out.below hb).cell 0
      have hbw := B1.trans (hb.mono B1.size)
      by_cases hlt : k < ls.length
      · obtain ⟨vc, vv, q0, q1, q2, r1, r2⟩ := (HJ.out k hlt).later hbw hg
        obtain ⟨o1, c1, rfl, -, -⟩ := id r1
        obtain ⟨o2, c2, rfl, -, -⟩ := id r2
        have hx : AttrAt wr (.agg #[.string (ad ls k).name, .slice o1 (ad ls k).cuts.length c1, .slice o2 (ad ls k).vals.length c2]) (ad ls k) := ⟨_, _, rfl, r1, r2⟩
        have c := specAttrOk_any _ (ad ls k) _ hx (HE.out k hlt)
        clear r1 r2 hx
        cases hw : attrOk (ad ls k) with
        | false =>
          have HF : Hid (attrsOk ls = false) := attrs_no k hlt (attrAt_no1 hw)
          rw [hw] at c
          clear hw
          go_wp2_with fail
          refine c.mono ?_
          rintro e w2 ⟨rfl, hb2⟩
          clear c
          go_wp2
          go_ret
          exact ⟨by rw [HW.out, HAS.out, HF.out]; rfl, hbw.trans (hb2.mono hbw.size)⟩
        | true =>
          have HWK : Hid (attrOk (ad ls k) = true) := hw
          rw [hw] at c
          clear hw
          go_wp2_with fail
          refine c.mono ?_
          rintro e w2 ⟨rfl, hb2⟩
          clear c K q0 q1 q2
          have hb3 : Below w1.heap.size w1 w2 := hb.trans (hb2.mono hb.size)
          have hbx : Below w.heap.size w w2 := hbw.trans (hb2.mono hbw.size)
          have K : w2.cell? ⟨w.heap.size, 0, none⟩ = some (.slice (some ⟨g, o, none⟩) ls.length ca) := (HB1.out.below hb3).cell 0
          have q0 : w2.cell? ⟨g, o + k * 3, none⟩ = some (.string (ad ls k).name) := by
            obtain ⟨_, _, q, _⟩ := (HJ.out k hlt).later hbx hg; exact q
          clear hb hb2 hbw
          go_wp2
          go_loopw [4] (fun i wr => ∃ m q : Nat, i = .int .i64 m ∧ m ≤ k ∧ (∀ j, j < m → (ad ls k).name ≠ (ad ls j).name) ∧ wr = w2.drewN q) (fun i _ => k - (intOf i).toNat)
          case atStart => exact ⟨0, 0, rfl, by omega, by omega, rfl⟩
          case round =>
            obtain ⟨m, q, rfl, hm, hne, rfl⟩ := hrel
            have HN : Hid (∀ j, j < m → (ad ls k).name ≠ (ad ls j).name) := hne
            clear hne
            by_cases hmk : m < k
            · have hml : m < ls.length := by omega
              have hcm : w2.cell? ⟨g, o + m * 3, none⟩ = some (.string (ad ls m).name) := by
                obtain ⟨_, _, q, _⟩ := (HJ.out m hml).later hbx hg; exact q
              by_cases he : (ad ls k).name = (ad ls m).name
              · have HF : Hid (attrsOk ls = false) := attrs_no k hlt (attrAt_no2 (hasT_yes (k := m) (by rw [nmsB_len hk]; omega) (by rw [nmsB_at hmk hk]; exact he)))
                have hq : ((ad ls k).name.toList == (ad ls m).name.toList) = true := by rw [← he]; simp
                clear he
                generalize (ad ls k).name = u at q0 hq
                generalize (ad ls m).name = u' at hcm hq
                go_wp2
                go_quiet (fail)
                all_goals go_wp2
                all_goals go_ret
                all_goals exact ⟨by rw [HW.out, HAS.out, HF.out]; rfl, below_drewN (below_drewN hbx _) _⟩
              · have hq : ((ad ls k).name.toList == (ad ls m).name.toList) = false := by
                  rw [beq_eq_false_iff_ne]; exact fun h => he (bytes_eq_iff.1 h)
                have HE' : Hid ((ad ls k).name ≠ (ad ls m).name) := he
                clear he
                generalize hu : (ad ls k).name = u at q0 hq
                generalize hu' : (ad ls m).name = u' at hcm hq
                have HU : Hid ((ad ls k).name = u) := hu
                clear hu hu'
                go_wp2
                go_quiet (fail)
                all_goals go_wp2
                all_goals go_roundw
                case rel =>
                  refine ⟨m + 1, _, by go_num, by omega, ?_, by first | rfl | (simp only [World.drewN_drewN]; rfl)⟩
                  intro j hj
                  rw [← HU.out]
                  by_cases e : j = m
                  · subst e; exact HE'.out
                  · exact HN.out j (by omega)
                case measure => simp [intOf]; omega
            · have HF : Hid (attrAt ls k = true) := attrAt_yes HWK.out (hasT_no fun j hj => by
                have hj' : j < k := by rw [nmsB_len hk] at hj; exact hj
                rw [nmsB_at hj' hk]; exact HN.out j (by omega))
              go_wp2
              go_roundw
              case rel =>
                refine ⟨k + 1, by go_num, by omega, ?_, below_drewN hb3 _⟩
                intro j hj
                by_cases e : j = k
                · subst e; exact HF.out
                · exact HA.out j (by omega)
              case measure => simp [intOf]; omega
      · have HF : Hid (attrsOk ls = true) := attrs_yes fun j hj => HA.out j (by omega)
        go_wp2
        go_ret
        exact ⟨by rw [HW.out, HAS.out, HF.out]; rfl, hbw⟩
end Go.Proofs.Ytobimpgapfecoab
/- How many bins an attribute has, by the specification. -/
namespace Go.Proofs.Ytobimpgapfecoab
open Go.RowKit
set_option maxRecDepth 100000
set_option maxHeartbeats 400000 in
theorem specBins_any (v : Value) (a : AttrD) (w : World) (h : AttrAt w v a) (hn : okA a) :
    Calls Try.prog 66 #[v] w fun e w' => e = .returned (.int .i64 (bins a)) ∧ Below w.heap.size w w' := by
  have c := fun W (hW : Below w.heap.size w W) => specAttrOk_any v a W (h.later hW) hn
  have lc := hn.cuts
  have lv := hn.vals.1
  obtain ⟨vc, vv, rfl, hc, hv⟩ := h
  obtain ⟨oc, cc, rfl, hcc, hcr⟩ := hc
  obtain ⟨ov, cv, rfl, hvc, hvr⟩ := hv
  clear hcr hvr hn
  have HB : Hid (∀ o, Below w.heap.size w (w.alloc o)) := fun o => (Below.refl _ _).alloc (Nat.le_refl _) _
  cases hok : attrOk a with
  | false =>
    have HF : Hid (bins a = 0) := by unfold bins; rw [hok]; rfl
    rw [hok] at c
    clear hok
    go_enter Try.func66, Try.ntmps66
    go_wp2_with fail
    refine (c _ (HB.out _)).mono ?_
    rintro e w1 ⟨rfl, hb1⟩
    go_wp2
    go_ret
    exact ⟨by rw [HF.out]; rfl, (HB.out _).trans (hb1.mono (by simp))⟩
  | true =>
    rw [hok] at c
    have hkind := ok_kind hok
    by_cases h0 : 0 < a.cuts.length
    · have HF : Hid (bins a = a.cuts.length + 1) := by unfold bins; rw [hok, if_pos rfl, if_pos (by omega)]; rfl
      clear hok hkind
      go_enter Try.func66, Try.ntmps66
      go_wp2_with fail
      refine (c _ (HB.out _)).mono ?_
      rintro e w1 ⟨rfl, hb1⟩
      have K := (Blk.new _ _ _).below hb1
      have B1 := (HB.out _).trans (hb1.mono (by simp))
      have k1 : w1.cell? ⟨w.heap.size, 1, none⟩ = some (.slice oc a.cuts.length cc) := K.cell 1
      have k2 : w1.cell? ⟨w.heap.size, 2, none⟩ = some (.slice ov a.vals.length cv) := K.cell 2
      clear c hb1 K
      go_wp2
      go_ret
      exact ⟨by rw [HF.out]; first | rfl | (congr 1; go_num), B1⟩
    · have HF : Hid (bins a = a.vals.length) := by unfold bins; rw [hok, if_pos rfl, if_neg (by omega)]; rfl
      clear hok hkind
      go_enter Try.func66, Try.ntmps66
      go_wp2_with fail
      refine (c _ (HB.out _)).mono ?_
      rintro e w1 ⟨rfl, hb1⟩
      have K := (Blk.new _ _ _).below hb1
      have B1 := (HB.out _).trans (hb1.mono (by simp))
      have k1 : w1.cell? ⟨w.heap.size, 1, none⟩ = some (.slice oc a.cuts.length cc) := K.cell 1
      have k2 : w1.cell? ⟨w.heap.size, 2, none⟩ = some (.slice ov a.vals.length cv) := K.cell 2
      clear c hb1 K
      go_wp2
      go_ret
      exact ⟨by rw [HF.out]; rfl, B1⟩
end Go.Proofs.Ytobimpgapfecoab
/- Whether a question is right, by the specification. -/
namespace Go.Proofs.Ytobimpgapfecoab
open Go.RowKit
set_option maxRecDepth 100000
set_option linter.unusedSimpArgs false
set_option maxHeartbeats 3200000 in
theorem specForkOk_any (vs : Value) (s : SchemaD) (f : ForkD) (w : World) (hs : SchemaAt w vs s) (hn : okSch s) :
    Calls Try.prog 64 #[vs, forkV f] w fun e w' => e = .returned (.bool (forkOk s f)) ∧ Below w.heap.size w w' := by
  unfold forkV
  have HS : Hid (∀ W, Below w.heap.size w W → SchemaAt W vs s) := fun W h => hs.later h
  have HOK : Hid (okSch s) := hn
  obtain ⟨va, vc, rfl, ra, -⟩ := hs
  obtain ⟨oa, ka, rfl, -, -⟩ := id ra
  clear ra hn
  have la := HOK.out.attrs
  obtain ⟨KS, KF, B⟩ := blk_2 40 60 w #[.slice oa s.attrs.length ka, vc] #[.int .i64 f.attr, .int .i64 f.pos]
  have cc := specSchemaOk_any _ s _ (HS.out _ B) HOK.out
  cases hk : schemaOk s with
  | false =>
    have HE : forkOk s f = false := by unfold forkOk; rw [hk]; rfl
    rw [hk] at cc
    rw [HE]
    clear hk HE
    go_enter Try.func64, Try.ntmps64
    have kS0 : ((w.alloc (.cells #[.slice oa s.attrs.length ka, vc] 40)).alloc (.cells #[.int .i64 f.attr, .int .i64 f.pos] 60)).cell? ⟨w.heap.size, 0, none⟩ = some (.slice oa s.attrs.length ka) := KS.cell 0
    have kS1 : ((w.alloc (.cells #[.slice oa s.attrs.length ka, vc] 40)).alloc (.cells #[.int .i64 f.attr, .int .i64 f.pos] 60)).cell? ⟨w.heap.size, 1, none⟩ = some (vc) := KS.cell 1
    go_wp2_with fail
    refine cc.mono ?_
    clear cc
    clear kS0 kS1
    rintro e w1 ⟨rfl, hb⟩
    replace KS := KS.below hb
    replace KF := KF.below hb
    replace B := B.trans (hb.mono B.size)
    go_wp2
    go_ret
    exact ⟨rfl, B⟩
  | true =>
    have HX : Hid (forkOk s f = (decide (0 ≤ f.attr ∧ f.attr ≤ (s.attrs.length : Int) - 1) && decide (-1 ≤ f.pos ∧ f.pos ≤ forkTop s f))) := by unfold forkOk; rw [hk]; rfl
    rw [hk] at cc
    clear hk
    go_enter Try.func64, Try.ntmps64
    have kS0 : ((w.alloc (.cells #[.slice oa s.attrs.length ka, vc] 40)).alloc (.cells #[.int .i64 f.attr, .int .i64 f.pos] 60)).cell? ⟨w.heap.size, 0, none⟩ = some (.slice oa s.attrs.length ka) := KS.cell 0
    have kS1 : ((w.alloc (.cells #[.slice oa s.attrs.length ka, vc] 40)).alloc (.cells #[.int .i64 f.attr, .int .i64 f.pos] 60)).cell? ⟨w.heap.size, 1, none⟩ = some (vc) := KS.cell 1
    go_wp2_with fail
    refine cc.mono ?_
    clear cc
    clear kS0 kS1
    rintro e w1 ⟨rfl, hb⟩
    replace KS := KS.below hb
    replace KF := KF.below hb
    replace B := B.trans (hb.mono B.size)
    clear hb
    have cc := in_any f.attr 0 ((s.attrs.length : Int) - 1) w1
    by_cases ha : 0 ≤ f.attr ∧ f.attr ≤ (s.attrs.length : Int) - 1
    rotate_left
    · rw [decide_eq_false ha] at cc
      have HE : Hid (forkOk s f = false) := by show _ = _; rw [HX.out, decide_eq_false ha]; rfl
      clear ha HX
      have kS0 : w1.cell? ⟨w.heap.size, 0, none⟩ = some (.slice oa s.attrs.length ka) := KS.cell 0
      have kS1 : w1.cell? ⟨w.heap.size, 1, none⟩ = some (vc) := KS.cell 1
      have kF0 : w1.cell? ⟨w.heap.size + 1, 0, none⟩ = some (.int .i64 f.attr) := KF.cell 0
      have kF1 : w1.cell? ⟨w.heap.size + 1, 1, none⟩ = some (.int .i64 f.pos) := KF.cell 1
      go_wp2_with fail
      refine cc.mono ?_
      clear cc
      rintro e w2 ⟨rfl, e2⟩
      rw [e2]
      go_wp2
      go_ret
      exact ⟨by rw [HE.out]; rfl, B⟩
    rw [decide_eq_true ha] at cc
    have HX2 : Hid (forkOk s f = decide (-1 ≤ f.pos ∧ f.pos ≤ forkTop s f)) := by show _ = _; rw [HX.out, decide_eq_true ha, Bool.true_and]
    clear HX
    obtain ⟨k, hk⟩ := Int.eq_ofNat_of_zero_le ha.1
    have hlt : k < s.attrs.length := by omega
    have HK : Hid (f.attr = (k : Int)) := hk
    have HFA : Hid (forkAttr s f = ad s.attrs k) := by show _ = _; unfold forkAttr; rw [hk]; rfl
    generalize f.attr = fa0 at *
    subst hk
    have kS0 : w1.cell? ⟨w.heap.size, 0, none⟩ = some (.slice oa s.attrs.length ka) := KS.cell 0
    have kS1 : w1.cell? ⟨w.heap.size, 1, none⟩ = some (vc) := KS.cell 1
    have kF0 : w1.cell? ⟨w.heap.size + 1, 0, none⟩ = some (.int .i64 (k : Int)) := KF.cell 0
    have kF1 : w1.cell? ⟨w.heap.size + 1, 1, none⟩ = some (.int .i64 f.pos) := KF.cell 1
    go_wp2_with fail
    refine cc.mono ?_
    clear cc
    clear kS0 kS1 kF0 kF1
    rintro e w2 ⟨rfl, e2⟩
    rw [e2]
    clear e2 w2
    obtain ⟨ga, fa, y1, z1, y2, z2, rfl, hat⟩ := attr_at (HS.out _ B) hlt
    have HAT : Hid _ := hat
    clear hat
    have c1 := (HAT.out _ (Below.refl _ _)).2.1
    have HB : Hid (okA (ad s.attrs k)) := HOK.out.each _ (ad_mem hlt)
    obtain ⟨nb, hnb⟩ : ∃ nb, bins (ad s.attrs k) = nb := ⟨_, rfl⟩
    have hb4 := small_bins (ad s.attrs k)
    rw [hnb] at hb4
    by_cases hc : 0 < (ad s.attrs k).cuts.length
    · have hci : (0 : Int) < ((ad s.attrs k).cuts.length : Int) := by omega
      have HE : Hid (forkOk s f = decide (-1 ≤ f.pos ∧ f.pos ≤ nb - 2)) := by show _ = _; rw [HX2.out]; unfold forkTop; rw [HFA.out, if_pos hc, hnb]
      clear HX2 hc
      have kS0 : w1.cell? ⟨w.heap.size, 0, none⟩ = some (.slice (some ⟨ga, fa, none⟩) s.attrs.length ka) := KS.cell 0
      have kS1 : w1.cell? ⟨w.heap.size, 1, none⟩ = some (vc) := KS.cell 1
      have kF0 : w1.cell? ⟨w.heap.size + 1, 0, none⟩ = some (.int .i64 (k : Int)) := KF.cell 0
      have kF1 : w1.cell? ⟨w.heap.size + 1, 1, none⟩ = some (.int .i64 f.pos) := KF.cell 1
      go_wp2_with fail
      clear kS0 kS1 kF0 kF1
      clear c1 hci
      have bd : Below w1.heap.size w1 w1.drew := below_drewN (Below.refl _ _) 1
      have hat := HAT.out _ bd
      refine wp_region_held_drew (S := fun w' => Blk 40 w' w.heap.size #[.slice (some ⟨ga, fa, none⟩) s.attrs.length ka, vc] ∧ Blk 60 w' (w.heap.size + 1) #[.int .i64 (k : Int), .int .i64 f.pos] ∧ (w'.cell? ⟨ga, fa + k * 3, none⟩ = some (.string (ad s.attrs k).name) ∧ w'.cell? ⟨ga, fa + k * 3 + 1, none⟩ = some (.slice y1 (ad s.attrs k).cuts.length z1) ∧ w'.cell? ⟨ga, fa + k * 3 + 2, none⟩ = some (.slice y2 (ad s.attrs k).vals.length z2))) (by kernel_rfl) ⟨KS.below bd, KF.below bd, hat.1, hat.2.1, hat.2.2.1⟩ ?_
      intro hS
      have cB := specBins_any _ _ _ hat.2.2.2 HB.out
      rw [hnb] at cB
      clear hat
      replace KS := KS.below bd
      replace KF := KF.below bd
      replace B := B.trans (bd.mono B.size)
      clear bd
      generalize w1.drew = w3 at KS KF B cB hS ⊢
      refine takeL 0 (.pointer (some ⟨w.heap.size + 1, 1, none⟩)) rfl (by kernel_rfl) (by kernel_rfl) (by kernel_rfl) (fun _ _ _ h => h) (.inl ⟨by rfl, fun w hw => by (unfold execOp; go_simp)⟩) hS ?_
      try simp only [Act.put, List.setIfInBounds_toArray, List.set_cons_zero, List.set_cons_succ]
      refine takeL 1 (.int .i64 f.pos) rfl (by kernel_rfl) (by kernel_rfl) (by kernel_rfl) (fun _ _ _ h => h) (.inl ⟨by rfl, fun w hw => by (have h0 := (hw.2.1).cell 1; unfold execOp; go_simp)⟩) hS ?_
      try simp only [Act.put, List.setIfInBounds_toArray, List.set_cons_zero, List.set_cons_succ]
      refine takeL 2 (.pointer (some ⟨w.heap.size, 0, none⟩)) rfl (by kernel_rfl) (by kernel_rfl) (by kernel_rfl) (fun _ _ _ h => h) (.inl ⟨by rfl, fun w hw => by (unfold execOp; go_simp)⟩) hS ?_
      try simp only [Act.put, List.setIfInBounds_toArray, List.set_cons_zero, List.set_cons_succ]
      refine takeL 3 (.slice (some ⟨ga, fa, none⟩) s.attrs.length ka) rfl (by kernel_rfl) (by kernel_rfl) (by kernel_rfl) (fun _ _ _ h => h) (.inl ⟨by rfl, fun w hw => by (have h0 := (hw.1).cell 0; unfold execOp; go_simp)⟩) hS ?_
      try simp only [Act.put, List.setIfInBounds_toArray, List.set_cons_zero, List.set_cons_succ]
      refine takeL 4 (.pointer (some ⟨w.heap.size + 1, 0, none⟩)) rfl (by kernel_rfl) (by kernel_rfl) (by kernel_rfl) (fun _ _ _ h => h) (.inl ⟨by rfl, fun w hw => by (unfold execOp; go_simp)⟩) hS ?_
      try simp only [Act.put, List.setIfInBounds_toArray, List.set_cons_zero, List.set_cons_succ]
      refine takeL 5 (.int .i64 ((k : Int))) rfl (by kernel_rfl) (by kernel_rfl) (by kernel_rfl) (fun _ _ _ h => h) (.inl ⟨by rfl, fun w hw => by (have h0 := (hw.2.1).cell 0; unfold execOp; go_simp)⟩) hS ?_
      try simp only [Act.put, List.setIfInBounds_toArray, List.set_cons_zero, List.set_cons_succ]
      refine takeL 6 (.pointer (some ⟨ga, fa + k * 3, none⟩)) rfl (by kernel_rfl) (by kernel_rfl) (by kernel_rfl) (fun _ _ _ h => h) (.inl ⟨by rfl, fun w hw => by (unfold execOp; go_simp; all_goals omega)⟩) hS ?_
      try simp only [Act.put, List.setIfInBounds_toArray, List.set_cons_zero, List.set_cons_succ]
      refine takeL 7 (.agg #[.string (ad s.attrs k).name, .slice y1 (ad s.attrs k).cuts.length z1, .slice y2 (ad s.attrs k).vals.length z2]) rfl (by kernel_rfl) (by kernel_rfl) (by kernel_rfl) (fun _ _ _ h => h) (.inl ⟨by rfl, fun w hw => by (have h0 := hw.2.2.1; have h1 := hw.2.2.2.1; have h2 := hw.2.2.2.2; unfold execOp; go_simp)⟩) hS ?_
      try simp only [Act.put, List.setIfInBounds_toArray, List.set_cons_zero, List.set_cons_succ]
      refine nextL 8 rfl (by kernel_rfl) (by rfl) fun K hK => ?_
      go_simp
      refine cB.mono ?_
      clear cB
      rintro e w4 ⟨rfl, hb⟩
      replace hS : (fun w' => Blk 40 w' w.heap.size #[.slice (some ⟨ga, fa, none⟩) s.attrs.length ka, vc] ∧ Blk 60 w' (w.heap.size + 1) #[.int .i64 (k : Int), .int .i64 f.pos] ∧ (w'.cell? ⟨ga, fa + k * 3, none⟩ = some (.string (ad s.attrs k).name) ∧ w'.cell? ⟨ga, fa + k * 3 + 1, none⟩ = some (.slice y1 (ad s.attrs k).cuts.length z1) ∧ w'.cell? ⟨ga, fa + k * 3 + 2, none⟩ = some (.slice y2 (ad s.attrs k).vals.length z2))) w4 := ⟨hS.1.below hb, hS.2.1.below hb, (hb.cell (p := ⟨ga, fa + k * 3, none⟩) (World.block_lt_of_cell? _ _ (by rw [hS.2.2.1]))).trans hS.2.2.1, (hb.cell (p := ⟨ga, fa + k * 3 + 1, none⟩) (World.block_lt_of_cell? _ _ (by rw [hS.2.2.2.1]))).trans hS.2.2.2.1, (hb.cell (p := ⟨ga, fa + k * 3 + 2, none⟩) (World.block_lt_of_cell? _ _ (by rw [hS.2.2.2.2]))).trans hS.2.2.2.2⟩
      replace B := B.trans (hb.mono B.size)
      clear KS KF hb
      refine hK _ _ hS ?_
      clear hK K hS
      intro hS
      refine takeL 9 (.int .i64 (nb - 2)) rfl (by kernel_rfl) (by kernel_rfl) (by kernel_rfl) (fun _ _ _ h => h) (.inl ⟨by rfl, fun w hw => by (unfold execOp; go_simp; all_goals (rw [IntKind.wrap_i64]; omega))⟩) hS ?_
      try simp only [Act.put, List.setIfInBounds_toArray, List.set_cons_zero, List.set_cons_succ]
      have cI := in_any f.pos (-1) (nb - 2) w4
      refine nextL 10 rfl (by kernel_rfl) (by rfl) fun K hK => ?_
      go_simp
      refine cI.mono ?_
      clear cI
      rintro e w5 ⟨rfl, e5⟩
      rw [e5]
      clear e5 w5
      refine hK _ _ hS ?_
      clear hK K hS
      intro hS
      refine takeL 11 (.bool (decide (-1 ≤ f.pos ∧ f.pos ≤ nb - 2))) rfl (by kernel_rfl) (by kernel_rfl) (by kernel_rfl) (fun _ _ _ h => h) (.inl ⟨by rfl, fun w _ => by rfl⟩) hS ?_
      try simp only [Act.put, List.setIfInBounds_toArray, List.set_cons_zero, List.set_cons_succ]
      refine wpAnyH_done (by kernel_rfl) ?_ _
      clear hS
      go_wp2
      go_ret
      exact ⟨by rw [HE.out]; rfl, B⟩
    · have hci : ¬ (0 : Int) < ((ad s.attrs k).cuts.length : Int) := by omega
      have HE : Hid (forkOk s f = decide (-1 ≤ f.pos ∧ f.pos ≤ nb - 1)) := by show _ = _; rw [HX2.out]; unfold forkTop; rw [HFA.out, if_neg hc, hnb]
      clear HX2 hc
      have kS0 : w1.cell? ⟨w.heap.size, 0, none⟩ = some (.slice (some ⟨ga, fa, none⟩) s.attrs.length ka) := KS.cell 0
      have kS1 : w1.cell? ⟨w.heap.size, 1, none⟩ = some (vc) := KS.cell 1
      have kF0 : w1.cell? ⟨w.heap.size + 1, 0, none⟩ = some (.int .i64 (k : Int)) := KF.cell 0
      have kF1 : w1.cell? ⟨w.heap.size + 1, 1, none⟩ = some (.int .i64 f.pos) := KF.cell 1
      go_wp2_with fail
      clear kS0 kS1 kF0 kF1
      clear c1 hci
      have bd : Below w1.heap.size w1 w1.drew := below_drewN (Below.refl _ _) 1
      have hat := HAT.out _ bd
      refine wp_region_held_drew (S := fun w' => Blk 40 w' w.heap.size #[.slice (some ⟨ga, fa, none⟩) s.attrs.length ka, vc] ∧ Blk 60 w' (w.heap.size + 1) #[.int .i64 (k : Int), .int .i64 f.pos] ∧ (w'.cell? ⟨ga, fa + k * 3, none⟩ = some (.string (ad s.attrs k).name) ∧ w'.cell? ⟨ga, fa + k * 3 + 1, none⟩ = some (.slice y1 (ad s.attrs k).cuts.length z1) ∧ w'.cell? ⟨ga, fa + k * 3 + 2, none⟩ = some (.slice y2 (ad s.attrs k).vals.length z2))) (by kernel_rfl) ⟨KS.below bd, KF.below bd, hat.1, hat.2.1, hat.2.2.1⟩ ?_
      intro hS
      have cB := specBins_any _ _ _ hat.2.2.2 HB.out
      rw [hnb] at cB
      clear hat
      replace KS := KS.below bd
      replace KF := KF.below bd
      replace B := B.trans (bd.mono B.size)
      clear bd
      generalize w1.drew = w3 at KS KF B cB hS ⊢
      refine takeL 0 (.pointer (some ⟨w.heap.size + 1, 1, none⟩)) rfl (by kernel_rfl) (by kernel_rfl) (by kernel_rfl) (fun _ _ _ h => h) (.inl ⟨by rfl, fun w hw => by (unfold execOp; go_simp)⟩) hS ?_
      try simp only [Act.put, List.setIfInBounds_toArray, List.set_cons_zero, List.set_cons_succ]
      refine takeL 1 (.int .i64 f.pos) rfl (by kernel_rfl) (by kernel_rfl) (by kernel_rfl) (fun _ _ _ h => h) (.inl ⟨by rfl, fun w hw => by (have h0 := (hw.2.1).cell 1; unfold execOp; go_simp)⟩) hS ?_
      try simp only [Act.put, List.setIfInBounds_toArray, List.set_cons_zero, List.set_cons_succ]
      refine takeL 2 (.pointer (some ⟨w.heap.size, 0, none⟩)) rfl (by kernel_rfl) (by kernel_rfl) (by kernel_rfl) (fun _ _ _ h => h) (.inl ⟨by rfl, fun w hw => by (unfold execOp; go_simp)⟩) hS ?_
      try simp only [Act.put, List.setIfInBounds_toArray, List.set_cons_zero, List.set_cons_succ]
      refine takeL 3 (.slice (some ⟨ga, fa, none⟩) s.attrs.length ka) rfl (by kernel_rfl) (by kernel_rfl) (by kernel_rfl) (fun _ _ _ h => h) (.inl ⟨by rfl, fun w hw => by (have h0 := (hw.1).cell 0; unfold execOp; go_simp)⟩) hS ?_
      try simp only [Act.put, List.setIfInBounds_toArray, List.set_cons_zero, List.set_cons_succ]
      refine takeL 4 (.pointer (some ⟨w.heap.size + 1, 0, none⟩)) rfl (by kernel_rfl) (by kernel_rfl) (by kernel_rfl) (fun _ _ _ h => h) (.inl ⟨by rfl, fun w hw => by (unfold execOp; go_simp)⟩) hS ?_
      try simp only [Act.put, List.setIfInBounds_toArray, List.set_cons_zero, List.set_cons_succ]
      refine takeL 5 (.int .i64 ((k : Int))) rfl (by kernel_rfl) (by kernel_rfl) (by kernel_rfl) (fun _ _ _ h => h) (.inl ⟨by rfl, fun w hw => by (have h0 := (hw.2.1).cell 0; unfold execOp; go_simp)⟩) hS ?_
      try simp only [Act.put, List.setIfInBounds_toArray, List.set_cons_zero, List.set_cons_succ]
      refine takeL 6 (.pointer (some ⟨ga, fa + k * 3, none⟩)) rfl (by kernel_rfl) (by kernel_rfl) (by kernel_rfl) (fun _ _ _ h => h) (.inl ⟨by rfl, fun w hw => by (unfold execOp; go_simp; all_goals omega)⟩) hS ?_
      try simp only [Act.put, List.setIfInBounds_toArray, List.set_cons_zero, List.set_cons_succ]
      refine takeL 7 (.agg #[.string (ad s.attrs k).name, .slice y1 (ad s.attrs k).cuts.length z1, .slice y2 (ad s.attrs k).vals.length z2]) rfl (by kernel_rfl) (by kernel_rfl) (by kernel_rfl) (fun _ _ _ h => h) (.inl ⟨by rfl, fun w hw => by (have h0 := hw.2.2.1; have h1 := hw.2.2.2.1; have h2 := hw.2.2.2.2; unfold execOp; go_simp)⟩) hS ?_
      try simp only [Act.put, List.setIfInBounds_toArray, List.set_cons_zero, List.set_cons_succ]
      refine nextL 8 rfl (by kernel_rfl) (by rfl) fun K hK => ?_
      go_simp
      refine cB.mono ?_
      clear cB
      rintro e w4 ⟨rfl, hb⟩
      replace hS : (fun w' => Blk 40 w' w.heap.size #[.slice (some ⟨ga, fa, none⟩) s.attrs.length ka, vc] ∧ Blk 60 w' (w.heap.size + 1) #[.int .i64 (k : Int), .int .i64 f.pos] ∧ (w'.cell? ⟨ga, fa + k * 3, none⟩ = some (.string (ad s.attrs k).name) ∧ w'.cell? ⟨ga, fa + k * 3 + 1, none⟩ = some (.slice y1 (ad s.attrs k).cuts.length z1) ∧ w'.cell? ⟨ga, fa + k * 3 + 2, none⟩ = some (.slice y2 (ad s.attrs k).vals.length z2))) w4 := ⟨hS.1.below hb, hS.2.1.below hb, (hb.cell (p := ⟨ga, fa + k * 3, none⟩) (World.block_lt_of_cell? _ _ (by rw [hS.2.2.1]))).trans hS.2.2.1, (hb.cell (p := ⟨ga, fa + k * 3 + 1, none⟩) (World.block_lt_of_cell? _ _ (by rw [hS.2.2.2.1]))).trans hS.2.2.2.1, (hb.cell (p := ⟨ga, fa + k * 3 + 2, none⟩) (World.block_lt_of_cell? _ _ (by rw [hS.2.2.2.2]))).trans hS.2.2.2.2⟩
      replace B := B.trans (hb.mono B.size)
      clear KS KF hb
      refine hK _ _ hS ?_
      clear hK K hS
      intro hS
      refine takeL 9 (.int .i64 (nb - 1)) rfl (by kernel_rfl) (by kernel_rfl) (by kernel_rfl) (fun _ _ _ h => h) (.inl ⟨by rfl, fun w hw => by (unfold execOp; go_simp; all_goals (rw [IntKind.wrap_i64]; omega))⟩) hS ?_
      try simp only [Act.put, List.setIfInBounds_toArray, List.set_cons_zero, List.set_cons_succ]
      have cI := in_any f.pos (-1) (nb - 1) w4
      refine nextL 10 rfl (by kernel_rfl) (by rfl) fun K hK => ?_
      go_simp
      refine cI.mono ?_
      clear cI
      rintro e w5 ⟨rfl, e5⟩
      rw [e5]
      clear e5 w5
      refine hK _ _ hS ?_
      clear hK K hS
      intro hS
      refine takeL 11 (.bool (decide (-1 ≤ f.pos ∧ f.pos ≤ nb - 1))) rfl (by kernel_rfl) (by kernel_rfl) (by kernel_rfl) (fun _ _ _ h => h) (.inl ⟨by rfl, fun w _ => by rfl⟩) hS ?_
      try simp only [Act.put, List.setIfInBounds_toArray, List.set_cons_zero, List.set_cons_succ]
      refine wpAnyH_done (by kernel_rfl) ?_ _
      clear hS
      go_wp2
      go_ret
      exact ⟨by rw [HE.out]; rfl, B⟩
end Go.Proofs.Ytobimpgapfecoab
/- How many branches a question has, by the specification. -/
namespace Go.Proofs.Ytobimpgapfecoab
open Go.RowKit
set_option maxRecDepth 100000
set_option linter.unusedSimpArgs false
set_option maxHeartbeats 3200000 in
theorem specBranches_any (vs : Value) (s : SchemaD) (f : ForkD) (w : World) (hs : SchemaAt w vs s) (hn : okSch s) :
    Calls Try.prog 65 #[vs, forkV f] w fun e w' => e = .returned (.int .i64 (branches s f)) ∧ Below w.heap.size w w' := by
  unfold forkV
  have HS : Hid (∀ W, Below w.heap.size w W → SchemaAt W vs s) := fun W h => hs.later h
  have HOK : Hid (okSch s) := hn
  obtain ⟨va, vc, rfl, ra, -⟩ := hs
  obtain ⟨oa, ka, rfl, -, -⟩ := id ra
  clear ra hn
  have la := HOK.out.attrs
  obtain ⟨KS, KF, B⟩ := blk_2 40 60 w #[.slice oa s.attrs.length ka, vc] #[.int .i64 f.attr, .int .i64 f.pos]
  have cc := specForkOk_any _ s f _ (HS.out _ B) HOK.out
  unfold forkV at cc
  generalize hW : ((w.alloc (.cells #[.slice oa s.attrs.length ka, vc] 40)).alloc (.cells #[.int .i64 f.attr, .int .i64 f.pos] 60)) = w0 at KS KF B cc
  cases hk : forkOk s f with
  | false =>
    have HE : branches s f = 0 := by unfold branches; rw [hk]; rfl
    rw [hk] at cc
    rw [HE]
    clear hk HE
    go_enter Try.func65, Try.ntmps65
    have kS0 : w0.cell? ⟨w.heap.size, 0, none⟩ = some (.slice oa s.attrs.length ka) := KS.cell 0
    have kS1 : w0.cell? ⟨w.heap.size, 1, none⟩ = some (vc) := KS.cell 1
    have kF0 : w0.cell? ⟨w.heap.size + 1, 0, none⟩ = some (.int .i64 f.attr) := KF.cell 0
    have kF1 : w0.cell? ⟨w.heap.size + 1, 1, none⟩ = some (.int .i64 f.pos) := KF.cell 1
    go_wp2_with fail
    refine cc.mono ?_
    clear cc hW
    clear kS0 kS1 kF0 kF1
    rintro e w1 ⟨rfl, hb⟩
    replace KS := KS.below hb
    replace KF := KF.below hb
    replace B := B.trans (hb.mono B.size)
    go_wp2
    go_ret
    exact ⟨rfl, B⟩
  | true =>
    have HE : branches s f = if f.pos = -1 then bins (forkAttr s f) else 2 := by unfold branches; rw [if_pos hk]
    obtain ⟨-, ⟨k, hfa, hlt, hat⟩, hp0, hp1⟩ := fork_parts hk
    rw [hk] at cc
    rw [HE, hat]
    clear hk HE hp1 hat
    generalize f.attr = fa0 at *
    subst hfa
    by_cases hp : f.pos = -1
    · rw [if_pos hp]
      have hpe : (f.pos == -1) = true := by rw [hp]; rfl
      clear hp hp0
      go_enter Try.func65, Try.ntmps65
      have kS0 : w0.cell? ⟨w.heap.size, 0, none⟩ = some (.slice oa s.attrs.length ka) := KS.cell 0
      have kS1 : w0.cell? ⟨w.heap.size, 1, none⟩ = some (vc) := KS.cell 1
      have kF0 : w0.cell? ⟨w.heap.size + 1, 0, none⟩ = some (.int .i64 (k : Int)) := KF.cell 0
      have kF1 : w0.cell? ⟨w.heap.size + 1, 1, none⟩ = some (.int .i64 f.pos) := KF.cell 1
      go_wp2_with fail
      refine cc.mono ?_
      clear cc hW
      clear kS0 kS1 kF0 kF1
      rintro e w1 ⟨rfl, hb⟩
      replace KS := KS.below hb
      replace KF := KF.below hb
      replace B := B.trans (hb.mono B.size)
      clear hb
      obtain ⟨ga, fa, y1, z1, y2, z2, rfl, hat⟩ := attr_at (HS.out _ B) hlt
      obtain ⟨c0, c1, c2, hA⟩ := hat _ (Below.refl _ _)
      clear hat
      have cB := specBins_any _ _ _ hA (HOK.out.each _ (ad_mem hlt))
      have kS0 : w1.cell? ⟨w.heap.size, 0, none⟩ = some (.slice (some ⟨ga, fa, none⟩) s.attrs.length ka) := KS.cell 0
      have kS1 : w1.cell? ⟨w.heap.size, 1, none⟩ = some (vc) := KS.cell 1
      have kF0 : w1.cell? ⟨w.heap.size + 1, 0, none⟩ = some (.int .i64 (k : Int)) := KF.cell 0
      have kF1 : w1.cell? ⟨w.heap.size + 1, 1, none⟩ = some (.int .i64 f.pos) := KF.cell 1
      go_wp2_with fail
      refine cB.mono ?_
      rintro e w2 ⟨rfl, hb⟩
      go_wp2
      go_ret
      exact ⟨rfl, B.trans (hb.mono B.size)⟩
    · rw [if_neg hp]
      have hpe : (f.pos == -1) = false := by rw [beq_eq_false_iff_ne]; exact hp
      clear hp hp0
      go_enter Try.func65, Try.ntmps65
      have kS0 : w0.cell? ⟨w.heap.size, 0, none⟩ = some (.slice oa s.attrs.length ka) := KS.cell 0
      have kS1 : w0.cell? ⟨w.heap.size, 1, none⟩ = some (vc) := KS.cell 1
      have kF0 : w0.cell? ⟨w.heap.size + 1, 0, none⟩ = some (.int .i64 (k : Int)) := KF.cell 0
      have kF1 : w0.cell? ⟨w.heap.size + 1, 1, none⟩ = some (.int .i64 f.pos) := KF.cell 1
      go_wp2_with fail
      refine cc.mono ?_
      clear cc hW
      clear kS0 kS1 kF0 kF1
      rintro e w1 ⟨rfl, hb⟩
      replace KS := KS.below hb
      replace KF := KF.below hb
      replace B := B.trans (hb.mono B.size)
      clear hb
      have kF0 : w1.cell? ⟨w.heap.size + 1, 0, none⟩ = some (.int .i64 (k : Int)) := KF.cell 0
      have kF1 : w1.cell? ⟨w.heap.size + 1, 1, none⟩ = some (.int .i64 f.pos) := KF.cell 1
      go_wp2
      go_ret
      exact ⟨rfl, B⟩
end Go.Proofs.Ytobimpgapfecoab
