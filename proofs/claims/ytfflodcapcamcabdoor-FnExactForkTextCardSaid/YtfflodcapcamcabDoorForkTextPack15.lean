/- Texts of this claim, put together: part 15. -/
import Derived.Test.YtfflodcapcamcabDoorForkTextPack3
import Derived.Test.YtfflodcapcamcabDoorForkTextPack11
import Derived.Test.YtfflodcapcamcabDoorForkTextPack14
import Derived.Test.YtfflodcapcamcabDoorForkTextPack4
import Derived.Test.YtfflodcapcamcabDoorForkTextPack7
/- Two structs in new blocks. -/
namespace Go.Proofs.YtfflodcapcamcabDoor
open Go.RowKit
set_option maxRecDepth 100000
set_option linter.unusedSimpArgs false
theorem two_below (w : World) (c d : Array Value) : Below w.heap.size w ((w.alloc (.cells c 32)).alloc (.cells d 34)) := ((Below.refl _ _).alloc (Nat.le_refl _) _).alloc (by simp) _
end Go.Proofs.YtfflodcapcamcabDoor
/- The text of a question, by the program. -/
namespace Go.Proofs.YtfflodcapcamcabDoor
open Go.RowKit
set_option maxRecDepth 100000
set_option linter.unusedSimpArgs false
set_option maxHeartbeats 1600000 in
theorem implForkText_any (vs : Value) (s : SchemaD) (f : ForkD) (w : World) (hs : SchemaAt w vs s) (hn : okSch s) (hT : Tab w) :
    Calls Tryd.prog 8 #[vs, forkV f] w fun e w' => e = .returned (.string (forkText s f)) ∧ Below w.heap.size w w' := by
  have HS : Hid (∀ W, Below w.heap.size w W → SchemaAt W vs s) := fun W h => hs.later h
  have HT : Hid (Tab w) := hT
  have cq := fun W (hW : Below w.heap.size w W) => questionOf_any vs s f W (hs.later hW) hn
  have CQ : Hid _ := cq
  unfold forkV at CQ ⊢
  clear cq hT
  obtain ⟨va, vc, rfl, ra, -⟩ := hs
  obtain ⟨oa, ka, rfl, -, -⟩ := id ra
  have la := hn.attrs
  clear ra
  obtain ⟨KS, KF, B⟩ := blk_2 32 34 w #[.slice oa s.attrs.length ka, vc] #[.int .i64 f.attr, .int .i64 f.pos]
  have cc := CQ.out _ B
  clear CQ hn
  cases hk : forkOk s f with
  | false =>
    have HE : Hid (forkText s f = ⟨#[]⟩) := text_no hk
    rw [hk] at cc
    clear hk
    go_enter Tryd.func8, Tryd.ntmps8
    go_wp2_with fail
    refine cc.mono ?_
    clear cc
    rintro e w1 ⟨rfl, hb⟩
    replace B := B.trans (hb.mono B.size)
    go_wp2
    go_ret
    exact ⟨by rw [HE.out]; rfl, B⟩
  | true =>
    rw [hk] at cc
    have HQ : Hid (forkOk s f = true) := hk
    obtain ⟨-, ⟨k, hfa, hlt, hat⟩, -, -⟩ := fork_parts hk
    have HAT : Hid (forkAttr s f = ad s.attrs k) := hat
    clear hk hat
    have HFV : Hid (f.attr = (k : Int)) := hfa
    rw [hfa] at cc KF B ⊢
    rw [hfa] at KS
    clear hfa
    go_enter Tryd.func8, Tryd.ntmps8
    go_wp2_with fail
    refine cc.mono ?_
    clear cc
    rintro e w1 ⟨rfl, hb⟩
    replace B := B.trans (hb.mono B.size)
    replace KS := KS.below hb
    replace KF := KF.below hb
    clear hb
    obtain ⟨ga, fa, y1, z1, y2, z2, rfl, hat⟩ := attr_at (HS.out _ B) hlt
    obtain ⟨c0, c1, c2, hA⟩ := hat _ (Below.refl _ _)
    have kS0 : w1.cell? ⟨w.heap.size, 0, none⟩ = some (.slice (some ⟨ga, fa, none⟩) s.attrs.length ka) := KS.cell 0
    have kF0 : w1.cell? ⟨w.heap.size + 1, 0, none⟩ = some (.int .i64 (k : Int)) := KF.cell 0
    have HTT := HT.out.later B
    have hok : attrOk (ad s.attrs k) = true := by have h2 := fork_parts HQ.out; exact sch_attr h2.1 hlt
    have hqv := questionV_yes HQ.out
    clear hat KS KF HS HT
    by_cases hp : f.pos = -1
    · rw [if_pos hp] at hqv
      have HE : Hid (forkText s f = (ad s.attrs k).name ++ ⟨#[42]⟩) := text_each HQ.out HAT.out hp
      generalize bins (forkAttr s f) = nb at hqv
      have cc := qText_each _ _ nb _ hA hok
      clear hp HTT hok hA
      generalize questionV s f = qv at hqv ⊢
      subst hqv
      go_wp2_with fail
      refine cc.mono ?_
      clear cc
      rintro e w2 ⟨rfl, hb⟩
      replace B := B.trans (hb.mono B.size)
      go_wp2
      go_ret
      exact ⟨by rw [HE.out]; rfl, B⟩
    obtain ⟨p, hpp, hpw, -⟩ := pos_place HQ.out HAT.out hp
    have hkd := ok_kind hok
    by_cases hc : 0 < (ad s.attrs k).cuts.length
    · have HE : Hid (forkText s f = (ad s.attrs k).name ++ ⟨#[60, 61]⟩ ++ itB ((ad s.attrs k).cuts.getD p 0)) := by show _ = _; rw [text_most HQ.out HAT.out hp hc, hpp]; rfl
      rw [if_neg hp, HAT.out, if_neg (show ¬ 0 < (ad s.attrs k).vals.length by omega), hpp] at hqv
      have cc := qText_most _ _ p _ hA hok (by unfold wayN at hpw; rw [if_neg (by omega)] at hpw; exact hpw) HTT
      clear hp HTT hok hA hkd hpw hc
      generalize questionV s f = qv at hqv ⊢
      subst hqv
      have HPP : Hid (f.pos = (p : Int)) := hpp
      clear hpp
      go_wp2_with fail
      refine cc.mono ?_
      clear cc
      rintro e w2 ⟨rfl, hb⟩
      replace B := B.trans (hb.mono B.size)
      go_wp2
      go_ret
      exact ⟨by rw [HE.out]; rfl, B⟩
    · have HE : Hid (forkText s f = (ad s.attrs k).name ++ ⟨#[61]⟩ ++ tx (ad s.attrs k).vals p) := by show _ = _; rw [text_just HQ.out HAT.out hp hc, hpp]; rfl
      rw [if_neg hp, HAT.out, if_pos (show 0 < (ad s.attrs k).vals.length by omega), hpp] at hqv
      have cc := qText_just _ _ p _ hA hok (by unfold wayN at hpw; rw [if_pos (by omega)] at hpw; exact hpw)
      clear hp HTT hok hA hkd hpw hc
      generalize questionV s f = qv at hqv ⊢
      subst hqv
      have HPP : Hid (f.pos = (p : Int)) := hpp
      clear hpp
      go_wp2_with fail
      refine cc.mono ?_
      clear cc
      rintro e w2 ⟨rfl, hb⟩
      replace B := B.trans (hb.mono B.size)
      go_wp2
      go_ret
      exact ⟨by rw [HE.out]; rfl, B⟩
end Go.Proofs.YtfflodcapcamcabDoor
/- Whether a schema is right, by the specification. -/
namespace Go.Proofs.YtfflodcapcamcabDoor
open Go.RowKit
set_option maxRecDepth 100000

theorem sch_no1 {s : SchemaD} (h : ¬ ((1 : Int) ≤ s.attrs.length ∧ (s.attrs.length : Int) ≤ 5)) : schemaOk s = false := by
  unfold schemaOk; rw [decide_eq_false (by omega)]; rfl
theorem sch_no2 {s : SchemaD} (h : ¬ ((2 : Int) ≤ s.classes.length ∧ (s.classes.length : Int) ≤ 3)) : schemaOk s = false := by
  unfold schemaOk choices; rw [decide_eq_false h]; simp
theorem sch_no3 {s : SchemaD} (h : wordsOk s.classes = false) : schemaOk s = false := by
  unfold schemaOk choices; rw [h]; simp
theorem sch_yes {s : SchemaD} (h : (1 : Int) ≤ s.attrs.length ∧ (s.attrs.length : Int) ≤ 5) (h2 : (2 : Int) ≤ s.classes.length ∧ (s.classes.length : Int) ≤ 3) (h3 : wordsOk s.classes = true) : schemaOk s = attrsOk s.attrs := by
  unfold schemaOk choices; rw [decide_eq_true (p := 1 ≤ s.attrs.length ∧ s.attrs.length ≤ 5) (by omega), decide_eq_true h2, h3]; rfl

set_option maxHeartbeats 1600000 in
theorem specSchemaOk_any (v : Value) (s : SchemaD) (w : World) (h : SchemaAt w v s) (hn : okSch s) :
    Calls Tryd.prog 21 #[v] w fun e w' => e = .returned (.bool (schemaOk s)) ∧ Below w.heap.size w w' := by
  obtain ⟨va, vc, rfl, ha, hc⟩ := h
  obtain ⟨oa, ca, rfl, hca, har⟩ := id ha
  obtain ⟨oc, cc, rfl, hcc, hcr⟩ := id hc
  have HAR : Hid (RowA w (.slice oa s.attrs.length ca) s.attrs) := ha
  have HCR : Hid (RowS w (.slice oc s.classes.length cc) s.classes) := hc
  have HO : Hid (okSch s) := hn
  have la := hn.attrs
  clear ha hc har hcr hn
  by_cases h1 : (1 : Int) ≤ s.attrs.length ∧ (s.attrs.length : Int) ≤ 5
  rotate_left
  · have HF : Hid (schemaOk s = false) := sch_no1 h1
    go_enter Tryd.func21, Tryd.ntmps21
    go_wp2_with fail
    refine (in_any _ _ _ _).mono ?_
    rintro e w1 ⟨rfl, rfl⟩
    rw [decide_eq_false h1]
    clear h1
    go_wp2
    go_ret
    exact ⟨by rw [HF.out]; rfl, (Below.refl _ _).alloc (Nat.le_refl _) _⟩
  by_cases h2 : (2 : Int) ≤ s.classes.length ∧ (s.classes.length : Int) ≤ 3
  rotate_left
  · have HF : Hid (schemaOk s = false) := sch_no2 h2
    go_enter Tryd.func21, Tryd.ntmps21
    go_wp2_with fail
    refine (in_any _ _ _ _).mono ?_
    rintro e w1 ⟨rfl, rfl⟩
    rw [decide_eq_true h1]
    clear h1
    go_wp2_with fail
    refine (in_any _ _ _ _).mono ?_
    rintro e w1 ⟨rfl, rfl⟩
    rw [decide_eq_false h2]
    clear h2
    go_wp2
    go_ret
    exact ⟨by rw [HF.out]; rfl, (Below.refl _ _).alloc (Nat.le_refl _) _⟩
  obtain ⟨K0, B0⟩ := blk_1 32 w #[.slice oa s.attrs.length ca, .slice oc s.classes.length cc]
  have c := specWords_any _ s.classes _ (HCR.out.later B0) HO.out.classes
  cases hw : wordsOk s.classes with
  | false =>
    have HF : Hid (schemaOk s = false) := sch_no3 hw
    rw [hw] at c
    clear hw
    go_enter Tryd.func21, Tryd.ntmps21
    go_wp2_with fail
    refine (in_any _ _ _ _).mono ?_
    rintro e w1 ⟨rfl, rfl⟩
    rw [decide_eq_true h1]
    clear h1
    go_wp2_with fail
    refine (in_any _ _ _ _).mono ?_
    rintro e w1 ⟨rfl, rfl⟩
    rw [decide_eq_true h2]
    clear h2
    go_wp2_with fail
    refine c.mono ?_
    rintro e w1 ⟨rfl, hb1⟩
    clear c K0
    go_wp2
    go_ret
    exact ⟨by rw [HF.out]; rfl, B0.trans (hb1.mono B0.size)⟩
  | true =>
    have HW : Hid (schemaOk s = attrsOk s.attrs) := sch_yes h1 h2 hw
    rw [hw] at c
    clear hw
    obtain ⟨ls, has⟩ : ∃ ls, s.attrs = ls := ⟨_, rfl⟩
    obtain ⟨g, o, rfl, hg, hj⟩ : ∃ g o, oa = some ⟨g, o, none⟩ ∧ g < w.heap.size ∧ ∀ j, j < ls.length → CellsA w g (o + j * 3) (ad ls j) := by
      obtain ⟨oa', cap', e, _, hr⟩ := HAR.out
      obtain ⟨g, o, e', hg, hj⟩ := hr (by omega)
      injection e with e1 e2 e3
      exact ⟨g, o, by rw [e1, e'], hg, by rw [← has]; exact hj⟩
    have HJ : Hid (∀ j, j < ls.length → CellsA w g (o + j * 3) (ad ls j)) := hj
    have HE : Hid (∀ j, j < ls.length → okA (ad ls j)) := fun j hj => HO.out.each _ (by rw [has]; exact ad_mem hj)
    have HAS : Hid (s.attrs = ls) := has
    clear hj HAR HCR HO
    rw [has] at h1 la hca K0 B0 c
    go_enter Tryd.func21, Tryd.ntmps21
    rw [has]
    clear has
    go_wp2_with fail
    refine (in_any _ _ _ _).mono ?_
    rintro e w1 ⟨rfl, rfl⟩
    rw [decide_eq_true h1]
    go_wp2_with fail
    refine (in_any _ _ _ _).mono ?_
    rintro e w1 ⟨rfl, rfl⟩
    rw [decide_eq_true h2]
    clear h2
    go_wp2_with fail
    refine c.mono ?_
    rintro e w1 ⟨rfl, hb1⟩
    clear c
    have HB1 : Hid (Blk 32 w1 w.heap.size #[.slice (some ⟨g, o, none⟩) ls.length ca, .slice oc s.classes.length cc]) := K0.below hb1
    have B1 := B0.trans (hb1.mono B0.size)
    clear hb1 K0 B0 h1
    go_wp2
    go_loopw [3, 4] (fun i _ wr => ∃ k : Nat, i = .int .i64 k ∧ k ≤ ls.length ∧ (∀ j, j < k → attrAt ls j = true) ∧ Below w1.heap.size w1 wr) (fun i _ _ => ls.length - (intOf i).toNat)
    case atStart => exact ⟨0, rfl, by omega, by omega, Below.refl _ _⟩
    case round =>
      obtain ⟨k, rfl, hk, hal, hb⟩ := hrel
      have HA : Hid (∀ j, j < k → attrAt ls j = true) := hal
      clear hal
      have K : wr.cell? ⟨w.heap.size, 0, none⟩ = some (.slice (some ⟨g, o, none⟩) ls.length ca) := (HB1.out.below hb).cell 0
      have hbw := B1.trans (hb.mono B1.size)
      by_cases hlt : k < ls.length
      · obtain ⟨vc, vv, q0, q1, q2, r1, r2⟩ := (HJ.out k hlt).later hbw hg
        obtain ⟨o1, c1, rfl, -, -⟩ := id r1
        obtain ⟨o2, c2, rfl, -, -⟩ := id r2
        have hx : AttrAt wr (.agg #[.string (ad ls k).name, .slice o1 (ad ls k).cuts.length c1, .slice o2 (ad ls k).vals.length c2]) (ad ls k) := ⟨_, _, rfl, r1, r2⟩
        have c := specAttrOk_any _ (ad ls k) _ hx (HE.out k hlt)
        clear r1 r2 hx
        cases hw : attrOk (ad ls k) with
        | false =>
          have HF : Hid (attrsOk ls = false) := attrs_no k hlt (attrAt_no1 hw)
          rw [hw] at c
          clear hw
          go_wp2_with fail
          refine c.mono ?_
          rintro e w2 ⟨rfl, hb2⟩
          clear c
          go_wp2
          go_ret
          exact ⟨by rw [HW.out, HAS.out, HF.out]; rfl, hbw.trans (hb2.mono hbw.size)⟩
        | true =>
          have HWK : Hid (attrOk (ad ls k) = true) := hw
          rw [hw] at c
          clear hw
          go_wp2_with fail
          refine c.mono ?_
          rintro e w2 ⟨rfl, hb2⟩
          clear c K q0 q1 q2
          have hb3 : Below w1.heap.size w1 w2 := hb.trans (hb2.mono hb.size)
          have hbx : Below w.heap.size w w2 := hbw.trans (hb2.mono hbw.size)
          have K : w2.cell? ⟨w.heap.size, 0, none⟩ = some (.slice (some ⟨g, o, none⟩) ls.length ca) := (HB1.out.below hb3).cell 0
          have q0 : w2.cell? ⟨g, o + k * 3, none⟩ = some (.string (ad ls k).name) := by
            obtain ⟨_, _, q, _⟩ := (HJ.out k hlt).later hbx hg; exact q
          clear hb hb2 hbw
          go_wp2
          go_loopw [4] (fun i wr => ∃ m q : Nat, i = .int .i64 m ∧ m ≤ k ∧ (∀ j, j < m → (ad ls k).name ≠ (ad ls j).name) ∧ wr = w2.drewN q) (fun i _ => k - (intOf i).toNat)
          case atStart => exact ⟨0, 0, rfl, by omega, by omega, rfl⟩
          case round =>
            obtain ⟨m, q, rfl, hm, hne, rfl⟩ := hrel
            have HN : Hid (∀ j, j < m → (ad ls k).name ≠ (ad ls j).name) := hne
            clear hne
            by_cases hmk : m < k
            · have hml : m < ls.length := by omega
              have hcm : w2.cell? ⟨g, o + m * 3, none⟩ = some (.string (ad ls m).name) := by
                obtain ⟨_, _, q, _⟩ := (HJ.out m hml).later hbx hg; exact q
              by_cases he : (ad ls k).name = (ad ls m).name
              · have HF : Hid (attrsOk ls = false) := attrs_no k hlt (attrAt_no2 (hasT_yes (k := m) (by rw [nmsB_len hk]; omega) (by rw [nmsB_at hmk hk]; exact he)))
                have hq : ((ad ls k).name.toList == (ad ls m).name.toList) = true := by rw [← he]; simp
                clear he
                generalize (ad ls k).name = u at q0 hq
                generalize (ad ls m).name = u' at hcm hq
                go_wp2
                go_quiet (fail)
                all_goals go_wp2
                all_goals go_ret
                all_goals exact ⟨by rw [HW.out, HAS.out, HF.out]; rfl, below_drewN (below_drewN hbx _) _⟩
              · have hq : ((ad ls k).name.toList == (ad ls m).name.toList) = false := by
                  rw [beq_eq_false_iff_ne]; exact fun h => he (bytes_eq_iff.1 h)
                have HE' : Hid ((ad ls k).name ≠ (ad ls m).name) := he
                clear he
                generalize hu : (ad ls k).name = u at q0 hq
                generalize hu' : (ad ls m).name = u' at hcm hq
                have HU : Hid ((ad ls k).name = u) := hu
                clear hu hu'
                go_wp2
                go_quiet (fail)
                all_goals go_wp2
                all_goals go_roundw
                case rel =>
                  refine ⟨m + 1, _, by go_num, by omega, ?_, by first | rfl | (simp only [World.drewN_drewN]; rfl)⟩
                  intro j hj
                  rw [← HU.out]
                  by_cases e : j = m
                  · subst e; exact HE'.out
                  · exact HN.out j (by omega)
                case measure => simp [intOf]; omega
            · have HF : Hid (attrAt ls k = true) := attrAt_yes HWK.out (hasT_no fun j hj => by
                have hj' : j < k := by rw [nmsB_len hk] at hj; exact hj
                rw [nmsB_at hj' hk]; exact HN.out j (by omega))
              go_wp2
              go_roundw
              case rel =>
                refine ⟨k + 1, by go_num, by omega, ?_, below_drewN hb3 _⟩
                intro j hj
                by_cases e : j = k
                · subst e; exact HF.out
                · exact HA.out j (by omega)
              case measure => simp [intOf]; omega
      · have HF : Hid (attrsOk ls = true) := attrs_yes fun j hj => HA.out j (by omega)
        go_wp2
        go_ret
        exact ⟨by rw [HW.out, HAS.out, HF.out]; rfl, hbw⟩
end Go.Proofs.YtfflodcapcamcabDoor
/- How many bins an attribute has, by the specification. -/
namespace Go.Proofs.YtfflodcapcamcabDoor
open Go.RowKit
set_option maxRecDepth 100000
set_option maxHeartbeats 400000 in
theorem specBins_any (v : Value) (a : AttrD) (w : World) (h : AttrAt w v a) (hn : okA a) :
    Calls Tryd.prog 23 #[v] w fun e w' => e = .returned (.int .i64 (bins a)) ∧ Below w.heap.size w w' := by
  have c := fun W (hW : Below w.heap.size w W) => specAttrOk_any v a W (h.later hW) hn
  have lc := hn.cuts
  have lv := hn.vals.1
  obtain ⟨vc, vv, rfl, hc, hv⟩ := h
  obtain ⟨oc, cc, rfl, hcc, hcr⟩ := hc
  obtain ⟨ov, cv, rfl, hvc, hvr⟩ := hv
  clear hcr hvr hn
  have HB : Hid (∀ o, Below w.heap.size w (w.alloc o)) := fun o => (Below.refl _ _).alloc (Nat.le_refl _) _
  cases hok : attrOk a with
  | false =>
    have HF : Hid (bins a = 0) := by unfold bins; rw [hok]; rfl
    rw [hok] at c
    clear hok
    go_enter Tryd.func23, Tryd.ntmps23
    go_wp2_with fail
    refine (c _ (HB.out _)).mono ?_
    rintro e w1 ⟨rfl, hb1⟩
    go_wp2
    go_ret
    exact ⟨by rw [HF.out]; rfl, (HB.out _).trans (hb1.mono (by simp))⟩
  | true =>
    rw [hok] at c
    have hkind := ok_kind hok
    by_cases h0 : 0 < a.cuts.length
    · have HF : Hid (bins a = a.cuts.length + 1) := by unfold bins; rw [hok, if_pos rfl, if_pos (by omega)]; rfl
      clear hok hkind
      go_enter Tryd.func23, Tryd.ntmps23
      go_wp2_with fail
      refine (c _ (HB.out _)).mono ?_
      rintro e w1 ⟨rfl, hb1⟩
      have K := (Blk.new _ _ _).below hb1
      have B1 := (HB.out _).trans (hb1.mono (by simp))
      have k1 : w1.cell? ⟨w.heap.size, 1, none⟩ = some (.slice oc a.cuts.length cc) := K.cell 1
      have k2 : w1.cell? ⟨w.heap.size, 2, none⟩ = some (.slice ov a.vals.length cv) := K.cell 2
      clear c hb1 K
      go_wp2
      go_ret
      exact ⟨by rw [HF.out]; first | rfl | (congr 1; go_num), B1⟩
    · have HF : Hid (bins a = a.vals.length) := by unfold bins; rw [hok, if_pos rfl, if_neg (by omega)]; rfl
      clear hok hkind
      go_enter Tryd.func23, Tryd.ntmps23
      go_wp2_with fail
      refine (c _ (HB.out _)).mono ?_
      rintro e w1 ⟨rfl, hb1⟩
      have K := (Blk.new _ _ _).below hb1
      have B1 := (HB.out _).trans (hb1.mono (by simp))
      have k1 : w1.cell? ⟨w.heap.size, 1, none⟩ = some (.slice oc a.cuts.length cc) := K.cell 1
      have k2 : w1.cell? ⟨w.heap.size, 2, none⟩ = some (.slice ov a.vals.length cv) := K.cell 2
      clear c hb1 K
      go_wp2
      go_ret
      exact ⟨by rw [HF.out]; rfl, B1⟩
end Go.Proofs.YtfflodcapcamcabDoor
