/- Texts of this claim, put together: part 16. -/
import Derived.Test.YtfflodcapcamcaaDoorFnCandidatesPack4
import Derived.Test.YtfflodcapcamcaaDoorFnCandidatesPack14
import Derived.Test.YtfflodcapcamcaaDoorFnCandidatesPack15
import Derived.Test.YtfflodcapcamcaaDoorFnCandidatesPack6
import Derived.Test.YtfflodcapcamcaaDoorFnCandidatesPack11
/- An attribute: whether it is right, how many bins it has, by the program and by the specification. -/
namespace Go.Proofs.YtfflodcapcamcaaDoor
open Go.RowKit
set_option maxRecDepth 100000
set_option maxHeartbeats 800000 in
theorem implAttrOk_any (v : Value) (a : AttrD) (w : World) (h : AttrAt w v a) (hn : okA a) :
    Calls Tryd.prog 30 #[v] w fun e w' => e = .returned (.bool (attrOk a)) ∧ Below w.heap.size w w' := by
  obtain ⟨vc, vv, rfl, hc, hv⟩ := h
  obtain ⟨oc, cc, rfl, hcc, hcr⟩ := id hc
  obtain ⟨ov, cv, rfl, hvc, hvr⟩ := id hv
  have HCR : Hid (RowI w (.slice oc a.cuts.length cc) a.cuts) := hc
  have HVR : Hid (RowS w (.slice ov a.vals.length cv) a.vals) := hv
  have HO : Hid (okA a) := hn
  have lc := hn.cuts
  have lv := hn.vals.1
  clear hc hv hcr hvr hn
  have c := fun W => implWord_any a.name W (by have := HO.out.name; omega)
  go_enter Tryd.func30, Tryd.ntmps30
  cases hw : wordOk a.name with
  | false =>
    have HF : Hid (attrOk a = false) := by unfold attrOk; rw [hw]; rfl
    rw [hw] at c
    clear hw
    go_wp2_with fail
    refine (c _).mono ?_
    rintro e w1 ⟨rfl, hb1⟩
    go_wp2
    go_ret
    exact ⟨by rw [HF.out]; rfl, ((Below.refl _ _).alloc (Nat.le_refl _) _).trans (hb1.mono (by simp))⟩
  | true =>
    have HW : Hid (attrOk a = (if a.cuts.length = 0 then choices a.vals 4 else decide (a.vals.length = 0) && (decide (a.cuts.length ≤ 3) && cutsRise a.cuts))) := by unfold attrOk; rw [hw]; rfl
    rw [hw] at c
    clear hw
    go_wp2_with fail
    refine (c _).mono ?_
    rintro e w1 ⟨rfl, hb1⟩
    clear c
    have B1 : Below w.heap.size w w1 := ((Below.refl _ _).alloc (Nat.le_refl _) _).trans (hb1.mono (by simp))
    have K := (Blk.new _ _ _).below hb1
    have k1 := K.cell 1
    have k2 := K.cell 2
    simp at k1 k2
    clear K hb1
    by_cases h0 : a.cuts.length = 0
    · have h0b : ((a.cuts.length : Int) == 0) = true := by simp [h0]
      have HF : Hid (attrOk a = choices a.vals 4) := by rw [HW.out, if_pos h0]; rfl
      have c2 := implChoices_any _ a.vals 4 w1 (HVR.out.later B1) HO.out.vals
      clear h0
      go_wp2_with fail
      refine c2.mono ?_
      rintro e w2 ⟨rfl, hb2⟩
      go_wp2
      go_ret
      exact ⟨by rw [HF.out]; rfl, B1.trans (hb2.mono B1.size)⟩
    · have h0b : ((a.cuts.length : Int) == 0) = false := by simp [h0]
      by_cases hv0 : a.vals.length = 0
      · have hvb : ((a.vals.length : Int) == 0) = true := by simp [hv0]
        have HF : Hid (attrOk a = (decide (a.cuts.length ≤ 3) && cutsRise a.cuts)) := by rw [HW.out, if_neg h0, decide_eq_true hv0]; rfl
        have c2 := implCuts_any _ a.cuts w1 (HCR.out.later B1) lc h0
        clear h0 hv0
        go_wp2_with fail
        refine c2.mono ?_
        rintro e w2 ⟨rfl, hb2⟩
        go_wp2
        go_ret
        exact ⟨by rw [HF.out]; rfl, B1.trans (hb2.mono B1.size)⟩
      · have hvb : ((a.vals.length : Int) == 0) = false := by simp [hv0]
        have HF : Hid (attrOk a = false) := by rw [HW.out, if_neg h0, decide_eq_false hv0]; rfl
        clear h0 hv0
        go_wp2
        go_ret
        exact ⟨by rw [HF.out]; rfl, B1⟩
end Go.Proofs.YtfflodcapcamcaaDoor
/- Whether a schema is right, by the program. -/
namespace Go.Proofs.YtfflodcapcamcaaDoor
open Go.RowKit
set_option maxRecDepth 100000

theorem rel_stepT {w wr w1 : World} {v v' : Value} {done : List ByteArray} {b : ByteArray} {o : Obj} (hs : w.heap.size ≤ wr.heap.size) (hb : Below w.heap.size w wr) (hown : wr.ownsRow w.heap.size 9 1 v done.length (done.map Value.string))
    (hown' : w1.ownsRow w.heap.size 9 1 v' (done.length + 1) (done.map Value.string ++ [.string b])) (hgrow : (wr.alloc o).grownBy w1 v.ownBlock) :
    w1.ownsRow w.heap.size 9 1 v' (done ++ [b]).length ((done ++ [b]).map Value.string) ∧ Below w.heap.size w w1 := by
  refine ⟨by simpa using hown', (hb.alloc hs o).grown hgrow (by simp; omega) fun k hk => (hown.lt k hk).1⟩

set_option maxHeartbeats 1600000 in
theorem implSchemaOk_any (v : Value) (s : SchemaD) (w : World) (h : SchemaAt w v s) (hn : okSch s) :
    Calls Tryd.prog 20 #[v] w fun e w' => e = .returned (.bool (schemaOk s)) ∧ Below w.heap.size w w' := by
  obtain ⟨i0, hi, hz0, hz1, hz2⟩ := info_parts strInfo
  obtain ⟨va, vc, rfl, ha, hc⟩ := h
  obtain ⟨oa, ca, rfl, hca, har⟩ := id ha
  obtain ⟨oc, cc, rfl, hcc, hcr⟩ := id hc
  have HAR : Hid (RowA w (.slice oa s.attrs.length ca) s.attrs) := ha
  have HCR : Hid (RowS w (.slice oc s.classes.length cc) s.classes) := hc
  have HO : Hid (okSch s) := hn
  have la := hn.attrs
  clear ha hc har hcr hn
  by_cases h1 : (s.attrs.length : Int) < 1
  · have HF : Hid (schemaOk s = false) := by unfold schemaOk; rw [decide_eq_false (by omega)]; rfl
    go_enter Tryd.func20, Tryd.ntmps20
    go_wp2
    go_ret
    exact ⟨by rw [HF.out]; rfl, (Below.refl _ _).alloc (Nat.le_refl _) _⟩
  by_cases h5 : (s.attrs.length : Int) ≤ 5
  rotate_left
  · have HF : Hid (schemaOk s = false) := by unfold schemaOk; rw [decide_eq_false (by omega)]; rfl
    go_enter Tryd.func20, Tryd.ntmps20
    go_wp2
    go_ret
    exact ⟨by rw [HF.out]; rfl, (Below.refl _ _).alloc (Nat.le_refl _) _⟩
  have HW : Hid (schemaOk s = (choices s.classes 3 && attrsOk s.attrs)) := by unfold schemaOk; rw [decide_eq_true (by omega)]; rfl
  obtain ⟨ls, has⟩ : ∃ ls, s.attrs = ls := ⟨_, rfl⟩
  obtain ⟨g, o, rfl, hg, hj⟩ : ∃ g o, oa = some ⟨g, o, none⟩ ∧ g < w.heap.size ∧ ∀ j, j < ls.length → CellsA w g (o + j * 3) (ad ls j) := by
    obtain ⟨oa', cap', e, _, hr⟩ := HAR.out
    obtain ⟨g, o, e', hg, hj⟩ := hr (by omega)
    injection e with e1 e2 e3
    exact ⟨g, o, by rw [e1, e'], hg, by rw [← has]; exact hj⟩
  have HJ : Hid (∀ j, j < ls.length → CellsA w g (o + j * 3) (ad ls j)) := hj
  have HE : Hid (∀ j, j < ls.length → okA (ad ls j)) := fun j hj => HO.out.each _ (by rw [has]; exact ad_mem hj)
  rw [has] at h1 h5 la hca
  have HAS : Hid (s.attrs = ls) := has
  clear hj HAR
  go_enter Tryd.func20, Tryd.ntmps20
  rw [has]
  clear has
  go_wp2
  go_loopw [3, 5, 19] (fun v _ i wr => ∃ k : Nat, i = .int .i64 k ∧ k ≤ ls.length ∧ (∀ j, j < k → attrAt ls j = true) ∧ wr.ownsRow (w.heap.size + 1) 9 1 v k ((nmsB ls k).map Value.string) ∧
      Blk 27 wr w.heap.size #[.slice (some ⟨g, o, none⟩) ls.length ca, .slice oc s.classes.length cc] ∧ Below w.heap.size w wr) (fun _ _ i _ => ls.length - (intOf i).toNat)
  case atStart =>
    refine ⟨0, rfl, by omega, by omega, ?_, Blk.new _ _ _, (Below.refl _ _).alloc (Nat.le_refl _) _⟩
    exact ⟨by simp [nmsB], .inl ⟨rfl, rfl⟩⟩
  case round =>
    obtain ⟨k, rfl, hk, hal, hown, hblk, hb⟩ := hrel
    have HA : Hid (∀ j, j < k → attrAt ls j = true) := hal
    have HB : Hid (Blk 27 wr w.heap.size #[.slice (some ⟨g, o, none⟩) ls.length ca, .slice oc s.classes.length cc]) := hblk
    clear hal hblk
    by_cases hlt : k < ls.length
    · have HOW := hown
      obtain ⟨vc, vv, q0, q1, q2, r1, r2⟩ := (HJ.out k hlt).later hb hg
      obtain ⟨o1, c1, rfl, -, -⟩ := id r1
      obtain ⟨o2, c2, rfl, -, -⟩ := id r2
      have HX : Hid (AttrAt wr (.agg #[.string (ad ls k).name, .slice o1 (ad ls k).cuts.length c1, .slice o2 (ad ls k).vals.length c2]) (ad ls k)) := ⟨_, _, rfl, r1, r2⟩
      have hok := HE.out k hlt
      have HK : Hid (okA (ad ls k)) := hok
      clear r1 r2 hok
      obtain ⟨K, B0⟩ := blk_1 46 wr #[.string (ad ls k).name, .slice o1 (ad ls k).cuts.length c1, .slice o2 (ad ls k).vals.length c2]
      have c := implAttrOk_any _ (ad ls k) _ (HX.out.later B0) HK.out
      cases hw : attrOk (ad ls k) with
      | false =>
        have HF : Hid (attrsOk ls = false) := attrs_no k hlt (attrAt_no1 hw)
        rw [hw] at c
        clear hw
        go_wp2_with fail
        refine c.mono ?_
        rintro e w1 ⟨rfl, hb1⟩
        clear c
        go_wp2
        go_ret
        refine ⟨by rw [HW.out, HAS.out, HF.out, Bool.and_false]; rfl, (hb.trans (B0.mono hb.size)).trans (hb1.mono ?_)⟩
        have := hb.size
        simp; omega
      | true =>
        have HWK : Hid (attrOk (ad ls k) = true) := hw
        rw [hw] at c
        clear hw
        go_wp2_with fail
        refine c.mono ?_
        rintro e w1 ⟨rfl, hb1⟩
        clear c
        have B1 := B0.trans (hb1.mono (by simp))
        have hb2 := hb.trans (B1.mono hb.size)
        have hown1 := own_below hown B1
        have kn : w1.cell? ⟨wr.heap.size, 0, none⟩ = some (.string (ad ls k).name) := (K.below hb1).cell 0
        have HB1 : Hid (Blk 27 w1 w.heap.size #[.slice (some ⟨g, o, none⟩) ls.length ca, .slice oc s.classes.length cc]) := HB.out.below B1
        have HKB : Hid (Blk 46 w1 wr.heap.size #[.string (ad ls k).name, .slice o1 (ad ls k).cuts.length c1, .slice o2 (ad ls k).vals.length c2]) := K.below hb1
        clear K B0 B1 hb1 q0 q1 q2 hown HOW
        have c2 := contains_any _ (nmsB ls k) (ad ls k).name w1 (RowS.of_own hown1 (nmsB_len hk)) (by rw [nmsB_len hk]; omega)
        cases ht : hasT (nmsB ls k) (ad ls k).name with
        | true =>
          have HF : Hid (attrsOk ls = false) := attrs_no k hlt (attrAt_no2 ht)
          rw [ht] at c2
          clear ht
          go_wp2_with fail
          refine c2.mono ?_
          rintro e w2 ⟨rfl, hb3⟩
          clear c2
          go_wp2
          go_ret
          exact ⟨by rw [HW.out, HAS.out, HF.out, Bool.and_false]; rfl, hb2.trans (hb3.mono hb2.size)⟩
        | false =>
          have HF : Hid (attrAt ls k = true) := attrAt_yes HWK.out ht
          rw [ht] at c2
          clear ht
          go_wp2_with fail
          refine c2.mono ?_
          rintro e w2 ⟨rfl, hb3⟩
          clear c2 kn
          have kn : w2.cell? ⟨wr.heap.size, 0, none⟩ = some (.string (ad ls k).name) := (HKB.out.below hb3).cell 0
          have hb4 := hb2.trans (hb3.mono hb2.size)
          have hown2 := own_below hown1 hb3
          have HB2 : Hid (Blk 27 w2 w.heap.size #[.slice (some ⟨g, o, none⟩) ls.length ca, .slice oc s.classes.length cc]) := HB1.out.below hb3
          have HSZ : Hid (Below w.heap.size w w2) := hb4
          have hsz2 := hb4.size
          have HLT := HB2.out.lt
          clear hb2 hb3 hown1 hb HB HB1 HKB
          have HNM : Hid (nmsB ls (k + 1) = nmsB ls k ++ [(ad ls k).name]) := nmsB_succ hlt
          have HNL : Hid ((nmsB ls k).length = k) := nmsB_len hk
          generalize (ad ls k).name = nm at kn HNM
          go_wp2_with (at_builtin; refine wpList_append_own _ rfl _ _ 25 rfl (w.heap.size + 1) 9 i0 (.string ⟨#[]⟩) 1 16 Tryd.underlying25 hi hz0 hz1 hz2 rfl (by decide) _ _ _ rfl (hown2.alloc _) ⟨w2.heap.size, 0, none⟩ 1 1 [_] rfl rfl (newc _ _ _) ?d2 ?d3 ?d4 ?d5 ?_)
          case d2 => intro u hu; simp at hu; subst hu; rfl
          case d3 => unfold maxLen; omega
          case d4 => omega
          case d5 => simp; omega
          intro v' w3 hown' hgrow _
          have R : w3.ownsRow (w.heap.size + 1) 9 1 v' (k + 1) ((nmsB ls (k + 1)).map Value.string) := by rw [HNM.out]; simpa using hown'
          have BL : Blk 27 w3 w.heap.size #[.slice (some ⟨g, o, none⟩) ls.length ca, .slice oc s.classes.length cc] := by
            refine Blk.kept (HB2.out.alloc _) hgrow (fun e => ?_)
            have := (hown2.lt _ e).1; omega
          have BB : Below w.heap.size w w3 := (HSZ.out.alloc hsz2 _).grown hgrow (by simp; omega) fun j hj => by have := (hown2.lt j hj).1; omega
          clear hown' hgrow hown2
          go_wp2
          go_roundw
          case rel =>
            refine ⟨k + 1, by go_num, by omega, ?_, R, BL, BB⟩
            intro j hj
            by_cases e : j = k
            · subst e; exact HF.out
            · exact HA.out j (by omega)
          case measure => simp [intOf]; omega
    · have HF : Hid (attrsOk ls = true) := attrs_yes fun j hj => HA.out j (by omega)
      have kc : wr.cell? ⟨w.heap.size, 1, none⟩ = some (.slice oc s.classes.length cc) := HB.out.cell 1
      have c := implChoices_any _ s.classes 3 wr (HCR.out.later hb) HO.out.classes
      clear hown
      go_wp2_with fail
      refine c.mono ?_
      rintro e w1 ⟨rfl, hb1⟩
      clear c
      go_wp2
      go_ret
      exact ⟨by rw [HW.out, HAS.out, HF.out, Bool.and_true]; rfl, hb.trans (hb1.mono hb.size)⟩
end Go.Proofs.YtfflodcapcamcaaDoor
/- Places of attributes, whether they are right, by the program. -/
namespace Go.Proofs.YtfflodcapcamcaaDoor
open Go.RowKit
set_option maxRecDepth 100000
set_option linter.unusedSimpArgs false
set_option maxHeartbeats 1600000 in
theorem implAttrsOk_any (vs vl : Value) (s : SchemaD) (l : List Int) (w : World) (hs : SchemaAt w vs s) (hn : okSch s) (hl : RowI w vl l) (hl2 : l.length ≤ 1099511627776) :
    Calls Tryd.prog 8 #[vs, vl] w fun e w' => e = .returned (.bool (placesOk s l)) ∧ Below w.heap.size w w' := by
  have HL : Hid (∀ W, Below w.heap.size w W → RowI W vl l) := fun W h => hl.later h
  have la := hn.attrs
  have cc := fun o => implSchemaOk_any vs s (w.alloc o) (hs.later ((Below.refl _ _).alloc (Nat.le_refl _) _)) hn
  obtain ⟨va, vc, rfl, ra, -⟩ := hs
  obtain ⟨oa, ka, rfl, -, -⟩ := id ra
  obtain ⟨ol, kl, rfl, -, -⟩ := id hl
  clear ra hn hl
  obtain ⟨KS, B⟩ := blk_1 27 w #[.slice oa s.attrs.length ka, vc]
  cases hk : schemaOk s with
  | false =>
    have HE : Hid (placesOk s l = false) := by unfold placesOk; rw [hk]; rfl
    rw [hk] at cc
    clear hk
    go_enter Tryd.func8, Tryd.ntmps8
    go_wp2_with fail
    refine (cc _).mono ?_
    clear cc
    rintro e w1 ⟨rfl, hb⟩
    replace B := B.trans (hb.mono B.size)
    go_wp2
    go_ret
    exact ⟨by rw [HE.out]; rfl, B⟩
  | true =>
    have HX : Hid (placesOk s l = (decide (0 < l.length) && ascIn 0 ((s.attrs.length : Int) - 1) l)) := by show _ = _; unfold placesOk; rw [hk]; rfl
    rw [hk] at cc
    clear hk
    by_cases h0 : l.length = 0
    · have HE : Hid (placesOk s l = false) := by show _ = _; rw [HX.out, decide_eq_false (by omega)]; rfl
      clear HX
      go_enter Tryd.func8, Tryd.ntmps8
      go_wp2_with fail
      refine (cc _).mono ?_
      clear cc
      rintro e w1 ⟨rfl, hb⟩
      replace B := B.trans (hb.mono B.size)
      rw [h0]
      go_wp2
      go_ret
      exact ⟨by rw [HE.out]; rfl, B⟩
    · have HE : Hid (placesOk s l = ascIn 0 ((s.attrs.length : Int) - 1) l) := by show _ = _; rw [HX.out, decide_eq_true (by omega)]; rfl
      clear HX
      have hq : (0 : Int) < (l.length : Int) := by omega
      go_enter Tryd.func8, Tryd.ntmps8
      go_wp2_with fail
      refine (cc _).mono ?_
      clear cc
      rintro e w1 ⟨rfl, hb⟩
      replace B := B.trans (hb.mono B.size)
      replace KS := KS.below hb
      have cc := ascending_any _ l 0 ((s.attrs.length : Int) - 1) w1 (HL.out _ B) hl2 h0 (by omega) (by omega)
      have k0 : w1.cell? ⟨w.heap.size, 0, none⟩ = some (.slice oa s.attrs.length ka) := KS.cell 0
      clear hb KS HL
      go_wp2_with fail
      refine cc.mono ?_
      clear cc
      rintro e w2 ⟨rfl, rfl⟩
      go_wp2
      go_ret
      exact ⟨by rw [HE.out]; rfl, B⟩
end Go.Proofs.YtfflodcapcamcaaDoor
/- Whether an attribute is nominal, by the program. -/
namespace Go.Proofs.YtfflodcapcamcaaDoor
open Go.RowKit
set_option maxRecDepth 100000

theorem nominal_any (v : Value) (a : AttrD) (w : World) (h : AttrAt w v a) : Calls Tryd.prog 16 #[v] w fun e w' => e = .returned (.bool (decide (0 < a.vals.length))) ∧ Below w.heap.size w w' := by
  obtain ⟨vc, vv, rfl, hc, hv⟩ := h
  obtain ⟨ov, cv, rfl, hvc, hvr⟩ := hv
  clear hvr hc
  go_enter Tryd.func16, Tryd.ntmps16
  go_wp2
  go_ret
  exact ⟨rfl, (Below.refl _ _).alloc (Nat.le_refl _) _⟩
end Go.Proofs.YtfflodcapcamcaaDoor
