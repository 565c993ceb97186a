/- Texts of this claim, put together: part 32. -/
import Derived.Test.YteadkdllmeeocaaFnScaledPack3
import Derived.Test.YteadkdllmeeocaaFnScaledPack31
import Derived.Test.YteadkdllmeeocaaFnScaledPack9
import Derived.Test.YteadkdllmeeocaaFnScaledPack5
import Derived.Test.YteadkdllmeeocaaFnScaledPack30
import Derived.Test.YteadkdllmeeocaaFnScaledPack4
import Derived.Test.YteadkdllmeeocaaFnScaledPack6
/- An attribute: whether it is right, how many bins it has, by the program and by the specification. -/
namespace Go.Proofs.Yteadkdllmeeocaa
open Go.RowKit
set_option maxRecDepth 100000
set_option maxHeartbeats 800000 in
theorem implAttrOk_any (v : Value) (a : AttrD) (w : World) (h : AttrAt w v a) (hn : okA a) :
    Calls Try.prog 89 #[v] w fun e w' => e = .returned (.bool (attrOk a)) ∧ Below w.heap.size w w' := by
  obtain ⟨vc, vv, rfl, hc, hv⟩ := h
  obtain ⟨oc, cc, rfl, hcc, hcr⟩ := id hc
  obtain ⟨ov, cv, rfl, hvc, hvr⟩ := id hv
  have HCR : Hid (RowI w (.slice oc a.cuts.length cc) a.cuts) := hc
  have HVR : Hid (RowS w (.slice ov a.vals.length cv) a.vals) := hv
  have HO : Hid (okA a) := hn
  have lc := hn.cuts
  have lv := hn.vals.1
  clear hc hv hcr hvr hn
  have c := fun W => implWord_any a.name W (by have := HO.out.name; omega)
  go_enter Try.func89, Try.ntmps89
  cases hw : wordOk a.name with
  | false =>
    have HF : Hid (attrOk a = false) := by unfold attrOk; rw [hw]; rfl
    rw [hw] at c
    clear hw
    go_wp2_with fail
    refine (c _).mono ?_
    rintro e w1 ⟨rfl, hb1⟩
    go_wp2
    go_ret
    exact ⟨by rw [HF.out]; rfl, ((Below.refl _ _).alloc (Nat.le_refl _) _).trans (hb1.mono (by simp))⟩
  | true =>
    have HW : Hid (attrOk a = (if a.cuts.length = 0 then choices a.vals 4 else decide (a.vals.length = 0) && (decide (a.cuts.length ≤ 3) && cutsRise a.cuts))) := by unfold attrOk; rw [hw]; rfl
    rw [hw] at c
    clear hw
    go_wp2_with fail
    refine (c _).mono ?_
    rintro e w1 ⟨rfl, hb1⟩
    clear c
    have B1 : Below w.heap.size w w1 := ((Below.refl _ _).alloc (Nat.le_refl _) _).trans (hb1.mono (by simp))
    have K := (Blk.new _ _ _).below hb1
    have k1 := K.cell 1
    have k2 := K.cell 2
    simp at k1 k2
    clear K hb1
    by_cases h0 : a.cuts.length = 0
    · have h0b : ((a.cuts.length : Int) == 0) = true := by simp [h0]
      have HF : Hid (attrOk a = choices a.vals 4) := by rw [HW.out, if_pos h0]; rfl
      have c2 := implChoices_any _ a.vals 4 w1 (HVR.out.later B1) HO.out.vals
      clear h0
      go_wp2_with fail
      refine c2.mono ?_
      rintro e w2 ⟨rfl, hb2⟩
      go_wp2
      go_ret
      exact ⟨by rw [HF.out]; rfl, B1.trans (hb2.mono B1.size)⟩
    · have h0b : ((a.cuts.length : Int) == 0) = false := by simp [h0]
      by_cases hv0 : a.vals.length = 0
      · have hvb : ((a.vals.length : Int) == 0) = true := by simp [hv0]
        have HF : Hid (attrOk a = (decide (a.cuts.length ≤ 3) && cutsRise a.cuts)) := by rw [HW.out, if_neg h0, decide_eq_true hv0]; rfl
        have c2 := implCuts_any _ a.cuts w1 (HCR.out.later B1) lc h0
        clear h0 hv0
        go_wp2_with fail
        refine c2.mono ?_
        rintro e w2 ⟨rfl, hb2⟩
        go_wp2
        go_ret
        exact ⟨by rw [HF.out]; rfl, B1.trans (hb2.mono B1.size)⟩
      · have hvb : ((a.vals.length : Int) == 0) = false := by simp [hv0]
        have HF : Hid (attrOk a = false) := by rw [HW.out, if_neg h0, decide_eq_false hv0]; rfl
        clear h0 hv0
        go_wp2
        go_ret
        exact ⟨by rw [HF.out]; rfl, B1⟩
end Go.Proofs.Yteadkdllmeeocaa
/- Whether a schema is right, by the program. -/
namespace Go.Proofs.Yteadkdllmeeocaa
open Go.RowKit
set_option maxRecDepth 100000

theorem rel_stepT {w wr w1 : World} {v v' : Value} {done : List ByteArray} {b : ByteArray} {o : Obj} (hs : w.heap.size ≤ wr.heap.size) (hb : Below w.heap.size w wr) (hown : wr.ownsRow w.heap.size 9 1 v done.length (done.map Value.string))
    (hown' : w1.ownsRow w.heap.size 9 1 v' (done.length + 1) (done.map Value.string ++ [.string b])) (hgrow : (wr.alloc o).grownBy w1 v.ownBlock) :
    w1.ownsRow w.heap.size 9 1 v' (done ++ [b]).length ((done ++ [b]).map Value.string) ∧ Below w.heap.size w w1 := by
  refine ⟨by simpa using hown', (hb.alloc hs o).grown hgrow (by simp; omega) fun k hk => (hown.lt k hk).1⟩

set_option maxHeartbeats 1600000 in
theorem implSchemaOk_any (v : Value) (s : SchemaD) (w : World) (h : SchemaAt w v s) (hn : okSch s) :
    Calls Try.prog 79 #[v] w fun e w' => e = .returned (.bool (schemaOk s)) ∧ Below w.heap.size w w' := by
  obtain ⟨i0, hi, hz0, hz1, hz2⟩ := info_parts strInfo
  obtain ⟨va, vc, rfl, ha, hc⟩ := h
  obtain ⟨oa, ca, rfl, hca, har⟩ := id ha
  obtain ⟨oc, cc, rfl, hcc, hcr⟩ := id hc
  have HAR : Hid (RowA w (.slice oa s.attrs.length ca) s.attrs) := ha
  have HCR : Hid (RowS w (.slice oc s.classes.length cc) s.classes) := hc
  have HO : Hid (okSch s) := hn
  have la := hn.attrs
  clear ha hc har hcr hn
  by_cases h1 : (s.attrs.length : Int) < 1
  · have HF : Hid (schemaOk s = false) := by unfold schemaOk; rw [decide_eq_false (by omega)]; rfl
    go_enter Try.func79, Try.ntmps79
    go_wp2
    go_ret
    exact ⟨by rw [HF.out]; rfl, (Below.refl _ _).alloc (Nat.le_refl _) _⟩
  by_cases h5 : (s.attrs.length : Int) ≤ 5
  rotate_left
  · have HF : Hid (schemaOk s = false) := by unfold schemaOk; rw [decide_eq_false (by omega)]; rfl
    go_enter Try.func79, Try.ntmps79
    go_wp2
    go_ret
    exact ⟨by rw [HF.out]; rfl, (Below.refl _ _).alloc (Nat.le_refl _) _⟩
  have HW : Hid (schemaOk s = (choices s.classes 3 && attrsOk s.attrs)) := by unfold schemaOk; rw [decide_eq_true (by omega)]; rfl
  obtain ⟨ls, has⟩ : ∃ ls, s.attrs = ls := ⟨_, rfl⟩
  obtain ⟨g, o, rfl, hg, hj⟩ : ∃ g o, oa = some ⟨g, o, none⟩ ∧ g < w.heap.size ∧ ∀ j, j < ls.length → CellsA w g (o + j * 3) (ad ls j) := by
    obtain ⟨oa', cap', e, _, hr⟩ := HAR.out
    obtain ⟨g, o, e', hg, hj⟩ := hr (by omega)
    injection e with e1 e2 e3
    exact ⟨g, o, by rw [e1, e'], hg, by rw [← has]; exact hj⟩
  have HJ : Hid (∀ j, j < ls.length → CellsA w g (o + j * 3) (ad ls j)) := hj
  have HE : Hid (∀ j, j < ls.length → okA (ad ls j)) := fun j hj => HO.out.each _ (by rw [has]; exact ad_mem hj)
  rw [has] at h1 h5 la hca
  have HAS : Hid (s.attrs = ls) := has
  clear hj HAR
  go_enter Try.func79, Try.ntmps79
  rw [has]
  clear has
  go_wp2
  go_loopw [3, 5, 19] (fun v _ i wr => ∃ k : Nat, i = .int .i64 k ∧ k ≤ ls.length ∧ (∀ j, j < k → attrAt ls j = true) ∧ wr.ownsRow (w.heap.size + 1) 9 1 v k ((nmsB ls k).map Value.string) ∧
      Blk 33 wr w.heap.size #[.slice (some ⟨g, o, none⟩) ls.length ca, .slice oc s.classes.length cc] ∧ Below w.heap.size w wr) (fun _ _ i _ => ls.length - (intOf i).toNat)
  case atStart =>
    refine ⟨0, rfl, by omega, by omega, ?_, Blk.new _ _ _, (Below.refl _ _).alloc (Nat.le_refl _) _⟩
    exact ⟨by simp [nmsB], .inl ⟨rfl, rfl⟩⟩
  case round =>
    obtain ⟨k, rfl, hk, hal, hown, hblk, hb⟩ := hrel
    have HA : Hid (∀ j, j < k → attrAt ls j = true) := hal
    have HB : Hid (Blk 33 wr w.heap.size #[.slice (some ⟨g, o, none⟩) ls.length ca, .slice oc s.classes.length cc]) := hblk
    clear hal hblk
    by_cases hlt : k < ls.length
    · have HOW := hown
      obtain ⟨vc, vv, q0, q1, q2, r1, r2⟩ := (HJ.out k hlt).later hb hg
      obtain ⟨o1, c1, rfl, -, -⟩ := id r1
      obtain ⟨o2, c2, rfl, -, -⟩ := id r2
      have HX : Hid (AttrAt wr (.agg #[.string (ad ls k).name, .slice o1 (ad ls k).cuts.length c1, .slice o2 (ad ls k).vals.length c2]) (ad ls k)) := ⟨_, _, rfl, r1, r2⟩
      have hok := HE.out k hlt
      have HK : Hid (okA (ad ls k)) := hok
      clear r1 r2 hok
      obtain ⟨K, B0⟩ := blk_1 68 wr #[.string (ad ls k).name, .slice o1 (ad ls k).cuts.length c1, .slice o2 (ad ls k).vals.length c2]
      have c := implAttrOk_any _ (ad ls k) _ (HX.out.later B0) HK.out
      cases hw : attrOk (ad ls k) with
      | false =>
        have HF : Hid (attrsOk ls = false) := attrs_no k hlt (attrAt_no1 hw)
        rw [hw] at c
        clear hw
        go_wp2_with fail
        refine c.mono ?_
        rintro e w1 ⟨rfl, hb1⟩
        clear c
        go_wp2
        go_ret
        refine ⟨by rw [HW.out, HAS.out, HF.out, Bool.and_false]; rfl, (hb.trans (B0.mono hb.size)).trans (hb1.mono ?_)⟩
        have := hb.size
        simp; omega
      | true =>
        have HWK : Hid (attrOk (ad ls k) = true) := hw
        rw [hw] at c
        clear hw
        go_wp2_with fail
        refine c.mono ?_
        rintro e w1 ⟨rfl, hb1⟩
        clear c
        have B1 := B0.trans (hb1.mono (by simp))
        have hb2 := hb.trans (B1.mono hb.size)
        have hown1 := own_below hown B1
        have kn : w1.cell? ⟨wr.heap.size, 0, none⟩ = some (.string (ad ls k).name) := (K.below hb1).cell 0
        have HB1 : Hid (Blk 33 w1 w.heap.size #[.slice (some ⟨g, o, none⟩) ls.length ca, .slice oc s.classes.length cc]) := HB.out.below B1
        have HKB : Hid (Blk 68 w1 wr.heap.size #[.string (ad ls k).name, .slice o1 (ad ls k).cuts.length c1, .slice o2 (ad ls k).vals.length c2]) := K.below hb1
        clear K B0 B1 hb1 q0 q1 q2 hown HOW
        have c2 := contains_any _ (nmsB ls k) (ad ls k).name w1 (RowS.of_own hown1 (nmsB_len hk)) (by rw [nmsB_len hk]; omega)
        cases ht : hasT (nmsB ls k) (ad ls k).name with
        | true =>
          have HF : Hid (attrsOk ls = false) := attrs_no k hlt (attrAt_no2 ht)
          rw [ht] at c2
          clear ht
          go_wp2_with fail
          refine c2.mono ?_
          rintro e w2 ⟨rfl, hb3⟩
          clear c2
          go_wp2
          go_ret
          exact ⟨by rw [HW.out, HAS.out, HF.out, Bool.and_false]; rfl, hb2.trans (hb3.mono hb2.size)⟩
        | false =>
          have HF : Hid (attrAt ls k = true) := attrAt_yes HWK.out ht
          rw [ht] at c2
          clear ht
          go_wp2_with fail
          refine c2.mono ?_
          rintro e w2 ⟨rfl, hb3⟩
          clear c2 kn
          have kn : w2.cell? ⟨wr.heap.size, 0, none⟩ = some (.string (ad ls k).name) := (HKB.out.below hb3).cell 0
          have hb4 := hb2.trans (hb3.mono hb2.size)
          have hown2 := own_below hown1 hb3
          have HB2 : Hid (Blk 33 w2 w.heap.size #[.slice (some ⟨g, o, none⟩) ls.length ca, .slice oc s.classes.length cc]) := HB1.out.below hb3
          have HSZ : Hid (Below w.heap.size w w2) := hb4
          have hsz2 := hb4.size
          have HLT := HB2.out.lt
          clear hb2 hb3 hown1 hb HB HB1 HKB
          have HNM : Hid (nmsB ls (k + 1) = nmsB ls k ++ [(ad ls k).name]) := nmsB_succ hlt
          have HNL : Hid ((nmsB ls k).length = k) := nmsB_len hk
          generalize (ad ls k).name = nm at kn HNM
          go_wp2_with (at_builtin; refine wpList_append_own _ rfl _ _ 31 rfl (w.heap.size + 1) 9 i0 (.string ⟨#[]⟩) 1 16 Try.underlying31 hi hz0 hz1 hz2 rfl (by decide) _ _ _ rfl (hown2.alloc _) ⟨w2.heap.size, 0, none⟩ 1 1 [_] rfl rfl (newc _ _ _) ?d2 ?d3 ?d4 ?d5 ?_)
          case d2 => intro u hu; simp at hu; subst hu; rfl
          case d3 => unfold maxLen; omega
          case d4 => omega
          case d5 => simp; omega
          intro v' w3 hown' hgrow _
          have R : w3.ownsRow (w.heap.size + 1) 9 1 v' (k + 1) ((nmsB ls (k + 1)).map Value.string) := by rw [HNM.out]; simpa using hown'
          have BL : Blk 33 w3 w.heap.size #[.slice (some ⟨g, o, none⟩) ls.length ca, .slice oc s.classes.length cc] := by
            refine Blk.kept (HB2.out.alloc _) hgrow (fun e => ?_)
            have := (hown2.lt _ e).1; omega
          have BB : Below w.heap.size w w3 := (HSZ.out.alloc hsz2 _).grown hgrow (by simp; omega) fun j hj => by have := (hown2.lt j hj).1; omega
          clear hown' hgrow hown2
          go_wp2
          go_roundw
          case rel =>
            refine ⟨k + 1, by go_num, by omega, ?_, R, BL, BB⟩
            intro j hj
            by_cases e : j = k
            · subst e; exact HF.out
            · exact HA.out j (by omega)
          case measure => simp [intOf]; omega
    · have HF : Hid (attrsOk ls = true) := attrs_yes fun j hj => HA.out j (by omega)
      have kc : wr.cell? ⟨w.heap.size, 1, none⟩ = some (.slice oc s.classes.length cc) := HB.out.cell 1
      have c := implChoices_any _ s.classes 3 wr (HCR.out.later hb) HO.out.classes
      clear hown
      go_wp2_with fail
      refine c.mono ?_
      rintro e w1 ⟨rfl, hb1⟩
      clear c
      go_wp2
      go_ret
      exact ⟨by rw [HW.out, HAS.out, HF.out, Bool.and_true]; rfl, hb.trans (hb1.mono hb.size)⟩
end Go.Proofs.Yteadkdllmeeocaa
/- How many bins an attribute has, by the program and by the specification. -/
namespace Go.Proofs.Yteadkdllmeeocaa
open Go.RowKit
set_option maxRecDepth 100000

set_option maxHeartbeats 400000 in
theorem implBins_any (v : Value) (a : AttrD) (w : World) (h : AttrAt w v a) (hn : okA a) :
    Calls Try.prog 80 #[v] w fun e w' => e = .returned (.int .i64 (bins a)) ∧ Below w.heap.size w w' := by
  have c := fun W (hW : Below w.heap.size w W) => implAttrOk_any v a W (h.later hW) hn
  have c' := fun W (hW : Below w.heap.size w W) => nominal_any v a W (h.later hW)
  have lc := hn.cuts
  have lv := hn.vals.1
  obtain ⟨vc, vv, rfl, hc, hv⟩ := h
  obtain ⟨oc, cc, rfl, hcc, hcr⟩ := hc
  obtain ⟨ov, cv, rfl, hvc, hvr⟩ := hv
  clear hcr hvr hn
  have B0 : ∀ o, Below w.heap.size w (w.alloc o) := fun o => (Below.refl _ _).alloc (Nat.le_refl _) _
  have HB : Hid (∀ o, Below w.heap.size w (w.alloc o)) := B0
  clear B0
  cases hok : attrOk a with
  | false =>
    have HF : Hid (bins a = 0) := by unfold bins; rw [hok]; rfl
    rw [hok] at c
    clear hok c'
    go_enter Try.func80, Try.ntmps80
    go_wp2_with fail
    refine (c _ (HB.out _)).mono ?_
    rintro e w1 ⟨rfl, hb1⟩
    go_wp2
    go_ret
    exact ⟨by rw [HF.out]; rfl, (HB.out _).trans (hb1.mono (by simp))⟩
  | true =>
    rw [hok] at c
    by_cases h0 : 0 < a.vals.length
    · have HF : Hid (bins a = a.vals.length) := by unfold bins; rw [hok, if_pos rfl, if_neg (by omega)]; rfl
      clear hok
      go_enter Try.func80, Try.ntmps80
      go_wp2_with fail
      refine (c _ (HB.out _)).mono ?_
      rintro e w1 ⟨rfl, hb1⟩
      have K := (Blk.new _ _ _).below hb1
      have B1 := (HB.out _).trans (hb1.mono (by simp))
      have k0 : w1.cell? ⟨w.heap.size, 0, none⟩ = some (.string a.name) := K.cell 0
      have k1 : w1.cell? ⟨w.heap.size, 1, none⟩ = some (.slice oc a.cuts.length cc) := K.cell 1
      have k2 : w1.cell? ⟨w.heap.size, 2, none⟩ = some (.slice ov a.vals.length cv) := K.cell 2
      clear c hb1
      go_wp2_with fail
      refine (c' _ B1).mono ?_
      rintro e w2 ⟨rfl, hb2⟩
      have k2 : w2.cell? ⟨w.heap.size, 2, none⟩ = some (.slice ov a.vals.length cv) := (K.below hb2).cell 2
      clear c' K
      rw [decide_eq_true h0]
      go_wp2
      go_ret
      exact ⟨by rw [HF.out]; rfl, B1.trans (hb2.mono B1.size)⟩
    · have HF : Hid (bins a = a.cuts.length + 1) := by unfold bins; rw [hok, if_pos rfl, if_pos (by omega)]; rfl
      clear hok
      go_enter Try.func80, Try.ntmps80
      go_wp2_with fail
      refine (c _ (HB.out _)).mono ?_
      rintro e w1 ⟨rfl, hb1⟩
      have K := (Blk.new _ _ _).below hb1
      have B1 := (HB.out _).trans (hb1.mono (by simp))
      have k0 : w1.cell? ⟨w.heap.size, 0, none⟩ = some (.string a.name) := K.cell 0
      have k1 : w1.cell? ⟨w.heap.size, 1, none⟩ = some (.slice oc a.cuts.length cc) := K.cell 1
      have k2 : w1.cell? ⟨w.heap.size, 2, none⟩ = some (.slice ov a.vals.length cv) := K.cell 2
      clear c hb1
      go_wp2_with fail
      refine (c' _ B1).mono ?_
      rintro e w2 ⟨rfl, hb2⟩
      have k1 : w2.cell? ⟨w.heap.size, 1, none⟩ = some (.slice oc a.cuts.length cc) := (K.below hb2).cell 1
      clear c' K
      rw [decide_eq_false h0]
      go_wp2
      go_ret
      exact ⟨by rw [HF.out]; first | rfl | (congr 1; go_num), B1.trans (hb2.mono B1.size)⟩

end Go.Proofs.Yteadkdllmeeocaa
/- The question that is asked, by the program. -/
namespace Go.Proofs.Yteadkdllmeeocaa
open Go.RowKit
set_option maxRecDepth 100000
set_option linter.unusedSimpArgs false
/-- The question as the program holds it. -/
def questionV (s : SchemaD) (f : ForkD) : Value :=
  if forkOk s f = true then
    (if f.pos = -1 then .iface 107 (.agg #[.int .i64 (bins (forkAttr s f))]) else if 0 < (forkAttr s f).vals.length then .iface 109 (.agg #[.int .i64 f.pos]) else .iface 110 (.agg #[.int .i64 f.pos]))
  else .nilIface
theorem questionV_no {s : SchemaD} {f : ForkD} (h : forkOk s f = false) : questionV s f = .nilIface := by unfold questionV; rw [if_neg (by rw [h]; exact Bool.false_ne_true)]
theorem questionV_yes {s : SchemaD} {f : ForkD} (h : forkOk s f = true) : questionV s f = if f.pos = -1 then .iface 107 (.agg #[.int .i64 (bins (forkAttr s f))]) else if 0 < (forkAttr s f).vals.length then .iface 109 (.agg #[.int .i64 f.pos]) else .iface 110 (.agg #[.int .i64 f.pos]) := by unfold questionV; exact if_pos h
theorem way_le {a : AttrD} (h : okA a) : (wayN a : Int) ≤ 1099511627776 := by
  have h1 := h.cuts
  have h2 := h.vals.1
  unfold wayN
  split <;> omega
set_option maxHeartbeats 3200000 in
theorem questionOf_any (vs : Value) (s : SchemaD) (f : ForkD) (w : World) (hs : SchemaAt w vs s) (hn : okSch s) :
    Calls Try.prog 58 #[vs, forkV f] w fun e w' => e = .returned (.tuple #[questionV s f, .bool (forkOk s f)]) ∧ Below w.heap.size w w' := by
  unfold forkV
  have HS : Hid (∀ W, Below w.heap.size w W → SchemaAt W vs s) := fun W h => hs.later h
  have HOK : Hid (okSch s) := hn
  obtain ⟨va, vc, rfl, ra, -⟩ := hs
  obtain ⟨oa, ka, rfl, -, -⟩ := id ra
  clear ra hn
  have la := HOK.out.attrs
  obtain ⟨KS, KF, B⟩ := blk_2 33 38 w #[.slice oa s.attrs.length ka, vc] #[.int .i64 f.attr, .int .i64 f.pos]
  have cc := implSchemaOk_any _ s _ (HS.out _ B) HOK.out
  cases hk : schemaOk s with
  | false =>
    have HE : Hid (forkOk s f = false) := by show _ = _; unfold forkOk; rw [hk]; rfl
    rw [hk] at cc
    clear hk
    go_enter Try.func58, Try.ntmps58
    have kS0 : ((w.alloc (.cells #[.slice oa s.attrs.length ka, vc] 33)).alloc (.cells #[.int .i64 f.attr, .int .i64 f.pos] 38)).cell? ⟨w.heap.size, 0, none⟩ = some (.slice oa s.attrs.length ka) := KS.cell 0
    have kS1 : ((w.alloc (.cells #[.slice oa s.attrs.length ka, vc] 33)).alloc (.cells #[.int .i64 f.attr, .int .i64 f.pos] 38)).cell? ⟨w.heap.size, 1, none⟩ = some (vc) := KS.cell 1
    have kF0 : ((w.alloc (.cells #[.slice oa s.attrs.length ka, vc] 33)).alloc (.cells #[.int .i64 f.attr, .int .i64 f.pos] 38)).cell? ⟨w.heap.size + 1, 0, none⟩ = some (.int .i64 f.attr) := KF.cell 0
    have kF1 : ((w.alloc (.cells #[.slice oa s.attrs.length ka, vc] 33)).alloc (.cells #[.int .i64 f.attr, .int .i64 f.pos] 38)).cell? ⟨w.heap.size + 1, 1, none⟩ = some (.int .i64 f.pos) := KF.cell 1
    go_wp2_with fail
    refine cc.mono ?_
    clear cc
    clear kS0 kS1 kF0 kF1
    rintro e w1 ⟨rfl, hb⟩
    replace KS := KS.below hb
    replace KF := KF.below hb
    replace B := B.trans (hb.mono B.size)
    go_wp2
    go_ret2
    exact ⟨by rw [questionV_no HE.out, HE.out]; rfl, B⟩
  | true =>
    have HX : Hid (forkOk s f = (decide (0 ≤ f.attr ∧ f.attr ≤ (s.attrs.length : Int) - 1) && decide (-1 ≤ f.pos ∧ f.pos ≤ forkTop s f))) := by show _ = _; unfold forkOk; rw [hk]; rfl
    rw [hk] at cc
    have HAO : Hid (∀ j, j < s.attrs.length → attrOk (ad s.attrs j) = true) := fun j hj => sch_attr hk hj
    clear hk
    by_cases ha0 : f.attr < 0
    · have HE : Hid (forkOk s f = false) := by show _ = _; rw [HX.out, decide_eq_false (by omega)]; rfl
      clear HX HAO
      go_enter Try.func58, Try.ntmps58
      have kS0 : ((w.alloc (.cells #[.slice oa s.attrs.length ka, vc] 33)).alloc (.cells #[.int .i64 f.attr, .int .i64 f.pos] 38)).cell? ⟨w.heap.size, 0, none⟩ = some (.slice oa s.attrs.length ka) := KS.cell 0
      have kS1 : ((w.alloc (.cells #[.slice oa s.attrs.length ka, vc] 33)).alloc (.cells #[.int .i64 f.attr, .int .i64 f.pos] 38)).cell? ⟨w.heap.size, 1, none⟩ = some (vc) := KS.cell 1
      have kF0 : ((w.alloc (.cells #[.slice oa s.attrs.length ka, vc] 33)).alloc (.cells #[.int .i64 f.attr, .int .i64 f.pos] 38)).cell? ⟨w.heap.size + 1, 0, none⟩ = some (.int .i64 f.attr) := KF.cell 0
      have kF1 : ((w.alloc (.cells #[.slice oa s.attrs.length ka, vc] 33)).alloc (.cells #[.int .i64 f.attr, .int .i64 f.pos] 38)).cell? ⟨w.heap.size + 1, 1, none⟩ = some (.int .i64 f.pos) := KF.cell 1
      go_wp2_with fail
      refine cc.mono ?_
      clear cc
      clear kS0 kS1 kF0 kF1
      rintro e w1 ⟨rfl, hb⟩
      replace KS := KS.below hb
      replace KF := KF.below hb
      replace B := B.trans (hb.mono B.size)
      clear hb
      have kS0 : w1.cell? ⟨w.heap.size, 0, none⟩ = some (.slice oa s.attrs.length ka) := KS.cell 0
      have kS1 : w1.cell? ⟨w.heap.size, 1, none⟩ = some (vc) := KS.cell 1
      have kF0 : w1.cell? ⟨w.heap.size + 1, 0, none⟩ = some (.int .i64 f.attr) := KF.cell 0
      have kF1 : w1.cell? ⟨w.heap.size + 1, 1, none⟩ = some (.int .i64 f.pos) := KF.cell 1
      go_wp2
      go_ret2
      exact ⟨by rw [questionV_no HE.out, HE.out]; rfl, B⟩
    by_cases ha1 : (s.attrs.length : Int) ≤ f.attr
    · have HE : Hid (forkOk s f = false) := by show _ = _; rw [HX.out, decide_eq_false (by omega)]; rfl
      clear HX HAO
      go_enter Try.func58, Try.ntmps58
      have kS0 : ((w.alloc (.cells #[.slice oa s.attrs.length ka, vc] 33)).alloc (.cells #[.int .i64 f.attr, .int .i64 f.pos] 38)).cell? ⟨w.heap.size, 0, none⟩ = some (.slice oa s.attrs.length ka) := KS.cell 0
      have kS1 : ((w.alloc (.cells #[.slice oa s.attrs.length ka, vc] 33)).alloc (.cells #[.int .i64 f.attr, .int .i64 f.pos] 38)).cell? ⟨w.heap.size, 1, none⟩ = some (vc) := KS.cell 1
      have kF0 : ((w.alloc (.cells #[.slice oa s.attrs.length ka, vc] 33)).alloc (.cells #[.int .i64 f.attr, .int .i64 f.pos] 38)).cell? ⟨w.heap.size + 1, 0, none⟩ = some (.int .i64 f.attr) := KF.cell 0
      have kF1 : ((w.alloc (.cells #[.slice oa s.attrs.length ka, vc] 33)).alloc (.cells #[.int .i64 f.attr, .int .i64 f.pos] 38)).cell? ⟨w.heap.size + 1, 1, none⟩ = some (.int .i64 f.pos) := KF.cell 1
      go_wp2_with fail
      refine cc.mono ?_
      clear cc
      clear kS0 kS1 kF0 kF1
      rintro e w1 ⟨rfl, hb⟩
      replace KS := KS.below hb
      replace KF := KF.below hb
      replace B := B.trans (hb.mono B.size)
      clear hb
      have kS0 : w1.cell? ⟨w.heap.size, 0, none⟩ = some (.slice oa s.attrs.length ka) := KS.cell 0
      have kS1 : w1.cell? ⟨w.heap.size, 1, none⟩ = some (vc) := KS.cell 1
      have kF0 : w1.cell? ⟨w.heap.size + 1, 0, none⟩ = some (.int .i64 f.attr) := KF.cell 0
      have kF1 : w1.cell? ⟨w.heap.size + 1, 1, none⟩ = some (.int .i64 f.pos) := KF.cell 1
      go_wp2
      go_ret2
      exact ⟨by rw [questionV_no HE.out, HE.out]; rfl, B⟩
    have HX2 : Hid (forkOk s f = decide (-1 ≤ f.pos ∧ f.pos ≤ forkTop s f)) := by show _ = _; rw [HX.out, decide_eq_true (by omega), Bool.true_and]
    clear HX
    obtain ⟨k, hk⟩ := Int.eq_ofNat_of_zero_le (Int.not_lt.1 ha0)
    have hlt : k < s.attrs.length := by omega
    have HFA : Hid (forkAttr s f = ad s.attrs k) := by show _ = _; unfold forkAttr; rw [hk]; rfl
    have HOA : Hid (attrOk (ad s.attrs k) = true) := HAO.out k hlt
    clear HAO
    have HT : Hid (forkTop s f = (wayN (ad s.attrs k) : Int) - 1) := by show _ = _; rw [top_eq (by rw [HFA.out]; exact HOA.out), HFA.out]
    have HQ : Hid (forkOk s f = true → questionV s f = if f.pos = -1 then .iface 107 (.agg #[.int .i64 (bins (ad s.attrs k))]) else if 0 < (ad s.attrs k).vals.length then .iface 109 (.agg #[.int .i64 f.pos]) else .iface 110 (.agg #[.int .i64 f.pos])) := fun h => by rw [questionV_yes h, HFA.out]
    have HX3 : Hid (forkOk s f = decide (-1 ≤ f.pos ∧ f.pos < (wayN (ad s.attrs k) : Int))) := by show _ = _; rw [HX2.out, HT.out]; exact decide_eq_decide.2 (by omega)
    clear HX2 HT HFA
    have hw : (wayN (ad s.attrs k) : Int) ≤ 1099511627776 := way_le (HOK.out.each _ (ad_mem hlt))
    obtain ⟨nw, hnw⟩ : ∃ nw, wayN (ad s.attrs k) = nw := ⟨_, rfl⟩
    rw [hnw] at HX3 hw
    have HKK : Hid (f.attr = (k : Int)) := hk
    obtain ⟨fv, hfv⟩ : ∃ fv, f.attr = fv := ⟨_, rfl⟩
    rw [hfv] at hk KS KF B cc HKK ha0 ha1
    rw [hfv]
    subst hk
    go_enter Try.func58, Try.ntmps58
    have kS0 : ((w.alloc (.cells #[.slice oa s.attrs.length ka, vc] 33)).alloc (.cells #[.int .i64 (k : Int), .int .i64 f.pos] 38)).cell? ⟨w.heap.size, 0, none⟩ = some (.slice oa s.attrs.length ka) := KS.cell 0
    have kS1 : ((w.alloc (.cells #[.slice oa s.attrs.length ka, vc] 33)).alloc (.cells #[.int .i64 (k : Int), .int .i64 f.pos] 38)).cell? ⟨w.heap.size, 1, none⟩ = some (vc) := KS.cell 1
    have kF0 : ((w.alloc (.cells #[.slice oa s.attrs.length ka, vc] 33)).alloc (.cells #[.int .i64 (k : Int), .int .i64 f.pos] 38)).cell? ⟨w.heap.size + 1, 0, none⟩ = some (.int .i64 (k : Int)) := KF.cell 0
    have kF1 : ((w.alloc (.cells #[.slice oa s.attrs.length ka, vc] 33)).alloc (.cells #[.int .i64 (k : Int), .int .i64 f.pos] 38)).cell? ⟨w.heap.size + 1, 1, none⟩ = some (.int .i64 f.pos) := KF.cell 1
    go_wp2_with fail
    refine cc.mono ?_
    clear cc
    clear kS0 kS1 kF0 kF1
    rintro e w1 ⟨rfl, hb⟩
    replace KS := KS.below hb
    replace KF := KF.below hb
    replace B := B.trans (hb.mono B.size)
    clear hb
    obtain ⟨ga, fa, y1, z1, y2, z2, rfl, hat⟩ := attr_at (HS.out _ B) hlt
    have HAT : Hid _ := hat
    clear hat
    obtain ⟨c0, c1, c2, -⟩ := HAT.out _ (Below.refl _ _)
    have HB : Hid (okA (ad s.attrs k)) := HOK.out.each _ (ad_mem hlt)
    have kS0 : w1.cell? ⟨w.heap.size, 0, none⟩ = some (.slice (some ⟨ga, fa, none⟩) s.attrs.length ka) := KS.cell 0
    have kS1 : w1.cell? ⟨w.heap.size, 1, none⟩ = some (vc) := KS.cell 1
    have kF0 : w1.cell? ⟨w.heap.size + 1, 0, none⟩ = some (.int .i64 (k : Int)) := KF.cell 0
    have kF1 : w1.cell? ⟨w.heap.size + 1, 1, none⟩ = some (.int .i64 f.pos) := KF.cell 1
    go_wp2_with fail
    clear kS0 kS1 kF0 kF1
    clear c0 c1 c2
    have KA := Blk.new 68 w1 #[.string (ad s.attrs k).name, .slice y1 (ad s.attrs k).cuts.length z1, .slice y2 (ad s.attrs k).vals.length z2]
    have bA : Below w1.heap.size w1 (w1.alloc (.cells #[.string (ad s.attrs k).name, .slice y1 (ad s.attrs k).cuts.length z1, .slice y2 (ad s.attrs k).vals.length z2] 68)) := (Below.refl _ _).alloc (Nat.le_refl _) _
    have HAT2 : Hid (∀ W, Below (w1.alloc (.cells #[.string (ad s.attrs k).name, .slice y1 (ad s.attrs k).cuts.length z1, .slice y2 (ad s.attrs k).vals.length z2] 68)).heap.size (w1.alloc (.cells #[.string (ad s.attrs k).name, .slice y1 (ad s.attrs k).cuts.length z1, .slice y2 (ad s.attrs k).vals.length z2] 68)) W → AttrAt W (.agg #[.string (ad s.attrs k).name, .slice y1 (ad s.attrs k).cuts.length z1, .slice y2 (ad s.attrs k).vals.length z2]) (ad s.attrs k)) := fun W h => (HAT.out W (bA.trans (h.mono (by simp)))).2.2.2
    clear HAT
    replace KS := KS.below bA
    replace KF := KF.below bA
    replace B := B.trans (bA.mono B.size)
    clear bA
    generalize w1.alloc (.cells #[.string (ad s.attrs k).name, .slice y1 (ad s.attrs k).cuts.length z1, .slice y2 (ad s.attrs k).vals.length z2] 68) = w2 at KS KF KA B HAT2
    generalize w1.heap.size = ba at KA ⊢
    clear KS HS HOK ha0 ha1
    by_cases hp0 : f.pos < -1
    · have HE : Hid (forkOk s f = false) := by show _ = _; rw [HX3.out, decide_eq_false (by omega)]
      clear HX3 HQ
      have bd : Below w2.heap.size w2 w2.drew := below_drewN (Below.refl _ _) 1
      refine wp_region_held_drew (S := fun w' => Blk 38 w' (w.heap.size + 1) #[.int .i64 (k : Int), .int .i64 f.pos] ∧ Blk 68 w' ba #[.string (ad s.attrs k).name, .slice y1 (ad s.attrs k).cuts.length z1, .slice y2 (ad s.attrs k).vals.length z2]) (by kernel_rfl) ⟨KF.below bd, KA.below bd⟩ ?_
      intro hS
      replace KF := KF.below bd
      replace B := B.trans (bd.mono B.size)
      replace KA := KA.below bd
      replace HAT2 : Hid (∀ W, Below w2.drew.heap.size w2.drew W → AttrAt W (.agg #[.string (ad s.attrs k).name, .slice y1 (ad s.attrs k).cuts.length z1, .slice y2 (ad s.attrs k).vals.length z2]) (ad s.attrs k)) := fun W h => HAT2.out W (bd.trans (h.mono bd.size))
      clear bd
      generalize w2.drew = w3 at KF KA B HAT2 hS ⊢
      refine takeL 0 (.pointer (some ⟨w.heap.size + 1, 1, none⟩)) rfl (by kernel_rfl) (by kernel_rfl) (by kernel_rfl) (fun _ _ _ h => h) (.inl ⟨by rfl, fun w hw => by (unfold execOp; go_simp)⟩) hS ?_
      try simp only [Act.put, List.setIfInBounds_toArray, List.set_cons_zero, List.set_cons_succ]
      refine takeL 1 (.int .i64 f.pos) rfl (by kernel_rfl) (by kernel_rfl) (by kernel_rfl) (fun _ _ _ h => h) (.inl ⟨by rfl, fun w hw => by (have h0 := (hw.1).cell 1; unfold execOp; go_simp)⟩) hS ?_
      try simp only [Act.put, List.setIfInBounds_toArray, List.set_cons_zero, List.set_cons_succ]
      refine takeL 2 (.bool true) rfl (by kernel_rfl) (by kernel_rfl) (by kernel_rfl) (fun _ _ _ h => h) (.inl ⟨by rfl, fun w hw => by (unfold execOp; go_simp)⟩) hS ?_
      try simp only [Act.put, List.setIfInBounds_toArray, List.set_cons_zero, List.set_cons_succ]
      refine takeL 3 (.bool true) rfl (by kernel_rfl) (by kernel_rfl) (by kernel_rfl) (fun _ _ _ h => h) (.inl ⟨by rfl, fun w _ => by rfl⟩) hS ?_
      try simp only [Act.put, List.setIfInBounds_toArray, List.set_cons_zero, List.set_cons_succ]
      refine takeL 4 (undef) rfl (by kernel_rfl) (by kernel_rfl) (by kernel_rfl) (fun _ _ _ h => h) (.inr ⟨by rfl, rfl⟩) hS ?_
      try simp only [Act.put, List.setIfInBounds_toArray, List.set_cons_zero, List.set_cons_succ]
      refine takeL 5 (undef) rfl (by kernel_rfl) (by kernel_rfl) (by kernel_rfl) (fun _ _ _ h => h) (.inr ⟨by rfl, rfl⟩) hS ?_
      try simp only [Act.put, List.setIfInBounds_toArray, List.set_cons_zero, List.set_cons_succ]
      refine takeL 6 (undef) rfl (by kernel_rfl) (by kernel_rfl) (by kernel_rfl) (fun _ _ _ h => h) (.inr ⟨by rfl, rfl⟩) hS ?_
      try simp only [Act.put, List.setIfInBounds_toArray, List.set_cons_zero, List.set_cons_succ]
      refine takeL 7 (undef) rfl (by kernel_rfl) (by kernel_rfl) (by kernel_rfl) (fun _ _ _ h => h) (.inr ⟨by rfl, rfl⟩) hS ?_
      try simp only [Act.put, List.setIfInBounds_toArray, List.set_cons_zero, List.set_cons_succ]
      refine takeL 8 (undef) rfl (by kernel_rfl) (by kernel_rfl) (by kernel_rfl) (fun _ _ _ h => h) (.inr ⟨by rfl, rfl⟩) hS ?_
      try simp only [Act.put, List.setIfInBounds_toArray, List.set_cons_zero, List.set_cons_succ]
      refine takeL 9 (.bool true) rfl (by kernel_rfl) (by kernel_rfl) (by kernel_rfl) (fun _ _ _ h => h) (.inl ⟨by rfl, fun w _ => by rfl⟩) hS ?_
      try simp only [Act.put, List.setIfInBounds_toArray, List.set_cons_zero, List.set_cons_succ]
      refine wpAnyH_done (by kernel_rfl) ?_ _
      clear hS
      go_wp2
      go_ret2
      exact ⟨by rw [questionV_no HE.out, HE.out]; rfl, B⟩
    by_cases hp1 : (nw : Int) ≤ f.pos
    · have HE : Hid (forkOk s f = false) := by show _ = _; rw [HX3.out, decide_eq_false (by omega)]
      clear HX3 HQ
      have bd : Below w2.heap.size w2 w2.drew := below_drewN (Below.refl _ _) 1
      refine wp_region_held_drew (S := fun w' => Blk 38 w' (w.heap.size + 1) #[.int .i64 (k : Int), .int .i64 f.pos] ∧ Blk 68 w' ba #[.string (ad s.attrs k).name, .slice y1 (ad s.attrs k).cuts.length z1, .slice y2 (ad s.attrs k).vals.length z2]) (by kernel_rfl) ⟨KF.below bd, KA.below bd⟩ ?_
      intro hS
      have cT := twoWays_any _ _ _ (HAT2.out _ bd) HOA.out
      rw [hnw] at cT
      replace KF := KF.below bd
      replace B := B.trans (bd.mono B.size)
      replace KA := KA.below bd
      replace HAT2 : Hid (∀ W, Below w2.drew.heap.size w2.drew W → AttrAt W (.agg #[.string (ad s.attrs k).name, .slice y1 (ad s.attrs k).cuts.length z1, .slice y2 (ad s.attrs k).vals.length z2]) (ad s.attrs k)) := fun W h => HAT2.out W (bd.trans (h.mono bd.size))
      clear bd
      generalize w2.drew = w3 at KF KA B HAT2 hS cT ⊢
      refine takeL 0 (.pointer (some ⟨w.heap.size + 1, 1, none⟩)) rfl (by kernel_rfl) (by kernel_rfl) (by kernel_rfl) (fun _ _ _ h => h) (.inl ⟨by rfl, fun w hw => by (unfold execOp; go_simp)⟩) hS ?_
      try simp only [Act.put, List.setIfInBounds_toArray, List.set_cons_zero, List.set_cons_succ]
      refine takeL 1 (.int .i64 f.pos) rfl (by kernel_rfl) (by kernel_rfl) (by kernel_rfl) (fun _ _ _ h => h) (.inl ⟨by rfl, fun w hw => by (have h0 := (hw.1).cell 1; unfold execOp; go_simp)⟩) hS ?_
      try simp only [Act.put, List.setIfInBounds_toArray, List.set_cons_zero, List.set_cons_succ]
      refine takeL 2 (.bool false) rfl (by kernel_rfl) (by kernel_rfl) (by kernel_rfl) (fun _ _ _ h => h) (.inl ⟨by rfl, fun w hw => by (unfold execOp; go_simp)⟩) hS ?_
      try simp only [Act.put, List.setIfInBounds_toArray, List.set_cons_zero, List.set_cons_succ]
      refine takeL 3 (.bool false) rfl (by kernel_rfl) (by kernel_rfl) (by kernel_rfl) (fun _ _ _ h => h) (.inl ⟨by rfl, fun w _ => by rfl⟩) hS ?_
      try simp only [Act.put, List.setIfInBounds_toArray, List.set_cons_zero, List.set_cons_succ]
      refine takeL 4 (.pointer (some ⟨w.heap.size + 1, 1, none⟩)) rfl (by kernel_rfl) (by kernel_rfl) (by kernel_rfl) (fun _ _ _ h => h) (.inl ⟨by rfl, fun w hw => by (unfold execOp; go_simp)⟩) hS ?_
      try simp only [Act.put, List.setIfInBounds_toArray, List.set_cons_zero, List.set_cons_succ]
      refine takeL 5 (.int .i64 f.pos) rfl (by kernel_rfl) (by kernel_rfl) (by kernel_rfl) (fun _ _ _ h => h) (.inl ⟨by rfl, fun w hw => by (have h0 := (hw.1).cell 1; unfold execOp; go_simp)⟩) hS ?_
      try simp only [Act.put, List.setIfInBounds_toArray, List.set_cons_zero, List.set_cons_succ]
      refine takeL 6 (.agg #[.string (ad s.attrs k).name, .slice y1 (ad s.attrs k).cuts.length z1, .slice y2 (ad s.attrs k).vals.length z2]) rfl (by kernel_rfl) (by kernel_rfl) (by kernel_rfl) (fun _ _ _ h => h) (yields_row Try.underlying68 (by kernel_rfl) (by rfl) _ rfl _ rfl (fun _ h => h.2)) hS ?_
      try simp only [Act.put, List.setIfInBounds_toArray, List.set_cons_zero, List.set_cons_succ]
      refine nextL 7 rfl (by kernel_rfl) (by rfl) fun K hK => ?_
      go_simp
      refine cT.mono ?_
      clear cT
      rintro e w4 ⟨rfl, hb⟩
      replace hS : (fun w' => Blk 38 w' (w.heap.size + 1) #[.int .i64 (k : Int), .int .i64 f.pos] ∧ Blk 68 w' ba #[.string (ad s.attrs k).name, .slice y1 (ad s.attrs k).cuts.length z1, .slice y2 (ad s.attrs k).vals.length z2]) w4 := ⟨hS.1.below hb, hS.2.below hb⟩
      replace HAT2 : Hid (∀ W, Below w4.heap.size w4 W → AttrAt W (.agg #[.string (ad s.attrs k).name, .slice y1 (ad s.attrs k).cuts.length z1, .slice y2 (ad s.attrs k).vals.length z2]) (ad s.attrs k)) := fun W h => HAT2.out W (hb.trans (h.mono hb.size))
      replace B := B.trans (hb.mono B.size)
      clear KF KA hb
      refine hK _ _ hS ?_
      clear hK K hS
      intro hS
      refine takeL 8 (.bool true) rfl (by kernel_rfl) (by kernel_rfl) (by kernel_rfl) (fun _ _ _ h => h) (.inl ⟨by rfl, fun w hw => by (unfold execOp; go_simp)⟩) hS ?_
      try simp only [Act.put, List.setIfInBounds_toArray, List.set_cons_zero, List.set_cons_succ]
      refine takeL 9 (.bool true) rfl (by kernel_rfl) (by kernel_rfl) (by kernel_rfl) (fun _ _ _ h => h) (.inl ⟨by rfl, fun w _ => by rfl⟩) hS ?_
      try simp only [Act.put, List.setIfInBounds_toArray, List.set_cons_zero, List.set_cons_succ]
      refine wpAnyH_done (by kernel_rfl) ?_ _
      obtain ⟨KF, KA⟩ := hS
      go_wp2
      go_ret2
      exact ⟨by rw [questionV_no HE.out, HE.out]; rfl, B⟩
    have HE : Hid (forkOk s f = true) := by show _ = _; rw [HX3.out, decide_eq_true (by omega)]
    have HQ2 : Hid _ := HQ.out HE.out
    clear HQ HX3
    have bd : Below w2.heap.size w2 w2.drew := below_drewN (Below.refl _ _) 1
    refine wp_region_held_drew (S := fun w' => Blk 38 w' (w.heap.size + 1) #[.int .i64 (k : Int), .int .i64 f.pos] ∧ Blk 68 w' ba #[.string (ad s.attrs k).name, .slice y1 (ad s.attrs k).cuts.length z1, .slice y2 (ad s.attrs k).vals.length z2]) (by kernel_rfl) ⟨KF.below bd, KA.below bd⟩ ?_
    intro hS
    have cT := twoWays_any _ _ _ (HAT2.out _ bd) HOA.out
    rw [hnw] at cT
    replace KF := KF.below bd
    replace B := B.trans (bd.mono B.size)
    replace KA := KA.below bd
    replace HAT2 : Hid (∀ W, Below w2.drew.heap.size w2.drew W → AttrAt W (.agg #[.string (ad s.attrs k).name, .slice y1 (ad s.attrs k).cuts.length z1, .slice y2 (ad s.attrs k).vals.length z2]) (ad s.attrs k)) := fun W h => HAT2.out W (bd.trans (h.mono bd.size))
    clear bd
    generalize w2.drew = w3 at KF KA B HAT2 hS cT ⊢
    refine takeL 0 (.pointer (some ⟨w.heap.size + 1, 1, none⟩)) rfl (by kernel_rfl) (by kernel_rfl) (by kernel_rfl) (fun _ _ _ h => h) (.inl ⟨by rfl, fun w hw => by (unfold execOp; go_simp)⟩) hS ?_
    try simp only [Act.put, List.setIfInBounds_toArray, List.set_cons_zero, List.set_cons_succ]
    refine takeL 1 (.int .i64 f.pos) rfl (by kernel_rfl) (by kernel_rfl) (by kernel_rfl) (fun _ _ _ h => h) (.inl ⟨by rfl, fun w hw => by (have h0 := (hw.1).cell 1; unfold execOp; go_simp)⟩) hS ?_
    try simp only [Act.put, List.setIfInBounds_toArray, List.set_cons_zero, List.set_cons_succ]
    refine takeL 2 (.bool false) rfl (by kernel_rfl) (by kernel_rfl) (by kernel_rfl) (fun _ _ _ h => h) (.inl ⟨by rfl, fun w hw => by (unfold execOp; go_simp)⟩) hS ?_
    try simp only [Act.put, List.setIfInBounds_toArray, List.set_cons_zero, List.set_cons_succ]
    refine takeL 3 (.bool false) rfl (by kernel_rfl) (by kernel_rfl) (by kernel_rfl) (fun _ _ _ h => h) (.inl ⟨by rfl, fun w _ => by rfl⟩) hS ?_
    try simp only [Act.put, List.setIfInBounds_toArray, List.set_cons_zero, List.set_cons_succ]
    refine takeL 4 (.pointer (some ⟨w.heap.size + 1, 1, none⟩)) rfl (by kernel_rfl) (by kernel_rfl) (by kernel_rfl) (fun _ _ _ h => h) (.inl ⟨by rfl, fun w hw => by (unfold execOp; go_simp)⟩) hS ?_
    try simp only [Act.put, List.setIfInBounds_toArray, List.set_cons_zero, List.set_cons_succ]
    refine takeL 5 (.int .i64 f.pos) rfl (by kernel_rfl) (by kernel_rfl) (by kernel_rfl) (fun _ _ _ h => h) (.inl ⟨by rfl, fun w hw => by (have h0 := (hw.1).cell 1; unfold execOp; go_simp)⟩) hS ?_
    try simp only [Act.put, List.setIfInBounds_toArray, List.set_cons_zero, List.set_cons_succ]
    refine takeL 6 (.agg #[.string (ad s.attrs k).name, .slice y1 (ad s.attrs k).cuts.length z1, .slice y2 (ad s.attrs k).vals.length z2]) rfl (by kernel_rfl) (by kernel_rfl) (by kernel_rfl) (fun _ _ _ h => h) (yields_row Try.underlying68 (by kernel_rfl) (by rfl) _ rfl _ rfl (fun _ h => h.2)) hS ?_
    try simp only [Act.put, List.setIfInBounds_toArray, List.set_cons_zero, List.set_cons_succ]
    refine nextL 7 rfl (by kernel_rfl) (by rfl) fun K hK => ?_
    go_simp
    refine cT.mono ?_
    clear cT
    rintro e w4 ⟨rfl, hb⟩
    replace hS : (fun w' => Blk 38 w' (w.heap.size + 1) #[.int .i64 (k : Int), .int .i64 f.pos] ∧ Blk 68 w' ba #[.string (ad s.attrs k).name, .slice y1 (ad s.attrs k).cuts.length z1, .slice y2 (ad s.attrs k).vals.length z2]) w4 := ⟨hS.1.below hb, hS.2.below hb⟩
    replace HAT2 : Hid (∀ W, Below w4.heap.size w4 W → AttrAt W (.agg #[.string (ad s.attrs k).name, .slice y1 (ad s.attrs k).cuts.length z1, .slice y2 (ad s.attrs k).vals.length z2]) (ad s.attrs k)) := fun W h => HAT2.out W (hb.trans (h.mono hb.size))
    replace B := B.trans (hb.mono B.size)
    clear KF KA hb
    refine hK _ _ hS ?_
    clear hK K hS
    intro hS
    refine takeL 8 (.bool false) rfl (by kernel_rfl) (by kernel_rfl) (by kernel_rfl) (fun _ _ _ h => h) (.inl ⟨by rfl, fun w hw => by (unfold execOp; go_simp)⟩) hS ?_
    try simp only [Act.put, List.setIfInBounds_toArray, List.set_cons_zero, List.set_cons_succ]
    refine takeL 9 (.bool false) rfl (by kernel_rfl) (by kernel_rfl) (by kernel_rfl) (fun _ _ _ h => h) (.inl ⟨by rfl, fun w _ => by rfl⟩) hS ?_
    try simp only [Act.put, List.setIfInBounds_toArray, List.set_cons_zero, List.set_cons_succ]
    refine wpAnyH_done (by kernel_rfl) ?_ _
    obtain ⟨KF, KA⟩ := hS
    by_cases hp : f.pos = -1
    · have hpe : (f.pos == -1) = true := by rw [hp]; rfl
      have HR : Hid (questionV s f = .iface 107 (.agg #[.int .i64 (bins (ad s.attrs k))])) := by show _ = _; rw [HQ2.out, if_pos hp]
      clear HQ2
      have cc := implBins_any _ _ _ (HAT2.out _ (Below.refl _ _)) HB.out
      generalize bins (ad s.attrs k) = nb at cc HR
      have kF0 : w4.cell? ⟨w.heap.size + 1, 0, none⟩ = some (.int .i64 (k : Int)) := KF.cell 0
      have kF1 : w4.cell? ⟨w.heap.size + 1, 1, none⟩ = some (.int .i64 f.pos) := KF.cell 1
      have kA0 : w4.cell? ⟨ba, 0, none⟩ = some (.string (ad s.attrs k).name) := KA.cell 0
      have kA1 : w4.cell? ⟨ba, 1, none⟩ = some (.slice y1 (ad s.attrs k).cuts.length z1) := KA.cell 1
      have kA2 : w4.cell? ⟨ba, 2, none⟩ = some (.slice y2 (ad s.attrs k).vals.length z2) := KA.cell 2
      go_wp2_with fail
      refine cc.mono ?_
      clear cc
      clear kF0 kF1 kA0 kA1 kA2
      rintro e w5 ⟨rfl, hb⟩
      replace KF := KF.below hb
      replace B := B.trans (hb.mono B.size)
      replace KA := KA.below hb
      go_wp2
      go_ret2
      exact ⟨by rw [HR.out, HE.out]; rfl, B⟩
    have hpe : (f.pos == -1) = false := by rw [beq_eq_false_iff_ne]; exact hp
    have cc := nominal_any _ _ _ (HAT2.out _ (Below.refl _ _))
    by_cases hv : 0 < (ad s.attrs k).vals.length
    · have HR : Hid (questionV s f = .iface 109 (.agg #[.int .i64 f.pos])) := by show _ = _; rw [HQ2.out, if_neg hp, if_pos hv]
      rw [decide_eq_true hv] at cc
      clear HQ2
      have kF0 : w4.cell? ⟨w.heap.size + 1, 0, none⟩ = some (.int .i64 (k : Int)) := KF.cell 0
      have kF1 : w4.cell? ⟨w.heap.size + 1, 1, none⟩ = some (.int .i64 f.pos) := KF.cell 1
      have kA0 : w4.cell? ⟨ba, 0, none⟩ = some (.string (ad s.attrs k).name) := KA.cell 0
      have kA1 : w4.cell? ⟨ba, 1, none⟩ = some (.slice y1 (ad s.attrs k).cuts.length z1) := KA.cell 1
      have kA2 : w4.cell? ⟨ba, 2, none⟩ = some (.slice y2 (ad s.attrs k).vals.length z2) := KA.cell 2
      go_wp2_with fail
      refine cc.mono ?_
      clear cc
      clear kF0 kF1 kA0 kA1 kA2
      rintro e w5 ⟨rfl, hb⟩
      replace KF := KF.below hb
      replace B := B.trans (hb.mono B.size)
      replace KA := KA.below hb
      have kF0 : w5.cell? ⟨w.heap.size + 1, 0, none⟩ = some (.int .i64 (k : Int)) := KF.cell 0
      have kF1 : w5.cell? ⟨w.heap.size + 1, 1, none⟩ = some (.int .i64 f.pos) := KF.cell 1
      go_wp2
      go_ret2
      exact ⟨by rw [HR.out, HE.out]; rfl, B⟩
    · have HR : Hid (questionV s f = .iface 110 (.agg #[.int .i64 f.pos])) := by show _ = _; rw [HQ2.out, if_neg hp, if_neg hv]
      rw [decide_eq_false hv] at cc
      clear HQ2
      have kF0 : w4.cell? ⟨w.heap.size + 1, 0, none⟩ = some (.int .i64 (k : Int)) := KF.cell 0
      have kF1 : w4.cell? ⟨w.heap.size + 1, 1, none⟩ = some (.int .i64 f.pos) := KF.cell 1
      have kA0 : w4.cell? ⟨ba, 0, none⟩ = some (.string (ad s.attrs k).name) := KA.cell 0
      have kA1 : w4.cell? ⟨ba, 1, none⟩ = some (.slice y1 (ad s.attrs k).cuts.length z1) := KA.cell 1
      have kA2 : w4.cell? ⟨ba, 2, none⟩ = some (.slice y2 (ad s.attrs k).vals.length z2) := KA.cell 2
      go_wp2_with fail
      refine cc.mono ?_
      clear cc
      clear kF0 kF1 kA0 kA1 kA2
      rintro e w5 ⟨rfl, hb⟩
      replace KF := KF.below hb
      replace B := B.trans (hb.mono B.size)
      replace KA := KA.below hb
      have kF0 : w5.cell? ⟨w.heap.size + 1, 0, none⟩ = some (.int .i64 (k : Int)) := KF.cell 0
      have kF1 : w5.cell? ⟨w.heap.size + 1, 1, none⟩ = some (.int .i64 f.pos) := KF.cell 1
      go_wp2
      go_ret2
      exact ⟨by rw [HR.out, HE.out]; rfl, B⟩
end Go.Proofs.Yteadkdllmeeocaa
