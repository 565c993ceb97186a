/- Texts of this claim, put together: part 18. -/
import Derived.Test.YtobimpgapfecoaaStatsNewPack15
import Derived.Test.YtobimpgapfecoaaStatsNewPack9
import Derived.Test.YtobimpgapfecoaaStatsNewPack16
import Derived.Test.YtobimpgapfecoaaStatsNewPack17
import Derived.Test.YtobimpgapfecoaaStatsNewPack4
import Derived.Test.YtobimpgapfecoaaStatsNewPack3
import Derived.Test.YtobimpgapfecoaaStatsNewPack14
import Derived.Test.YtobimpgapfecoaaStatsNewPack10
import Derived.Test.YtobimpgapfecoaaStatsNewPack11
/- How many bins an attribute has, by the program and by the specification. -/
namespace Go.Proofs.Ytobimpgapfecoaa
open Go.RowKit
set_option maxRecDepth 100000

set_option maxHeartbeats 400000 in
theorem implBins_any (v : Value) (a : AttrD) (w : World) (h : AttrAt w v a) (hn : okA a) :
    Calls Try.prog 69 #[v] w fun e w' => e = .returned (.int .i64 (bins a)) ∧ Below w.heap.size w w' := by
  have c := fun W (hW : Below w.heap.size w W) => implAttrOk_any v a W (h.later hW) hn
  have c' := fun W (hW : Below w.heap.size w W) => nominal_any v a W (h.later hW)
  have lc := hn.cuts
  have lv := hn.vals.1
  obtain ⟨vc, vv, rfl, hc, hv⟩ := h
  obtain ⟨oc, cc, rfl, hcc, hcr⟩ := hc
  obtain ⟨ov, cv, rfl, hvc, hvr⟩ := hv
  clear hcr hvr hn
  have B0 : ∀ o, Below w.heap.size w (w.alloc o) := fun o => (Below.refl _ _).alloc (Nat.le_refl _) _
  have HB : Hid (∀ o, Below w.heap.size w (w.alloc o)) := B0
  clear B0
  cases hok : attrOk a with
  | false =>
    have HF : Hid (bins a = 0) := by unfold bins; rw [hok]; rfl
    rw [hok] at c
    clear hok c'
    go_enter Try.func69, Try.ntmps69
    go_wp2_with fail
    refine (c _ (HB.out _)).mono ?_
    rintro e w1 ⟨rfl, hb1⟩
    go_wp2
    go_ret
    exact ⟨by rw [HF.out]; rfl, (HB.out _).trans (hb1.mono (by simp))⟩
  | true =>
    rw [hok] at c
    by_cases h0 : 0 < a.vals.length
    · have HF : Hid (bins a = a.vals.length) := by unfold bins; rw [hok, if_pos rfl, if_neg (by omega)]; rfl
      clear hok
      go_enter Try.func69, Try.ntmps69
      go_wp2_with fail
      refine (c _ (HB.out _)).mono ?_
      rintro e w1 ⟨rfl, hb1⟩
      have K := (Blk.new _ _ _).below hb1
      have B1 := (HB.out _).trans (hb1.mono (by simp))
      have k0 : w1.cell? ⟨w.heap.size, 0, none⟩ = some (.string a.name) := K.cell 0
      have k1 : w1.cell? ⟨w.heap.size, 1, none⟩ = some (.slice oc a.cuts.length cc) := K.cell 1
      have k2 : w1.cell? ⟨w.heap.size, 2, none⟩ = some (.slice ov a.vals.length cv) := K.cell 2
      clear c hb1
      go_wp2_with fail
      refine (c' _ B1).mono ?_
      rintro e w2 ⟨rfl, hb2⟩
      have k2 : w2.cell? ⟨w.heap.size, 2, none⟩ = some (.slice ov a.vals.length cv) := (K.below hb2).cell 2
      clear c' K
      rw [decide_eq_true h0]
      go_wp2
      go_ret
      exact ⟨by rw [HF.out]; rfl, B1.trans (hb2.mono B1.size)⟩
    · have HF : Hid (bins a = a.cuts.length + 1) := by unfold bins; rw [hok, if_pos rfl, if_pos (by omega)]; rfl
      clear hok
      go_enter Try.func69, Try.ntmps69
      go_wp2_with fail
      refine (c _ (HB.out _)).mono ?_
      rintro e w1 ⟨rfl, hb1⟩
      have K := (Blk.new _ _ _).below hb1
      have B1 := (HB.out _).trans (hb1.mono (by simp))
      have k0 : w1.cell? ⟨w.heap.size, 0, none⟩ = some (.string a.name) := K.cell 0
      have k1 : w1.cell? ⟨w.heap.size, 1, none⟩ = some (.slice oc a.cuts.length cc) := K.cell 1
      have k2 : w1.cell? ⟨w.heap.size, 2, none⟩ = some (.slice ov a.vals.length cv) := K.cell 2
      clear c hb1
      go_wp2_with fail
      refine (c' _ B1).mono ?_
      rintro e w2 ⟨rfl, hb2⟩
      have k1 : w2.cell? ⟨w.heap.size, 1, none⟩ = some (.slice oc a.cuts.length cc) := (K.below hb2).cell 1
      clear c' K
      rw [decide_eq_false h0]
      go_wp2
      go_ret
      exact ⟨by rw [HF.out]; first | rfl | (congr 1; go_num), B1.trans (hb2.mono B1.size)⟩

end Go.Proofs.Ytobimpgapfecoaa
/- Whether a schema is right, by the program. -/
namespace Go.Proofs.Ytobimpgapfecoaa
open Go.RowKit
set_option maxRecDepth 100000

theorem rel_stepT {w wr w1 : World} {v v' : Value} {done : List ByteArray} {b : ByteArray} {o : Obj} (hs : w.heap.size ≤ wr.heap.size) (hb : Below w.heap.size w wr) (hown : wr.ownsRow w.heap.size 9 1 v done.length (done.map Value.string))
    (hown' : w1.ownsRow w.heap.size 9 1 v' (done.length + 1) (done.map Value.string ++ [.string b])) (hgrow : (wr.alloc o).grownBy w1 v.ownBlock) :
    w1.ownsRow w.heap.size 9 1 v' (done ++ [b]).length ((done ++ [b]).map Value.string) ∧ Below w.heap.size w w1 := by
  refine ⟨by simpa using hown', (hb.alloc hs o).grown hgrow (by simp; omega) fun k hk => (hown.lt k hk).1⟩

set_option maxHeartbeats 1600000 in
theorem implSchemaOk_any (v : Value) (s : SchemaD) (w : World) (h : SchemaAt w v s) (hn : okSch s) :
    Calls Try.prog 58 #[v] w fun e w' => e = .returned (.bool (schemaOk s)) ∧ Below w.heap.size w w' := by
  obtain ⟨i0, hi, hz0, hz1, hz2⟩ := info_parts strInfo
  obtain ⟨va, vc, rfl, ha, hc⟩ := h
  obtain ⟨oa, ca, rfl, hca, har⟩ := id ha
  obtain ⟨oc, cc, rfl, hcc, hcr⟩ := id hc
  have HAR : Hid (RowA w (.slice oa s.attrs.length ca) s.attrs) := ha
  have HCR : Hid (RowS w (.slice oc s.classes.length cc) s.classes) := hc
  have HO : Hid (okSch s) := hn
  have la := hn.attrs
  clear ha hc har hcr hn
  by_cases h1 : (s.attrs.length : Int) < 1
  · have HF : Hid (schemaOk s = false) := by unfold schemaOk; rw [decide_eq_false (by omega)]; rfl
    go_enter Try.func58, Try.ntmps58
    go_wp2
    go_ret
    exact ⟨by rw [HF.out]; rfl, (Below.refl _ _).alloc (Nat.le_refl _) _⟩
  by_cases h5 : (s.attrs.length : Int) ≤ 5
  rotate_left
  · have HF : Hid (schemaOk s = false) := by unfold schemaOk; rw [decide_eq_false (by omega)]; rfl
    go_enter Try.func58, Try.ntmps58
    go_wp2
    go_ret
    exact ⟨by rw [HF.out]; rfl, (Below.refl _ _).alloc (Nat.le_refl _) _⟩
  have HW : Hid (schemaOk s = (choices s.classes 3 && attrsOk s.attrs)) := by unfold schemaOk; rw [decide_eq_true (by omega)]; rfl
  obtain ⟨ls, has⟩ : ∃ ls, s.attrs = ls := ⟨_, rfl⟩
  obtain ⟨g, o, rfl, hg, hj⟩ : ∃ g o, oa = some ⟨g, o, none⟩ ∧ g < w.heap.size ∧ ∀ j, j < ls.length → CellsA w g (o + j * 3) (ad ls j) := by
    obtain ⟨oa', cap', e, _, hr⟩ := HAR.out
    obtain ⟨g, o, e', hg, hj⟩ := hr (by omega)
    injection e with e1 e2 e3
    exact ⟨g, o, by rw [e1, e'], hg, by rw [← has]; exact hj⟩
  have HJ : Hid (∀ j, j < ls.length → CellsA w g (o + j * 3) (ad ls j)) := hj
  have HE : Hid (∀ j, j < ls.length → okA (ad ls j)) := fun j hj => HO.out.each _ (by rw [has]; exact ad_mem hj)
  rw [has] at h1 h5 la hca
  have HAS : Hid (s.attrs = ls) := has
  clear hj HAR
  go_enter Try.func58, Try.ntmps58
  rw [has]
  clear has
  go_wp2
  go_loopw [3, 5, 19] (fun v _ i wr => ∃ k : Nat, i = .int .i64 k ∧ k ≤ ls.length ∧ (∀ j, j < k → attrAt ls j = true) ∧ wr.ownsRow (w.heap.size + 1) 9 1 v k ((nmsB ls k).map Value.string) ∧
      Blk 27 wr w.heap.size #[.slice (some ⟨g, o, none⟩) ls.length ca, .slice oc s.classes.length cc] ∧ Below w.heap.size w wr) (fun _ _ i _ => ls.length - (intOf i).toNat)
  case atStart =>
    refine ⟨0, rfl, by omega, by omega, ?_, Blk.new _ _ _, (Below.refl _ _).alloc (Nat.le_refl _) _⟩
    exact ⟨by simp [nmsB], .inl ⟨rfl, rfl⟩⟩
  case round =>
    obtain ⟨k, rfl, hk, hal, hown, hblk, hb⟩ := hrel
    have HA : Hid (∀ j, j < k → attrAt ls j = true) := hal
    have HB : Hid (Blk 27 wr w.heap.size #[.slice (some ⟨g, o, none⟩) ls.length ca, .slice oc s.classes.length cc]) := hblk
    clear hal hblk
    by_cases hlt : k < ls.length
    · have HOW := hown
      obtain ⟨vc, vv, q0, q1, q2, r1, r2⟩ := (HJ.out k hlt).later hb hg
      obtain ⟨o1, c1, rfl, -, -⟩ := id r1
      obtain ⟨o2, c2, rfl, -, -⟩ := id r2
      have HX : Hid (AttrAt wr (.agg #[.string (ad ls k).name, .slice o1 (ad ls k).cuts.length c1, .slice o2 (ad ls k).vals.length c2]) (ad ls k)) := ⟨_, _, rfl, r1, r2⟩
      have hok := HE.out k hlt
      have HK : Hid (okA (ad ls k)) := hok
      clear r1 r2 hok
      obtain ⟨K, B0⟩ := blk_1 55 wr #[.string (ad ls k).name, .slice o1 (ad ls k).cuts.length c1, .slice o2 (ad ls k).vals.length c2]
      have c := implAttrOk_any _ (ad ls k) _ (HX.out.later B0) HK.out
      cases hw : attrOk (ad ls k) with
      | false =>
        have HF : Hid (attrsOk ls = false) := attrs_no k hlt (attrAt_no1 hw)
        rw [hw] at c
        clear hw
        go_wp2_with fail
        refine c.mono ?_
        rintro e w1 ⟨rfl, hb1⟩
        clear c
        go_wp2
        go_ret
        refine ⟨by rw [HW.out, HAS.out, HF.out, Bool.and_false]; rfl, (hb.trans (B0.mono hb.size)).trans (hb1.mono ?_)⟩
        have := hb.size
        simp; omega
      | true =>
        have HWK : Hid (attrOk (ad ls k) = true) := hw
        rw [hw] at c
        clear hw
        go_wp2_with fail
        refine c.mono ?_
        rintro e w1 ⟨rfl, hb1⟩
        clear c
        have B1 := B0.trans (hb1.mono (by simp))
        have hb2 := hb.trans (B1.mono hb.size)
        have hown1 := own_below hown B1
        have kn : w1.cell? ⟨wr.heap.size, 0, none⟩ = some (.string (ad ls k).name) := (K.below hb1).cell 0
        have HB1 : Hid (Blk 27 w1 w.heap.size #[.slice (some ⟨g, o, none⟩) ls.length ca, .slice oc s.classes.length cc]) := HB.out.below B1
        have HKB : Hid (Blk 55 w1 wr.heap.size #[.string (ad ls k).name, .slice o1 (ad ls k).cuts.length c1, .slice o2 (ad ls k).vals.length c2]) := K.below hb1
        clear K B0 B1 hb1 q0 q1 q2 hown HOW
        have c2 := contains_any _ (nmsB ls k) (ad ls k).name w1 (RowS.of_own hown1 (nmsB_len hk)) (by rw [nmsB_len hk]; omega)
        cases ht : hasT (nmsB ls k) (ad ls k).name with
        | true =>
          have HF : Hid (attrsOk ls = false) := attrs_no k hlt (attrAt_no2 ht)
          rw [ht] at c2
          clear ht
          go_wp2_with fail
          refine c2.mono ?_
          rintro e w2 ⟨rfl, hb3⟩
          clear c2
          go_wp2
          go_ret
          exact ⟨by rw [HW.out, HAS.out, HF.out, Bool.and_false]; rfl, hb2.trans (hb3.mono hb2.size)⟩
        | false =>
          have HF : Hid (attrAt ls k = true) := attrAt_yes HWK.out ht
          rw [ht] at c2
          clear ht
          go_wp2_with fail
          refine c2.mono ?_
          rintro e w2 ⟨rfl, hb3⟩
          clear c2 kn
          have kn : w2.cell? ⟨wr.heap.size, 0, none⟩ = some (.string (ad ls k).name) := (HKB.out.below hb3).cell 0
          have hb4 := hb2.trans (hb3.mono hb2.size)
          have hown2 := own_below hown1 hb3
          have HB2 : Hid (Blk 27 w2 w.heap.size #[.slice (some ⟨g, o, none⟩) ls.length ca, .slice oc s.classes.length cc]) := HB1.out.below hb3
          have HSZ : Hid (Below w.heap.size w w2) := hb4
          have hsz2 := hb4.size
          have HLT := HB2.out.lt
          clear hb2 hb3 hown1 hb HB HB1 HKB
          have HNM : Hid (nmsB ls (k + 1) = nmsB ls k ++ [(ad ls k).name]) := nmsB_succ hlt
          have HNL : Hid ((nmsB ls k).length = k) := nmsB_len hk
          generalize (ad ls k).name = nm at kn HNM
          go_wp2_with (at_builtin; refine wpList_append_own _ rfl _ _ 25 rfl (w.heap.size + 1) 9 i0 (.string ⟨#[]⟩) 1 16 Try.underlying25 hi hz0 hz1 hz2 rfl (by decide) _ _ _ rfl (hown2.alloc _) ⟨w2.heap.size, 0, none⟩ 1 1 [_] rfl rfl (newc _ _ _) ?d2 ?d3 ?d4 ?d5 ?_)
          case d2 => intro u hu; simp at hu; subst hu; rfl
          case d3 => unfold maxLen; omega
          case d4 => omega
          case d5 => simp; omega
          intro v' w3 hown' hgrow _
          have R : w3.ownsRow (w.heap.size + 1) 9 1 v' (k + 1) ((nmsB ls (k + 1)).map Value.string) := by rw [HNM.out]; simpa using hown'
          have BL : Blk 27 w3 w.heap.size #[.slice (some ⟨g, o, none⟩) ls.length ca, .slice oc s.classes.length cc] := by
            refine Blk.kept (HB2.out.alloc _) hgrow (fun e => ?_)
            have := (hown2.lt _ e).1; omega
          have BB : Below w.heap.size w w3 := (HSZ.out.alloc hsz2 _).grown hgrow (by simp; omega) fun j hj => by have := (hown2.lt j hj).1; omega
          clear hown' hgrow hown2
          go_wp2
          go_roundw
          case rel =>
            refine ⟨k + 1, by go_num, by omega, ?_, R, BL, BB⟩
            intro j hj
            by_cases e : j = k
            · subst e; exact HF.out
            · exact HA.out j (by omega)
          case measure => simp [intOf]; omega
    · have HF : Hid (attrsOk ls = true) := attrs_yes fun j hj => HA.out j (by omega)
      have kc : wr.cell? ⟨w.heap.size, 1, none⟩ = some (.slice oc s.classes.length cc) := HB.out.cell 1
      have c := implChoices_any _ s.classes 3 wr (HCR.out.later hb) HO.out.classes
      clear hown
      go_wp2_with fail
      refine c.mono ?_
      rintro e w1 ⟨rfl, hb1⟩
      clear c
      go_wp2
      go_ret
      exact ⟨by rw [HW.out, HAS.out, HF.out, Bool.and_true]; rfl, hb.trans (hb1.mono hb.size)⟩
end Go.Proofs.Ytobimpgapfecoaa
/- New counts, by the program. -/
namespace Go.Proofs.Ytobimpgapfecoaa
open Go.RowKit
set_option maxRecDepth 100000
set_option linter.unusedSimpArgs false
set_option maxHeartbeats 6400000 in
theorem implStatsNew_any (v : Value) (s : SchemaD) (w : World) (h : SchemaAt w v s) (hn : okSch s) :
    Calls Try.prog 34 #[v] w fun e w' => ∃ v', e = .returned v' ∧ OwnSt w.heap.size w' v' (statsNew s) ∧ Below w.heap.size w w' := by
  obtain ⟨i0, hi0, hz0, hz1, hz2⟩ := info_parts intsInfo
  have HS : Hid (∀ W, Below w.heap.size w W → SchemaAt W v s) := fun W hW => h.later hW
  have HO : Hid (okSch s) := hn
  obtain ⟨va, vc, rfl, ra, rc⟩ := h
  obtain ⟨oa, ka, rfl, -, -⟩ := id ra
  obtain ⟨oc, kc, rfl, -, -⟩ := id rc
  have la := hn.attrs
  clear ra rc hn
  obtain ⟨K1, K2, B0⟩ := blk_2 27 31 w #[.slice oa s.attrs.length ka, .slice oc s.classes.length kc] #[.slice none 0 0, .slice none 0 0]
  have c1 := implSchemaOk_any _ s _ (HS.out _ B0) HO.out
  cases hk : schemaOk s with
  | false =>
    have HE : Hid (statsNew s = ⟨[], []⟩) := by show _ = _; unfold statsNew; rw [hk]; rfl
    rw [hk] at c1
    clear hk
    go_enter Try.func34, Try.ntmps34
    go_wp2_with fail
    refine c1.mono ?_
    clear c1
    rintro e w1 ⟨rfl, hb1⟩
    have B1 := B0.trans (hb1.mono B0.size)
    replace K2 := K2.below hb1
    clear K1 hb1 B0
    go_wp2_with (first
      | (with_reducible refine wp_st_store rfl _ _ rfl ?_; refine ⟨w.heap.size + 1, rfl, _, _, _, _, _, _, rfl, _, _, K2, ?_⟩)
      | go_in)
    exact bodyPost_ret (res_st Try.results34 _ _ _ _ _ rfl (K2.setRow _)) rfl ⟨_, rfl, by rw [HE.out]; exact ownSt_nil _ _, below_row B1 (by omega) _⟩
  | true =>
    have HE : Hid (statsNew s = ⟨List.replicate s.classes.length 0, newCells s⟩) := by show _ = _; unfold statsNew; rw [hk]; rfl
    have lcl := sch_classes hk
    rw [hk] at c1
    clear hk
    obtain ⟨m, hm⟩ : ∃ m, m = s.classes.length := ⟨_, rfl⟩
    have HM : Hid (m = s.classes.length) := hm
    rw [← hm] at K1 K2 B0 c1 lcl ⊢
    clear hm
    go_enter Try.func34, Try.ntmps34
    go_wp2_with fail
    refine c1.mono ?_
    clear c1
    rintro e w1 ⟨rfl, hb1⟩
    have B1 := B0.trans (hb1.mono B0.size)
    replace K1 := K1.below hb1
    replace K2 := K2.below hb1
    have hs1 : w.heap.size + 2 ≤ w1.heap.size := by have := hb1.size; simp at this; omega
    have q1 : w1.cell? ⟨w.heap.size, 1, none⟩ = some (.slice oc m kc) := K1.cell 1
    clear hb1 B0
    go_wp2_with (at_make; refine wpList_make_ints rfl _ rfl w.heap.size m _ rfl rfl (by omega) (by omega) ?_)
    intro w2 ho2 hg2
    have B2 := B1.grown hg2 B1.size (fun j hj => by cases hj)
    replace K1 := K1.kept hg2 (by simp)
    replace K2 := K2.kept hg2 (by simp)
    have hs2 := hg2.size
    obtain ⟨v1, hv1⟩ : ∃ g, g = w1.heap.size := ⟨_, rfl⟩
    rw [← hv1] at ho2 ⊢
    have hl1 := (ho2.lt v1 rfl).2
    have hl2 := (ho2.lt v1 rfl).1
    clear hv1
    obtain ⟨KX, BX⟩ := blk_1 31 w2 #[.slice (some ⟨v1, 0, none⟩) m m, .slice none 0 0]
    have BW := B2.trans (BX.mono B2.size)
    have K1A := K1.below BX
    have K2A := K2.below BX
    have hoA := own_below ho2 BX
    have qa : (w2.alloc (.cells #[.slice (some ⟨v1, 0, none⟩) m m, .slice none 0 0] 31)).cell? ⟨w.heap.size, 0, none⟩ = some (.slice oa s.attrs.length ka) := K1A.cell 0
    clear q1 B1 K1 K2 ho2 BX B2 hg2
    go_wp2
    generalize (w2.alloc (.cells #[.slice (some ⟨v1, 0, none⟩) m m, .slice none 0 0] 31)) = wa at KX K1A K2A hoA BW qa ⊢
    obtain ⟨p, hp⟩ : ∃ p, p = w2.heap.size := ⟨_, rfl⟩
    rw [← hp] at KX hl1 ⊢
    have hpw : w.heap.size + 2 ≤ p := by omega
    clear hp qa 
    go_loopw [18] (fun i wr => ∃ (k : Nat) (vx : Value) (ys : List Value) (L : Nat → Value), i = .int .i64 k ∧ k ≤ s.attrs.length ∧ ys.length = k ∧ Blk 27 wr w.heap.size #[.slice oa s.attrs.length ka, .slice oc m kc] ∧ Blk 31 wr (w.heap.size + 1) #[.slice none 0 0, .slice none 0 0] ∧ Blk 31 wr p #[.slice (some ⟨v1, 0, none⟩) m m, vx] ∧
        wr.ownsRow w.heap.size 3 1 (.slice (some ⟨v1, 0, none⟩) m m) m ((List.replicate m (0 : Int)).map (Value.int .i64)) ∧ wr.ownsRow (p + 1) 28 1 vx k ys ∧ DoneII wr (p + 1) ys L (newCells s) k ∧ Below w.heap.size w wr) (fun i _ => s.attrs.length - (intOf i).toNat)
    case atStart => exact ⟨0, _, [], fun _ => .slice none 0 0, rfl, by omega, rfl, K1A, K2A, KX, by rw [List.map_replicate]; exact hoA, World.ownsRow_nil _ _ _ _, DoneII.start _ _ _ _ _, BW⟩
    case round =>
      obtain ⟨k, vx, ys, L, rfl, hk, hyl, R1, R2, RX, own, hrow, hdone, hb⟩ := hrel
      clear KX K1A K2A hoA BW
      obtain ⟨ox, kx, rfl⟩ := own_slice hrow
      have j0 : wr.cell? ⟨w.heap.size, 0, none⟩ = some (.slice oa s.attrs.length ka) := R1.cell 0
      by_cases hlt : k < s.attrs.length
      · obtain ⟨va', vc', e', rA, -⟩ := HS.out w (Below.refl _ _)
        cases e'
        obtain ⟨oa', ka', e', -, hrA⟩ := rA
        cases e'
        obtain ⟨ga, fa, rfl, hga, hjA⟩ := hrA (by omega)
        obtain ⟨x1, x2, p0w, p1w, p2w, r1w, r2w⟩ := hjA k hlt
        have r1 := r1w.later hb
        have r2 := r2w.later hb
        have p0 := (hb.cell (p := ⟨ga, fa + k * 3, none⟩) hga).trans p0w
        have p1 := (hb.cell (p := ⟨ga, fa + k * 3 + 1, none⟩) hga).trans p1w
        have p2 := (hb.cell (p := ⟨ga, fa + k * 3 + 2, none⟩) hga).trans p2w
        clear r1w r2w
        obtain ⟨y1, z1, rfl, -, -⟩ := id r1
        obtain ⟨y2, z2, rfl, -, -⟩ := id r2
        have hbn := binsN_eq (ad s.attrs k)
        have hb4 := binsN_le (ad s.attrs k)
        have HAT : Hid (il (newCells s) k = List.replicate (binsN (ad s.attrs k) * s.classes.length) 0) := newCells_at hlt
        obtain ⟨nb, hnb⟩ : ∃ nb, nb = binsN (ad s.attrs k) := ⟨_, rfl⟩
        rw [← hnb] at hbn hb4 HAT
        rw [← HM.out] at HAT
        clear hnb
        have hprod : nb * m ≤ 12 := by have := Nat.mul_le_mul hb4 lcl.2; omega
        have hmul : (nb : Int) * (m : Int) = ((nb * m : Nat) : Int) := (Int.natCast_mul _ _).symm
        have hmul0 : 0 ≤ (nb : Int) * (m : Int) := Int.mul_nonneg (by omega) (by omega)
        have hmul1 : (nb : Int) * (m : Int) ≤ 12 := by rw [hmul]; omega
        have HWR : Hid (IntKind.i64.wrap ((nb : Int) * (m : Int)) = ((nb * m : Nat) : Int)) := by show _ = _; rw [IntKind.wrap_i64, ← hmul]; omega
        clear hmul
        obtain ⟨Z, hZ, hZO⟩ := made_ints (nb * m) (by omega)
        have hmk : ∀ W : World, (Instr.makeSlice 28 (.int .i64 (IntKind.i64.wrap ((nb : Int) * (m : Int)))) (.int .i64 (IntKind.i64.wrap ((nb : Int) * (m : Int))))).run Try.prog W = .ok (.slice (some ⟨W.heap.size, 0, none⟩) (nb * m) (nb * m)) (W.alloc (.cells Z 3)) := fun W => hZ _ W HWR.out
        have HZO : Hid (∀ (W : World) (base : Nat), base ≤ W.heap.size → (W.alloc (.cells Z 3)).ownsRow base 3 1 (.slice (some ⟨W.heap.size, 0, none⟩) (nb * m) (nb * m)) (nb * m) ((List.replicate (nb * m) (0 : Int)).map (Value.int .i64))) := hZO
        clear hZ hZO
        have hvo : ∀ j, (Value.slice ox k kx).ownBlock = some j → p + 1 ≤ j := fun j hj => (hrow.lt j hj).1
        have mixed : Try.prog.follows .mixedOrders = true := by kernel_rfl
        obtain ⟨KA, BA⟩ := blk_1 55 wr #[.string (ad s.attrs k).name, .slice y1 (ad s.attrs k).cuts.length z1, .slice y2 (ad s.attrs k).vals.length z2]
        have bD : Below wr.heap.size wr (wr.alloc (.cells #[.string (ad s.attrs k).name, .slice y1 (ad s.attrs k).cuts.length z1, .slice y2 (ad s.attrs k).vals.length z2] 55)).drew := BA.drew
        have hS : Blk 31 (wr.alloc (.cells #[.string (ad s.attrs k).name, .slice y1 (ad s.attrs k).cuts.length z1, .slice y2 (ad s.attrs k).vals.length z2] 55)).drew p #[.slice (some ⟨v1, 0, none⟩) m m, .slice ox k kx] ∧ Blk 27 (wr.alloc (.cells #[.string (ad s.attrs k).name, .slice y1 (ad s.attrs k).cuts.length z1, .slice y2 (ad s.attrs k).vals.length z2] 55)).drew w.heap.size #[.slice (some ⟨ga, fa, none⟩) s.attrs.length ka, .slice oc m kc] ∧ Blk 55 (wr.alloc (.cells #[.string (ad s.attrs k).name, .slice y1 (ad s.attrs k).cuts.length z1, .slice y2 (ad s.attrs k).vals.length z2] 55)).drew wr.heap.size #[.string (ad s.attrs k).name, .slice y1 (ad s.attrs k).cuts.length z1, .slice y2 (ad s.attrs k).vals.length z2] := ⟨RX.below bD, R1.below bD, KA⟩
        have e1 := implBins_any (.agg #[.string (ad s.attrs k).name, .slice y1 (ad s.attrs k).cuts.length z1, .slice y2 (ad s.attrs k).vals.length z2]) (ad s.attrs k) (wr.alloc (.cells #[.string (ad s.attrs k).name, .slice y1 (ad s.attrs k).cuts.length z1, .slice y2 (ad s.attrs k).vals.length z2] 55)).drew ⟨_, _, rfl, (r1.later bD), (r2.later bD)⟩ (HO.out.each _ (ad_mem hlt))
        rw [hbn] at e1
        have rd : (wr.alloc (.cells #[.string (ad s.attrs k).name, .slice y1 (ad s.attrs k).cuts.length z1, .slice y2 (ad s.attrs k).vals.length z2] 55)).drew.ownsRow (p + 1) 28 1 (.slice ox k kx) k ys := own_below hrow bD
        have dn : DoneII (wr.alloc (.cells #[.string (ad s.attrs k).name, .slice y1 (ad s.attrs k).cuts.length z1, .slice y2 (ad s.attrs k).vals.length z2] 55)).drew (p + 1) ys L (newCells s) k := hdone.below bD
        have R2D := Blk.below (w' := (wr.alloc (.cells #[.string (ad s.attrs k).name, .slice y1 (ad s.attrs k).cuts.length z1, .slice y2 (ad s.attrs k).vals.length z2] 55)).drew) R2 bD
        have ownD := own_below (w' := (wr.alloc (.cells #[.string (ad s.attrs k).name, .slice y1 (ad s.attrs k).cuts.length z1, .slice y2 (ad s.attrs k).vals.length z2] 55)).drew) own bD
        have hpr : p + 1 ≤ (wr.alloc (.cells #[.string (ad s.attrs k).name, .slice y1 (ad s.attrs k).cuts.length z1, .slice y2 (ad s.attrs k).vals.length z2] 55)).drew.heap.size := Nat.le_trans RX.lt bD.size
        have hbd : Below w.heap.size w (wr.alloc (.cells #[.string (ad s.attrs k).name, .slice y1 (ad s.attrs k).cuts.length z1, .slice y2 (ad s.attrs k).vals.length z2] 55)).drew := hb.trans (bD.mono hb.size)
        have hv2 : ∀ j, (Value.slice ox k kx).ownBlock = some j → j < wr.heap.size := fun j hj => (hrow.lt j hj).2
        clear hjA hrA r1 r2 R1 R2 own hrow hdone hb RX bD KA BA
        go_wp2
        refine region_L (S := fun W => Blk 31 W p #[.slice (some ⟨v1, 0, none⟩) m m, .slice ox k kx] ∧ Blk 27 W w.heap.size #[.slice (some ⟨ga, fa, none⟩) s.attrs.length ka, .slice oc m kc] ∧ Blk 55 W wr.heap.size #[.string (ad s.attrs k).name, .slice y1 (ad s.attrs k).cuts.length z1, .slice y2 (ad s.attrs k).vals.length z2]) (last := 12) mixed ?_
        generalize (wr.alloc (.cells #[.string (ad s.attrs k).name, .slice y1 (ad s.attrs k).cuts.length z1, .slice y2 (ad s.attrs k).vals.length z2] 55)).drew = w0 at hS e1 rd dn R2D ownD hpr hbd ⊢
        refine firstL 0 (.pointer (some ⟨p, 1, none⟩)) rfl (by kernel_rfl) (by kernel_rfl) (by kernel_rfl) (fun _ _ _ h => h) (by kernel_rfl) (.inl ⟨by rfl, fun w hw => by unfold execOp; go_simp⟩) hS ?_
        try simp only [Act.put, List.setIfInBounds_toArray, List.set_cons_zero, List.set_cons_succ]
        refine firstL 1 (.slice ox k kx) rfl (by kernel_rfl) (by kernel_rfl) (by kernel_rfl) (fun _ _ _ h => h) (by kernel_rfl) (.inl ⟨by rfl, fun w hw => by have h := hw.1.cell 1; unfold execOp; go_simp⟩) hS ?_
        try simp only [Act.put, List.setIfInBounds_toArray, List.set_cons_zero, List.set_cons_succ]
        refine firstL 2 (.agg #[.string (ad s.attrs k).name, .slice y1 (ad s.attrs k).cuts.length z1, .slice y2 (ad s.attrs k).vals.length z2]) rfl (by kernel_rfl) (by kernel_rfl) (by kernel_rfl) (fun _ _ _ h => h) (by kernel_rfl) (yields_row Try.underlying55 (by kernel_rfl) (by rfl) _ rfl _ rfl (fun _ h => h.2.2)) hS ?_
        try simp only [Act.put, List.setIfInBounds_toArray, List.set_cons_zero, List.set_cons_succ]
        refine firstL 4 (.pointer (some ⟨w.heap.size, 1, none⟩)) rfl (by kernel_rfl) (by kernel_rfl) (by kernel_rfl) (fun _ _ _ h => h) (by kernel_rfl) (.inl ⟨by rfl, fun w hw => by unfold execOp; go_simp⟩) hS ?_
        try simp only [Act.put, List.setIfInBounds_toArray, List.set_cons_zero, List.set_cons_succ]
        refine firstL 5 (.slice oc m kc) rfl (by kernel_rfl) (by kernel_rfl) (by kernel_rfl) (fun _ _ _ h => h) (by kernel_rfl) (.inl ⟨by rfl, fun w hw => by have h := hw.2.1.cell 1; unfold execOp; go_simp⟩) hS ?_
        try simp only [Act.put, List.setIfInBounds_toArray, List.set_cons_zero, List.set_cons_succ]
        refine firstL 6 (.int .i64 (m : Int)) rfl (by kernel_rfl) (by kernel_rfl) (by kernel_rfl) (fun _ _ _ h => h) (by kernel_rfl) (.inl ⟨by rfl, fun w hw => by unfold execOp; go_simp⟩) hS ?_
        try simp only [Act.put, List.setIfInBounds_toArray, List.set_cons_zero, List.set_cons_succ]
        refine stepL 3 rfl (by kernel_rfl) (by rfl) fun K hK => ?_
        go_simp
        refine e1.mono ?_
        clear e1
        rintro e w2 ⟨rfl, hb2⟩
        have b2 := hbd.trans (hb2.mono hbd.size)
        replace hS : Blk 31 w2 p #[.slice (some ⟨v1, 0, none⟩) m m, .slice ox k kx] ∧ Blk 27 w2 w.heap.size #[.slice (some ⟨ga, fa, none⟩) s.attrs.length ka, .slice oc m kc] ∧ Blk 55 w2 wr.heap.size #[.string (ad s.attrs k).name, .slice y1 (ad s.attrs k).cuts.length z1, .slice y2 (ad s.attrs k).vals.length z2] := ⟨hS.1.below hb2, hS.2.1.below hb2, hS.2.2.below hb2⟩
        refine hK _ _ hS ?_
        clear hK K
        try simp only [Act.put, List.setIfInBounds_toArray, List.set_cons_zero, List.set_cons_succ]
        refine firstL 7 (.int .i64 (IntKind.i64.wrap ((nb : Int) * (m : Int)))) rfl (by kernel_rfl) (by kernel_rfl) (by kernel_rfl) (fun _ _ _ h => h) (by kernel_rfl) (.inl ⟨by rfl, fun w hw => by unfold execOp; go_simp⟩) hS ?_
        try simp only [Act.put, List.setIfInBounds_toArray, List.set_cons_zero, List.set_cons_succ]
        have hp2 : p + 1 ≤ w2.heap.size := Nat.le_trans hpr hb2.size
        have b3 := b2.alloc b2.size (.cells Z 3)
        refine stepL 8 rfl (by kernel_rfl) (by rfl) fun K hK => ?_
        go_simp
        replace hS : Blk 31 (w2.alloc (.cells Z 3)) p #[.slice (some ⟨v1, 0, none⟩) m m, .slice ox k kx] ∧ Blk 27 (w2.alloc (.cells Z 3)) w.heap.size #[.slice (some ⟨ga, fa, none⟩) s.attrs.length ka, .slice oc m kc] ∧ Blk 55 (w2.alloc (.cells Z 3)) wr.heap.size #[.string (ad s.attrs k).name, .slice y1 (ad s.attrs k).cuts.length z1, .slice y2 (ad s.attrs k).vals.length z2] := ⟨hS.1.alloc _, hS.2.1.alloc _, hS.2.2.alloc _⟩
        refine hK _ _ hS ?_
        clear hK K
        try simp only [Act.put, List.setIfInBounds_toArray, List.set_cons_zero, List.set_cons_succ]
        have b3a := b3.alloc b3.size (.cells #[.slice (some ⟨w2.heap.size, 0, none⟩) (nb * m) (nb * m)] 28)
        have X3 := hS.1
        refine stepL 9 rfl (by kernel_rfl) (by rfl) fun K hK => ?_
        go_simp
        replace hS : Blk 31 ((w2.alloc (.cells Z 3)).alloc (.cells #[.slice (some ⟨w2.heap.size, 0, none⟩) (nb * m) (nb * m)] 28)) p #[.slice (some ⟨v1, 0, none⟩) m m, .slice ox k kx] ∧ Blk 27 ((w2.alloc (.cells Z 3)).alloc (.cells #[.slice (some ⟨w2.heap.size, 0, none⟩) (nb * m) (nb * m)] 28)) w.heap.size #[.slice (some ⟨ga, fa, none⟩) s.attrs.length ka, .slice oc m kc] ∧ Blk 55 ((w2.alloc (.cells Z 3)).alloc (.cells #[.slice (some ⟨w2.heap.size, 0, none⟩) (nb * m) (nb * m)] 28)) wr.heap.size #[.string (ad s.attrs k).name, .slice y1 (ad s.attrs k).cuts.length z1, .slice y2 (ad s.attrs k).vals.length z2] := ⟨hS.1.alloc _, hS.2.1.alloc _, hS.2.2.alloc _⟩
        refine hK _ _ hS ?_
        clear hK K
        try simp only [Act.put, List.setIfInBounds_toArray, List.set_cons_zero, List.set_cons_succ]
        have r3 := (own_below rd hb2).alloc (.cells Z 3)
        have hnw := newcV (w2.alloc (.cells Z 3)) (.slice (some ⟨w2.heap.size, 0, none⟩) (nb * m) (nb * m)) 28
        rw [World.size_alloc] at hnw
        refine stepL 10 rfl (by kernel_rfl) (by rfl) fun K hK => ?_
        refine wp_append_own _ _ _ 29 rfl (p + 1) 28 i0 (.slice none 0 0) 1 24 Try.underlying29 hi0 hz0 hz1 hz2 rfl (by decide) _ _ _ rfl (r3.alloc (.cells #[.slice (some ⟨w2.heap.size, 0, none⟩) (nb * m) (nb * m)] 28)) ⟨w2.heap.size + 1, 0, none⟩ 1 1 [.slice (some ⟨w2.heap.size, 0, none⟩) (nb * m) (nb * m)] rfl rfl hnw (by simp [Value.oneCell']) (by unfold maxLen; omega) (by omega) (by simp; omega) ?_
        intro v4 w4 ho hg4 hnil
        obtain ⟨ov, cv, rfl⟩ := own_slice ho
        have hne : ∀ q, q ≤ p → (Value.slice ox k kx).ownBlock ≠ some q := fun q hq e => by have := hvo _ e; omega
        have b4 := b3a.grown hg4 b3a.size (fun j hj => by have := hvo _ hj; omega)
        replace hS : Blk 31 w4 p #[.slice (some ⟨v1, 0, none⟩) m m, .slice ox k kx] ∧ Blk 27 w4 w.heap.size #[.slice (some ⟨ga, fa, none⟩) s.attrs.length ka, .slice oc m kc] ∧ Blk 55 w4 wr.heap.size #[.string (ad s.attrs k).name, .slice y1 (ad s.attrs k).cuts.length z1, .slice y2 (ad s.attrs k).vals.length z2] := ⟨hS.1.kept hg4 (hne _ (Nat.le_refl _)), hS.2.1.kept hg4 (hne _ (by omega)), hS.2.2.kept hg4 (fun e => by have := hv2 _ e; omega)⟩
        refine hK _ _ hS ?_
        clear hK K
        try simp only [Act.put, List.setIfInBounds_toArray, List.set_cons_zero, List.set_cons_succ]
        refine firstL 11 (.pointer (some ⟨p, 1, none⟩)) rfl (by kernel_rfl) (by kernel_rfl) (by kernel_rfl) (fun _ _ _ h => h) (by kernel_rfl) (.inl ⟨by rfl, fun w hw => by unfold execOp; go_simp⟩) hS ?_
        try simp only [Act.put, List.setIfInBounds_toArray, List.set_cons_zero, List.set_cons_succ]
        have a4 : w4.cell? ⟨p, 1, none⟩ = some (.slice ox k kx) := hS.1.cell 1
        have f4 := hS.1.frozen 1
        refine lastL rfl (by kernel_rfl) (by kernel_rfl) (by rfl) ?_
        go_simp
        have XF := hS.1.setCell 1 (.slice ov (k + 1) cv)
        have rA := r3.alloc (.cells #[.slice (some ⟨w2.heap.size, 0, none⟩) (nb * m) (nb * m)] 28)
        have hb3 : Below w2.heap.size w2 (w2.alloc (.cells Z 3)) := (Below.refl _ _).alloc (Nat.le_refl _) _
        have hb23 := hb2.trans (hb3.mono hb2.size)
        have q3 := HZO.out w2 w2.heap.size (Nat.le_refl _)
        have q3' : (w2.alloc (.cells Z 3)).ownsRow w2.heap.size 3 1 (.slice (some ⟨w2.heap.size, 0, none⟩) (nb * m) (nb * m)) (il (newCells s) k).length ((il (newCells s) k).map (Value.int .i64)) := by rw [HAT.out, List.length_replicate]; exact q3
        have DS := ((dn.below hb23).snoc (B := w2.heap.size) hyl (fun j hj a ha => Nat.lt_of_lt_of_le (dn.lt j hj a ha) hb2.size) q3' hp2).alloc (.cells #[.slice (some ⟨w2.heap.size, 0, none⟩) (nb * m) (nb * m)] 28)
        have DF := (DS.keptRow rA hg4).setCellN (p := p) (q := 1) hS.1 (by decide) (.slice ov (k + 1) cv)
        have b5 : Below w.heap.size w (w4.setCell ⟨p, 1, none⟩ (.slice ov (k + 1) cv)) := b4.setCell (p := ⟨p, 1, none⟩) (by simp; omega) _
        have R1G := hS.2.1.setCell_other ⟨p, 1, none⟩ (.slice ov (k + 1) cv) (by simp; omega)
        have R2G := (((R2D.below hb23).alloc (.cells #[.slice (some ⟨w2.heap.size, 0, none⟩) (nb * m) (nb * m)] 28)).kept hg4 (hne _ (by omega))).setCell_other ⟨p, 1, none⟩ (.slice ov (k + 1) cv) (by simp; omega)
        have ownA := (own_below ownD hb23).alloc (.cells #[.slice (some ⟨w2.heap.size, 0, none⟩) (nb * m) (nb * m)] 28)
        have own3 := ownA.kept hg4 (apart_ty ownA rA (by decide))
        have ownG := own_setCellN own3 p 1 (.slice ov (k + 1) cv) (own_ne_blk own3 hS.1 (by decide))
        have rowG := own_setCellN ho p 1 (.slice ov (k + 1) cv) (own_ne_blk ho hS.1 (by decide))
        clear hS j0 p0 p1 p2 hvo hv2 hne rd hpr hbd hb2 hb3 b2 b3 b3a b4 hmk hnw X3 r3 hg4 hnil a4 f4 rA hb23 q3 q3' DS ownA own3 ho dn R2D ownD
        go_wp2
        go_roundw
        case rel => exact ⟨k + 1, _, _, _, by go_num, by omega, by simp; omega, R1G, R2G, XF, ownG, rowG, DF, b5⟩
        case measure => simp [intOf]; omega
      · obtain rfl : k = s.attrs.length := by omega
        go_wp2_with (first
          | (with_reducible refine wp_st_load rfl _ rfl ?_; refine ⟨p, rfl, _, _, RX, ?_⟩)
          | (with_reducible refine wp_st_store rfl _ _ rfl ?_; refine ⟨w.heap.size + 1, rfl, _, _, _, _, _, _, rfl, _, _, R2, ?_⟩)
          | go_in)
        have hcl := newCells_len s
        have hf1 := own_setRowN (w := wr) own (w.heap.size + 1) #[.slice (some ⟨v1, 0, none⟩) m m, .slice ox s.attrs.length kx] (own_ne_blk own R2 (by decide))
        have hf2 := own_setRowN (w := wr) hrow (w.heap.size + 1) #[.slice (some ⟨v1, 0, none⟩) m m, .slice ox s.attrs.length kx] (own_ne_blk hrow R2 (by decide))
        have hf3 := hdone.setRowN R2 (by decide) #[.slice (some ⟨v1, 0, none⟩) m m, .slice ox s.attrs.length kx]
        refine bodyPost_ret (res_st Try.results34 _ _ _ _ _ rfl (R2.setRow _)) rfl ⟨_, rfl, ?_, below_row hb (by omega) _⟩
        rw [HE.out]
        refine ownSt_mk (B := p + 1) (ys := ys) (L := L) ?_ (fun a ha => by simp [Value.ownBlock] at ha; omega) ?_ ?_ (by omega)
        · show World.ownsRow _ _ _ _ _ (List.replicate s.classes.length (0 : Int)).length ((List.replicate s.classes.length (0 : Int)).map _)
          rw [List.length_replicate, ← HM.out]; exact hf1
        · show World.ownsRow _ _ _ _ _ (newCells s).length _
          rw [hcl]; exact hf2
        · show DoneII _ _ _ _ (newCells s) (newCells s).length
          rw [hcl]; exact hf3
end Go.Proofs.Ytobimpgapfecoaa
/- How many bins an attribute has, by the specification. -/
namespace Go.Proofs.Ytobimpgapfecoaa
open Go.RowKit
set_option maxRecDepth 100000
set_option maxHeartbeats 400000 in
theorem specBins_any (v : Value) (a : AttrD) (w : World) (h : AttrAt w v a) (hn : okA a) :
    Calls Try.prog 27 #[v] w fun e w' => e = .returned (.int .i64 (bins a)) ∧ Below w.heap.size w w' := by
  have c := fun W (hW : Below w.heap.size w W) => specAttrOk_any v a W (h.later hW) hn
  have lc := hn.cuts
  have lv := hn.vals.1
  obtain ⟨vc, vv, rfl, hc, hv⟩ := h
  obtain ⟨oc, cc, rfl, hcc, hcr⟩ := hc
  obtain ⟨ov, cv, rfl, hvc, hvr⟩ := hv
  clear hcr hvr hn
  have HB : Hid (∀ o, Below w.heap.size w (w.alloc o)) := fun o => (Below.refl _ _).alloc (Nat.le_refl _) _
  cases hok : attrOk a with
  | false =>
    have HF : Hid (bins a = 0) := by unfold bins; rw [hok]; rfl
    rw [hok] at c
    clear hok
    go_enter Try.func27, Try.ntmps27
    go_wp2_with fail
    refine (c _ (HB.out _)).mono ?_
    rintro e w1 ⟨rfl, hb1⟩
    go_wp2
    go_ret
    exact ⟨by rw [HF.out]; rfl, (HB.out _).trans (hb1.mono (by simp))⟩
  | true =>
    rw [hok] at c
    have hkind := ok_kind hok
    by_cases h0 : 0 < a.cuts.length
    · have HF : Hid (bins a = a.cuts.length + 1) := by unfold bins; rw [hok, if_pos rfl, if_pos (by omega)]; rfl
      clear hok hkind
      go_enter Try.func27, Try.ntmps27
      go_wp2_with fail
      refine (c _ (HB.out _)).mono ?_
      rintro e w1 ⟨rfl, hb1⟩
      have K := (Blk.new _ _ _).below hb1
      have B1 := (HB.out _).trans (hb1.mono (by simp))
      have k1 : w1.cell? ⟨w.heap.size, 1, none⟩ = some (.slice oc a.cuts.length cc) := K.cell 1
      have k2 : w1.cell? ⟨w.heap.size, 2, none⟩ = some (.slice ov a.vals.length cv) := K.cell 2
      clear c hb1 K
      go_wp2
      go_ret
      exact ⟨by rw [HF.out]; first | rfl | (congr 1; go_num), B1⟩
    · have HF : Hid (bins a = a.vals.length) := by unfold bins; rw [hok, if_pos rfl, if_neg (by omega)]; rfl
      clear hok hkind
      go_enter Try.func27, Try.ntmps27
      go_wp2_with fail
      refine (c _ (HB.out _)).mono ?_
      rintro e w1 ⟨rfl, hb1⟩
      have K := (Blk.new _ _ _).below hb1
      have B1 := (HB.out _).trans (hb1.mono (by simp))
      have k1 : w1.cell? ⟨w.heap.size, 1, none⟩ = some (.slice oc a.cuts.length cc) := K.cell 1
      have k2 : w1.cell? ⟨w.heap.size, 2, none⟩ = some (.slice ov a.vals.length cv) := K.cell 2
      clear c hb1 K
      go_wp2
      go_ret
      exact ⟨by rw [HF.out]; rfl, B1⟩
end Go.Proofs.Ytobimpgapfecoaa
