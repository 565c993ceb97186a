/- Texts of this claim, put together: part 28. -/
import Derived.Test.YtobimpgapfecoaaFnAnyOrderPack15
import Derived.Test.YtobimpgapfecoaaFnAnyOrderPack3
import Derived.Test.YtobimpgapfecoaaFnAnyOrderPack26
import Derived.Test.YtobimpgapfecoaaFnAnyOrderPack27
import Derived.Test.YtobimpgapfecoaaFnAnyOrderPack4
import Derived.Test.YtobimpgapfecoaaFnAnyOrderPack16
import Derived.Test.YtobimpgapfecoaaFnAnyOrderPack18
import Derived.Lib.QuietBelow
import Derived.BigQuiet
import Derived.Test.YtobimpgapfecoaaFnAnyOrderPack7
import Derived.Test.YtobimpgapfecoaaFnAnyOrderPack23
/- How many bins an attribute has, by the program and by the specification. -/
namespace Go.Proofs.Ytobimpgapfecoaa
open Go.RowKit
set_option maxRecDepth 100000

set_option maxHeartbeats 400000 in
theorem implBins_any (v : Value) (a : AttrD) (w : World) (h : AttrAt w v a) (hn : okA a) :
    Calls Try.prog 69 #[v] w fun e w' => e = .returned (.int .i64 (bins a)) ∧ Below w.heap.size w w' := by
  have c := fun W (hW : Below w.heap.size w W) => implAttrOk_any v a W (h.later hW) hn
  have c' := fun W (hW : Below w.heap.size w W) => nominal_any v a W (h.later hW)
  have lc := hn.cuts
  have lv := hn.vals.1
  obtain ⟨vc, vv, rfl, hc, hv⟩ := h
  obtain ⟨oc, cc, rfl, hcc, hcr⟩ := hc
  obtain ⟨ov, cv, rfl, hvc, hvr⟩ := hv
  clear hcr hvr hn
  have B0 : ∀ o, Below w.heap.size w (w.alloc o) := fun o => (Below.refl _ _).alloc (Nat.le_refl _) _
  have HB : Hid (∀ o, Below w.heap.size w (w.alloc o)) := B0
  clear B0
  cases hok : attrOk a with
  | false =>
    have HF : Hid (bins a = 0) := by unfold bins; rw [hok]; rfl
    rw [hok] at c
    clear hok c'
    go_enter Try.func69, Try.ntmps69
    go_wp2_with fail
    refine (c _ (HB.out _)).mono ?_
    rintro e w1 ⟨rfl, hb1⟩
    go_wp2
    go_ret
    exact ⟨by rw [HF.out]; rfl, (HB.out _).trans (hb1.mono (by simp))⟩
  | true =>
    rw [hok] at c
    by_cases h0 : 0 < a.vals.length
    · have HF : Hid (bins a = a.vals.length) := by unfold bins; rw [hok, if_pos rfl, if_neg (by omega)]; rfl
      clear hok
      go_enter Try.func69, Try.ntmps69
      go_wp2_with fail
      refine (c _ (HB.out _)).mono ?_
      rintro e w1 ⟨rfl, hb1⟩
      have K := (Blk.new _ _ _).below hb1
      have B1 := (HB.out _).trans (hb1.mono (by simp))
      have k0 : w1.cell? ⟨w.heap.size, 0, none⟩ = some (.string a.name) := K.cell 0
      have k1 : w1.cell? ⟨w.heap.size, 1, none⟩ = some (.slice oc a.cuts.length cc) := K.cell 1
      have k2 : w1.cell? ⟨w.heap.size, 2, none⟩ = some (.slice ov a.vals.length cv) := K.cell 2
      clear c hb1
      go_wp2_with fail
      refine (c' _ B1).mono ?_
      rintro e w2 ⟨rfl, hb2⟩
      have k2 : w2.cell? ⟨w.heap.size, 2, none⟩ = some (.slice ov a.vals.length cv) := (K.below hb2).cell 2
      clear c' K
      rw [decide_eq_true h0]
      go_wp2
      go_ret
      exact ⟨by rw [HF.out]; rfl, B1.trans (hb2.mono B1.size)⟩
    · have HF : Hid (bins a = a.cuts.length + 1) := by unfold bins; rw [hok, if_pos rfl, if_pos (by omega)]; rfl
      clear hok
      go_enter Try.func69, Try.ntmps69
      go_wp2_with fail
      refine (c _ (HB.out _)).mono ?_
      rintro e w1 ⟨rfl, hb1⟩
      have K := (Blk.new _ _ _).below hb1
      have B1 := (HB.out _).trans (hb1.mono (by simp))
      have k0 : w1.cell? ⟨w.heap.size, 0, none⟩ = some (.string a.name) := K.cell 0
      have k1 : w1.cell? ⟨w.heap.size, 1, none⟩ = some (.slice oc a.cuts.length cc) := K.cell 1
      have k2 : w1.cell? ⟨w.heap.size, 2, none⟩ = some (.slice ov a.vals.length cv) := K.cell 2
      clear c hb1
      go_wp2_with fail
      refine (c' _ B1).mono ?_
      rintro e w2 ⟨rfl, hb2⟩
      have k1 : w2.cell? ⟨w.heap.size, 1, none⟩ = some (.slice oc a.cuts.length cc) := (K.below hb2).cell 1
      clear c' K
      rw [decide_eq_false h0]
      go_wp2
      go_ret
      exact ⟨by rw [HF.out]; first | rfl | (congr 1; go_num), B1.trans (hb2.mono B1.size)⟩

end Go.Proofs.Ytobimpgapfecoaa
/- Whether a schema is right, by the program. -/
namespace Go.Proofs.Ytobimpgapfecoaa
open Go.RowKit
set_option maxRecDepth 100000

theorem rel_stepT {w wr w1 : World} {v v' : Value} {done : List ByteArray} {b : ByteArray} {o : Obj} (hs : w.heap.size ≤ wr.heap.size) (hb : Below w.heap.size w wr) (hown : wr.ownsRow w.heap.size 9 1 v done.length (done.map Value.string))
    (hown' : w1.ownsRow w.heap.size 9 1 v' (done.length + 1) (done.map Value.string ++ [.string b])) (hgrow : (wr.alloc o).grownBy w1 v.ownBlock) :
    w1.ownsRow w.heap.size 9 1 v' (done ++ [b]).length ((done ++ [b]).map Value.string) ∧ Below w.heap.size w w1 := by
  refine ⟨by simpa using hown', (hb.alloc hs o).grown hgrow (by simp; omega) fun k hk => (hown.lt k hk).1⟩

set_option maxHeartbeats 1600000 in
theorem implSchemaOk_any (v : Value) (s : SchemaD) (w : World) (h : SchemaAt w v s) (hn : okSch s) :
    Calls Try.prog 58 #[v] w fun e w' => e = .returned (.bool (schemaOk s)) ∧ Below w.heap.size w w' := by
  obtain ⟨i0, hi, hz0, hz1, hz2⟩ := info_parts strInfo
  obtain ⟨va, vc, rfl, ha, hc⟩ := h
  obtain ⟨oa, ca, rfl, hca, har⟩ := id ha
  obtain ⟨oc, cc, rfl, hcc, hcr⟩ := id hc
  have HAR : Hid (RowA w (.slice oa s.attrs.length ca) s.attrs) := ha
  have HCR : Hid (RowS w (.slice oc s.classes.length cc) s.classes) := hc
  have HO : Hid (okSch s) := hn
  have la := hn.attrs
  clear ha hc har hcr hn
  by_cases h1 : (s.attrs.length : Int) < 1
  · have HF : Hid (schemaOk s = false) := by unfold schemaOk; rw [decide_eq_false (by omega)]; rfl
    go_enter Try.func58, Try.ntmps58
    go_wp2
    go_ret
    exact ⟨by rw [HF.out]; rfl, (Below.refl _ _).alloc (Nat.le_refl _) _⟩
  by_cases h5 : (s.attrs.length : Int) ≤ 5
  rotate_left
  · have HF : Hid (schemaOk s = false) := by unfold schemaOk; rw [decide_eq_false (by omega)]; rfl
    go_enter Try.func58, Try.ntmps58
    go_wp2
    go_ret
    exact ⟨by rw [HF.out]; rfl, (Below.refl _ _).alloc (Nat.le_refl _) _⟩
  have HW : Hid (schemaOk s = (choices s.classes 3 && attrsOk s.attrs)) := by unfold schemaOk; rw [decide_eq_true (by omega)]; rfl
  obtain ⟨ls, has⟩ : ∃ ls, s.attrs = ls := ⟨_, rfl⟩
  obtain ⟨g, o, rfl, hg, hj⟩ : ∃ g o, oa = some ⟨g, o, none⟩ ∧ g < w.heap.size ∧ ∀ j, j < ls.length → CellsA w g (o + j * 3) (ad ls j) := by
    obtain ⟨oa', cap', e, _, hr⟩ := HAR.out
    obtain ⟨g, o, e', hg, hj⟩ := hr (by omega)
    injection e with e1 e2 e3
    exact ⟨g, o, by rw [e1, e'], hg, by rw [← has]; exact hj⟩
  have HJ : Hid (∀ j, j < ls.length → CellsA w g (o + j * 3) (ad ls j)) := hj
  have HE : Hid (∀ j, j < ls.length → okA (ad ls j)) := fun j hj => HO.out.each _ (by rw [has]; exact ad_mem hj)
  rw [has] at h1 h5 la hca
  have HAS : Hid (s.attrs = ls) := has
  clear hj HAR
  go_enter Try.func58, Try.ntmps58
  rw [has]
  clear has
  go_wp2
  go_loopw [3, 5, 19] (fun v _ i wr => ∃ k : Nat, i = .int .i64 k ∧ k ≤ ls.length ∧ (∀ j, j < k → attrAt ls j = true) ∧ wr.ownsRow (w.heap.size + 1) 9 1 v k ((nmsB ls k).map Value.string) ∧
      Blk 27 wr w.heap.size #[.slice (some ⟨g, o, none⟩) ls.length ca, .slice oc s.classes.length cc] ∧ Below w.heap.size w wr) (fun _ _ i _ => ls.length - (intOf i).toNat)
  case atStart =>
    refine ⟨0, rfl, by omega, by omega, ?_, Blk.new _ _ _, (Below.refl _ _).alloc (Nat.le_refl _) _⟩
    exact ⟨by simp [nmsB], .inl ⟨rfl, rfl⟩⟩
  case round =>
    obtain ⟨k, rfl, hk, hal, hown, hblk, hb⟩ := hrel
    have HA : Hid (∀ j, j < k → attrAt ls j = true) := hal
    have HB : Hid (Blk 27 wr w.heap.size #[.slice (some ⟨g, o, none⟩) ls.length ca, .slice oc s.classes.length cc]) := hblk
    clear hal hblk
    by_cases hlt : k < ls.length
    · have HOW := hown
      obtain ⟨vc, vv, q0, q1, q2, r1, r2⟩ := (HJ.out k hlt).later hb hg
      obtain ⟨o1, c1, rfl, -, -⟩ := id r1
      obtain ⟨o2, c2, rfl, -, -⟩ := id r2
      have HX : Hid (AttrAt wr (.agg #[.string (ad ls k).name, .slice o1 (ad ls k).cuts.length c1, .slice o2 (ad ls k).vals.length c2]) (ad ls k)) := ⟨_, _, rfl, r1, r2⟩
      have hok := HE.out k hlt
      have HK : Hid (okA (ad ls k)) := hok
      clear r1 r2 hok
      obtain ⟨K, B0⟩ := blk_1 55 wr #[.string (ad ls k).name, .slice o1 (ad ls k).cuts.length c1, .slice o2 (ad ls k).vals.length c2]
      have c := implAttrOk_any _ (ad ls k) _ (HX.out.later B0) HK.out
      cases hw : attrOk (ad ls k) with
      | false =>
        have HF : Hid (attrsOk ls = false) := attrs_no k hlt (attrAt_no1 hw)
        rw [hw] at c
        clear hw
        go_wp2_with fail
        refine c.mono ?_
        rintro e w1 ⟨rfl, hb1⟩
        clear c
        go_wp2
        go_ret
        refine ⟨by rw [HW.out, HAS.out, HF.out, Bool.and_false]; rfl, (hb.trans (B0.mono hb.size)).trans (hb1.mono ?_)⟩
        have := hb.size
        simp; omega
      | true =>
        have HWK : Hid (attrOk (ad ls k) = true) := hw
        rw [hw] at c
        clear hw
        go_wp2_with fail
        refine c.mono ?_
        rintro e w1 ⟨rfl, hb1⟩
        clear c
        have B1 := B0.trans (hb1.mono (by simp))
        have hb2 := hb.trans (B1.mono hb.size)
        have hown1 := own_below hown B1
        have kn : w1.cell? ⟨wr.heap.size, 0, none⟩ = some (.string (ad ls k).name) := (K.below hb1).cell 0
        have HB1 : Hid (Blk 27 w1 w.heap.size #[.slice (some ⟨g, o, none⟩) ls.length ca, .slice oc s.classes.length cc]) := HB.out.below B1
        have HKB : Hid (Blk 55 w1 wr.heap.size #[.string (ad ls k).name, .slice o1 (ad ls k).cuts.length c1, .slice o2 (ad ls k).vals.length c2]) := K.below hb1
        clear K B0 B1 hb1 q0 q1 q2 hown HOW
        have c2 := contains_any _ (nmsB ls k) (ad ls k).name w1 (RowS.of_own hown1 (nmsB_len hk)) (by rw [nmsB_len hk]; omega)
        cases ht : hasT (nmsB ls k) (ad ls k).name with
        | true =>
          have HF : Hid (attrsOk ls = false) := attrs_no k hlt (attrAt_no2 ht)
          rw [ht] at c2
          clear ht
          go_wp2_with fail
          refine c2.mono ?_
          rintro e w2 ⟨rfl, hb3⟩
          clear c2
          go_wp2
          go_ret
          exact ⟨by rw [HW.out, HAS.out, HF.out, Bool.and_false]; rfl, hb2.trans (hb3.mono hb2.size)⟩
        | false =>
          have HF : Hid (attrAt ls k = true) := attrAt_yes HWK.out ht
          rw [ht] at c2
          clear ht
          go_wp2_with fail
          refine c2.mono ?_
          rintro e w2 ⟨rfl, hb3⟩
          clear c2 kn
          have kn : w2.cell? ⟨wr.heap.size, 0, none⟩ = some (.string (ad ls k).name) := (HKB.out.below hb3).cell 0
          have hb4 := hb2.trans (hb3.mono hb2.size)
          have hown2 := own_below hown1 hb3
          have HB2 : Hid (Blk 27 w2 w.heap.size #[.slice (some ⟨g, o, none⟩) ls.length ca, .slice oc s.classes.length cc]) := HB1.out.below hb3
          have HSZ : Hid (Below w.heap.size w w2) := hb4
          have hsz2 := hb4.size
          have HLT := HB2.out.lt
          clear hb2 hb3 hown1 hb HB HB1 HKB
          have HNM : Hid (nmsB ls (k + 1) = nmsB ls k ++ [(ad ls k).name]) := nmsB_succ hlt
          have HNL : Hid ((nmsB ls k).length = k) := nmsB_len hk
          generalize (ad ls k).name = nm at kn HNM
          go_wp2_with (at_builtin; refine wpList_append_own _ rfl _ _ 25 rfl (w.heap.size + 1) 9 i0 (.string ⟨#[]⟩) 1 16 Try.underlying25 hi hz0 hz1 hz2 rfl (by decide) _ _ _ rfl (hown2.alloc _) ⟨w2.heap.size, 0, none⟩ 1 1 [_] rfl rfl (newc _ _ _) ?d2 ?d3 ?d4 ?d5 ?_)
          case d2 => intro u hu; simp at hu; subst hu; rfl
          case d3 => unfold maxLen; omega
          case d4 => omega
          case d5 => simp; omega
          intro v' w3 hown' hgrow _
          have R : w3.ownsRow (w.heap.size + 1) 9 1 v' (k + 1) ((nmsB ls (k + 1)).map Value.string) := by rw [HNM.out]; simpa using hown'
          have BL : Blk 27 w3 w.heap.size #[.slice (some ⟨g, o, none⟩) ls.length ca, .slice oc s.classes.length cc] := by
            refine Blk.kept (HB2.out.alloc _) hgrow (fun e => ?_)
            have := (hown2.lt _ e).1; omega
          have BB : Below w.heap.size w w3 := (HSZ.out.alloc hsz2 _).grown hgrow (by simp; omega) fun j hj => by have := (hown2.lt j hj).1; omega
          clear hown' hgrow hown2
          go_wp2
          go_roundw
          case rel =>
            refine ⟨k + 1, by go_num, by omega, ?_, R, BL, BB⟩
            intro j hj
            by_cases e : j = k
            · subst e; exact HF.out
            · exact HA.out j (by omega)
          case measure => simp [intOf]; omega
    · have HF : Hid (attrsOk ls = true) := attrs_yes fun j hj => HA.out j (by omega)
      have kc : wr.cell? ⟨w.heap.size, 1, none⟩ = some (.slice oc s.classes.length cc) := HB.out.cell 1
      have c := implChoices_any _ s.classes 3 wr (HCR.out.later hb) HO.out.classes
      clear hown
      go_wp2_with fail
      refine c.mono ?_
      rintro e w1 ⟨rfl, hb1⟩
      clear c
      go_wp2
      go_ret
      exact ⟨by rw [HW.out, HAS.out, HF.out, Bool.and_true]; rfl, hb.trans (hb1.mono hb.size)⟩
end Go.Proofs.Ytobimpgapfecoaa
/- Whether an example is right, by the program. -/
namespace Go.Proofs.Ytobimpgapfecoaa
open Go.RowKit
set_option maxRecDepth 100000
set_option linter.unusedSimpArgs false
set_option maxHeartbeats 3200000 in
theorem implExOk_any (vs ve : Value) (s : SchemaD) (e : ExD) (w : World) (hs : SchemaAt w vs s) (he : ExAt w ve e) (hn : okSch s) (hb : e.bins.length ≤ 1099511627776) :
    Calls Try.prog 50 #[vs, ve] w fun r w' => r = .returned (.bool (exOk s e)) ∧ Below w.heap.size w w' := by
  have mixed : Try.prog.follows .mixedOrders = true := by kernel_rfl
  have HS : Hid (∀ W, Below w.heap.size w W → SchemaAt W vs s) := fun W h => hs.later h
  have HEX : Hid (∀ W, Below w.heap.size w W → ExAt W ve e) := fun W h => he.later h
  have HOK : Hid (okSch s) := hn
  obtain ⟨va, vc, rfl, ra, rc⟩ := hs
  obtain ⟨oa, ka, rfl, -, -⟩ := id ra
  obtain ⟨oc, kc, rfl, -, -⟩ := id rc
  obtain ⟨vb, rfl, rb⟩ := he
  obtain ⟨ob, kb, rfl, -, -⟩ := id rb
  have la := hn.attrs
  have lc := hn.classes.1
  clear ra rc rb hn
  have B0 : Below w.heap.size w ((w.alloc (.cells #[.slice oa s.attrs.length ka, .slice oc s.classes.length kc] 27)).alloc (.cells #[.slice ob e.bins.length kb, .int .i64 e.cls] 33)) := ((Below.refl _ _).alloc (Nat.le_refl _) _).alloc (by simp) _
  have K1 := (Blk.new 27 w #[.slice oa s.attrs.length ka, .slice oc s.classes.length kc]).alloc (.cells #[.slice ob e.bins.length kb, .int .i64 e.cls] 33)
  have K2 : Blk 33 ((w.alloc (.cells #[.slice oa s.attrs.length ka, .slice oc s.classes.length kc] 27)).alloc (.cells #[.slice ob e.bins.length kb, .int .i64 e.cls] 33)) (w.heap.size + 1) #[.slice ob e.bins.length kb, .int .i64 e.cls] := by
    have := Blk.new 33 (w.alloc (.cells #[.slice oa s.attrs.length ka, .slice oc s.classes.length kc] 27)) #[.slice ob e.bins.length kb, .int .i64 e.cls]
    rwa [show (w.alloc (.cells #[.slice oa s.attrs.length ka, .slice oc s.classes.length kc] 27)).heap.size = w.heap.size + 1 by simp] at this
  have e1 := implSchemaOk_any _ s _ (HS.out _ B0) HOK.out
  cases hk : schemaOk s with
  | false =>
    have HE : Hid (exOk s e = false) := by unfold exOk; rw [hk]; rfl
    rw [hk] at e1
    clear hk K1 K2
    go_enter Try.func50, Try.ntmps50
    go_wp2_with fail
    refine e1.mono ?_
    clear e1
    rintro r w1 ⟨rfl, hb1⟩
    go_wp2
    go_ret
    exact ⟨by rw [HE.out]; rfl, B0.trans (hb1.mono (by simp; omega))⟩
  | true =>
    have HX : Hid (exOk s e = (decide (e.bins.length = s.attrs.length) && (decide (-1 ≤ e.cls ∧ e.cls ≤ (s.classes.length : Int) - 1) && binsRight s e))) := by unfold exOk; rw [hk]; rfl
    rw [hk] at e1
    clear hk
    go_enter Try.func50, Try.ntmps50
    go_wp2_with fail
    refine e1.mono ?_
    clear e1
    rintro r w1 ⟨rfl, hb1⟩
    have B1 := B0.trans (hb1.mono (by simp; omega))
    replace K1 := K1.below hb1
    replace K2 := K2.below hb1
    have p0 : w1.cell? ⟨w.heap.size, 0, none⟩ = some (.slice oa s.attrs.length ka) := K1.cell 0
    have p1 : w1.cell? ⟨w.heap.size, 1, none⟩ = some (.slice oc s.classes.length kc) := K1.cell 1
    have q0 : w1.cell? ⟨w.heap.size + 1, 0, none⟩ = some (.slice ob e.bins.length kb) := K2.cell 0
    have q1 : w1.cell? ⟨w.heap.size + 1, 1, none⟩ = some (.int .i64 e.cls) := K2.cell 1
    clear hb1 B0
    by_cases hl : e.bins.length = s.attrs.length
    rotate_left
    · have HE : Hid (exOk s e = false) := by rw [HX.out, decide_eq_false hl]; rfl
      have hq : ((e.bins.length : Int) != (s.attrs.length : Int)) = true := by rw [bne_iff_ne]; omega
      clear hl
      go_wp2
      go_ret
      exact ⟨by rw [HE.out]; rfl, B1⟩
    have hq : ((e.bins.length : Int) != (s.attrs.length : Int)) = false := by rw [hl]; simp
    have HLEN : Hid (e.bins.length = s.attrs.length) := hl
    have HX2 : Hid (exOk s e = (decide (-1 ≤ e.cls ∧ e.cls ≤ (s.classes.length : Int) - 1) && binsRight s e)) := by rw [HX.out, decide_eq_true hl]; rfl
    clear HX hl
    have HK : Hid (Blk 27 w1 w.heap.size #[.slice oa s.attrs.length ka, .slice oc s.classes.length kc] ∧ Blk 33 w1 (w.heap.size + 1) #[.slice ob e.bins.length kb, .int .i64 e.cls]) := ⟨K1, K2⟩
    clear p1 q1 K1 K2
    go_wp2
    go_loopw [5, 22] (fun _ i wr => ∃ k : Nat, i = .int .i64 k ∧ k ≤ s.attrs.length ∧ Hid (∀ j, j < k → binRight s e j = true) ∧ Below w1.heap.size w1 wr) (fun _ i _ => s.attrs.length - (intOf i).toNat)
    case atStart => exact ⟨0, rfl, by omega, fun j hj => by omega, Below.refl _ _⟩
    case round =>
      obtain ⟨k, rfl, hk, hal, hbr⟩ := hrel
      have hbw := B1.trans (hbr.mono B1.size)
      have j0 : wr.cell? ⟨w.heap.size + 1, 0, none⟩ = some (.slice ob e.bins.length kb) := (HK.out.2.below hbr).cell 0
      by_cases hkA : k < s.attrs.length
      · obtain ⟨va', vc', e', rA, -⟩ := HS.out wr hbw
        cases e'
        obtain ⟨oa', ka', e', -, hrA⟩ := rA
        cases e'
        have hlt : k < e.bins.length := by have := HLEN.out; omega
        obtain ⟨ga, fa, rfl, hga, hjA⟩ := hrA (by omega)
        obtain ⟨x1, x2, c0, c1, c2, r1, r2⟩ := hjA k hkA
        obtain ⟨y1, z1, rfl, -, -⟩ := id r1
        obtain ⟨y2, z2, rfl, -, -⟩ := id r2
        obtain ⟨vb', e', rB⟩ := HEX.out wr hbw
        cases e'
        obtain ⟨ob', kb', e', -, hrB⟩ := rB
        cases e'
        obtain ⟨gb, fb, rfl, hgb, hjB⟩ := hrB (by omega)
        have b0 := hjB k hlt
        have hbl := bins_le (HOK.out.each _ (ad_mem hkA))
        obtain ⟨l0, l1⟩ := hbl
        obtain ⟨KA, BA⟩ := blk_1 55 wr #[.string (ad s.attrs k).name, .slice y1 (ad s.attrs k).cuts.length z1, .slice y2 (ad s.attrs k).vals.length z2]
        obtain ⟨W, hW⟩ : ∃ W, W = wr.alloc (.cells #[.string (ad s.attrs k).name, .slice y1 (ad s.attrs k).cuts.length z1, .slice y2 (ad s.attrs k).vals.length z2] 55) := ⟨_, rfl⟩
        have HW : Hid (W = wr.alloc (.cells #[.string (ad s.attrs k).name, .slice y1 (ad s.attrs k).cuts.length z1, .slice y2 (ad s.attrs k).vals.length z2] 55)) := hW
        rw [← hW] at KA BA
        have cB := fun d os => Calls.regrown_of (implBins_any (.agg #[.string (ad s.attrs k).name, .slice y1 (ad s.attrs k).cuts.length z1, .slice y2 (ad s.attrs k).vals.length z2]) (ad s.attrs k) (Go.Sort.grow (redrawn W d) os) ⟨_, _, rfl, (r1.later BA).later (below_regrown W d os), (r2.later BA).later (below_regrown W d os)⟩ (HOK.out.each _ (ad_mem hkA)))
        have cI := fun d os => regrown_same (placeOk_any (e.bins.getD k 0) (bins (ad s.attrs k)) (Go.Sort.grow (redrawn W d) os))
        have HBT : Hid (-1 ≤ e.bins.getD k 0 ∧ e.bins.getD k 0 ≤ bins (ad s.attrs k) - 1 → binRight s e k = true) := fun h => decide_eq_true h
        have HBF : Hid (¬ (-1 ≤ e.bins.getD k 0 ∧ e.bins.getD k 0 ≤ bins (ad s.attrs k) - 1) → binRight s e k = false) := fun h => decide_eq_false h
        have s0 : W.cell? ⟨wr.heap.size, 0, none⟩ = some (.string (ad s.attrs k).name) := KA.cell 0
        have s1 : W.cell? ⟨wr.heap.size, 1, none⟩ = some (.slice y1 (ad s.attrs k).cuts.length z1) := KA.cell 1
        have s2 : W.cell? ⟨wr.heap.size, 2, none⟩ = some (.slice y2 (ad s.attrs k).vals.length z2) := KA.cell 2
        have d0 := fun d os => cell_regrown s0 d os
        have d1 := fun d os => cell_regrown s1 d os
        have d2 := fun d os => cell_regrown s2 d os
        have f1 := fun d os => cell_regrown ((BA.cell (p := ⟨w.heap.size + 1, 0, none⟩) (HK.out.2.below hbr).lt).trans j0) d os
        have f2 := fun d os => cell_regrown ((BA.cell (p := ⟨gb, fb + k, none⟩) hgb).trans b0) d os
        have HBR : Hid (∀ d os, Below w1.heap.size w1 (Go.Sort.grow (redrawn W d) os)) := fun d os => (hbr.trans (BA.mono hbr.size)).trans ((below_regrown W d os).mono (Nat.le_trans hbr.size BA.size))
        have HBW : Hid (∀ d os, Below w.heap.size w (Go.Sort.grow (redrawn W d) os)) := fun d os => (hbw.trans (BA.mono hbw.size)).trans ((below_regrown W d os).mono (Nat.le_trans hbw.size BA.size))
        clear s0 s1 s2 hjA hjB hrA hrB r1 r2 b0 hbr hbw hgb KA BA j0 p0 q0
        generalize e.bins.getD k 0 = zb at cI f2 HBT HBF
        generalize bins (ad s.attrs k) = nb at cB cI l0 l1 HBT HBF
        by_cases hin : -1 ≤ zb ∧ zb ≤ nb - 1
        · have HT : Hid (binRight s e k = true) := HBT.out hin
          rw [decide_eq_true hin] at cI
          clear hin
          go_wp2
          rw [← hW]
          refine wp_region_quiet_below mixed (by kernel_rfl) ?_
          clear hW
          repeat (go_big_quiet_step (first | with_reducible exact cB _ _ | with_reducible exact cI _ _))
          refine wpQuiet_nil ?_
          intro _ hw'
          obtain ⟨⟨dq, osq⟩, hw''⟩ := hw'
          subst hw''
          clear cB cI d0 d1 d2 f1 f2 c0 c1 c2
          go_wp2
          go_roundw
          case rel =>
            refine ⟨k + 1, by go_num, by omega, fun j hj => ?_, HBR.out _ _⟩
            by_cases ej : j = k
            · subst ej; exact HT.out
            · exact hal.out j (by omega)
          case measure => simp [intOf]; omega
        · have HE : Hid (binsRight s e = false) := binsRight_no k hlt (HBF.out hin)
          rw [decide_eq_false hin] at cI
          clear hin
          go_wp2
          rw [← hW]
          refine wp_region_quiet_below mixed (by kernel_rfl) ?_
          clear hW
          repeat (go_big_quiet_step (first | with_reducible exact cB _ _ | with_reducible exact cI _ _))
          refine wpQuiet_nil ?_
          intro _ hw'
          obtain ⟨⟨dq, osq⟩, hw''⟩ := hw'
          subst hw''
          clear cB cI d0 d1 d2 f1 f2 c0 c1 c2
          go_wp2
          go_ret
          exact ⟨by rw [HX2.out, HE.out, Bool.and_false]; rfl, HBW.out _ _⟩
      · have HE : Hid (binsRight s e = true) := binsRight_yes fun j hj => hal.out j (by have := HLEN.out; omega)
        have p1 : wr.cell? ⟨w.heap.size, 1, none⟩ = some (.slice oc s.classes.length kc) := (HK.out.1.below hbr).cell 1
        have q1 : wr.cell? ⟨w.heap.size + 1, 1, none⟩ = some (.int .i64 e.cls) := (HK.out.2.below hbr).cell 1
        have e2 := placeOk_any e.cls (s.classes.length : Int) wr
        generalize decide (-1 ≤ e.cls ∧ e.cls ≤ (s.classes.length : Int) - 1) = D at e2 HX2
        clear p0 q0 j0
        go_wp2_with fail
        refine e2.mono ?_
        clear e2
        rintro r w2 ⟨rfl, e2'⟩
        rw [e2']
        go_wp2
        go_ret
        exact ⟨by rw [HX2.out, HE.out, Bool.and_true]; rfl, hbw⟩
end Go.Proofs.Ytobimpgapfecoaa
/- Cells of one attribute held against the totals, by the program. -/
namespace Go.Proofs.Ytobimpgapfecoaa
open Go.RowKit
set_option maxRecDepth 100000
set_option linter.unusedSimpArgs false
/-- What is left of each class behind k cells. -/
def leftL (c T : List Int) (m k : Nat) : List Int := (List.range m).map fun cls => T.getD cls 0 - part c m cls k
theorem leftL_len (c T : List Int) (m k : Nat) : (leftL c T m k).length = m := by simp [leftL]
theorem leftL_at {c T : List Int} {m k j : Nat} (h : j < m) : (leftL c T m k).getD j 0 = T.getD j 0 - part c m j k := by
  unfold leftL
  rw [List.getD_eq_getElem?_getD, List.getElem?_map, List.getElem?_range h]; rfl
theorem leftL_start {c T : List Int} {m : Nat} (h : T.length = m) : leftL c T m 0 = T := by
  apply List.ext_getElem (by rw [leftL_len, h])
  intro i h1 h2
  have := leftL_at (c := c) (T := T) (k := 0) (show i < m by omega)
  rw [List.getD_eq_getElem?_getD, List.getElem?_eq_getElem h1, List.getD_eq_getElem?_getD, List.getElem?_eq_getElem h2] at this
  simpa [part] using this
theorem leftL_step {c T : List Int} {m k : Nat} (hm : 0 < m) : leftL c T m (k + 1) = (leftL c T m k).set (k % m) ((leftL c T m k).getD (k % m) 0 - c.getD k 0) := by
  have hk : k % m < m := Nat.mod_lt _ hm
  apply List.ext_getElem (by simp [leftL_len])
  intro i h1 h2
  have hi : i < m := by rw [leftL_len] at h1; exact h1
  have e1 := leftL_at (c := c) (T := T) (k := k + 1) hi
  rw [List.getD_eq_getElem?_getD, List.getElem?_eq_getElem h1] at e1
  simp only [Option.getD_some] at e1
  rw [e1, part_succ, List.getElem_set]
  by_cases e : k % m = i
  · rw [if_pos e, if_pos e, e, leftL_at hi]; omega
  · rw [if_neg e, if_neg e]
    have e2 := leftL_at (c := c) (T := T) (k := k) hi
    rw [List.getD_eq_getElem?_getD, List.getElem?_eq_getElem (by rw [leftL_len]; exact hi)] at e2
    simp only [Option.getD_some] at e2
    rw [e2]; omega
set_option maxHeartbeats 1600000 in
theorem cellsWithin_any (vc vT : Value) (c T : List Int) (w : World) (hc : RowI w vc c) (hT : RowI w vT T) (hn : c.length ≤ 1099511627776) (hm : 0 < T.length) (hm2 : T.length ≤ 1048576) (hw : T.all inW = true) :
    Calls Try.prog 101 #[vc, vT] w fun e w' => e = .returned (.bool (withinB c T T.length)) ∧ Below w.heap.size w w' := by
  have cl := listCopy_any vT T w hT (by omega)
  obtain ⟨oc, kc, rfl, hcc, hcr⟩ := hc
  obtain ⟨oT, kT, rfl, -, -⟩ := hT
  have HR : Hid (0 < c.length → ∃ g o, oc = some ⟨g, o, none⟩ ∧ g < w.heap.size ∧ ∀ j, j < c.length → w.cell? ⟨g, o + j, none⟩ = some (.int .i64 (c.getD j 0))) := hcr
  have HW : Hid (T.all inW = true) := hw
  clear hcr hw
  go_enter Try.func101, Try.ntmps101
  go_wp2_with fail
  refine cl.mono ?_
  rintro e w1 ⟨v1, rfl, ho1, hb1⟩
  obtain ⟨g, cp, rfl⟩ : ∃ g cp, v1 = .slice (some ⟨g, 0, none⟩) T.length cp := by
    rcases ho1.2 with ⟨_, e⟩ | ⟨g, cp, cur, rfl, _⟩
    · omega
    · exact ⟨_, _, rfl⟩
  obtain ⟨m, hmm⟩ : ∃ m, m = T.length := ⟨_, rfl⟩
  have HM : Hid (m = T.length) := hmm
  have HO1 : Hid (w1.ownsRow w.heap.size 3 1 (.slice (some ⟨g, 0, none⟩) m cp) m ((leftL c T m 0).map (Value.int .i64))) := by rw [leftL_start hmm.symm, hmm]; exact ho1
  rw [← hmm] at hm hm2 ⊢
  have hgm := (ho1.lt g rfl).2
  have hgb := (ho1.lt g rfl).1
  clear cl ho1 hmm
  go_wp2
  go_loopw [13] (fun i wr => ∃ k : Nat, i = .int .i64 k ∧ k ≤ c.length ∧ Hid (wr.ownsRow w.heap.size 3 1 (.slice (some ⟨g, 0, none⟩) m cp) m ((leftL c T m k).map (Value.int .i64))) ∧ Hid ((∀ j, j < k → inW (c.getD j 0) = true) ∧ ∀ cls, cls < m → 0 ≤ part c m cls k ∧ part c m cls k ≤ T.getD cls 0) ∧ Below w.heap.size w wr) (fun i _ => c.length - (intOf i).toNat)
  case atStart => exact ⟨0, rfl, by omega, HO1, ⟨fun j hj => by omega, fun cls hcls => ⟨Int.le_refl _, (all_at HW.out (by have := HM.out; omega)).1⟩⟩, hb1⟩
  case round =>
    obtain ⟨k, rfl, hk, HOW, HIN, hbr⟩ := hrel
    clear HO1 hb1
    by_cases hlt : k < c.length
    · obtain ⟨gc, o, rfl, hgc, hj⟩ := HR.out (by omega)
      have ha : wr.cell? ⟨gc, o + k, none⟩ = some (.int .i64 (c.getD k 0)) := (hbr.cell (p := ⟨gc, o + k, none⟩) hgc).trans (hj k hlt)
      have hr : k % m < m := Nat.mod_lt _ hm
      have hmod : (k : Int).tmod (m : Int) = ((k % m : Nat) : Int) := rfl
      have hy : wr.cell? ⟨g, k % m, none⟩ = some (.int .i64 ((leftL c T m k).getD (k % m) 0)) := by
        rw [HOW.out.cellAt (k % m) (by omega)]; exact getD_mapI _ _ (by rw [leftL_len]; exact hr)
      have hf : wr.frozen? ⟨g, k % m, none⟩ = false := HOW.out.frozenAt _
      have HY : Hid ((leftL c T m k).getD (k % m) 0 = T.getD (k % m) 0 - part c m (k % m) k) := leftL_at hr
      have hTr := all_at HW.out (show k % m < T.length by have := HM.out; omega)
      have hPr := HIN.out.2 (k % m) hr
      have hy0 : 0 ≤ (leftL c T m k).getD (k % m) 0 ∧ (leftL c T m k).getD (k % m) 0 ≤ 999 := by rw [HY.out]; omega
      have HST := fun u => HOW.out.stored (k % m) u
      have HNeg : Hid (c.getD k 0 < 0 → withinB c T m = false) := fun h => within_neg hlt h
      have HMore : Hid (c.getD k 0 > (leftL c T m k).getD (k % m) 0 → withinB c T m = false) := fun h => within_more hm hlt (by rw [← HY.out]; exact h)
      have HLS : Hid (leftL c T m (k + 1) = (leftL c T m k).set (k % m) ((leftL c T m k).getD (k % m) 0 - c.getD k 0)) := leftL_step hm
      have HLL : Hid ((leftL c T m k).length = m) := leftL_len _ _ _ _
      have HX : Hid (∀ x, c.getD k 0 = x → 0 ≤ x → x ≤ (leftL c T m k).getD (k % m) 0 → (∀ j, j < k + 1 → inW (c.getD j 0) = true) ∧ ∀ cls, cls < m → 0 ≤ part c m cls (k + 1) ∧ part c m cls (k + 1) ≤ T.getD cls 0) := by
        intro x hx h0 h1
        refine ⟨fun j hj => ?_, fun cls hcls => ?_⟩
        · by_cases e : j = k
          · subst e; rw [hx]; exact inW_yes (by omega)
          · exact HIN.out.1 j (by omega)
        · have h2 := HIN.out.2 cls hcls
          rw [part_succ, hx]
          by_cases e : k % m = cls
          · subst e; rw [if_pos rfl]; have := HY.out; omega
          · rw [if_neg e]; omega
      clear hj hTr hPr
      generalize hyy : (leftL c T m k).getD (k % m) 0 = y at hy hy0 HMore HLS HX
      generalize hxx : c.getD k 0 = x at ha HNeg HMore HLS
      have HXX : Hid (c.getD k 0 = x) := hxx
      clear hyy hxx HY
      generalize hrr : k % m = r at hr hmod hy hf HST HLS
      clear hrr
      obtain ⟨hy0, hy1⟩ := hy0
      by_cases h1 : x < 0
      · have HF := HNeg.out h1
        go_wp2
        go_ret
        exact ⟨by rw [← HM.out, HF]; rfl, hbr⟩
      · by_cases h2 : x > y
        · have HF := HMore.out h2
          have HFF : Hid (withinB c T m = false) := HF
          clear HF HST
          go_wp2
          go_ret
          exact ⟨by rw [← HM.out, HFF.out]; rfl, hbr⟩
        · have HN := HX.out x HXX.out (by omega) (by omega)
          have HNN : Hid ((∀ j, j < k + 1 → inW (c.getD j 0) = true) ∧ ∀ cls, cls < m → 0 ≤ part c m cls (k + 1) ∧ part c m cls (k + 1) ≤ T.getD cls 0) := HN
          have hso := HST (.int .i64 (y - x))
          have HSO : Hid ((wr.setCell ⟨g, r, none⟩ (.int .i64 (y - x))).ownsRow w.heap.size 3 1 (.slice (some ⟨g, 0, none⟩) m cp) m ((leftL c T m (k + 1)).map (Value.int .i64)) ∧ Below w.heap.size w (wr.setCell ⟨g, r, none⟩ (.int .i64 (y - x)))) := ⟨by rw [HLS.out, List.map_set]; exact hso.1, hbr.setCell (p := ⟨g, r, none⟩) hgb _⟩
          clear HN HX HST hso HNeg HMore
          go_wp2
          go_roundw
          case rel => exact ⟨k + 1, by go_num, by omega, HSO.out.1, HNN, HSO.out.2⟩
          case measure => simp [intOf]; omega
    · obtain rfl : k = c.length := by omega
      have HF : Hid (withinB c T m = true) := within_yes HIN.out.1 (fun cls hcls => (HIN.out.2 cls hcls).2)
      go_wp2
      go_ret
      exact ⟨by rw [← HM.out, HF.out]; rfl, hbr⟩
end Go.Proofs.Ytobimpgapfecoaa
