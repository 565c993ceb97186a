/- The exact law of SchemaOf: the walk. -/
import Derived.Test.YtlpjigpnpafkiabDoorSof
import Derived.Test.YtlpjigpnpafkiabDoorSog
import Derived.Test.YtlpjigpnpafkiabDoorMc
import Derived.Test.YtlpjigpnpafkiabDoorVf
namespace Go.Proofs.YtlpjigpnpafkiabDoor
open Go.RowKit
set_option maxRecDepth 100000

theorem mkK_le {p q : Nat → Nat} : ∀ (n : Nat), (∀ j, j < n → p j ≤ 3 ∧ q j ≤ 4) → mkK 1 p q n ≤ 1 + n * 8
  | 0, _ => by simp [mkK]
  | n + 1, h => by
    have h1 := mkK_le n fun j hj => h j (by omega)
    have h2 := h n (by omega)
    simp only [mkK]
    omega
theorem ok_lens {a : AttrD} (ho : attrOk a = true) : a.cuts.length ≤ 3 ∧ a.vals.length ≤ 4 := by
  by_cases h0 : a.vals.length = 0
  · have := ok_cuts ho h0; omega
  · have := ok_vals ho h0; omega
theorem ok_fit {a : AttrD} (ho : attrOk a = true) : okA a := by
  have hn := (word_size (ok_name ho)).2
  have hl := ok_lens ho
  refine ⟨by omega, by omega, by omega, fun t ht => ?_⟩
  by_cases h0 : a.vals.length = 0
  · rw [List.eq_nil_of_length_eq_zero h0] at ht; cases ht
  · have := (word_size (words_all (ok_vals ho h0).2.2.2 t ht)).2
    omega
theorem sch_fit {t : SchemaD} (ho : schemaOk t = true) : okSch t := by
  obtain ⟨⟨h1, h5⟩, ⟨h2, h3⟩, hwo, hat⟩ := sch_parts ho
  exact ⟨by omega, fun a ha => ok_fit (attrsOk_each hat a ha), by omega, fun s hs => by have := (word_size (words_all hwo s hs)).2; omega⟩
theorem got_smallS (s : ByteArray) : okSch ((schemaOf s).getD emptyS) ∧ ((schemaOf s).getD emptyS).attrs.length ≤ 5 ∧ ((schemaOf s).getD emptyS).classes.length ≤ 3 ∧ mkK 1 (pOf ((schemaOf s).getD emptyS).attrs) (qOf ((schemaOf s).getD emptyS).attrs) ((schemaOf s).getD emptyS).attrs.length ≤ 41 := by
  cases h : schemaOf s with
  | none => exact ⟨⟨by simp [emptyS], fun _ h => by simp [emptyS] at h, by simp [emptyS], fun _ h => by simp [emptyS] at h⟩, by simp [emptyS], by simp [emptyS], by simp [emptyS, mkK]⟩
  | some t =>
    have ho := ((schemaOf_iff s t).1 h).1
    simp only [Option.getD_some]
    obtain ⟨⟨h1, h5⟩, ⟨h2, h3⟩, hwo, hat⟩ := sch_parts ho
    refine ⟨sch_fit ho, h5, h3, ?_⟩
    have := mkK_le (p := pOf t.attrs) (q := qOf t.attrs) t.attrs.length fun j hj => ok_lens (attrsOk_each hat _ (ad_mem hj))
    omega
theorem in_lt {base n c : Nat} {w : World} {va vc : Value} {L : Nat → Value × Value} {ys zs : List Value} {ls : List AttrD} (h : SepL base w va L ys ls n) (hc : w.ownsRow base 9 1 vc c zs) : ∀ k, InS va vc L n k → base ≤ k ∧ k < w.heap.size := by
  intro k hk
  rcases hk with (hk | ⟨j, hj, hk | hk⟩) | hk
  · exact h.row.lt k hk
  · exact (h.ints j hj).lt k hk
  · exact (h.strs j hj).lt k hk
  · exact hc.lt k hk

set_option maxHeartbeats 3200000 in
theorem schemaOf_walk (a0 : ByteArray) (hs : a0.size ≤ 1048576) (u : TypeId) (ev : Value) (m : Int) (w : World) (hE : Env u ev m w) :
    Calls Tryd.prog 6 #[.string a0] w fun e w' => e = .returned (.bool true) ∧ Below w.heap.size w w' := by
  have S := specSchemaOf_any a0 w hs
  have HI : Hid (∀ W (_ : Below w.heap.size w W), Calls Tryd.prog 22 #[.string a0] W fun e w' => ∃ v, e = .returned (.tuple #[v, .bool (schemaOf a0).isSome]) ∧ OwnSep W.heap.size w' v ((schemaOf a0).getD emptyS) ∧ Below W.heap.size W w') := fun W hW => implSchemaOf_any a0 u ev m W hs (hE.later hW)
  obtain ⟨hok, hl1, hl2, hl3⟩ := got_smallS a0
  have HOK : Hid (okSch ((schemaOf a0).getD emptyS)) := hok
  clear hE hok
  generalize (schemaOf a0).getD emptyS = a at S HI HOK hl1 hl2 hl3
  generalize (schemaOf a0).isSome = b at S HI
  go_enter Tryd.func6, Tryd.ntmps6
  go_wp2_with fail
  refine S.mono ?_
  rintro e w1 ⟨v1, rfl, hx1, hb1⟩
  clear S
  replace hx1 := hx1.own.at
  have HX1 : Hid (SchemaAt w1 v1 a) := hx1
  have HB1 : Hid (Below w.heap.size w w1) := hb1
  have hs1 := hb1.size
  obtain ⟨y1, y2, rfl, rr1, rr2⟩ := id hx1
  obtain ⟨o1, c1, rfl, -, -⟩ := id rr1
  obtain ⟨o2, c2, rfl, -, -⟩ := id rr2
  clear rr1 rr2 hx1 hb1
  obtain ⟨KW, B1⟩ := blk_1 43 w1 #[.slice o1 a.attrs.length c1, .slice o2 a.classes.length c2]
  have HIW : Hid (∀ W (_ : Below w1.heap.size w1 W), Calls Tryd.prog 22 #[.string a0] W fun e w' => ∃ v, e = .returned (.tuple #[v, .bool b]) ∧ OwnSep W.heap.size w' v a ∧ Below W.heap.size W w') := fun W hW => HI.out W (HB1.out.trans (hW.mono hs1))
  clear HI
  have cI := HIW.out _ B1
  go_wp2_with fail
  refine cI.mono ?_
  rintro e w2 ⟨v2, rfl, ho2, hb2⟩
  clear cI
  have B2 := B1.trans (hb2.mono B1.size)
  replace KW := KW.below hb2
  have hsz2 := hb2.size
  rw [World.size_alloc] at hsz2 ho2
  clear B1 hb2
  have HAT : Hid (SchemaAt w2 v2 a) := ho2.own.at
  obtain ⟨y1, y2, L, ys, rfl, sp, cl, hod⟩ := ho2
  obtain ⟨p1, d1, hp1⟩ := own_form sp.row
  obtain ⟨p2, d2, hp2⟩ := own_form cl
  subst hp1 hp2
  have HOD : Hid (∀ j c b, j < a.attrs.length → (Value.slice p2 a.classes.length d2).ownBlock = some c → (L j).2.ownBlock = some b → c < b) := hod
  have HLT : Hid (∀ k, InS (.slice p1 a.attrs.length d1) (.slice p2 a.classes.length d2) L a.attrs.length k → w1.heap.size + 1 ≤ k ∧ k < w2.heap.size) := in_lt sp cl
  have HSP : Hid (SepL (w1.heap.size + 1) w2 (.slice p1 a.attrs.length d1) L ys a.attrs a.attrs.length ∧ w2.ownsRow (w1.heap.size + 1) 9 1 (.slice p2 a.classes.length d2) a.classes.length (a.classes.map Value.string)) := ⟨sp, cl⟩
  clear sp cl hod
  obtain ⟨KG, BG⟩ := blk_1 43 w2 #[.slice p1 a.attrs.length d1, .slice p2 a.classes.length d2]
  replace KW := KW.below BG
  have B3 := B2.trans (BG.mono B2.size)
  have cE := eqSchema_row (.agg #[.slice p1 a.attrs.length d1, .slice p2 a.classes.length d2]) (.agg #[.slice o1 a.attrs.length c1, .slice o2 a.classes.length c2]) a _ (HAT.out.later BG) (HX1.out.later B3) HOK.out
  have HO3 : Hid (SepL (w1.heap.size + 1) (w2.alloc (.cells #[.slice p1 a.attrs.length d1, .slice p2 a.classes.length d2] 43)) (.slice p1 a.attrs.length d1) L ys a.attrs a.attrs.length ∧ (w2.alloc (.cells #[.slice p1 a.attrs.length d1, .slice p2 a.classes.length d2] 43)).ownsRow (w1.heap.size + 1) 9 1 (.slice p2 a.classes.length d2) a.classes.length (a.classes.map Value.string)) := ⟨HSP.out.1.below BG, own_below HSP.out.2 BG⟩
  have kw0 : (w2.alloc (.cells #[.slice p1 a.attrs.length d1, .slice p2 a.classes.length d2] 43)).cell? ⟨w1.heap.size, 0, none⟩ = some (.slice o1 a.attrs.length c1) := KW.cell 0
  have kw1 : (w2.alloc (.cells #[.slice p1 a.attrs.length d1, .slice p2 a.classes.length d2] 43)).cell? ⟨w1.heap.size, 1, none⟩ = some (.slice o2 a.classes.length c2) := KW.cell 1
  clear B2 BG HSP HAT
  go_wp2_with fail
  refine cE.mono ?_
  rintro e w3 ⟨rfl, hb3⟩
  clear cE kw0 kw1
  have B4 := B3.trans (hb3.mono B3.size)
  replace KW := KW.below hb3
  replace KG := KG.below hb3
  have m1 := HO3.out.1.below hb3
  have m2 := own_below HO3.out.2 hb3
  clear B3 hb3 HO3
  have cM := markSchema_any _ _ L ys _ a.attrs a.attrs.length a.classes.length (w1.heap.size + 1) 1 w3 m1 m2 (fun j x y hj hx hy => HOD.out j x y hj hx hy) (by omega) (by omega) (by omega) (by omega)
  generalize hKN : mkK 1 (pOf a.attrs) (qOf a.attrs) a.attrs.length = KN at cM hl3
  have HKN : Hid (mkK 1 (pOf a.attrs) (qOf a.attrs) a.attrs.length = KN) := hKN
  have hsum : ((KN + a.classes.length : Nat) : Int) = (KN : Int) + (a.classes.length : Int) := by omega
  rw [hsum] at cM
  have kg0 : w3.cell? ⟨w2.heap.size, 0, none⟩ = some (.slice p1 a.attrs.length d1) := KG.cell 0
  have kg1 : w3.cell? ⟨w2.heap.size, 1, none⟩ = some (.slice p2 a.classes.length d2) := KG.cell 1
  clear m1 m2 hKN
  go_wp2_with fail
  refine cM.mono ?_
  rintro e w4 ⟨rfl, hm4, hg4⟩
  clear cM kg0 kg1
  have B5 : Below w1.heap.size w1 w4 := hg4.below B4 B4.size (fun k hk => by have := (HLT.out k hk).1; omega)
  replace KW := hg4.blk KW (fun e => by have := (HLT.out _ e).1; omega)
  replace KG := hg4.blk KG (fun e => by have := (HLT.out _ e).2; omega)
  clear B4 hg4
  have cH := heldSchema_any _ _ L (pOf a.attrs) (qOf a.attrs) a.attrs.length a.classes.length (w1.heap.size + 1) 1 w4 hm4 (by omega) (by omega) (by omega) (by rw [HKN.out]; omega)
  rw [HKN.out, hsum] at cH
  have kg0 : w4.cell? ⟨w2.heap.size, 0, none⟩ = some (.slice p1 a.attrs.length d1) := KG.cell 0
  have kg1 : w4.cell? ⟨w2.heap.size, 1, none⟩ = some (.slice p2 a.classes.length d2) := KG.cell 1
  go_wp2_with fail
  refine cH.mono ?_
  rintro e w5 ⟨rfl, hb5⟩
  clear cH kg0 kg1
  have B6 := B5.trans (hb5.mono B5.size)
  replace KW := KW.below hb5
  replace KG := KG.below hb5
  have HM5 : Hid (MarkSch (w1.heap.size + 1) w5 (.slice p1 a.attrs.length d1) (.slice p2 a.classes.length d2) L (pOf a.attrs) (qOf a.attrs) a.attrs.length a.classes.length 1) := hm4.below hb5
  clear B5 hb5 hm4
  have n0 : ¬ (KN : Int) + (a.classes.length : Int) < 0 := by omega
  have cI := HIW.out _ B6
  go_wp2_with fail
  refine cI.mono ?_
  rintro e w6 ⟨v6, rfl, ho6, hb6⟩
  clear cI
  have B7 := B6.trans (hb6.mono B6.size)
  replace KW := KW.below hb6
  replace KG := KG.below hb6
  have HM6 : Hid (MarkSch (w1.heap.size + 1) w6 (.slice p1 a.attrs.length d1) (.slice p2 a.classes.length d2) L (pOf a.attrs) (qOf a.attrs) a.attrs.length a.classes.length 1) := HM5.out.below hb6
  have hsz6 := hb6.size
  clear B6 hb6 HM5
  have HA6 : Hid (SchemaAt w6 v6 a) := ho6.own.at
  obtain ⟨y1, y2, rfl, rr1, rr2⟩ := ho6.own.at
  obtain ⟨r1, e1, rfl, -, -⟩ := id rr1
  obtain ⟨r2, e2, rfl, -, -⟩ := id rr2
  clear rr1 rr2 ho6
  obtain ⟨KH, BH⟩ := blk_1 43 w6 #[.slice r1 a.attrs.length e1, .slice r2 a.classes.length e2]
  replace KW := KW.below BH
  replace KG := KG.below BH
  have B8 := B7.trans (BH.mono B7.size)
  have HM7 : Hid (MarkSch (w1.heap.size + 1) (w6.alloc (.cells #[.slice r1 a.attrs.length e1, .slice r2 a.classes.length e2] 43)) (.slice p1 a.attrs.length d1) (.slice p2 a.classes.length d2) L (pOf a.attrs) (qOf a.attrs) a.attrs.length a.classes.length 1) := HM6.out.below BH
  have cE := eqSchema_row (.agg #[.slice r1 a.attrs.length e1, .slice r2 a.classes.length e2]) (.agg #[.slice o1 a.attrs.length c1, .slice o2 a.classes.length c2]) a _ (HA6.out.later BH) (HX1.out.later B8) HOK.out
  have kw0 : (w6.alloc (.cells #[.slice r1 a.attrs.length e1, .slice r2 a.classes.length e2] 43)).cell? ⟨w1.heap.size, 0, none⟩ = some (.slice o1 a.attrs.length c1) := KW.cell 0
  have kw1 : (w6.alloc (.cells #[.slice r1 a.attrs.length e1, .slice r2 a.classes.length e2] 43)).cell? ⟨w1.heap.size, 1, none⟩ = some (.slice o2 a.classes.length c2) := KW.cell 1
  clear B7 BH HM6 HA6
  go_wp2_with fail
  refine cE.mono ?_
  rintro e w7 ⟨rfl, hb7⟩
  clear cE kw0 kw1
  have B9 := B8.trans (hb7.mono B8.size)
  replace KG := KG.below hb7
  have hm8 := HM7.out.below hb7
  clear B8 hb7 HM7 KW KH
  have cH := heldSchema_any _ _ L (pOf a.attrs) (qOf a.attrs) a.attrs.length a.classes.length (w1.heap.size + 1) 1 w7 hm8 (by omega) (by omega) (by omega) (by rw [HKN.out]; omega)
  rw [HKN.out, hsum] at cH
  have kg0 : w7.cell? ⟨w2.heap.size, 0, none⟩ = some (.slice p1 a.attrs.length d1) := KG.cell 0
  have kg1 : w7.cell? ⟨w2.heap.size, 1, none⟩ = some (.slice p2 a.classes.length d2) := KG.cell 1
  go_wp2_with fail
  refine cH.mono ?_
  rintro e w8 ⟨rfl, hb8⟩
  clear cH kg0 kg1
  go_wp2
  go_ret
  exact ⟨rfl, HB1.out.trans ((B9.trans (hb8.mono B9.size)).mono hs1)⟩
end Go.Proofs.YtlpjigpnpafkiabDoor
