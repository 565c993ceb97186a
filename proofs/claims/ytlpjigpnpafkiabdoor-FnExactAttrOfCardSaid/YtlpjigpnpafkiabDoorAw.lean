/- The exact law of AttrOf: the walk. -/
import Derived.Test.YtlpjigpnpafkiabDoorRf
import Derived.Test.YtlpjigpnpafkiabDoorMa
namespace Go.Proofs.YtlpjigpnpafkiabDoor
open Go.RowKit
set_option maxRecDepth 100000

theorem got_small (s : ByteArray) : okA ((attrOfS s).getD emptyA) ∧ ((attrOfS s).getD emptyA).cuts.length ≤ 3 ∧ ((attrOfS s).getD emptyA).vals.length ≤ 4 := by
  have hnil : okS [] := ⟨by simp, fun _ h => by cases h⟩
  cases h : attrOfS s with
  | none => exact ⟨⟨Nat.zero_le _, by simp [emptyA], hnil⟩, by simp [emptyA], by simp [emptyA]⟩
  | some a =>
    have ho := ((attrOfS_iff s a).1 h).1
    have hn := (word_size (ok_name ho)).2
    simp only [Option.getD_some]
    by_cases h0 : a.vals.length = 0
    · have hc := ok_cuts ho h0
      refine ⟨⟨by omega, by omega, by omega, fun t ht => ?_⟩, by omega, by omega⟩
      rw [List.eq_nil_of_length_eq_zero h0] at ht; cases ht
    · obtain ⟨hc, l2, l4, hwo⟩ := ok_vals ho h0
      refine ⟨⟨by omega, by omega, by omega, fun t ht => ?_⟩, by omega, by omega⟩
      have := (word_size (words_all hwo t ht)).2
      omega
theorem apart_nil {n : Value} {vc vv : Value} (h : OneNil (.agg #[n, vc, vv])) : Apart vc vv := by
  obtain ⟨n', c, v, e, h⟩ := h
  injection e with e
  simp only [Array.mk.injEq, List.cons.injEq, and_true] at e
  obtain ⟨-, rfl, rfl⟩ := e
  rcases h with rfl | rfl
  · exact .inl rfl
  · by_cases hh : vc.ownBlock = none
    · exact .inl hh
    · exact .inr fun e => hh e

set_option maxHeartbeats 3200000 in
theorem attrOf_walk (a0 : ByteArray) (hs : a0.size ≤ 1048576) (u : TypeId) (ev : Value) (m : Int) (w : World) (hE : Env u ev m w) :
    Calls Tryd.prog 4 #[.string a0] w fun e w' => e = .returned (.bool true) ∧ Below w.heap.size w w' := by
  have S := specAttrOf_any a0 w hs
  have HI : Hid (∀ W (_ : Below w.heap.size w W), Calls Tryd.prog 13 #[.string a0] W fun e w' => ∃ v, e = .returned (.tuple #[v, .bool (attrOfS a0).isSome]) ∧ OwnA W.heap.size w' v ((attrOfS a0).getD emptyA) ∧ OneNil v ∧ Below W.heap.size W w') := fun W hW => by
    have := implAttrOf_any a0 u ev m W hs (hE.later hW)
    rwa [attrOf_one] at this
  obtain ⟨hok, hl1, hl2⟩ := got_small a0
  have HOK : Hid (okA ((attrOfS a0).getD emptyA)) := hok
  clear hE hok
  generalize (attrOfS a0).getD emptyA = a at S HI HOK hl1 hl2
  generalize (attrOfS a0).isSome = b at S HI
  go_enter Tryd.func4, Tryd.ntmps4
  go_wp2_with fail
  refine S.mono ?_
  rintro e w1 ⟨v1, rfl, hx1, hb1⟩
  clear S
  have HX1 : Hid (AttrAt w1 v1 a) := hx1
  have HB1 : Hid (Below w.heap.size w w1) := hb1
  have hs1 := hb1.size
  obtain ⟨y1, y2, rfl, rr1, rr2⟩ := id hx1
  obtain ⟨o1, c1, rfl, -, -⟩ := id rr1
  obtain ⟨o2, c2, rfl, -, -⟩ := id rr2
  clear rr1 rr2 hx1 hb1
  obtain ⟨KW, B1⟩ := blk_1 28 w1 #[.string a.name, .slice o1 a.cuts.length c1, .slice o2 a.vals.length c2]
  have HIW : Hid (∀ W (_ : Below w1.heap.size w1 W), Calls Tryd.prog 13 #[.string a0] W fun e w' => ∃ v, e = .returned (.tuple #[v, .bool b]) ∧ OwnA W.heap.size w' v a ∧ OneNil v ∧ Below W.heap.size W w') := fun W hW => HI.out W (HB1.out.trans (hW.mono hs1))
  clear HI
  have cI := HIW.out _ B1
  go_wp2_with fail
  refine cI.mono ?_
  rintro e w2 ⟨v2, rfl, ho2, hn2, hb2⟩
  clear cI
  have B2 := B1.trans (hb2.mono B1.size)
  replace KW := KW.below hb2
  have HN2 : Hid (OneNil v2) := hn2
  have hsz2 := hb2.size
  rw [World.size_alloc] at hsz2 ho2
  clear B1 hb2 hn2
  obtain ⟨y1, y2, rfl, rr1, rr2⟩ := id ho2
  obtain ⟨p1, d1, rfl, -, -⟩ := RowI.of_own rr1 rfl
  obtain ⟨p2, d2, rfl, -, -⟩ := RowS.of_own rr2 rfl
  have HAP : Hid (Apart (.slice p1 a.cuts.length d1) (.slice p2 a.vals.length d2)) := apart_nil HN2.out
  have HLT : Hid ((∀ k, (Value.slice p1 a.cuts.length d1).ownBlock = some k → w1.heap.size + 1 ≤ k ∧ k < w2.heap.size) ∧ (∀ k, (Value.slice p2 a.vals.length d2).ownBlock = some k → w1.heap.size + 1 ≤ k ∧ k < w2.heap.size)) := ⟨rr1.lt, rr2.lt⟩
  have HO2 : Hid (w2.ownsRow (w1.heap.size + 1) 3 1 (.slice p1 a.cuts.length d1) a.cuts.length (a.cuts.map (Value.int .i64)) ∧ w2.ownsRow (w1.heap.size + 1) 9 1 (.slice p2 a.vals.length d2) a.vals.length (a.vals.map Value.string)) := ⟨rr1, rr2⟩
  clear HN2 rr1 rr2
  obtain ⟨KG, BG⟩ := blk_1 28 w2 #[.string a.name, .slice p1 a.cuts.length d1, .slice p2 a.vals.length d2]
  replace KW := KW.below BG
  have B3 := B2.trans (BG.mono B2.size)
  have cE := eqAttr_row (.agg #[.string a.name, .slice p1 a.cuts.length d1, .slice p2 a.vals.length d2]) (.agg #[.string a.name, .slice o1 a.cuts.length c1, .slice o2 a.vals.length c2]) a _ (ho2.below BG).at (HX1.out.later B3) HOK.out
  have HO3 : Hid ((w2.alloc (.cells #[.string a.name, .slice p1 a.cuts.length d1, .slice p2 a.vals.length d2] 28)).ownsRow (w1.heap.size + 1) 3 1 (.slice p1 a.cuts.length d1) a.cuts.length (a.cuts.map (Value.int .i64)) ∧ (w2.alloc (.cells #[.string a.name, .slice p1 a.cuts.length d1, .slice p2 a.vals.length d2] 28)).ownsRow (w1.heap.size + 1) 9 1 (.slice p2 a.vals.length d2) a.vals.length (a.vals.map Value.string)) := ⟨own_below HO2.out.1 BG, own_below HO2.out.2 BG⟩
  have kw0 : (w2.alloc (.cells #[.string a.name, .slice p1 a.cuts.length d1, .slice p2 a.vals.length d2] 28)).cell? ⟨w1.heap.size, 0, none⟩ = some (.string a.name) := KW.cell 0
  have kw1 : (w2.alloc (.cells #[.string a.name, .slice p1 a.cuts.length d1, .slice p2 a.vals.length d2] 28)).cell? ⟨w1.heap.size, 1, none⟩ = some (.slice o1 a.cuts.length c1) := KW.cell 1
  have kw2 : (w2.alloc (.cells #[.string a.name, .slice p1 a.cuts.length d1, .slice p2 a.vals.length d2] 28)).cell? ⟨w1.heap.size, 2, none⟩ = some (.slice o2 a.vals.length c2) := KW.cell 2
  clear ho2 B2 BG HO2
  go_wp2_with fail
  refine cE.mono ?_
  rintro e w3 ⟨rfl, hb3⟩
  clear cE kw0 kw1 kw2
  have B4 := B3.trans (hb3.mono B3.size)
  replace KW := KW.below hb3
  replace KG := KG.below hb3
  have m1 := own_below HO3.out.1 hb3
  have m2 := own_below HO3.out.2 hb3
  clear B3 hb3 HO3
  have cM := markAttr_any a.name _ _ a.cuts.length a.vals.length 1 (w1.heap.size + 1) _ _ w3 m1 m2 HAP.out (by omega) (by omega) (by omega) (by omega)
  have hsum : ((1 + a.cuts.length + a.vals.length : Nat) : Int) = 1 + (a.cuts.length : Int) + (a.vals.length : Int) := by omega
  rw [hsum] at cM
  have kg0 : w3.cell? ⟨w2.heap.size, 0, none⟩ = some (.string a.name) := KG.cell 0
  have kg1 : w3.cell? ⟨w2.heap.size, 1, none⟩ = some (.slice p1 a.cuts.length d1) := KG.cell 1
  have kg2 : w3.cell? ⟨w2.heap.size, 2, none⟩ = some (.slice p2 a.vals.length d2) := KG.cell 2
  clear m1 m2
  go_wp2_with fail
  refine cM.mono ?_
  rintro e w4 ⟨rfl, hm4, hg4⟩
  clear cM kg0 kg1 kg2
  have B5 : Below w1.heap.size w1 w4 := hg4.below B4 B4.size (fun k hk => by have := (HLT.out.1 k hk).1; omega) (fun k hk => by have := (HLT.out.2 k hk).1; omega)
  replace KW := hg4.blk KW (fun e => by have := (HLT.out.1 _ e).1; omega) (fun e => by have := (HLT.out.2 _ e).1; omega)
  replace KG := hg4.blk KG (fun e => by have := (HLT.out.1 _ e).2; omega) (fun e => by have := (HLT.out.2 _ e).2; omega)
  clear B4 hg4
  have cH := heldAttr_any a.name _ _ a.cuts.length a.vals.length 1 (w1.heap.size + 1) w4 hm4 (by omega) (by omega) (by omega) (by omega)
  rw [hsum] at cH
  have kg0 : w4.cell? ⟨w2.heap.size, 0, none⟩ = some (.string a.name) := KG.cell 0
  have kg1 : w4.cell? ⟨w2.heap.size, 1, none⟩ = some (.slice p1 a.cuts.length d1) := KG.cell 1
  have kg2 : w4.cell? ⟨w2.heap.size, 2, none⟩ = some (.slice p2 a.vals.length d2) := KG.cell 2
  go_wp2_with fail
  refine cH.mono ?_
  rintro e w5 ⟨rfl, hb5⟩
  clear cH kg0 kg1 kg2
  have B6 := B5.trans (hb5.mono B5.size)
  replace KW := KW.below hb5
  replace KG := KG.below hb5
  have HM5 : Hid (MarkA (w1.heap.size + 1) w5 (.slice p1 a.cuts.length d1) (.slice p2 a.vals.length d2) a.cuts.length a.vals.length 1) := hm4.below hb5
  clear B5 hb5 hm4
  have n0 : ¬ (1 : Int) + (a.cuts.length : Int) + (a.vals.length : Int) < 0 := by omega
  have cI := HIW.out _ B6
  go_wp2_with fail
  refine cI.mono ?_
  rintro e w6 ⟨v6, rfl, ho6, hn6, hb6⟩
  clear cI hn6
  have B7 := B6.trans (hb6.mono B6.size)
  replace KW := KW.below hb6
  replace KG := KG.below hb6
  have HM6 : Hid (MarkA (w1.heap.size + 1) w6 (.slice p1 a.cuts.length d1) (.slice p2 a.vals.length d2) a.cuts.length a.vals.length 1) := HM5.out.below hb6
  have hsz6 := hb6.size
  clear B6 hb6 HM5
  obtain ⟨y1, y2, rfl, rr1, rr2⟩ := id ho6
  obtain ⟨r1, e1, rfl, -, -⟩ := RowI.of_own rr1 rfl
  obtain ⟨r2, e2, rfl, -, -⟩ := RowS.of_own rr2 rfl
  clear rr1 rr2
  obtain ⟨KH, BH⟩ := blk_1 28 w6 #[.string a.name, .slice r1 a.cuts.length e1, .slice r2 a.vals.length e2]
  replace KW := KW.below BH
  replace KG := KG.below BH
  have B8 := B7.trans (BH.mono B7.size)
  have HM7 : Hid (MarkA (w1.heap.size + 1) (w6.alloc (.cells #[.string a.name, .slice r1 a.cuts.length e1, .slice r2 a.vals.length e2] 28)) (.slice p1 a.cuts.length d1) (.slice p2 a.vals.length d2) a.cuts.length a.vals.length 1) := HM6.out.below BH
  have cE := eqAttr_row (.agg #[.string a.name, .slice r1 a.cuts.length e1, .slice r2 a.vals.length e2]) (.agg #[.string a.name, .slice o1 a.cuts.length c1, .slice o2 a.vals.length c2]) a _ (ho6.below BH).at (HX1.out.later B8) HOK.out
  have kw0 : (w6.alloc (.cells #[.string a.name, .slice r1 a.cuts.length e1, .slice r2 a.vals.length e2] 28)).cell? ⟨w1.heap.size, 0, none⟩ = some (.string a.name) := KW.cell 0
  have kw1 : (w6.alloc (.cells #[.string a.name, .slice r1 a.cuts.length e1, .slice r2 a.vals.length e2] 28)).cell? ⟨w1.heap.size, 1, none⟩ = some (.slice o1 a.cuts.length c1) := KW.cell 1
  have kw2 : (w6.alloc (.cells #[.string a.name, .slice r1 a.cuts.length e1, .slice r2 a.vals.length e2] 28)).cell? ⟨w1.heap.size, 2, none⟩ = some (.slice o2 a.vals.length c2) := KW.cell 2
  clear ho6 B7 BH HM6
  go_wp2_with fail
  refine cE.mono ?_
  rintro e w7 ⟨rfl, hb7⟩
  clear cE kw0 kw1 kw2
  have B9 := B8.trans (hb7.mono B8.size)
  replace KG := KG.below hb7
  have hm8 := HM7.out.below hb7
  clear B8 hb7 HM7 KW KH
  have cH := heldAttr_any a.name _ _ a.cuts.length a.vals.length 1 (w1.heap.size + 1) w7 hm8 (by omega) (by omega) (by omega) (by omega)
  rw [hsum] at cH
  have kg0 : w7.cell? ⟨w2.heap.size, 0, none⟩ = some (.string a.name) := KG.cell 0
  have kg1 : w7.cell? ⟨w2.heap.size, 1, none⟩ = some (.slice p1 a.cuts.length d1) := KG.cell 1
  have kg2 : w7.cell? ⟨w2.heap.size, 2, none⟩ = some (.slice p2 a.vals.length d2) := KG.cell 2
  go_wp2_with fail
  refine cH.mono ?_
  rintro e w8 ⟨rfl, hb8⟩
  clear cH kg0 kg1 kg2
  go_wp2
  go_ret
  exact ⟨rfl, HB1.out.trans ((B9.trans (hb8.mono B9.size)).mono hs1)⟩
end Go.Proofs.YtlpjigpnpafkiabDoor
