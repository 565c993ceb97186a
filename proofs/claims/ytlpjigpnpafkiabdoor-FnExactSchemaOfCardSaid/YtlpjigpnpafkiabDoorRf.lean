/- A text read as an attribute, by the specification. -/
import Derived.Test.YtlpjigpnpafkiabDoorRd
import Derived.Test.YtlpjigpnpafkiabDoorTw
import Derived.Test.YtlpjigpnpafkiabDoorPp
import Derived.Test.YtlpjigpnpafkiabDoorNs
namespace Go.Proofs.YtlpjigpnpafkiabDoor
open Go.RowKit
set_option maxRecDepth 100000

theorem ofS_no0 {s : ByteArray} (h : preS s = none) : attrOfS s = none := by unfold attrOfS; rw [h]
theorem ofS_no1 {s : ByteArray} {a : AttrD} (h : preS s = some a) (h2 : attrOk a = false) : attrOfS s = none := by unfold attrOfS; rw [h]; simp [h2]
theorem ofS_no2 {s : ByteArray} {a : AttrD} (h : preS s = some a) (h2 : attrText a ≠ s) : attrOfS s = none := by unfold attrOfS; rw [h]; simp [h2]
theorem ofS_yes {s : ByteArray} {a : AttrD} (h : preS s = some a) (h1 : attrOk a = true) (h2 : attrText a = s) : attrOfS s = some a := by unfold attrOfS; rw [h]; simp [h1, h2]
theorem list_two {α : Type} {l : List α} (h : l.length = 2) : ∃ x y, l = [x, y] := by
  match l, h with
  | [x, y], _ => exact ⟨x, y, rfl⟩
theorem pre_one {s x y : ByteArray} (h : pieces 61 s = [x, y]) : preS s = some ⟨x, [], pieces 44 y⟩ := by unfold preS; rw [h]
theorem pre_two {s x y : ByteArray} {zs : List Int} (h0 : (pieces 61 s).length ≠ 2) (h : pieces 58 s = [x, y]) (hn : numsOf (pieces 44 y) = some zs) : preS s = some ⟨x, zs, []⟩ := by
  unfold preS
  split
  · rename_i e; rw [e] at h0; exact absurd rfl h0
  · rw [h]; simp only; rw [hn]
theorem pre_bad {s x y : ByteArray} (h0 : (pieces 61 s).length ≠ 2) (h : pieces 58 s = [x, y]) (hn : numsOf (pieces 44 y) = none) : preS s = none := by
  unfold preS
  split
  · rename_i e; rw [e] at h0; exact absurd rfl h0
  · rw [h]; simp only; rw [hn]
theorem pre_no {s : ByteArray} (h0 : (pieces 61 s).length ≠ 2) (h1 : (pieces 58 s).length ≠ 2) : preS s = some emptyA := by
  unfold preS
  split
  · rename_i e; rw [e] at h0; exact absurd rfl h0
  · split
    · rename_i e; rw [e] at h1; exact absurd rfl h1
    · rfl
theorem grown_below {a b c : World} {r : Option Nat} (h : a.grownBy b r) (k : Below b.heap.size b c) : a.grownBy c r :=
  ⟨k.os.trans h.os, k.tape.trans h.tape, k.output.trans h.output, Nat.le_trans h.size k.size, fun j hj hr => (k.block j (Nat.lt_of_lt_of_le hj h.size)).trans (h.block j hj hr)⟩
theorem grown_old {a b c : World} {r q : Option Nat} (h : a.grownBy b r) (k : b.grownBy c q) (hq : ∀ j, q = some j → a.heap.size ≤ j) : a.grownBy c r :=
  ⟨k.os.trans h.os, k.tape.trans h.tape, k.output.trans h.output, Nat.le_trans h.size k.size, fun j hj hr => (k.block j (Nat.lt_of_lt_of_le hj h.size) (fun e => by have := hq j e.symm; omega)).trans (h.block j hj hr)⟩
theorem grown_set {a b : World} {g k : Nat} (h : a.grownBy b (some g)) (v : Value) : a.grownBy (b.setCell ⟨g, k, none⟩ v) (some g) :=
  ⟨h.os, h.tape, h.output, Nat.le_trans h.size (by simp [World.setCell]), fun j hj hne => by
    rw [← h.block j hj hne]
    simp only [World.setCell, Array.getElem?_modify]
    rw [if_neg (fun e => hne (by rw [← e]))]⟩
theorem below_gset {n : Nat} {a b c : World} {g : Nat} (h : Below n a b) (k : b.grownBy c (some g)) (hg : n ≤ g) (hn : n ≤ b.heap.size) : Below n a c := h.grown k hn fun j hj => by cases hj; exact hg
theorem small_two {s x y : ByteArray} {b : UInt8} (h : pieces b s = [x, y]) : x.size ≤ s.size ∧ y.size ≤ s.size :=
  ⟨pieces_small b s x (by rw [h]; simp), pieces_small b s y (by rw [h]; simp)⟩

set_option maxHeartbeats 6400000 in
theorem specAttrOf_any (s : ByteArray) (w : World) (hs : s.size ≤ 1048576) :
    Calls Tryd.prog 12 #[.string s] w fun e w' => ∃ v, e = .returned (.tuple #[v, .bool (attrOfS s).isSome]) ∧ OwnA w.heap.size w' v ((attrOfS s).getD emptyA) ∧ Below w.heap.size w w' := by
  obtain ⟨i0, hi, hz0, hz1, hz2⟩ := info_parts intInfo
  obtain ⟨K1, K2, B0⟩ := blk_2 28 28 w #[.string ⟨#[]⟩, .slice none 0 0, .slice none 0 0] #[.string ⟨#[]⟩, .slice none 0 0, .slice none 0 0]
  have cP := fun W => specParts_any s 61 W hs
  have cQ := fun W => specParts_any s 58 W hs
  have hnil : okS [] := ⟨by simp, fun _ h => by cases h⟩
  have HN : Hid (okS []) := hnil
  clear hnil
  go_enter Tryd.func12, Tryd.ntmps12
  go_wp2_with fail
  refine (cP _).mono ?_
  rintro e w1 ⟨v1, rfl, ho1, hb1⟩
  clear cP
  have B1 := B0.trans (hb1.mono B0.size)
  have l2 := K2.lt
  replace K1 := K1.below hb1
  replace K2 := K2.below hb1
  have ho1 := own_base ho1 (b' := w.heap.size + 2) (by omega)
  clear hb1 B0
  go_wp2_with fail
  refine (cQ _).mono ?_
  rintro e w2 ⟨v2, rfl, ho2, hb2⟩
  clear cQ
  have B2 := B1.trans (hb2.mono B1.size)
  have l2 := K2.lt
  replace K1 := K1.below hb2
  replace K2 := K2.below hb2
  have ho1 := own_below ho1 hb2
  have ho2 := own_base ho2 (b' := w.heap.size + 2) (by omega)
  clear hb2 B1
  obtain ⟨oa, ca, hv1, hc1, hr1⟩ := RowS.of_own ho1 rfl
  obtain ⟨ob, cb, hv2, hc2, hr2⟩ := RowS.of_own ho2 rfl
  subst hv1 hv2
  have HR1 : Hid (0 < (pieces 61 s).length → ∃ g o, oa = some ⟨g, o, none⟩ ∧ g < w2.heap.size ∧ ∀ j, j < (pieces 61 s).length → w2.cell? ⟨g, o + j, none⟩ = some (.string (tx (pieces 61 s) j))) := hr1
  have HO1 : Hid (w2.ownsRow (w.heap.size + 2) 9 1 (.slice oa (pieces 61 s).length ca) (pieces 61 s).length ((pieces 61 s).map Value.string)) := ho1
  have HO2 : Hid (w2.ownsRow (w.heap.size + 2) 9 1 (.slice ob (pieces 58 s).length cb) (pieces 58 s).length ((pieces 58 s).map Value.string)) := ho2
  have HR2 : Hid (0 < (pieces 58 s).length → ∃ g o, ob = some ⟨g, o, none⟩ ∧ g < w2.heap.size ∧ ∀ j, j < (pieces 58 s).length → w2.cell? ⟨g, o + j, none⟩ = some (.string (tx (pieces 58 s) j))) := hr2
  clear hr1 hr2 ho1 ho2
  by_cases h61 : (pieces 61 s).length = 2
  · obtain ⟨x, y, hxy⟩ := list_two h61
    obtain ⟨sx, sy⟩ := small_two hxy
    have HPR : Hid (preS s = some ⟨x, [], pieces 44 y⟩) := pre_one hxy
    obtain ⟨g, o, rfl, hg, hj⟩ := HR1.out (by omega)
    have hgb := (HO1.out.lt g rfl).1
    have q0 := hj 0 (by omega)
    have q1 := hj 1 (by omega)
    rw [hxy] at q0 q1 hc1
    have q0 : w2.cell? ⟨g, o, none⟩ = some (.string x) := q0
    have q1 : w2.cell? ⟨g, o + 1, none⟩ = some (.string y) := q1
    rw [hxy]
    have hc1' : 2 ≤ ca := hc1
    clear hj HR1 HR2 HO1 HO2 hc1 hc2 h61
    have cY := fun W => specParts_any y 44 W (by omega)
    have hps : okS (pieces 44 y) := okS_pieces (by omega) 44
    have HOK : Hid (okA ⟨x, [], pieces 44 y⟩) := ⟨by show x.size ≤ _; omega, by simp, hps⟩
    clear hps
    generalize pieces 44 y = ps at cY HPR HOK
    have c3 : w2.cell? ⟨w.heap.size + 1, 0, none⟩ = some (.string ⟨#[]⟩) := K2.cell 0
    have f3 := K2.frozen 0
    have S1 := K1.setCell_other ⟨w.heap.size + 1, 0, none⟩ (.string x) (by simp)
    have S2 := K2.setCell 0 (.string x)
    have B3 := B2.setCell (p := ⟨w.heap.size + 1, 0, none⟩) (by simp) (.string x)
    have q1' : (w2.setCell ⟨w.heap.size + 1, 0, none⟩ (.string x)).cell? ⟨g, o + 1, none⟩ = some (.string y) := (World.cell?_of_block (heap_setCell_other _ _ _ _ (by simp; omega))).trans q1
    have HS : Hid (Blk 28 (w2.setCell ⟨w.heap.size + 1, 0, none⟩ (.string x)) w.heap.size #[.string ⟨#[]⟩, .slice none 0 0, .slice none 0 0] ∧ Blk 28 (w2.setCell ⟨w.heap.size + 1, 0, none⟩ (.string x)) (w.heap.size + 1) #[.string x, .slice none 0 0, .slice none 0 0] ∧ Below w.heap.size w (w2.setCell ⟨w.heap.size + 1, 0, none⟩ (.string x))) := ⟨S1, S2, B3⟩
    clear S1 S2 B3 K1 K2 B2
    go_wp2_with fail
    refine (cY _).mono ?_
    rintro e w3 ⟨v3, rfl, ho3, hb3⟩
    clear cY c3 f3 q0 q1 q1'
    obtain ⟨S1, S2, B3⟩ := HS.out
    have ls := S2.lt
    replace S1 := S1.below hb3
    replace S2 := S2.below hb3
    replace B3 := B3.trans (hb3.mono B3.size)
    have ho3 := own_base ho3 (b' := w.heap.size + 2) (by omega)
    clear HS hb3
    obtain ⟨oc, cc, hv3, -, -⟩ := RowS.of_own ho3 rfl
    subst hv3
    have c3 : w3.cell? ⟨w.heap.size + 1, 2, none⟩ = some (.slice none 0 0) := S2.cell 2
    have f3 := S2.frozen 2
    have T1 := S1.setCell_other ⟨w.heap.size + 1, 2, none⟩ (.slice oc ps.length cc) (by simp)
    have T2 := S2.setCell 2 (.slice oc ps.length cc)
    have B4 := B3.setCell (p := ⟨w.heap.size + 1, 2, none⟩) (by simp) (.slice oc ps.length cc)
    have O4 := own_setCell ho3 ⟨w.heap.size + 1, 2, none⟩ (.slice oc ps.length cc) (by simp)
    have HR : Hid (Blk 28 (w3.setCell ⟨w.heap.size + 1, 2, none⟩ (.slice oc ps.length cc)) w.heap.size #[.string ⟨#[]⟩, .slice none 0 0, .slice none 0 0]) := T1
    have HA0 : Hid (Blk 28 (w3.setCell ⟨w.heap.size + 1, 2, none⟩ (.slice oc ps.length cc)) (w.heap.size + 1) #[.string x, .slice none 0 0, .slice oc ps.length cc]) := T2
    have HOW : Hid (OwnA (w.heap.size + 2) (w3.setCell ⟨w.heap.size + 1, 2, none⟩ (.slice oc ps.length cc)) (.agg #[.string x, .slice none 0 0, .slice oc ps.length cc]) ⟨x, [], ps⟩) := ⟨_, _, rfl, own_nilI _ _, O4⟩
    have HBW : Hid (Below w.heap.size w (w3.setCell ⟨w.heap.size + 1, 2, none⟩ (.slice oc ps.length cc))) := B4
    clear T1 T2 B4 O4 S1 S2 B3 ho3
    have HA : Hid (Blk 28 (w3.setCell ⟨w.heap.size + 1, 2, none⟩ (.slice oc ps.length cc)) (w.heap.size + 1) #[.string x, .slice none 0 0, .slice oc ps.length cc]) := HA0.out
    have c := specAttrOk_any _ ⟨x, [], ps⟩ (w3.setCell ⟨w.heap.size + 1, 2, none⟩ (.slice oc ps.length cc)) HOW.out.at HOK.out
    cases hw : attrOk ⟨x, [], ps⟩ with
    | false =>
      have HF : Hid (attrOfS s = none) := ofS_no1 HPR.out hw
      rw [hw] at c
      clear hw
      go_wp2_with (with_reducible refine wp_at_load rfl _ rfl ?_; refine ⟨_, rfl, _, _, _, HA.out, ?_⟩)
      refine c.mono ?_
      rintro e w7 ⟨rfl, hb7⟩
      clear c HA
      have HB : Hid (Blk 28 w7 w.heap.size #[.string ⟨#[]⟩, .slice none 0 0, .slice none 0 0]) := HR.out.below hb7
      have HBE : Hid (Below w.heap.size w w7) := HBW.out.trans (hb7.mono HBW.out.size)
      clear hb7
      go_wp2_with (with_reducible refine wp_at_store rfl _ _ rfl ?_; refine ⟨_, rfl, _, _, _, _, _, _, _, rfl, _, _, _, HB.out, ?_⟩)
      refine bodyPost_ret (res_at1 Tryd.results12 _ _ _ _ _ _ _ rfl rfl (HB.out.setRow _)) rfl ?_
      rw [HF.out]
      exact ⟨_, rfl, own_empty _ _, below_row HBE.out (Nat.le_refl _) _⟩
    | true =>
      have HWK : Hid (attrOk ⟨x, [], ps⟩ = true) := hw
      rw [hw] at c
      clear hw
      go_wp2_with (with_reducible refine wp_at_load rfl _ rfl ?_; refine ⟨_, rfl, _, _, _, HA.out, ?_⟩)
      refine c.mono ?_
      rintro e w7 ⟨rfl, hb7⟩
      clear c HA
      have HR7 : Hid (Blk 28 w7 w.heap.size #[.string ⟨#[]⟩, .slice none 0 0, .slice none 0 0]) := HR.out.below hb7
      have HA : Hid (Blk 28 w7 (w.heap.size + 1) #[.string x, .slice none 0 0, .slice oc ps.length cc]) := HA0.out.below hb7
      have HOW7 : Hid (OwnA (w.heap.size + 2) w7 (.agg #[.string x, .slice none 0 0, .slice oc ps.length cc]) ⟨x, [], ps⟩) := HOW.out.below hb7
      have HB7 : Hid (Below w.heap.size w w7) := HBW.out.trans (hb7.mono HBW.out.size)
      have HA7 := HA
      clear hb7 HR HA0 HOW HBW
      have cT := specAttrText_any _ ⟨x, [], ps⟩ w7 HOW7.out.at HOK.out
      have k0 : w7.cell? ⟨w.heap.size + 1, 0, none⟩ = some (.string x) := HA.out.cell 0
      have k1 : w7.cell? ⟨w.heap.size + 1, 1, none⟩ = some (.slice none 0 0) := HA.out.cell 1
      have k2 : w7.cell? ⟨w.heap.size + 1, 2, none⟩ = some (.slice oc ps.length cc) := HA.out.cell 2
      by_cases he : attrText ⟨x, [], ps⟩ = s
      · have HF : Hid (attrOfS s = some ⟨x, [], ps⟩) := ofS_yes HPR.out HWK.out he
        have hq : ((attrText ⟨x, [], ps⟩).toList == s.toList) = true := by rw [he]; simp
        clear he
        generalize attrText ⟨x, [], ps⟩ = T at cT hq
        go_wp2_with fail
        refine cT.mono ?_
        rintro e w8 ⟨rfl, hb8⟩
        clear cT HA k0 k1 k2
        have HB : Hid (Blk 28 w8 w.heap.size #[.string ⟨#[]⟩, .slice none 0 0, .slice none 0 0]) := HR7.out.below hb8
        have HA : Hid (Blk 28 w8 (w.heap.size + 1) #[.string x, .slice none 0 0, .slice oc ps.length cc]) := (show Blk 28 w7 (w.heap.size + 1) #[.string x, .slice none 0 0, .slice oc ps.length cc] from HA7.out).below hb8
        have HOW8 := HOW7.out.below hb8
        have HBE : Hid (Below w.heap.size w w8) := HB7.out.trans (hb8.mono HB7.out.size)
        clear hb8
        go_wp2_with (first | (with_reducible refine wp_at_load rfl _ rfl ?_; refine ⟨_, rfl, _, _, _, HA.out, ?_⟩) | (with_reducible refine wp_at_store rfl _ _ rfl ?_; refine ⟨_, rfl, _, _, _, _, _, _, _, rfl, _, _, _, HB.out, ?_⟩))
        refine bodyPost_ret (res_at1 Tryd.results12 _ _ _ _ _ _ _ rfl rfl (HB.out.setRow _)) rfl ?_
        rw [HF.out]
        exact ⟨_, rfl, (HOW8.setRow _ _ (by omega)).base (by omega), below_row HBE.out (Nat.le_refl _) _⟩
      · have HF : Hid (attrOfS s = none) := ofS_no2 HPR.out he
        have hq : ((attrText ⟨x, [], ps⟩).toList == s.toList) = false := by rw [beq_eq_false_iff_ne]; exact fun h => he (bytes_eq_iff.1 h)
        clear he
        generalize attrText ⟨x, [], ps⟩ = T at cT hq
        go_wp2_with fail
        refine cT.mono ?_
        rintro e w8 ⟨rfl, hb8⟩
        clear cT HA k0 k1 k2
        have HB : Hid (Blk 28 w8 w.heap.size #[.string ⟨#[]⟩, .slice none 0 0, .slice none 0 0]) := HR7.out.below hb8
        have HBE : Hid (Below w.heap.size w w8) := HB7.out.trans (hb8.mono HB7.out.size)
        clear hb8
        go_wp2_with (with_reducible refine wp_at_store rfl _ _ rfl ?_; refine ⟨_, rfl, _, _, _, _, _, _, _, rfl, _, _, _, HB.out, ?_⟩)
        refine bodyPost_ret (res_at1 Tryd.results12 _ _ _ _ _ _ _ rfl rfl (HB.out.setRow _)) rfl ?_
        rw [HF.out]
        exact ⟨_, rfl, own_empty _ _, below_row HBE.out (Nat.le_refl _) _⟩
  have hq61 : (((pieces 61 s).length : Int) == 2) = false := by rw [beq_eq_false_iff_ne]; omega
  by_cases h58 : (pieces 58 s).length = 2
  rotate_left
  · have hq58 : (((pieces 58 s).length : Int) == 2) = false := by rw [beq_eq_false_iff_ne]; omega
    have HPR : Hid (preS s = some emptyA) := pre_no h61 h58
    have HOK : Hid (okA emptyA) := ⟨Nat.zero_le _, by simp [emptyA], HN.out⟩
    have HR : Hid (Blk 28 w2 w.heap.size #[.string ⟨#[]⟩, .slice none 0 0, .slice none 0 0]) := K1
    have HA0 : Hid (Blk 28 w2 (w.heap.size + 1) #[.string ⟨#[]⟩, .slice none 0 0, .slice none 0 0]) := K2
    have HOW : Hid (OwnA (w.heap.size + 2) w2 (.agg #[.string ⟨#[]⟩, .slice none 0 0, .slice none 0 0]) emptyA) := own_empty _ _
    have HBW : Hid (Below w.heap.size w w2) := B2
    clear K1 K2 B2 h61 h58 HR1 HR2 HO1 HO2
    generalize emptyA = a0 at HPR HOK HOW
    have HA : Hid (Blk 28 w2 (w.heap.size + 1) #[.string ⟨#[]⟩, .slice none 0 0, .slice none 0 0]) := HA0.out
    have c := specAttrOk_any _ a0 w2 HOW.out.at HOK.out
    cases hw : attrOk a0 with
    | false =>
      have HF : Hid (attrOfS s = none) := ofS_no1 HPR.out hw
      rw [hw] at c
      clear hw
      go_wp2_with (with_reducible refine wp_at_load rfl _ rfl ?_; refine ⟨_, rfl, _, _, _, HA.out, ?_⟩)
      refine c.mono ?_
      rintro e w7 ⟨rfl, hb7⟩
      clear c HA
      have HB : Hid (Blk 28 w7 w.heap.size #[.string ⟨#[]⟩, .slice none 0 0, .slice none 0 0]) := HR.out.below hb7
      have HBE : Hid (Below w.heap.size w w7) := HBW.out.trans (hb7.mono HBW.out.size)
      clear hb7
      go_wp2_with (with_reducible refine wp_at_store rfl _ _ rfl ?_; refine ⟨_, rfl, _, _, _, _, _, _, _, rfl, _, _, _, HB.out, ?_⟩)
      refine bodyPost_ret (res_at1 Tryd.results12 _ _ _ _ _ _ _ rfl rfl (HB.out.setRow _)) rfl ?_
      rw [HF.out]
      exact ⟨_, rfl, own_empty _ _, below_row HBE.out (Nat.le_refl _) _⟩
    | true =>
      have HWK : Hid (attrOk a0 = true) := hw
      rw [hw] at c
      clear hw
      go_wp2_with (with_reducible refine wp_at_load rfl _ rfl ?_; refine ⟨_, rfl, _, _, _, HA.out, ?_⟩)
      refine c.mono ?_
      rintro e w7 ⟨rfl, hb7⟩
      clear c HA
      have HR7 : Hid (Blk 28 w7 w.heap.size #[.string ⟨#[]⟩, .slice none 0 0, .slice none 0 0]) := HR.out.below hb7
      have HA : Hid (Blk 28 w7 (w.heap.size + 1) #[.string ⟨#[]⟩, .slice none 0 0, .slice none 0 0]) := HA0.out.below hb7
      have HOW7 : Hid (OwnA (w.heap.size + 2) w7 (.agg #[.string ⟨#[]⟩, .slice none 0 0, .slice none 0 0]) a0) := HOW.out.below hb7
      have HB7 : Hid (Below w.heap.size w w7) := HBW.out.trans (hb7.mono HBW.out.size)
      have HA7 := HA
      clear hb7 HR HA0 HOW HBW
      have cT := specAttrText_any _ a0 w7 HOW7.out.at HOK.out
      have k0 : w7.cell? ⟨w.heap.size + 1, 0, none⟩ = some (.string ⟨#[]⟩) := HA.out.cell 0
      have k1 : w7.cell? ⟨w.heap.size + 1, 1, none⟩ = some (.slice none 0 0) := HA.out.cell 1
      have k2 : w7.cell? ⟨w.heap.size + 1, 2, none⟩ = some (.slice none 0 0) := HA.out.cell 2
      by_cases he : attrText a0 = s
      · have HF : Hid (attrOfS s = some a0) := ofS_yes HPR.out HWK.out he
        have hq : ((attrText a0).toList == s.toList) = true := by rw [he]; simp
        clear he
        generalize attrText a0 = T at cT hq
        go_wp2_with fail
        refine cT.mono ?_
        rintro e w8 ⟨rfl, hb8⟩
        clear cT HA k0 k1 k2
        have HB : Hid (Blk 28 w8 w.heap.size #[.string ⟨#[]⟩, .slice none 0 0, .slice none 0 0]) := HR7.out.below hb8
        have HA : Hid (Blk 28 w8 (w.heap.size + 1) #[.string ⟨#[]⟩, .slice none 0 0, .slice none 0 0]) := (show Blk 28 w7 (w.heap.size + 1) #[.string ⟨#[]⟩, .slice none 0 0, .slice none 0 0] from HA7.out).below hb8
        have HOW8 := HOW7.out.below hb8
        have HBE : Hid (Below w.heap.size w w8) := HB7.out.trans (hb8.mono HB7.out.size)
        clear hb8
        go_wp2_with (first | (with_reducible refine wp_at_load rfl _ rfl ?_; refine ⟨_, rfl, _, _, _, HA.out, ?_⟩) | (with_reducible refine wp_at_store rfl _ _ rfl ?_; refine ⟨_, rfl, _, _, _, _, _, _, _, rfl, _, _, _, HB.out, ?_⟩))
        refine bodyPost_ret (res_at1 Tryd.results12 _ _ _ _ _ _ _ rfl rfl (HB.out.setRow _)) rfl ?_
        rw [HF.out]
        exact ⟨_, rfl, (HOW8.setRow _ _ (by omega)).base (by omega), below_row HBE.out (Nat.le_refl _) _⟩
      · have HF : Hid (attrOfS s = none) := ofS_no2 HPR.out he
        have hq : ((attrText a0).toList == s.toList) = false := by rw [beq_eq_false_iff_ne]; exact fun h => he (bytes_eq_iff.1 h)
        clear he
        generalize attrText a0 = T at cT hq
        go_wp2_with fail
        refine cT.mono ?_
        rintro e w8 ⟨rfl, hb8⟩
        clear cT HA k0 k1 k2
        have HB : Hid (Blk 28 w8 w.heap.size #[.string ⟨#[]⟩, .slice none 0 0, .slice none 0 0]) := HR7.out.below hb8
        have HBE : Hid (Below w.heap.size w w8) := HB7.out.trans (hb8.mono HB7.out.size)
        clear hb8
        go_wp2_with (with_reducible refine wp_at_store rfl _ _ rfl ?_; refine ⟨_, rfl, _, _, _, _, _, _, _, rfl, _, _, _, HB.out, ?_⟩)
        refine bodyPost_ret (res_at1 Tryd.results12 _ _ _ _ _ _ _ rfl rfl (HB.out.setRow _)) rfl ?_
        rw [HF.out]
        exact ⟨_, rfl, own_empty _ _, below_row HBE.out (Nat.le_refl _) _⟩
  obtain ⟨x, y, hxy⟩ := list_two h58
  obtain ⟨sx, sy⟩ := small_two hxy
  have HBAD : Hid (numsOf (pieces 44 y) = none → preS s = none) := fun h => pre_bad h61 hxy h
  have HGOOD : Hid (∀ zs, numsOf (pieces 44 y) = some zs → preS s = some ⟨x, zs, []⟩) := fun zs h => pre_two h61 hxy h
  obtain ⟨g, o, rfl, hg, hj⟩ := HR2.out (by omega)
  have hgb := (HO2.out.lt g rfl).1
  have q0 := hj 0 (by omega)
  have q1 := hj 1 (by omega)
  rw [hxy] at q0 q1 hc2
  have q0 : w2.cell? ⟨g, o, none⟩ = some (.string x) := q0
  have q1 : w2.cell? ⟨g, o + 1, none⟩ = some (.string y) := q1
  rw [hxy]
  have hc2' : 2 ≤ cb := hc2
  clear hj HR1 HR2 HO1 HO2 hc1 hc2 h58 h61
  have cY := fun W => specParts_any y 44 W (by omega)
  have hpl : (pieces 44 y).length ≤ 1048577 := by have := pieces_len 44 y; omega
  have HPS : Hid (∀ p ∈ pieces 44 y, p.size ≤ 1048576) := fun p hp => by have := pieces_small 44 y p hp; omega
  generalize pieces 44 y = ps at cY HBAD HGOOD hpl HPS
  have c3 : w2.cell? ⟨w.heap.size + 1, 0, none⟩ = some (.string ⟨#[]⟩) := K2.cell 0
  have f3 := K2.frozen 0
  have S1 := K1.setCell_other ⟨w.heap.size + 1, 0, none⟩ (.string x) (by simp)
  have S2 := K2.setCell 0 (.string x)
  have B3 := B2.setCell (p := ⟨w.heap.size + 1, 0, none⟩) (by simp) (.string x)
  have q1' : (w2.setCell ⟨w.heap.size + 1, 0, none⟩ (.string x)).cell? ⟨g, o + 1, none⟩ = some (.string y) := (World.cell?_of_block (heap_setCell_other _ _ _ _ (by simp; omega))).trans q1
  have HS : Hid (Blk 28 (w2.setCell ⟨w.heap.size + 1, 0, none⟩ (.string x)) w.heap.size #[.string ⟨#[]⟩, .slice none 0 0, .slice none 0 0] ∧ Blk 28 (w2.setCell ⟨w.heap.size + 1, 0, none⟩ (.string x)) (w.heap.size + 1) #[.string x, .slice none 0 0, .slice none 0 0] ∧ Below w.heap.size w (w2.setCell ⟨w.heap.size + 1, 0, none⟩ (.string x))) := ⟨S1, S2, B3⟩
  clear S1 S2 B3 K1 K2 B2
  go_wp2_with fail
  refine (cY _).mono ?_
  rintro e w3 ⟨v3, rfl, ho3, hb3⟩
  clear cY c3 f3 q0 q1 q1' hq61
  obtain ⟨S1, S2, B3⟩ := HS.out
  have ls := S2.lt
  replace S1 := S1.below hb3
  replace S2 := S2.below hb3
  replace B3 := B3.trans (hb3.mono B3.size)
  have ho3 := own_base ho3 (b' := w.heap.size + 2) (by omega)
  have l3 := S2.lt
  clear HS hb3 ls
  obtain ⟨ol, cl, hv3, hcl, hrl⟩ := RowS.of_own ho3 rfl
  subst hv3
  have HLB : Hid (∀ k, (Value.slice ol ps.length cl).ownBlock = some k → w.heap.size + 2 ≤ k) := fun k hk => (ho3.lt k hk).1
  have HRL : Hid (0 < ps.length → ∃ g o, ol = some ⟨g, o, none⟩ ∧ g < w3.heap.size ∧ ∀ j, j < ps.length → w3.cell? ⟨g, o + j, none⟩ = some (.string (tx ps j))) := hrl
  have HS1 : Hid (Blk 28 w3 w.heap.size #[.string ⟨#[]⟩, .slice none 0 0, .slice none 0 0]) := S1
  have HS2 : Hid (Blk 28 w3 (w.heap.size + 1) #[.string x, .slice none 0 0, .slice none 0 0]) := S2
  have HB3 : Hid (Below w.heap.size w w3) := B3
  clear S1 S2 B3 ho3 hrl
  go_wp2
  go_loopw [8, 9, 10] (fun i _ _ wr => ∃ (k : Nat) (zs : List Int) (v : Value), i = .int .i64 k ∧ k ≤ ps.length ∧ numsOf (ps.take k) = some zs ∧ wr.ownsRow w3.heap.size 3 1 v k (zs.map (Value.int .i64)) ∧ Blk 28 wr (w.heap.size + 1) #[.string x, v, .slice none 0 0] ∧ w3.grownBy wr (some (w.heap.size + 1))) (fun i _ _ _ => ps.length - (intOf i).toNat)
  case atStart => exact ⟨0, [], .slice none 0 0, rfl, by omega, rfl, ⟨by simp, .inl ⟨rfl, rfl⟩⟩, HS2.out, World.grownBy.refl _ _⟩
  case round =>
    obtain ⟨k, zs, v, rfl, hk, hzs, hown, hblk, hgr⟩ := hrel
    have HZ : Hid (numsOf (ps.take k) = some zs) := hzs
    have HGR : Hid (w3.grownBy wr (some (w.heap.size + 1))) := hgr
    have HBL : Hid (Blk 28 wr (w.heap.size + 1) #[.string x, v, .slice none 0 0]) := hblk
    have HRR : Hid (Blk 28 wr w.heap.size #[.string ⟨#[]⟩, .slice none 0 0, .slice none 0 0]) := HS1.out.kept hgr (by simp)
    have HBW0 : Hid (Below w.heap.size w wr) := below_gset HB3.out hgr (by omega) HB3.out.size
    clear hzs hgr hblk
    by_cases hlt : k < ps.length
    · obtain ⟨gl, ol', rfl, hgl, hj⟩ := HRL.out (by omega)
      have hgl2 := HLB.out gl rfl
      have hcell : wr.cell? ⟨gl, ol' + k, none⟩ = some (.string (tx ps k)) := (World.cell?_of_block (HGR.out.block gl hgl (by simp; omega))).trans (hj k hlt)
      clear hj
      have cS := specSigned_any (tx ps k) wr (by have := HPS.out _ (tx_mem hlt); omega)
      cases hx : sigSpec (tx ps k).data.toList with
      | none =>
        have HF : Hid (attrOfS s = none) := ofS_no0 (HBAD.out (nums_stop hlt HZ.out hx))
        rw [hx] at cS
        unfold gotInt at cS
        clear hx
        go_wp2_with fail
        refine cS.mono ?_
        rintro e w4 ⟨rfl, hb4⟩
        clear cS hcell
        have HB : Hid (Blk 28 w4 w.heap.size #[.string ⟨#[]⟩, .slice none 0 0, .slice none 0 0]) := HRR.out.below hb4
        have HBE : Hid (Below w.heap.size w w4) := HBW0.out.trans (hb4.mono HBW0.out.size)
        clear hb4 hown
        go_wp2_with (with_reducible refine wp_at_store rfl _ _ rfl ?_; refine ⟨_, rfl, _, _, _, _, _, _, _, rfl, _, _, _, HB.out, ?_⟩)
        refine bodyPost_ret (res_at1 Tryd.results12 _ _ _ _ _ _ _ rfl rfl (HB.out.setRow _)) rfl ?_
        rw [HF.out]
        exact ⟨_, rfl, own_empty _ _, below_row HBE.out (Nat.le_refl _) _⟩
      | some xx =>
        have HN2 : Hid (numsOf (ps.take (k + 1)) = some (zs ++ [xx])) := nums_step hlt HZ.out hx
        obtain ⟨x0, x1⟩ := sig_in hx
        rw [hx] at cS
        unfold gotInt at cS
        clear hx
        go_wp2_with fail
        refine cS.mono ?_
        rintro e w4 ⟨rfl, hb4⟩
        clear cS hcell
        have hown4 := own_below hown hb4
        have HG4 : Hid (w3.grownBy w4 (some (w.heap.size + 1))) := grown_below HGR.out hb4
        have HA4 : Hid (Blk 28 w4 (w.heap.size + 1) #[.string x, v, .slice none 0 0]) := HBL.out.below hb4
        have k1 : w4.cell? ⟨w.heap.size + 1, 1, none⟩ = some v := HA4.out.cell 1
        have hsz4 := HG4.out.size
        have la4 := HA4.out.lt
        clear hown hb4 HGR HBL HRR HBW0
        go_wp2_with (at_builtin; refine wpList_append_own _ rfl _ _ 22 rfl w3.heap.size 3 i0 (.int .i64 0) 1 8 Tryd.underlying22 hi hz0 hz1 hz2 rfl (by decide) _ _ _ rfl (hown4.alloc _) ⟨w4.heap.size, 0, none⟩ 1 1 [_] rfl rfl (newc _ _ _) ?d2 ?d3 ?d4 ?d5 ?_)
        case d2 => intro u hu; simp at hu; subst hu; rfl
        case d3 => unfold maxLen; omega
        case d4 => omega
        case d5 => simp; omega
        intro v' w5 hown' hgrow _
        have R : w5.ownsRow w3.heap.size 3 1 v' (k + 1) ((zs ++ [xx]).map (Value.int .i64)) := by simpa using hown'
        have hl4 := hown4.lt
        have HG5 : Hid (w3.grownBy w5 (some (w.heap.size + 1))) := grown_old (grown_below HG4.out ((Below.refl _ _).alloc (Nat.le_refl _) _)) hgrow fun j hj => (hl4 j hj).1
        have HA5 : Hid (Blk 28 w5 (w.heap.size + 1) #[.string x, v, .slice none 0 0]) := (HA4.out.alloc _).kept hgrow fun e => by have := (hl4 _ e).1; omega
        have hlz : (zs ++ [xx]).length = k + 1 := by have := nums_len HN2.out; rw [this]; simp; omega
        obtain ⟨on, cn, hvn, -, -⟩ := RowI.of_own R hlz
        rw [hlz] at hvn
        subst hvn
        clear hown' hgrow hown4 hl4 k1
        have c5 : w5.cell? ⟨w.heap.size + 1, 1, none⟩ = some v := HA5.out.cell 1
        have f5 := HA5.out.frozen 1
        have hown6 := own_setCell R ⟨w.heap.size + 1, 1, none⟩ (.slice on (k + 1) cn) (by simp; omega)
        have HA6 : Blk 28 (w5.setCell ⟨w.heap.size + 1, 1, none⟩ (.slice on (k + 1) cn)) (w.heap.size + 1) #[.string x, .slice on (k + 1) cn, .slice none 0 0] := HA5.out.setCell 1 _
        have HX : Hid ((w5.setCell ⟨w.heap.size + 1, 1, none⟩ (.slice on (k + 1) cn)).ownsRow w3.heap.size 3 1 (.slice on (k + 1) cn) (k + 1) ((zs ++ [xx]).map (Value.int .i64)) ∧ Blk 28 (w5.setCell ⟨w.heap.size + 1, 1, none⟩ (.slice on (k + 1) cn)) (w.heap.size + 1) #[.string x, .slice on (k + 1) cn, .slice none 0 0] ∧ w3.grownBy (w5.setCell ⟨w.heap.size + 1, 1, none⟩ (.slice on (k + 1) cn)) (some (w.heap.size + 1))) := ⟨hown6, HA6, grown_set HG5.out _⟩
        clear hown6 HA6 R
        go_wp2
        go_roundw
        case rel => exact ⟨k + 1, _, _, by go_num, by omega, HN2.out, HX.out.1, HX.out.2.1, HX.out.2.2⟩
        case measure => simp [intOf]; omega
    · obtain rfl : k = ps.length := by omega
      have hN := HZ.out
      rw [List.take_length] at hN
      have hln := nums_len hN
      have HPR : Hid (preS s = some ⟨x, zs, []⟩) := HGOOD.out zs hN
      have HOK : Hid (okA ⟨x, zs, []⟩) := ⟨by show x.size ≤ _; omega, by show zs.length ≤ _; omega, HN.out⟩
      obtain ⟨on, cn, hvn, -, -⟩ := RowI.of_own hown hln
      subst hvn
      rw [← hln] at hown
      have HR := HRR
      have HA0 : Hid (Blk 28 wr (w.heap.size + 1) #[.string x, .slice on zs.length cn, .slice none 0 0]) := HBL.out
      have HOW : Hid (OwnA (w.heap.size + 2) wr (.agg #[.string x, .slice on zs.length cn, .slice none 0 0]) ⟨x, zs, []⟩) := ⟨_, _, rfl, own_base hown (by omega), own_nilS _ _⟩
      have HBW := HBW0
      clear hN hown HRR HBL HBW0 HGR hln
      have HA : Hid (Blk 28 wr (w.heap.size + 1) #[.string x, .slice on zs.length cn, .slice none 0 0]) := HA0.out
      have c := specAttrOk_any _ ⟨x, zs, []⟩ wr HOW.out.at HOK.out
      cases hw : attrOk ⟨x, zs, []⟩ with
      | false =>
        have HF : Hid (attrOfS s = none) := ofS_no1 HPR.out hw
        rw [hw] at c
        clear hw
        go_wp2_with (with_reducible refine wp_at_load rfl _ rfl ?_; refine ⟨_, rfl, _, _, _, HA.out, ?_⟩)
        refine c.mono ?_
        rintro e w7 ⟨rfl, hb7⟩
        clear c HA
        have HB : Hid (Blk 28 w7 w.heap.size #[.string ⟨#[]⟩, .slice none 0 0, .slice none 0 0]) := HR.out.below hb7
        have HBE : Hid (Below w.heap.size w w7) := HBW.out.trans (hb7.mono HBW.out.size)
        clear hb7
        go_wp2_with (with_reducible refine wp_at_store rfl _ _ rfl ?_; refine ⟨_, rfl, _, _, _, _, _, _, _, rfl, _, _, _, HB.out, ?_⟩)
        refine bodyPost_ret (res_at1 Tryd.results12 _ _ _ _ _ _ _ rfl rfl (HB.out.setRow _)) rfl ?_
        rw [HF.out]
        exact ⟨_, rfl, own_empty _ _, below_row HBE.out (Nat.le_refl _) _⟩
      | true =>
        have HWK : Hid (attrOk ⟨x, zs, []⟩ = true) := hw
        rw [hw] at c
        clear hw
        go_wp2_with (with_reducible refine wp_at_load rfl _ rfl ?_; refine ⟨_, rfl, _, _, _, HA.out, ?_⟩)
        refine c.mono ?_
        rintro e w7 ⟨rfl, hb7⟩
        clear c HA
        have HR7 : Hid (Blk 28 w7 w.heap.size #[.string ⟨#[]⟩, .slice none 0 0, .slice none 0 0]) := HR.out.below hb7
        have HA : Hid (Blk 28 w7 (w.heap.size + 1) #[.string x, .slice on zs.length cn, .slice none 0 0]) := HA0.out.below hb7
        have HOW7 : Hid (OwnA (w.heap.size + 2) w7 (.agg #[.string x, .slice on zs.length cn, .slice none 0 0]) ⟨x, zs, []⟩) := HOW.out.below hb7
        have HB7 : Hid (Below w.heap.size w w7) := HBW.out.trans (hb7.mono HBW.out.size)
        have HA7 := HA
        clear hb7 HR HA0 HOW HBW
        have cT := specAttrText_any _ ⟨x, zs, []⟩ w7 HOW7.out.at HOK.out
        have k0 : w7.cell? ⟨w.heap.size + 1, 0, none⟩ = some (.string x) := HA.out.cell 0
        have k1 : w7.cell? ⟨w.heap.size + 1, 1, none⟩ = some (.slice on zs.length cn) := HA.out.cell 1
        have k2 : w7.cell? ⟨w.heap.size + 1, 2, none⟩ = some (.slice none 0 0) := HA.out.cell 2
        by_cases he : attrText ⟨x, zs, []⟩ = s
        · have HF : Hid (attrOfS s = some ⟨x, zs, []⟩) := ofS_yes HPR.out HWK.out he
          have hq : ((attrText ⟨x, zs, []⟩).toList == s.toList) = true := by rw [he]; simp
          clear he
          generalize attrText ⟨x, zs, []⟩ = T at cT hq
          go_wp2_with fail
          refine cT.mono ?_
          rintro e w8 ⟨rfl, hb8⟩
          clear cT HA k0 k1 k2
          have HB : Hid (Blk 28 w8 w.heap.size #[.string ⟨#[]⟩, .slice none 0 0, .slice none 0 0]) := HR7.out.below hb8
          have HA : Hid (Blk 28 w8 (w.heap.size + 1) #[.string x, .slice on zs.length cn, .slice none 0 0]) := (show Blk 28 w7 (w.heap.size + 1) #[.string x, .slice on zs.length cn, .slice none 0 0] from HA7.out).below hb8
          have HOW8 := HOW7.out.below hb8
          have HBE : Hid (Below w.heap.size w w8) := HB7.out.trans (hb8.mono HB7.out.size)
          clear hb8
          go_wp2_with (first | (with_reducible refine wp_at_load rfl _ rfl ?_; refine ⟨_, rfl, _, _, _, HA.out, ?_⟩) | (with_reducible refine wp_at_store rfl _ _ rfl ?_; refine ⟨_, rfl, _, _, _, _, _, _, _, rfl, _, _, _, HB.out, ?_⟩))
          refine bodyPost_ret (res_at1 Tryd.results12 _ _ _ _ _ _ _ rfl rfl (HB.out.setRow _)) rfl ?_
          rw [HF.out]
          exact ⟨_, rfl, (HOW8.setRow _ _ (by omega)).base (by omega), below_row HBE.out (Nat.le_refl _) _⟩
        · have HF : Hid (attrOfS s = none) := ofS_no2 HPR.out he
          have hq : ((attrText ⟨x, zs, []⟩).toList == s.toList) = false := by rw [beq_eq_false_iff_ne]; exact fun h => he (bytes_eq_iff.1 h)
          clear he
          generalize attrText ⟨x, zs, []⟩ = T at cT hq
          go_wp2_with fail
          refine cT.mono ?_
          rintro e w8 ⟨rfl, hb8⟩
          clear cT HA k0 k1 k2
          have HB : Hid (Blk 28 w8 w.heap.size #[.string ⟨#[]⟩, .slice none 0 0, .slice none 0 0]) := HR7.out.below hb8
          have HBE : Hid (Below w.heap.size w w8) := HB7.out.trans (hb8.mono HB7.out.size)
          clear hb8
          go_wp2_with (with_reducible refine wp_at_store rfl _ _ rfl ?_; refine ⟨_, rfl, _, _, _, _, _, _, _, rfl, _, _, _, HB.out, ?_⟩)
          refine bodyPost_ret (res_at1 Tryd.results12 _ _ _ _ _ _ _ rfl rfl (HB.out.setRow _)) rfl ?_
          rw [HF.out]
          exact ⟨_, rfl, own_empty _ _, below_row HBE.out (Nat.le_refl _) _⟩
end Go.Proofs.YtlpjigpnpafkiabDoor
