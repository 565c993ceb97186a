/- A text read as a schema, by the specification. -/
import Derived.Test.YtlpjigpnpafkiabDoorSofq
import Derived.Test.YtlpjigpnpafkiabDoorVe
import Derived.Test.YtlpjigpnpafkiabDoorRf
namespace Go.Proofs.YtlpjigpnpafkiabDoor
open Go.RowKit
set_option maxRecDepth 100000

set_option maxHeartbeats 6400000 in
theorem specSchemaOf_any (s : ByteArray) (w : World) (hs : s.size ≤ 1048576) :
    Calls Tryd.prog 21 #[.string s] w fun e w' => ∃ v, e = .returned (.tuple #[v, .bool (schemaOf s).isSome]) ∧ OwnSep w.heap.size w' v ((schemaOf s).getD emptyS) ∧ Below w.heap.size w w' := by
  obtain ⟨i0, hi, hz0, hz1, hz2⟩ := info_parts atInfo
  obtain ⟨K1, B0⟩ := blk_1 43 w #[.slice none 0 0, .slice none 0 0]
  have cP := specParts_any s 124 (w.alloc (.cells #[.slice none 0 0, .slice none 0 0] 43)) hs
  go_enter Tryd.func21, Tryd.ntmps21
  go_wp2_with fail
  refine cP.mono ?_
  rintro e w1 ⟨v1, rfl, ho1, hb1⟩
  clear cP
  have B1 := B0.trans (hb1.mono B0.size)
  have l1 := K1.lt
  replace K1 := K1.below hb1
  have ho1 := own_base ho1 (b' := w.heap.size + 1) (by omega)
  clear hb1 B0
  obtain ⟨oa, ca, hv1, hc1, hr1⟩ := RowS.of_own ho1 rfl
  subst hv1
  by_cases h2 : (pieces 124 s).length = 2
  rotate_left
  · have HF : Hid (schemaOf s = none) := sof_no0 (psch_len h2)
    have hq : (((pieces 124 s).length : Int) == 2) = false := by rw [beq_eq_false_iff_ne]; omega
    have HB : Hid (Blk 43 w1 w.heap.size #[.slice none 0 0, .slice none 0 0]) := K1
    have HBE : Hid (Below w.heap.size w w1) := B1
    clear K1 B1 ho1 hr1 h2
    go_wp2_with (with_reducible refine wp_sc_store rfl _ _ rfl ?_; refine ⟨_, rfl, _, _, _, _, _, _, rfl, _, _, HB.out, ?_⟩)
    refine bodyPost_ret (res_sc1 Tryd.results21 _ _ _ _ _ _ rfl rfl (HB.out.setRow _)) rfl ?_
    rw [HF.out]
    exact ⟨_, rfl, OwnSep.empty _ _, below_row HBE.out (Nat.le_refl _) _⟩
  obtain ⟨x, y, hxy⟩ := list2 h2
  obtain ⟨sx, sy⟩ := small2 hxy
  have HNO : Hid (attrsOf (pieces 59 x) = none → preSch s = none) := fun h => psch_no hxy h
  have HYES : Hid (∀ ls, attrsOf (pieces 59 x) = some ls → preSch s = some ⟨ls, pieces 44 y⟩) := fun ls h => psch_yes hxy h
  obtain ⟨g, o, rfl, hg, hj⟩ := hr1 (by omega)
  have q0 := hj 0 (by omega)
  have q1 := hj 1 (by omega)
  rw [hxy] at q0 q1 hc1
  have q0 : w1.cell? ⟨g, o, none⟩ = some (.string x) := q0
  have q1 : w1.cell? ⟨g, o + 1, none⟩ = some (.string y) := q1
  rw [hxy]
  have hc1' : 2 ≤ ca := hc1
  clear hj hc1 h2 ho1
  have lw1 := K1.lt
  have cY := specParts_any y 44 w1 (by omega)
  have hpl : (pieces 59 x).length ≤ 1048577 := by have := pieces_len 59 x; omega
  have HPS : Hid (∀ p ∈ pieces 59 x, p.size ≤ 1048576) := fun p hp => by have := pieces_small 59 x p hp; omega
  have HCL : Hid (okS (pieces 44 y)) := okS_pieces (by omega) 44
  generalize pieces 44 y = cls at cY HYES HCL
  go_wp2_with fail
  refine cY.mono ?_
  rintro e w2 ⟨v2, rfl, ho2, hb2⟩
  clear cY
  have B2 := B1.trans (hb2.mono B1.size)
  replace K1 := K1.below hb2
  have q0 := (hb2.cell (p := ⟨g, o, none⟩) hg).trans q0
  have hg2 : g < w2.heap.size := Nat.lt_of_lt_of_le hg hb2.size
  have l1 := hb2.size
  have lK := K1.lt
  have ho2 := own_base ho2 (b' := w.heap.size + 1) (by omega)
  clear hb2 B1 q1
  obtain ⟨oc, cc, hv2, -, -⟩ := RowS.of_own ho2 rfl
  subst hv2
  obtain ⟨KD, BD⟩ := blk_1 43 w2 #[.slice none 0 0, .slice oc cls.length cc]
  have q0' : (w2.alloc (.cells #[.slice none 0 0, .slice oc cls.length cc] 43)).cell? ⟨g, o, none⟩ = some (.string x) := (World.cell?_alloc_past _ g o hg2).trans q0
  have B3 := B2.trans (BD.mono B2.size)
  have cX := specParts_any x 59 (w2.alloc (.cells #[.slice none 0 0, .slice oc cls.length cc] 43)) (by omega)
  generalize pieces 59 x = ps at cX HNO HYES hpl HPS
  replace K1 := K1.below BD
  have HLC : Hid (∀ k, (Value.slice oc cls.length cc).ownBlock = some k → w.heap.size + 1 ≤ k ∧ k < w2.heap.size) := ho2.lt
  have ho3 := own_below ho2 BD
  clear BD B2 ho2
  go_wp2_with fail
  refine cX.mono ?_
  rintro e w3 ⟨v3, rfl, hop, hb3⟩
  clear cX q0 q0'
  have HB3 : Hid (Below w.heap.size w w3) := B3.trans (hb3.mono B3.size)
  have HS1 : Hid (Blk 43 w3 w.heap.size #[.slice none 0 0, .slice none 0 0]) := K1.below hb3
  have HS2 : Hid (Blk 43 w3 w2.heap.size #[.slice none 0 0, .slice oc cls.length cc]) := KD.below hb3
  have HOC : Hid (w3.ownsRow (w.heap.size + 1) 9 1 (.slice oc cls.length cc) cls.length (cls.map Value.string)) := own_below ho3 hb3
  have hsz3 := hb3.size
  rw [World.size_alloc] at hsz3 hop
  clear B3 hb3 K1 KD ho3
  obtain ⟨ol, cl, hv3, hcl, hrl⟩ := RowS.of_own hop rfl
  subst hv3
  have HLB : Hid (∀ k, (Value.slice ol ps.length cl).ownBlock = some k → w2.heap.size + 1 ≤ k) := fun k hk => (hop.lt k hk).1
  have HRL : Hid (0 < ps.length → ∃ g o, ol = some ⟨g, o, none⟩ ∧ g < w3.heap.size ∧ ∀ j, j < ps.length → w3.cell? ⟨g, o + j, none⟩ = some (.string (tx ps j))) := hrl
  clear hop hrl
  go_wp2
  go_loopw [7] (fun i wr => ∃ (k : Nat) (zs : List AttrD) (v : Value) (L : Nat → Value × Value) (ys : List Value), i = .int .i64 k ∧ k ≤ ps.length ∧ attrsOf (ps.take k) = some zs ∧ SepL w3.heap.size wr v L ys zs k ∧ Blk 43 wr w2.heap.size #[v, .slice oc cls.length cc] ∧ w3.grownBy wr (some w2.heap.size)) (fun i _ => ps.length - (intOf i).toNat)
  case atStart => exact ⟨0, [], .slice none 0 0, fun _ => (.slice none 0 0, .slice none 0 0), [], rfl, by omega, rfl, SepL.nil _ _ _, HS2.out, World.grownBy.refl _ _⟩
  case round =>
    obtain ⟨k, zs, v, L, ys, rfl, hk, hzs, hsep, hblk, hgr⟩ := hrel
    have HZ : Hid (attrsOf (ps.take k) = some zs) := hzs
    have HZL : Hid (zs.length = k) := by have := attrs_len hzs; show zs.length = k; rw [this]; simp; omega
    have HSEP : Hid (SepL w3.heap.size wr v L ys zs k) := hsep
    have HGR : Hid (w3.grownBy wr (some w2.heap.size)) := hgr
    have HBL : Hid (Blk 43 wr w2.heap.size #[v, .slice oc cls.length cc]) := hblk
    have HRR : Hid (Blk 43 wr w.heap.size #[.slice none 0 0, .slice none 0 0]) := HS1.out.kept hgr (by simp; omega)
    have HBW0 : Hid (Below w.heap.size w wr) := belowG HB3.out hgr (by omega) HB3.out.size
    have HOCR : Hid (wr.ownsRow (w.heap.size + 1) 9 1 (.slice oc cls.length cc) cls.length (cls.map Value.string)) := HOC.out.kept hgr (by
      cases e : (Value.slice oc cls.length cc).ownBlock with
      | none => exact .inl rfl
      | some b => refine .inr ?_; have := (HLC.out b e).2; simp; omega)
    have hszr := hgr.size
    clear hzs hgr hblk hsep
    by_cases hlt : k < ps.length
    · obtain ⟨gl, ol', rfl, hgl, hj⟩ := HRL.out (by omega)
      have hgl2 := HLB.out gl rfl
      have hcell : wr.cell? ⟨gl, ol' + k, none⟩ = some (.string (tx ps k)) := (World.cell?_of_block (HGR.out.block gl hgl (by simp; omega))).trans (hj k hlt)
      clear hj
      have cA := specAttrOf_any (tx ps k) wr (HPS.out _ (tx_mem hlt))
      cases hx : attrOfS (tx ps k) with
      | none =>
        have HF : Hid (schemaOf s = none) := sof_no0 (HNO.out (attrs_stop hlt HZ.out hx))
        rw [hx] at cA
        simp only [Option.isSome_none, Option.getD_none] at cA
        clear hx
        go_wp2_with fail
        refine cA.mono ?_
        rintro e w4 ⟨v4, rfl, ho4, hb4⟩
        clear cA hcell
        obtain ⟨y1, y2, rfl, rr1, rr2⟩ := id ho4
        obtain ⟨p1, d1, rfl, -, -⟩ := RowI.of_own rr1 rfl
        obtain ⟨p2, d2, rfl, -, -⟩ := RowS.of_own rr2 rfl
        clear rr1 rr2 ho4
        obtain ⟨KA, BA⟩ := blk_1 28 w4 #[.string emptyA.name, .slice p1 emptyA.cuts.length d1, .slice p2 emptyA.vals.length d2]
        have HB : Hid (Blk 43 (w4.alloc (.cells #[.string emptyA.name, .slice p1 emptyA.cuts.length d1, .slice p2 emptyA.vals.length d2] 28)) w.heap.size #[.slice none 0 0, .slice none 0 0]) := (HRR.out.below hb4).below BA
        have HBE : Hid (Below w.heap.size w (w4.alloc (.cells #[.string emptyA.name, .slice p1 emptyA.cuts.length d1, .slice p2 emptyA.vals.length d2] 28))) := by
          have h1 := HBW0.out.trans (hb4.mono HBW0.out.size)
          exact h1.trans (BA.mono h1.size)
        clear hb4 KA BA
        go_wp2_with (with_reducible refine wp_sc_store rfl _ _ rfl ?_; refine ⟨_, rfl, _, _, _, _, _, _, rfl, _, _, HB.out, ?_⟩)
        refine bodyPost_ret (res_sc1 Tryd.results21 _ _ _ _ _ _ rfl rfl (HB.out.setRow _)) rfl ?_
        rw [HF.out]
        exact ⟨_, rfl, OwnSep.empty _ _, below_row HBE.out (Nat.le_refl _) _⟩
      | some a =>
        have HN2 : Hid (attrsOf (ps.take (k + 1)) = some (zs ++ [a])) := attrs_step hlt HZ.out hx
        rw [hx] at cA
        simp only [Option.isSome_some, Option.getD_some] at cA
        clear hx
        go_wp2_with fail
        refine cA.mono ?_
        rintro e w4 ⟨v4, rfl, ho4, hb4⟩
        clear cA hcell
        obtain ⟨y1, y2, rfl, rr1, rr2⟩ := ho4
        obtain ⟨p1, d1, hp1, -, -⟩ := RowI.of_own rr1 rfl
        obtain ⟨p2, d2, hp2, -, -⟩ := RowS.of_own rr2 rfl
        subst hp1 hp2
        obtain ⟨KA, BA⟩ := blk_1 28 w4 #[.string a.name, .slice p1 a.cuts.length d1, .slice p2 a.vals.length d2]
        have BB4 := hb4.trans (BA.mono hb4.size)
        have HG5 : Hid (w3.grownBy (w4.alloc (.cells #[.string a.name, .slice p1 a.cuts.length d1, .slice p2 a.vals.length d2] 28)) (some w2.heap.size)) := grownB HGR.out BB4
        have HA5 : Hid (Blk 43 (w4.alloc (.cells #[.string a.name, .slice p1 a.cuts.length d1, .slice p2 a.vals.length d2] 28)) w2.heap.size #[v, .slice oc cls.length cc]) := HBL.out.below BB4
        have HR5 : Hid (Blk 43 (w4.alloc (.cells #[.string a.name, .slice p1 a.cuts.length d1, .slice p2 a.vals.length d2] 28)) w.heap.size #[.slice none 0 0, .slice none 0 0]) := HRR.out.below BB4
        have hrow5 := own_below HSEP.out.row BB4
        have HI5 : Hid ((w4.alloc (.cells #[.string a.name, .slice p1 a.cuts.length d1, .slice p2 a.vals.length d2] 28)).ownsRow wr.heap.size 3 1 (.slice p1 a.cuts.length d1) a.cuts.length (a.cuts.map (Value.int .i64)) ∧ (w4.alloc (.cells #[.string a.name, .slice p1 a.cuts.length d1, .slice p2 a.vals.length d2] 28)).ownsRow wr.heap.size 9 1 (.slice p2 a.vals.length d2) a.vals.length (a.vals.map Value.string)) := ⟨own_below rr1 BA, own_below rr2 BA⟩
        have HBB : Hid (Below wr.heap.size wr (w4.alloc (.cells #[.string a.name, .slice p1 a.cuts.length d1, .slice p2 a.vals.length d2] 28))) := BB4
        have k0 : (w4.alloc (.cells #[.string a.name, .slice p1 a.cuts.length d1, .slice p2 a.vals.length d2] 28)).cell? ⟨w2.heap.size, 0, none⟩ = some v := HA5.out.cell 0
        have hz4 := hb4.size
        clear hb4 KA BA BB4 rr1 rr2
        go_wp2_with (at_builtin; go_loud (refine wpList_append_own _ rfl _ _ 41 rfl w3.heap.size 28 i0 (.agg #[.string ⟨#[]⟩, .slice none 0 0, .slice none 0 0]) 3 64 Tryd.underlying41 hi hz0 hz1 hz2 ?d6 ?d7 v k ys rfl ?d8 ⟨w4.heap.size + 1, 0, none⟩ 1 1 [.string a.name, .slice p1 a.cuts.length d1, .slice p2 a.vals.length d2] rfl rfl ?d1 ?d2 ?d3 ?d4 ?d5 ?_))
        case d6 => rfl
        case d7 => decide
        case d8 => exact hrow5.alloc _
        case d1 =>
          have := newc3 (w4.alloc (.cells #[.string a.name, .slice p1 a.cuts.length d1, .slice p2 a.vals.length d2] 28)) (.string a.name) (.slice p1 a.cuts.length d1) (.slice p2 a.vals.length d2) 28
          rw [World.size_alloc] at this
          exact this
        case d2 => intro u hu; simp at hu; rcases hu with rfl | rfl | rfl <;> rfl
        case d3 => unfold maxLen; omega
        case d4 => omega
        case d5 => simp; omega
        intro v' w5 hown' hgrow _
        have hl5 := hrow5.lt
        have SE := HSEP.out.snoc (b := wr.heap.size) (w1 := ((w4.alloc (.cells #[.string a.name, .slice p1 a.cuts.length d1, .slice p2 a.vals.length d2] 28)).alloc (.cells #[.string a.name, .slice p1 a.cuts.length d1, .slice p2 a.vals.length d2] 28))) HZL.out
          (fun j hj => ⟨fun b hb => ((HSEP.out.ints j hj).lt b hb).2, fun b hb => ((HSEP.out.strs j hj).lt b hb).2⟩)
          (fun ho => (own_below ho HBB.out).alloc _) (HI5.out.1.alloc _) (HI5.out.2.alloc _) hszr (hrow5.alloc _) hgrow hown'
        have HG6 : Hid (w3.grownBy w5 (some w2.heap.size)) := grownO (grownB HG5.out ((Below.refl _ _).alloc (Nat.le_refl _) _)) hgrow fun j hj => (hl5 j hj).1
        have HA6 : Hid (Blk 43 w5 w2.heap.size #[v, .slice oc cls.length cc]) := (HA5.out.alloc _).kept hgrow fun e => by have := (hl5 _ e).1; omega
        obtain ⟨on, cn, hvn⟩ := own_form hown'
        subst hvn
        clear hown' hgrow hrow5 hl5 k0
        have c5 : w5.cell? ⟨w2.heap.size, 0, none⟩ = some v := HA6.out.cell 0
        have f5 := HA6.out.frozen 0
        have SE6 := SE.setCell ⟨w2.heap.size, 0, none⟩ (.slice on (k + 1) cn) (by show w2.heap.size < _; omega)
        have BL6 : Blk 43 (w5.setCell ⟨w2.heap.size, 0, none⟩ (.slice on (k + 1) cn)) w2.heap.size #[.slice on (k + 1) cn, .slice oc cls.length cc] := HA6.out.setCell 0 _
        have HX : Hid (SepL w3.heap.size (w5.setCell ⟨w2.heap.size, 0, none⟩ (.slice on (k + 1) cn)) (.slice on (k + 1) cn) (fun j => if j = k then (.slice p1 a.cuts.length d1, .slice p2 a.vals.length d2) else L j) (ys ++ [.string a.name, .slice p1 a.cuts.length d1, .slice p2 a.vals.length d2]) (zs ++ [a]) (k + 1) ∧ Blk 43 (w5.setCell ⟨w2.heap.size, 0, none⟩ (.slice on (k + 1) cn)) w2.heap.size #[.slice on (k + 1) cn, .slice oc cls.length cc] ∧ w3.grownBy (w5.setCell ⟨w2.heap.size, 0, none⟩ (.slice on (k + 1) cn)) (some w2.heap.size)) := ⟨SE6, BL6, grownC HG6.out _⟩
        clear SE SE6 BL6
        go_wp2
        go_roundw
        case rel => exact ⟨k + 1, _, _, _, _, by go_num, by omega, HN2.out, HX.out.1, HX.out.2.1, HX.out.2.2⟩
        case measure => simp [intOf]; omega
    · obtain rfl : k = ps.length := by omega
      have hN := HZ.out
      rw [List.take_length] at hN
      have HPR : Hid (preSch s = some ⟨zs, cls⟩) := HYES.out zs hN
      have HOK : Hid (okSch ⟨zs, cls⟩) := ⟨by show zs.length ≤ _; rw [HZL.out]; omega, got_each hN, HCL.out⟩
      have hsz : SepL w3.heap.size wr v L ys zs zs.length := by rw [HZL.out]; exact HSEP.out
      have HSZ : Hid (SepL w3.heap.size wr v L ys zs zs.length) := hsz
      obtain ⟨on, cn, hvn⟩ := own_form HSEP.out.row
      subst hvn
      clear hN hsz HSEP
      have HD : Hid (Blk 43 wr w2.heap.size #[.slice on ps.length cn, .slice oc cls.length cc]) := HBL.out
      have c := specSchemaOk_any (.agg #[.slice on ps.length cn, .slice oc cls.length cc]) ⟨zs, cls⟩ wr ⟨_, _, rfl, HSZ.out.own.at, RowS.of_own HOCR.out rfl⟩ HOK.out
      cases hw : schemaOk ⟨zs, cls⟩ with
      | false =>
        have HF : Hid (schemaOf s = none) := sof_no1 HPR.out hw
        rw [hw] at c
        clear hw
        go_wp2_with (with_reducible refine wp_sc_load rfl _ rfl ?_; refine ⟨_, rfl, _, _, HD.out, ?_⟩)
        refine c.mono ?_
        rintro e w7 ⟨rfl, hb7⟩
        clear c
        have HB : Hid (Blk 43 w7 w.heap.size #[.slice none 0 0, .slice none 0 0]) := HRR.out.below hb7
        have HBE : Hid (Below w.heap.size w w7) := HBW0.out.trans (hb7.mono HBW0.out.size)
        clear hb7
        go_wp2_with (with_reducible refine wp_sc_store rfl _ _ rfl ?_; refine ⟨_, rfl, _, _, _, _, _, _, rfl, _, _, HB.out, ?_⟩)
        refine bodyPost_ret (res_sc1 Tryd.results21 _ _ _ _ _ _ rfl rfl (HB.out.setRow _)) rfl ?_
        rw [HF.out]
        exact ⟨_, rfl, OwnSep.empty _ _, below_row HBE.out (Nat.le_refl _) _⟩
      | true =>
        have HF : Hid (schemaOf s = some ⟨zs, cls⟩) := sof_yes HPR.out hw
        rw [hw] at c
        clear hw
        go_wp2_with (with_reducible refine wp_sc_load rfl _ rfl ?_; refine ⟨_, rfl, _, _, HD.out, ?_⟩)
        refine c.mono ?_
        rintro e w7 ⟨rfl, hb7⟩
        clear c
        have HB : Hid (Blk 43 w7 w.heap.size #[.slice none 0 0, .slice none 0 0]) := HRR.out.below hb7
        have HD7 : Hid (Blk 43 w7 w2.heap.size #[.slice on ps.length cn, .slice oc cls.length cc]) := HD.out.below hb7
        have HBE : Hid (Below w.heap.size w w7) := HBW0.out.trans (hb7.mono HBW0.out.size)
        have S7 := HSZ.out.below hb7
        have O7 := own_below HOCR.out hb7
        clear hb7 HD
        go_wp2_with (first | (with_reducible refine wp_sc_load rfl _ rfl ?_; refine ⟨_, rfl, _, _, HD7.out, ?_⟩) | (with_reducible refine wp_sc_store rfl _ _ rfl ?_; refine ⟨_, rfl, _, _, _, _, _, _, rfl, _, _, HB.out, ?_⟩))
        refine bodyPost_ret (res_sc1 Tryd.results21 _ _ _ _ _ _ rfl rfl (HB.out.setRow _)) rfl ?_
        rw [HF.out]
        refine ⟨_, rfl, ⟨_, _, L, ys, rfl, (S7.setRow _ _ (by omega)).base (by omega), own_base (own_setRow O7 _ _ (by omega)) (by omega), fun j c b hj hc hb => ?_⟩, below_row HBE.out (Nat.le_refl _) _⟩
        have h1 := (HLC.out c hc).2
        have h2 := ((S7.strs j hj).lt b hb).1
        omega
end Go.Proofs.YtlpjigpnpafkiabDoor
