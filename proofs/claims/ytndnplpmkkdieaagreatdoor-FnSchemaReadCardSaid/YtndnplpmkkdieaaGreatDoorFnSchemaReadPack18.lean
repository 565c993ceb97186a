/- Texts of this claim, put together: part 18. -/
import Derived.Test.YtndnplpmkkdieaaGreatDoorFnSchemaReadPack17
import Derived.Test.YtndnplpmkkdieaaGreatDoorFnSchemaReadPack14
import Derived.Test.YtndnplpmkkdieaaGreatDoorFnSchemaReadPack11
import Derived.Test.YtndnplpmkkdieaaGreatDoorFnSchemaReadPack13
/- A text read as a schema, by the program. -/
namespace Go.Proofs.YtndnplpmkkdieaaGreatDoor
open Go.RowKit
set_option maxRecDepth 100000

set_option maxHeartbeats 6400000 in
theorem implSchemaOf_any (s : ByteArray) (u : TypeId) (ev : Value) (m : Int) (w : World) (hs : s.size ≤ 1048576) (hE : Env u ev m w) :
    Calls Tryz.prog 7 #[.string s] w fun e w' => ∃ v, e = .returned (.tuple #[v, .bool (schemaOf s).isSome]) ∧ OwnSep w.heap.size w' v ((schemaOf s).getD emptyS) ∧ Below w.heap.size w w' := by
  obtain ⟨i0, hi, hz0, hz1, hz2⟩ := info_parts atInfo
  obtain ⟨K1, B0⟩ := blk_1 27 w #[.slice none 0 0, .slice none 0 0]
  have HE : Hid (Env u ev m w) := hE
  clear hE
  have cP := iParts_any s 124 u ev m (w.alloc (.cells #[.slice none 0 0, .slice none 0 0] 27)) hs (HE.out.later B0)
  go_enter Tryz.func7, Tryz.ntmps7
  go_wp2_with fail
  refine cP.mono ?_
  rintro e w1 ⟨v1, rfl, ho1, hb1⟩
  clear cP
  have B1 := B0.trans (hb1.mono B0.size)
  have l1 := K1.lt
  replace K1 := K1.below hb1
  have ho1 := own_base ho1 (b' := w.heap.size + 1) (by omega)
  clear hb1 B0
  obtain ⟨oa, ca, hv1, hc1, hr1⟩ := RowS.of_own ho1 rfl
  subst hv1
  by_cases h2 : (pieces 124 s).length = 2
  rotate_left
  · have HF : Hid (schemaOf s = none) := sof_no0 (psch_len h2)
    have hq : (((pieces 124 s).length : Int) == 2) = false := by rw [beq_eq_false_iff_ne]; omega
    have HB : Hid (Blk 27 w1 w.heap.size #[.slice none 0 0, .slice none 0 0]) := K1
    have HBE : Hid (Below w.heap.size w w1) := B1
    clear K1 B1 ho1 hr1 h2
    go_wp2_with (with_reducible refine wp_sc_store rfl _ _ rfl ?_; refine ⟨_, rfl, _, _, _, _, _, _, rfl, _, _, HB.out, ?_⟩)
    refine bodyPost_ret (res_sc1 Tryz.results7 _ _ _ _ _ _ rfl rfl (HB.out.setRow _)) rfl ?_
    rw [HF.out]
    exact ⟨_, rfl, OwnSep.empty _ _, below_row HBE.out (Nat.le_refl _) _⟩
  obtain ⟨x, y, hxy⟩ := list2 h2
  obtain ⟨sx, sy⟩ := small2 hxy
  have HNO : Hid (attrsOf (pieces 59 x) = none → preSch s = none) := fun h => psch_no hxy h
  have HYES : Hid (∀ ls, attrsOf (pieces 59 x) = some ls → preSch s = some ⟨ls, pieces 44 y⟩) := fun ls h => psch_yes hxy h
  obtain ⟨g, o, rfl, hg, hj⟩ := hr1 (by omega)
  have q0 := hj 0 (by omega)
  have q1 := hj 1 (by omega)
  rw [hxy] at q0 q1 hc1
  have q0 : w1.cell? ⟨g, o, none⟩ = some (.string x) := q0
  have q1 : w1.cell? ⟨g, o + 1, none⟩ = some (.string y) := q1
  rw [hxy]
  have hc1' : 2 ≤ ca := hc1
  clear hj hc1 h2 ho1
  have lw1 := K1.lt
  have cY := iParts_any y 44 u ev m w1 (by omega) (HE.out.later B1)
  have hpl : (pieces 59 x).length ≤ 1048577 := by have := pieces_len 59 x; omega
  have HPS : Hid (∀ p ∈ pieces 59 x, p.size ≤ 1048576) := fun p hp => by have := pieces_small 59 x p hp; omega
  have HCL : Hid (okS (pieces 44 y)) := okS_pieces (by omega) 44
  generalize pieces 44 y = cls at cY HYES HCL
  go_wp2_with fail
  refine cY.mono ?_
  rintro e w2 ⟨v2, rfl, ho2, hb2⟩
  clear cY
  have B2 := B1.trans (hb2.mono B1.size)
  replace K1 := K1.below hb2
  have q0 := (hb2.cell (p := ⟨g, o, none⟩) hg).trans q0
  have hg2 : g < w2.heap.size := Nat.lt_of_lt_of_le hg hb2.size
  have l1 := hb2.size
  have lK := K1.lt
  have ho2 := own_base ho2 (b' := w.heap.size + 1) (by omega)
  clear hb2 B1 q1
  obtain ⟨oc, cc, hv2, -, -⟩ := RowS.of_own ho2 rfl
  subst hv2
  obtain ⟨KD, BD⟩ := blk_1 27 w2 #[.slice none 0 0, .slice oc cls.length cc]
  have q0' : (w2.alloc (.cells #[.slice none 0 0, .slice oc cls.length cc] 27)).cell? ⟨g, o, none⟩ = some (.string x) := (World.cell?_alloc_past _ g o hg2).trans q0
  have B3 := B2.trans (BD.mono B2.size)
  have cX := iParts_any x 59 u ev m (w2.alloc (.cells #[.slice none 0 0, .slice oc cls.length cc] 27)) (by omega) (HE.out.later B3)
  generalize pieces 59 x = ps at cX HNO HYES hpl HPS
  replace K1 := K1.below BD
  have HLC : Hid (∀ k, (Value.slice oc cls.length cc).ownBlock = some k → w.heap.size + 1 ≤ k ∧ k < w2.heap.size) := ho2.lt
  have ho3 := own_below ho2 BD
  clear BD B2 ho2
  go_wp2_with fail
  refine cX.mono ?_
  rintro e w3 ⟨v3, rfl, hop, hb3⟩
  clear cX q0 q0'
  have HB3 : Hid (Below w.heap.size w w3) := B3.trans (hb3.mono B3.size)
  have HS1 : Hid (Blk 27 w3 w.heap.size #[.slice none 0 0, .slice none 0 0]) := K1.below hb3
  have HS2 : Hid (Blk 27 w3 w2.heap.size #[.slice none 0 0, .slice oc cls.length cc]) := KD.below hb3
  have HOC : Hid (w3.ownsRow (w.heap.size + 1) 9 1 (.slice oc cls.length cc) cls.length (cls.map Value.string)) := own_below ho3 hb3
  have hsz3 := hb3.size
  rw [World.size_alloc] at hsz3 hop
  clear B3 hb3 K1 KD ho3
  obtain ⟨ol, cl, hv3, hcl, hrl⟩ := RowS.of_own hop rfl
  subst hv3
  have HLB : Hid (∀ k, (Value.slice ol ps.length cl).ownBlock = some k → w2.heap.size + 1 ≤ k) := fun k hk => (hop.lt k hk).1
  have HRL : Hid (0 < ps.length → ∃ g o, ol = some ⟨g, o, none⟩ ∧ g < w3.heap.size ∧ ∀ j, j < ps.length → w3.cell? ⟨g, o + j, none⟩ = some (.string (tx ps j))) := hrl
  clear hop hrl
  go_wp2
  go_loopw [26] (fun i wr => ∃ (k : Nat) (zs : List AttrD) (v : Value) (L : Nat → Value × Value) (ys : List Value), i = .int .i64 k ∧ k ≤ ps.length ∧ attrsOf (ps.take k) = some zs ∧ SepL w3.heap.size wr v L ys zs k ∧ Blk 27 wr w2.heap.size #[v, .slice oc cls.length cc] ∧ w3.grownBy wr (some w2.heap.size)) (fun i _ => ps.length - (intOf i).toNat)
  case atStart => exact ⟨0, [], .slice none 0 0, fun _ => (.slice none 0 0, .slice none 0 0), [], rfl, by omega, rfl, SepL.nil _ _ _, HS2.out, World.grownBy.refl _ _⟩
  case round =>
    obtain ⟨k, zs, v, L, ys, rfl, hk, hzs, hsep, hblk, hgr⟩ := hrel
    have HZ : Hid (attrsOf (ps.take k) = some zs) := hzs
    have HZL : Hid (zs.length = k) := by have := attrs_len hzs; show zs.length = k; rw [this]; simp; omega
    have HSEP : Hid (SepL w3.heap.size wr v L ys zs k) := hsep
    have HGR : Hid (w3.grownBy wr (some w2.heap.size)) := hgr
    have HBL : Hid (Blk 27 wr w2.heap.size #[v, .slice oc cls.length cc]) := hblk
    have HRR : Hid (Blk 27 wr w.heap.size #[.slice none 0 0, .slice none 0 0]) := HS1.out.kept hgr (by simp; omega)
    have HBW0 : Hid (Below w.heap.size w wr) := belowG HB3.out hgr (by omega) HB3.out.size
    have HOCR : Hid (wr.ownsRow (w.heap.size + 1) 9 1 (.slice oc cls.length cc) cls.length (cls.map Value.string)) := HOC.out.kept hgr (by
      cases e : (Value.slice oc cls.length cc).ownBlock with
      | none => exact .inl rfl
      | some b => refine .inr ?_; have := (HLC.out b e).2; simp; omega)
    have hszr := hgr.size
    clear hzs hgr hblk hsep
    by_cases hlt : k < ps.length
    · obtain ⟨gl, ol', rfl, hgl, hj⟩ := HRL.out (by omega)
      have hgl2 := HLB.out gl rfl
      have hcell : wr.cell? ⟨gl, ol' + k, none⟩ = some (.string (tx ps k)) := (World.cell?_of_block (HGR.out.block gl hgl (by simp; omega))).trans (hj k hlt)
      clear hj
      have cA := implAttrOf_any (tx ps k) u ev m wr (HPS.out _ (tx_mem hlt)) (HE.out.later HBW0.out)
      rw [attrOf_one] at cA
      cases hx : attrOfS (tx ps k) with
      | none =>
        have HF : Hid (schemaOf s = none) := sof_no0 (HNO.out (attrs_stop hlt HZ.out hx))
        rw [hx] at cA
        simp only [Option.isSome_none, Option.getD_none] at cA
        clear hx
        go_wp2_with fail
        refine cA.mono ?_
        rintro e w4 ⟨v4, rfl, ho4, -, hb4⟩
        clear cA hcell
        obtain ⟨y1, y2, rfl, rr1, rr2⟩ := id ho4
        obtain ⟨p1, d1, rfl, -, -⟩ := RowI.of_own rr1 rfl
        obtain ⟨p2, d2, rfl, -, -⟩ := RowS.of_own rr2 rfl
        clear rr1 rr2 ho4
        obtain ⟨KA, BA⟩ := blk_1 41 w4 #[.string emptyA.name, .slice p1 emptyA.cuts.length d1, .slice p2 emptyA.vals.length d2]
        have HB : Hid (Blk 27 (w4.alloc (.cells #[.string emptyA.name, .slice p1 emptyA.cuts.length d1, .slice p2 emptyA.vals.length d2] 41)) w.heap.size #[.slice none 0 0, .slice none 0 0]) := (HRR.out.below hb4).below BA
        have HBE : Hid (Below w.heap.size w (w4.alloc (.cells #[.string emptyA.name, .slice p1 emptyA.cuts.length d1, .slice p2 emptyA.vals.length d2] 41))) := by
          have h1 := HBW0.out.trans (hb4.mono HBW0.out.size)
          exact h1.trans (BA.mono h1.size)
        clear hb4 KA BA
        go_wp2_with (with_reducible refine wp_sc_store rfl _ _ rfl ?_; refine ⟨_, rfl, _, _, _, _, _, _, rfl, _, _, HB.out, ?_⟩)
        refine bodyPost_ret (res_sc1 Tryz.results7 _ _ _ _ _ _ rfl rfl (HB.out.setRow _)) rfl ?_
        rw [HF.out]
        exact ⟨_, rfl, OwnSep.empty _ _, below_row HBE.out (Nat.le_refl _) _⟩
      | some a =>
        have HN2 : Hid (attrsOf (ps.take (k + 1)) = some (zs ++ [a])) := attrs_step hlt HZ.out hx
        rw [hx] at cA
        simp only [Option.isSome_some, Option.getD_some] at cA
        clear hx
        go_wp2_with fail
        refine cA.mono ?_
        rintro e w4 ⟨v4, rfl, ho4, -, hb4⟩
        clear cA hcell
        obtain ⟨y1, y2, rfl, rr1, rr2⟩ := ho4
        obtain ⟨p1, d1, hp1, -, -⟩ := RowI.of_own rr1 rfl
        obtain ⟨p2, d2, hp2, -, -⟩ := RowS.of_own rr2 rfl
        subst hp1 hp2
        obtain ⟨KA, BA⟩ := blk_1 41 w4 #[.string a.name, .slice p1 a.cuts.length d1, .slice p2 a.vals.length d2]
        have BB4 := hb4.trans (BA.mono hb4.size)
        have HG5 : Hid (w3.grownBy (w4.alloc (.cells #[.string a.name, .slice p1 a.cuts.length d1, .slice p2 a.vals.length d2] 41)) (some w2.heap.size)) := grownB HGR.out BB4
        have HA5 : Hid (Blk 27 (w4.alloc (.cells #[.string a.name, .slice p1 a.cuts.length d1, .slice p2 a.vals.length d2] 41)) w2.heap.size #[v, .slice oc cls.length cc]) := HBL.out.below BB4
        have HR5 : Hid (Blk 27 (w4.alloc (.cells #[.string a.name, .slice p1 a.cuts.length d1, .slice p2 a.vals.length d2] 41)) w.heap.size #[.slice none 0 0, .slice none 0 0]) := HRR.out.below BB4
        have hrow5 := own_below HSEP.out.row BB4
        have HI5 : Hid ((w4.alloc (.cells #[.string a.name, .slice p1 a.cuts.length d1, .slice p2 a.vals.length d2] 41)).ownsRow wr.heap.size 3 1 (.slice p1 a.cuts.length d1) a.cuts.length (a.cuts.map (Value.int .i64)) ∧ (w4.alloc (.cells #[.string a.name, .slice p1 a.cuts.length d1, .slice p2 a.vals.length d2] 41)).ownsRow wr.heap.size 9 1 (.slice p2 a.vals.length d2) a.vals.length (a.vals.map Value.string)) := ⟨own_below rr1 BA, own_below rr2 BA⟩
        have HBB : Hid (Below wr.heap.size wr (w4.alloc (.cells #[.string a.name, .slice p1 a.cuts.length d1, .slice p2 a.vals.length d2] 41))) := BB4
        have k0 : (w4.alloc (.cells #[.string a.name, .slice p1 a.cuts.length d1, .slice p2 a.vals.length d2] 41)).cell? ⟨w2.heap.size, 0, none⟩ = some v := HA5.out.cell 0
        have hz4 := hb4.size
        clear hb4 KA BA BB4 rr1 rr2
        go_wp2_with (at_builtin; go_loud (refine wpList_append_own _ rfl _ _ 24 rfl w3.heap.size 41 i0 (.agg #[.string ⟨#[]⟩, .slice none 0 0, .slice none 0 0]) 3 64 Tryz.underlying24 hi hz0 hz1 hz2 ?d6 ?d7 v k ys rfl ?d8 ⟨w4.heap.size + 1, 0, none⟩ 1 1 [.string a.name, .slice p1 a.cuts.length d1, .slice p2 a.vals.length d2] rfl rfl ?d1 ?d2 ?d3 ?d4 ?d5 ?_))
        case d6 => rfl
        case d7 => decide
        case d8 => exact hrow5.alloc _
        case d1 =>
          have := newc3 (w4.alloc (.cells #[.string a.name, .slice p1 a.cuts.length d1, .slice p2 a.vals.length d2] 41)) (.string a.name) (.slice p1 a.cuts.length d1) (.slice p2 a.vals.length d2) 41
          rw [World.size_alloc] at this
          exact this
        case d2 => intro u hu; simp at hu; rcases hu with rfl | rfl | rfl <;> rfl
        case d3 => unfold maxLen; omega
        case d4 => omega
        case d5 => simp; omega
        intro v' w5 hown' hgrow _
        have hl5 := hrow5.lt
        have SE := HSEP.out.snoc (b := wr.heap.size) (w1 := ((w4.alloc (.cells #[.string a.name, .slice p1 a.cuts.length d1, .slice p2 a.vals.length d2] 41)).alloc (.cells #[.string a.name, .slice p1 a.cuts.length d1, .slice p2 a.vals.length d2] 41))) HZL.out
          (fun j hj => ⟨fun b hb => ((HSEP.out.ints j hj).lt b hb).2, fun b hb => ((HSEP.out.strs j hj).lt b hb).2⟩)
          (fun ho => (own_below ho HBB.out).alloc _) (HI5.out.1.alloc _) (HI5.out.2.alloc _) hszr (hrow5.alloc _) hgrow hown'
        have HG6 : Hid (w3.grownBy w5 (some w2.heap.size)) := grownO (grownB HG5.out ((Below.refl _ _).alloc (Nat.le_refl _) _)) hgrow fun j hj => (hl5 j hj).1
        have HA6 : Hid (Blk 27 w5 w2.heap.size #[v, .slice oc cls.length cc]) := (HA5.out.alloc _).kept hgrow fun e => by have := (hl5 _ e).1; omega
        obtain ⟨on, cn, hvn⟩ := own_form hown'
        subst hvn
        clear hown' hgrow hrow5 hl5 k0
        have c5 : w5.cell? ⟨w2.heap.size, 0, none⟩ = some v := HA6.out.cell 0
        have f5 := HA6.out.frozen 0
        have SE6 := SE.setCell ⟨w2.heap.size, 0, none⟩ (.slice on (k + 1) cn) (by show w2.heap.size < _; omega)
        have BL6 : Blk 27 (w5.setCell ⟨w2.heap.size, 0, none⟩ (.slice on (k + 1) cn)) w2.heap.size #[.slice on (k + 1) cn, .slice oc cls.length cc] := HA6.out.setCell 0 _
        have HX : Hid (SepL w3.heap.size (w5.setCell ⟨w2.heap.size, 0, none⟩ (.slice on (k + 1) cn)) (.slice on (k + 1) cn) (fun j => if j = k then (.slice p1 a.cuts.length d1, .slice p2 a.vals.length d2) else L j) (ys ++ [.string a.name, .slice p1 a.cuts.length d1, .slice p2 a.vals.length d2]) (zs ++ [a]) (k + 1) ∧ Blk 27 (w5.setCell ⟨w2.heap.size, 0, none⟩ (.slice on (k + 1) cn)) w2.heap.size #[.slice on (k + 1) cn, .slice oc cls.length cc] ∧ w3.grownBy (w5.setCell ⟨w2.heap.size, 0, none⟩ (.slice on (k + 1) cn)) (some w2.heap.size)) := ⟨SE6, BL6, grownC HG6.out _⟩
        clear SE SE6 BL6
        go_wp2
        go_roundw
        case rel => exact ⟨k + 1, _, _, _, _, by go_num, by omega, HN2.out, HX.out.1, HX.out.2.1, HX.out.2.2⟩
        case measure => simp [intOf]; omega
    · obtain rfl : k = ps.length := by omega
      have hN := HZ.out
      rw [List.take_length] at hN
      have HPR : Hid (preSch s = some ⟨zs, cls⟩) := HYES.out zs hN
      have HOK : Hid (okSch ⟨zs, cls⟩) := ⟨by show zs.length ≤ _; rw [HZL.out]; omega, got_each hN, HCL.out⟩
      have hsz : SepL w3.heap.size wr v L ys zs zs.length := by rw [HZL.out]; exact HSEP.out
      have HSZ : Hid (SepL w3.heap.size wr v L ys zs zs.length) := hsz
      obtain ⟨on, cn, hvn⟩ := own_form HSEP.out.row
      subst hvn
      clear hN hsz HSEP
      have HD : Hid (Blk 27 wr w2.heap.size #[.slice on ps.length cn, .slice oc cls.length cc]) := HBL.out
      have c := implSchemaOk_any (.agg #[.slice on ps.length cn, .slice oc cls.length cc]) ⟨zs, cls⟩ wr ⟨_, _, rfl, HSZ.out.own.at, RowS.of_own HOCR.out rfl⟩ HOK.out
      cases hw : schemaOk ⟨zs, cls⟩ with
      | false =>
        have HF : Hid (schemaOf s = none) := sof_no1 HPR.out hw
        rw [hw] at c
        clear hw
        go_wp2_with (with_reducible refine wp_sc_load rfl _ rfl ?_; refine ⟨_, rfl, _, _, HD.out, ?_⟩)
        refine c.mono ?_
        rintro e w7 ⟨rfl, hb7⟩
        clear c
        have HB : Hid (Blk 27 w7 w.heap.size #[.slice none 0 0, .slice none 0 0]) := HRR.out.below hb7
        have HBE : Hid (Below w.heap.size w w7) := HBW0.out.trans (hb7.mono HBW0.out.size)
        clear hb7
        go_wp2_with (with_reducible refine wp_sc_store rfl _ _ rfl ?_; refine ⟨_, rfl, _, _, _, _, _, _, rfl, _, _, HB.out, ?_⟩)
        refine bodyPost_ret (res_sc1 Tryz.results7 _ _ _ _ _ _ rfl rfl (HB.out.setRow _)) rfl ?_
        rw [HF.out]
        exact ⟨_, rfl, OwnSep.empty _ _, below_row HBE.out (Nat.le_refl _) _⟩
      | true =>
        have HF : Hid (schemaOf s = some ⟨zs, cls⟩) := sof_yes HPR.out hw
        rw [hw] at c
        clear hw
        go_wp2_with (with_reducible refine wp_sc_load rfl _ rfl ?_; refine ⟨_, rfl, _, _, HD.out, ?_⟩)
        refine c.mono ?_
        rintro e w7 ⟨rfl, hb7⟩
        clear c
        have HB : Hid (Blk 27 w7 w.heap.size #[.slice none 0 0, .slice none 0 0]) := HRR.out.below hb7
        have HD7 : Hid (Blk 27 w7 w2.heap.size #[.slice on ps.length cn, .slice oc cls.length cc]) := HD.out.below hb7
        have HBE : Hid (Below w.heap.size w w7) := HBW0.out.trans (hb7.mono HBW0.out.size)
        have S7 := HSZ.out.below hb7
        have O7 := own_below HOCR.out hb7
        clear hb7 HD
        go_wp2_with (first | (with_reducible refine wp_sc_load rfl _ rfl ?_; refine ⟨_, rfl, _, _, HD7.out, ?_⟩) | (with_reducible refine wp_sc_store rfl _ _ rfl ?_; refine ⟨_, rfl, _, _, _, _, _, _, rfl, _, _, HB.out, ?_⟩))
        refine bodyPost_ret (res_sc1 Tryz.results7 _ _ _ _ _ _ rfl rfl (HB.out.setRow _)) rfl ?_
        rw [HF.out]
        refine ⟨_, rfl, ⟨_, _, L, ys, rfl, (S7.setRow _ _ (by omega)).base (by omega), own_base (own_setRow O7 _ _ (by omega)) (by omega), fun j c b hj hc hb => ?_⟩, below_row HBE.out (Nat.le_refl _) _⟩
        have h1 := (HLC.out c hc).2
        have h2 := ((S7.strs j hj).lt b hb).1
        omega
end Go.Proofs.YtndnplpmkkdieaaGreatDoor
/- Parts: the specification's loop answers the same pieces. -/
namespace Go.Proofs.YtndnplpmkkdieaaGreatDoor
open Go.RowKit
set_option maxRecDepth 100000

/-- The piece from f on, ahead of place k. -/
def cur (l : List UInt8) (f k : Nat) : List UInt8 := (l.drop f).take (k - f)
theorem cur_step (l : List UInt8) (f k : Nat) (c : UInt8) (h : f ≤ k) (hc : l[k]? = some c) : cur l f (k + 1) = cur l f k ++ [c] := by
  unfold cur
  rw [show k + 1 - f = (k - f) + 1 by omega]
  have hk : k < l.length := (List.getElem?_eq_some_iff.1 hc).1
  have h2 : k - f < (l.drop f).length := by simp; omega
  rw [List.take_succ_eq_append_getElem h2]
  congr 2
  rw [List.getElem_drop]
  have := (List.getElem?_eq_some_iff.1 hc).2
  rw [← this]
  congr 1; omega
theorem cur_self (l : List UInt8) (k : Nat) : cur l k k = [] := by simp [cur]
theorem cur_extract (s : ByteArray) (f k : Nat) : s.extract f k = mkB (cur s.data.toList f k) := by
  apply ByteArray.ext
  apply Array.toList_inj.1
  rw [Lib.extract_data]; simp [mkB, cur]
theorem cuts_at {b c : UInt8} {l : List UInt8} {k : Nat} (x : List UInt8) (hc : l[k]? = some c) : cuts b x (l.drop k) = if c = b then x :: cuts b [] (l.drop (k + 1)) else cuts b (x ++ [c]) (l.drop (k + 1)) := by
  have hk : k < l.length := (List.getElem?_eq_some_iff.1 hc).1
  have e := (List.getElem?_eq_some_iff.1 hc).2
  rw [List.drop_eq_getElem_cons hk, e, cuts]
theorem cuts_end {b : UInt8} {l : List UInt8} (x : List UInt8) : cuts b x (l.drop l.length) = [x] := by simp [cuts]

set_option maxHeartbeats 1600000 in
theorem specParts_any (s : ByteArray) (b : UInt8) (w : World) (hs : s.size ≤ 1048576) :
    Calls Tryz.prog 32 #[.string s, .int .u8 (b.toNat : Int)] w fun e w' => ∃ v, e = .returned v ∧ w'.ownsRow w.heap.size 9 1 v (pieces b s).length ((pieces b s).map Value.string) ∧ Below w.heap.size w w' := by
  obtain ⟨i0, hi, hz0, hz1, hz2⟩ := info_parts t9info
  obtain ⟨l, hl⟩ : ∃ l, s.data.toList = l := ⟨_, rfl⟩
  have hlen : l.length = s.size := by rw [← hl]; simp
  have HP : Hid (pieces b s = (cuts b [] l).map mkB) := by unfold pieces; rw [hl]; exact rfl
  have HL : Hid (s.data.toList = l) := hl
  have HN : Hid (l.length = s.size) := hlen
  have hbb : (0 : Int) ≤ (b.toNat : Int) := by omega
  clear hl hlen
  go_enter Tryz.func32, Tryz.ntmps32
  go_wp2
  go_loopw [5, 6, 7] (fun v f i wr => ∃ (k fr : Nat) (done : List ByteArray), i = .int .i64 k ∧ f = .int .i64 fr ∧ k ≤ s.size + 1 ∧ done.length ≤ k ∧ fr ≤ k ∧
      ((k ≤ s.size ∧ done ++ (cuts b (cur l fr k) (l.drop k)).map mkB = (cuts b [] l).map mkB) ∨ (k = s.size + 1 ∧ done = (cuts b [] l).map mkB)) ∧
      wr.ownsRow w.heap.size 9 1 v done.length (done.map Value.string) ∧ Below w.heap.size w wr) (fun _ _ i _ => s.size + 1 - (intOf i).toNat)
  case atStart => exact ⟨0, 0, [], rfl, rfl, by omega, by simp, by omega, .inl ⟨by omega, by simp [cur_self]⟩, ownsRow_litS w, (Below.refl _ _).alloc (Nat.le_refl _) _⟩
  case round =>
    obtain ⟨k, fr, done, rfl, rfl, hk, hdl, hfr, hE, hown, hnx⟩ := hrel
    by_cases hlt : k ≤ s.size
    · have hE1 : done ++ (cuts b (cur l fr k) (l.drop k)).map mkB = (cuts b [] l).map mkB := by
        rcases hE with ⟨_, h⟩ | ⟨h, _⟩
        · exact h
        · omega
      have HE : Hid (done ++ (cuts b (cur l fr k) (l.drop k)).map mkB = (cuts b [] l).map mkB) := hE1
      clear hE hE1
      by_cases hend : k = s.size
      · have hke : ((k : Int) == (s.size : Int)) = true := by simp; omega
        have HK : Hid (k = s.size) := hend
        clear hend
        go_wp2_with (at_builtin; refine wpList_append_own _ rfl _ _ 25 rfl w.heap.size 9 i0 (.string ⟨#[]⟩) 1 16 Tryz.underlying25 hi hz0 hz1 hz2 rfl (by decide) _ _ _ rfl (hown.alloc _) ⟨wr.heap.size, 0, none⟩ 1 1 [_] rfl rfl (new_cellS _ _ _) ?c2 ?c3 ?c4 ?c5 ?_)
        case c2 => intro u hu; simp at hu; subst hu; rfl
        case c3 => unfold maxLen; omega
        case c4 => omega
        case c5 => have := hnx.size; simp; omega
        intro v' w1 hown' hgrow _
        have R := rel_stepS hnx.size hnx hown hown' hgrow
        clear hown' hgrow hown
        go_wp2
        go_roundw
        case rel =>
          refine ⟨k + 1, k + 1, done ++ [s.extract fr k], by go_num, by go_num, by omega, by simp; omega, by omega, .inr ⟨by rw [HK.out], ?_⟩, R.1, R.2⟩
          rw [← HE.out, cur_extract, HL.out, HK.out, ← HN.out, cuts_end]; rfl
        case measure => simp [intOf]; omega
      · have hke : ((k : Int) == (s.size : Int)) = false := by simp; omega
        have hkl : k < s.size := by omega
        have hbk : l[k]? = some s[k] := by rw [← HL.out]; simp [hkl]; rfl
        have HC : Hid (l[k]? = some s[k]) := hbk
        clear hbk hend
        by_cases hb : s[k] = b
        · have hbe : ((s[k].toNat : Int) == (b.toNat : Int)) = true := by rw [hb]; simp
          have HB : Hid (s[k] = b) := hb
          clear hb
          go_wp2_with (at_builtin; refine wpList_append_own _ rfl _ _ 25 rfl w.heap.size 9 i0 (.string ⟨#[]⟩) 1 16 Tryz.underlying25 hi hz0 hz1 hz2 rfl (by decide) _ _ _ rfl (hown.alloc _) ⟨wr.heap.size, 0, none⟩ 1 1 [_] rfl rfl (new_cellS _ _ _) ?d2 ?d3 ?d4 ?d5 ?_)
          case d2 => intro u hu; simp at hu; subst hu; rfl
          case d3 => unfold maxLen; omega
          case d4 => omega
          case d5 => have := hnx.size; simp; omega
          intro v' w1 hown' hgrow _
          have R := rel_stepS hnx.size hnx hown hown' hgrow
          clear hown' hgrow hown
          go_wp2
          go_roundw
          case rel =>
            refine ⟨k + 1, k + 1, done ++ [s.extract fr k], by go_num, by go_num, by omega, by simp; omega, by omega, .inl ⟨by omega, ?_⟩, R.1, R.2⟩
            rw [← HE.out, cuts_at _ HC.out, if_pos HB.out, cur_extract, HL.out, cur_self]; simp
          case measure => simp [intOf]; omega
        · have hbe : ((s[k].toNat : Int) == (b.toNat : Int)) = false := by
            simp only [beq_eq_false_iff_ne, ne_eq]
            intro e
            exact hb (UInt8.toNat_inj.1 (by omega))
          have HB : Hid (¬ s[k] = b) := hb
          clear hb
          go_wp2
          go_roundw
          case rel =>
            refine ⟨k + 1, fr, done, by go_num, rfl, by omega, by omega, by omega, .inl ⟨by omega, ?_⟩, hown, hnx⟩
            rw [← HE.out, cuts_at _ HC.out, if_neg HB.out, cur_step l fr k _ hfr HC.out]
          case measure => simp [intOf]; omega
    · have hP : done = (cuts b [] l).map mkB := by
        rcases hE with ⟨h, _⟩ | ⟨_, h⟩
        · omega
        · exact h
      have HF : Hid (pieces b s = done) := HP.out.trans hP.symm
      clear hE hP
      go_wp2
      go_ret
      exact ⟨_, rfl, by rw [HF.out]; exact hown, hnx⟩

end Go.Proofs.YtndnplpmkkdieaaGreatDoor
/- A text read as an attribute, by the specification. -/
namespace Go.Proofs.YtndnplpmkkdieaaGreatDoor
open Go.RowKit
set_option maxRecDepth 100000

theorem ofS_no0 {s : ByteArray} (h : preS s = none) : attrOfS s = none := by unfold attrOfS; rw [h]
theorem ofS_no1 {s : ByteArray} {a : AttrD} (h : preS s = some a) (h2 : attrOk a = false) : attrOfS s = none := by unfold attrOfS; rw [h]; simp [h2]
theorem ofS_no2 {s : ByteArray} {a : AttrD} (h : preS s = some a) (h2 : attrText a ≠ s) : attrOfS s = none := by unfold attrOfS; rw [h]; simp [h2]
theorem ofS_yes {s : ByteArray} {a : AttrD} (h : preS s = some a) (h1 : attrOk a = true) (h2 : attrText a = s) : attrOfS s = some a := by unfold attrOfS; rw [h]; simp [h1, h2]
theorem list_two {α : Type} {l : List α} (h : l.length = 2) : ∃ x y, l = [x, y] := by
  match l, h with
  | [x, y], _ => exact ⟨x, y, rfl⟩
theorem pre_one {s x y : ByteArray} (h : pieces 61 s = [x, y]) : preS s = some ⟨x, [], pieces 44 y⟩ := by unfold preS; rw [h]
theorem pre_two {s x y : ByteArray} {zs : List Int} (h0 : (pieces 61 s).length ≠ 2) (h : pieces 58 s = [x, y]) (hn : numsOf (pieces 44 y) = some zs) : preS s = some ⟨x, zs, []⟩ := by
  unfold preS
  split
  · rename_i e; rw [e] at h0; exact absurd rfl h0
  · rw [h]; simp only; rw [hn]
theorem pre_bad {s x y : ByteArray} (h0 : (pieces 61 s).length ≠ 2) (h : pieces 58 s = [x, y]) (hn : numsOf (pieces 44 y) = none) : preS s = none := by
  unfold preS
  split
  · rename_i e; rw [e] at h0; exact absurd rfl h0
  · rw [h]; simp only; rw [hn]
theorem pre_no {s : ByteArray} (h0 : (pieces 61 s).length ≠ 2) (h1 : (pieces 58 s).length ≠ 2) : preS s = some emptyA := by
  unfold preS
  split
  · rename_i e; rw [e] at h0; exact absurd rfl h0
  · split
    · rename_i e; rw [e] at h1; exact absurd rfl h1
    · rfl
theorem grown_belowR {a b c : World} {r : Option Nat} (h : a.grownBy b r) (k : Below b.heap.size b c) : a.grownBy c r :=
  ⟨k.os.trans h.os, k.tape.trans h.tape, k.output.trans h.output, Nat.le_trans h.size k.size, fun j hj hr => (k.block j (Nat.lt_of_lt_of_le hj h.size)).trans (h.block j hj hr)⟩
theorem grown_old {a b c : World} {r q : Option Nat} (h : a.grownBy b r) (k : b.grownBy c q) (hq : ∀ j, q = some j → a.heap.size ≤ j) : a.grownBy c r :=
  ⟨k.os.trans h.os, k.tape.trans h.tape, k.output.trans h.output, Nat.le_trans h.size k.size, fun j hj hr => (k.block j (Nat.lt_of_lt_of_le hj h.size) (fun e => by have := hq j e.symm; omega)).trans (h.block j hj hr)⟩
theorem grown_setR {a b : World} {g k : Nat} (h : a.grownBy b (some g)) (v : Value) : a.grownBy (b.setCell ⟨g, k, none⟩ v) (some g) :=
  ⟨h.os, h.tape, h.output, Nat.le_trans h.size (by simp [World.setCell]), fun j hj hne => by
    rw [← h.block j hj hne]
    simp only [World.setCell, Array.getElem?_modify]
    rw [if_neg (fun e => hne (by rw [← e]))]⟩
theorem below_gset {n : Nat} {a b c : World} {g : Nat} (h : Below n a b) (k : b.grownBy c (some g)) (hg : n ≤ g) (hn : n ≤ b.heap.size) : Below n a c := h.grown k hn fun j hj => by cases hj; exact hg
theorem small_two {s x y : ByteArray} {b : UInt8} (h : pieces b s = [x, y]) : x.size ≤ s.size ∧ y.size ≤ s.size :=
  ⟨pieces_small b s x (by rw [h]; simp), pieces_small b s y (by rw [h]; simp)⟩

set_option maxHeartbeats 6400000 in
theorem specAttrOf_any (s : ByteArray) (w : World) (hs : s.size ≤ 1048576) :
    Calls Tryz.prog 33 #[.string s] w fun e w' => ∃ v, e = .returned (.tuple #[v, .bool (attrOfS s).isSome]) ∧ OwnA w.heap.size w' v ((attrOfS s).getD emptyA) ∧ Below w.heap.size w w' := by
  obtain ⟨i0, hi, hz0, hz1, hz2⟩ := info_parts intInfo
  obtain ⟨K1, K2, B0⟩ := blk_2 41 41 w #[.string ⟨#[]⟩, .slice none 0 0, .slice none 0 0] #[.string ⟨#[]⟩, .slice none 0 0, .slice none 0 0]
  have cP := fun W => specParts_any s 61 W hs
  have cQ := fun W => specParts_any s 58 W hs
  have hnil : okS [] := ⟨by simp, fun _ h => by cases h⟩
  have HN : Hid (okS []) := hnil
  clear hnil
  go_enter Tryz.func33, Tryz.ntmps33
  go_wp2_with fail
  refine (cP _).mono ?_
  rintro e w1 ⟨v1, rfl, ho1, hb1⟩
  clear cP
  have B1 := B0.trans (hb1.mono B0.size)
  have l2 := K2.lt
  replace K1 := K1.below hb1
  replace K2 := K2.below hb1
  have ho1 := own_base ho1 (b' := w.heap.size + 2) (by omega)
  clear hb1 B0
  go_wp2_with fail
  refine (cQ _).mono ?_
  rintro e w2 ⟨v2, rfl, ho2, hb2⟩
  clear cQ
  have B2 := B1.trans (hb2.mono B1.size)
  have l2 := K2.lt
  replace K1 := K1.below hb2
  replace K2 := K2.below hb2
  have ho1 := own_below ho1 hb2
  have ho2 := own_base ho2 (b' := w.heap.size + 2) (by omega)
  clear hb2 B1
  obtain ⟨oa, ca, hv1, hc1, hr1⟩ := RowS.of_own ho1 rfl
  obtain ⟨ob, cb, hv2, hc2, hr2⟩ := RowS.of_own ho2 rfl
  subst hv1 hv2
  have HR1 : Hid (0 < (pieces 61 s).length → ∃ g o, oa = some ⟨g, o, none⟩ ∧ g < w2.heap.size ∧ ∀ j, j < (pieces 61 s).length → w2.cell? ⟨g, o + j, none⟩ = some (.string (tx (pieces 61 s) j))) := hr1
  have HO1 : Hid (w2.ownsRow (w.heap.size + 2) 9 1 (.slice oa (pieces 61 s).length ca) (pieces 61 s).length ((pieces 61 s).map Value.string)) := ho1
  have HO2 : Hid (w2.ownsRow (w.heap.size + 2) 9 1 (.slice ob (pieces 58 s).length cb) (pieces 58 s).length ((pieces 58 s).map Value.string)) := ho2
  have HR2 : Hid (0 < (pieces 58 s).length → ∃ g o, ob = some ⟨g, o, none⟩ ∧ g < w2.heap.size ∧ ∀ j, j < (pieces 58 s).length → w2.cell? ⟨g, o + j, none⟩ = some (.string (tx (pieces 58 s) j))) := hr2
  clear hr1 hr2 ho1 ho2
  by_cases h61 : (pieces 61 s).length = 2
  · obtain ⟨x, y, hxy⟩ := list_two h61
    obtain ⟨sx, sy⟩ := small_two hxy
    have HPR : Hid (preS s = some ⟨x, [], pieces 44 y⟩) := pre_one hxy
    obtain ⟨g, o, rfl, hg, hj⟩ := HR1.out (by omega)
    have hgb := (HO1.out.lt g rfl).1
    have q0 := hj 0 (by omega)
    have q1 := hj 1 (by omega)
    rw [hxy] at q0 q1 hc1
    have q0 : w2.cell? ⟨g, o, none⟩ = some (.string x) := q0
    have q1 : w2.cell? ⟨g, o + 1, none⟩ = some (.string y) := q1
    rw [hxy]
    have hc1' : 2 ≤ ca := hc1
    clear hj HR1 HR2 HO1 HO2 hc1 hc2 h61
    have cY := fun W => specParts_any y 44 W (by omega)
    have hps : okS (pieces 44 y) := okS_pieces (by omega) 44
    have HOK : Hid (okA ⟨x, [], pieces 44 y⟩) := ⟨by show x.size ≤ _; omega, by simp, hps⟩
    clear hps
    generalize pieces 44 y = ps at cY HPR HOK
    have c3 : w2.cell? ⟨w.heap.size + 1, 0, none⟩ = some (.string ⟨#[]⟩) := K2.cell 0
    have f3 := K2.frozen 0
    have S1 := K1.setCell_other ⟨w.heap.size + 1, 0, none⟩ (.string x) (by simp)
    have S2 := K2.setCell 0 (.string x)
    have B3 := B2.setCell (p := ⟨w.heap.size + 1, 0, none⟩) (by simp) (.string x)
    have q1' : (w2.setCell ⟨w.heap.size + 1, 0, none⟩ (.string x)).cell? ⟨g, o + 1, none⟩ = some (.string y) := (World.cell?_of_block (heap_setCell_other _ _ _ _ (by simp; omega))).trans q1
    have HS : Hid (Blk 41 (w2.setCell ⟨w.heap.size + 1, 0, none⟩ (.string x)) w.heap.size #[.string ⟨#[]⟩, .slice none 0 0, .slice none 0 0] ∧ Blk 41 (w2.setCell ⟨w.heap.size + 1, 0, none⟩ (.string x)) (w.heap.size + 1) #[.string x, .slice none 0 0, .slice none 0 0] ∧ Below w.heap.size w (w2.setCell ⟨w.heap.size + 1, 0, none⟩ (.string x))) := ⟨S1, S2, B3⟩
    clear S1 S2 B3 K1 K2 B2
    go_wp2_with fail
    refine (cY _).mono ?_
    rintro e w3 ⟨v3, rfl, ho3, hb3⟩
    clear cY c3 f3 q0 q1 q1'
    obtain ⟨S1, S2, B3⟩ := HS.out
    have ls := S2.lt
    replace S1 := S1.below hb3
    replace S2 := S2.below hb3
    replace B3 := B3.trans (hb3.mono B3.size)
    have ho3 := own_base ho3 (b' := w.heap.size + 2) (by omega)
    clear HS hb3
    obtain ⟨oc, cc, hv3, -, -⟩ := RowS.of_own ho3 rfl
    subst hv3
    have c3 : w3.cell? ⟨w.heap.size + 1, 2, none⟩ = some (.slice none 0 0) := S2.cell 2
    have f3 := S2.frozen 2
    have T1 := S1.setCell_other ⟨w.heap.size + 1, 2, none⟩ (.slice oc ps.length cc) (by simp)
    have T2 := S2.setCell 2 (.slice oc ps.length cc)
    have B4 := B3.setCell (p := ⟨w.heap.size + 1, 2, none⟩) (by simp) (.slice oc ps.length cc)
    have O4 := own_setCell ho3 ⟨w.heap.size + 1, 2, none⟩ (.slice oc ps.length cc) (by simp)
    have HR : Hid (Blk 41 (w3.setCell ⟨w.heap.size + 1, 2, none⟩ (.slice oc ps.length cc)) w.heap.size #[.string ⟨#[]⟩, .slice none 0 0, .slice none 0 0]) := T1
    have HA0 : Hid (Blk 41 (w3.setCell ⟨w.heap.size + 1, 2, none⟩ (.slice oc ps.length cc)) (w.heap.size + 1) #[.string x, .slice none 0 0, .slice oc ps.length cc]) := T2
    have HOW : Hid (OwnA (w.heap.size + 2) (w3.setCell ⟨w.heap.size + 1, 2, none⟩ (.slice oc ps.length cc)) (.agg #[.string x, .slice none 0 0, .slice oc ps.length cc]) ⟨x, [], ps⟩) := ⟨_, _, rfl, own_nilI _ _, O4⟩
    have HBW : Hid (Below w.heap.size w (w3.setCell ⟨w.heap.size + 1, 2, none⟩ (.slice oc ps.length cc))) := B4
    clear T1 T2 B4 O4 S1 S2 B3 ho3
    have HA : Hid (Blk 41 (w3.setCell ⟨w.heap.size + 1, 2, none⟩ (.slice oc ps.length cc)) (w.heap.size + 1) #[.string x, .slice none 0 0, .slice oc ps.length cc]) := HA0.out
    have c := specAttrOk_any _ ⟨x, [], ps⟩ (w3.setCell ⟨w.heap.size + 1, 2, none⟩ (.slice oc ps.length cc)) HOW.out.at HOK.out
    cases hw : attrOk ⟨x, [], ps⟩ with
    | false =>
      have HF : Hid (attrOfS s = none) := ofS_no1 HPR.out hw
      rw [hw] at c
      clear hw
      go_wp2_with (with_reducible refine wp_at_load rfl _ rfl ?_; refine ⟨_, rfl, _, _, _, HA.out, ?_⟩)
      refine c.mono ?_
      rintro e w7 ⟨rfl, hb7⟩
      clear c HA
      have HB : Hid (Blk 41 w7 w.heap.size #[.string ⟨#[]⟩, .slice none 0 0, .slice none 0 0]) := HR.out.below hb7
      have HBE : Hid (Below w.heap.size w w7) := HBW.out.trans (hb7.mono HBW.out.size)
      clear hb7
      go_wp2_with (with_reducible refine wp_at_store rfl _ _ rfl ?_; refine ⟨_, rfl, _, _, _, _, _, _, _, rfl, _, _, _, HB.out, ?_⟩)
      refine bodyPost_ret (res_at1 Tryz.results33 _ _ _ _ _ _ _ rfl rfl (HB.out.setRow _)) rfl ?_
      rw [HF.out]
      exact ⟨_, rfl, own_empty _ _, below_row HBE.out (Nat.le_refl _) _⟩
    | true =>
      have HWK : Hid (attrOk ⟨x, [], ps⟩ = true) := hw
      rw [hw] at c
      clear hw
      go_wp2_with (with_reducible refine wp_at_load rfl _ rfl ?_; refine ⟨_, rfl, _, _, _, HA.out, ?_⟩)
      refine c.mono ?_
      rintro e w7 ⟨rfl, hb7⟩
      clear c HA
      have HR7 : Hid (Blk 41 w7 w.heap.size #[.string ⟨#[]⟩, .slice none 0 0, .slice none 0 0]) := HR.out.below hb7
      have HA : Hid (Blk 41 w7 (w.heap.size + 1) #[.string x, .slice none 0 0, .slice oc ps.length cc]) := HA0.out.below hb7
      have HOW7 : Hid (OwnA (w.heap.size + 2) w7 (.agg #[.string x, .slice none 0 0, .slice oc ps.length cc]) ⟨x, [], ps⟩) := HOW.out.below hb7
      have HB7 : Hid (Below w.heap.size w w7) := HBW.out.trans (hb7.mono HBW.out.size)
      have HA7 := HA
      clear hb7 HR HA0 HOW HBW
      have cT := specAttrText_any _ ⟨x, [], ps⟩ w7 HOW7.out.at HOK.out
      have k0 : w7.cell? ⟨w.heap.size + 1, 0, none⟩ = some (.string x) := HA.out.cell 0
      have k1 : w7.cell? ⟨w.heap.size + 1, 1, none⟩ = some (.slice none 0 0) := HA.out.cell 1
      have k2 : w7.cell? ⟨w.heap.size + 1, 2, none⟩ = some (.slice oc ps.length cc) := HA.out.cell 2
      by_cases he : attrText ⟨x, [], ps⟩ = s
      · have HF : Hid (attrOfS s = some ⟨x, [], ps⟩) := ofS_yes HPR.out HWK.out he
        have hq : ((attrText ⟨x, [], ps⟩).toList == s.toList) = true := by rw [he]; simp
        clear he
        generalize attrText ⟨x, [], ps⟩ = T at cT hq
        go_wp2_with fail
        refine cT.mono ?_
        rintro e w8 ⟨rfl, hb8⟩
        clear cT HA k0 k1 k2
        have HB : Hid (Blk 41 w8 w.heap.size #[.string ⟨#[]⟩, .slice none 0 0, .slice none 0 0]) := HR7.out.below hb8
        have HA : Hid (Blk 41 w8 (w.heap.size + 1) #[.string x, .slice none 0 0, .slice oc ps.length cc]) := (show Blk 41 w7 (w.heap.size + 1) #[.string x, .slice none 0 0, .slice oc ps.length cc] from HA7.out).below hb8
        have HOW8 := HOW7.out.below hb8
        have HBE : Hid (Below w.heap.size w w8) := HB7.out.trans (hb8.mono HB7.out.size)
        clear hb8
        go_wp2_with (first | (with_reducible refine wp_at_load rfl _ rfl ?_; refine ⟨_, rfl, _, _, _, HA.out, ?_⟩) | (with_reducible refine wp_at_store rfl _ _ rfl ?_; refine ⟨_, rfl, _, _, _, _, _, _, _, rfl, _, _, _, HB.out, ?_⟩))
        refine bodyPost_ret (res_at1 Tryz.results33 _ _ _ _ _ _ _ rfl rfl (HB.out.setRow _)) rfl ?_
        rw [HF.out]
        exact ⟨_, rfl, (HOW8.setRow _ _ (by omega)).base (by omega), below_row HBE.out (Nat.le_refl _) _⟩
      · have HF : Hid (attrOfS s = none) := ofS_no2 HPR.out he
        have hq : ((attrText ⟨x, [], ps⟩).toList == s.toList) = false := by rw [beq_eq_false_iff_ne]; exact fun h => he (bytes_eq_iff.1 h)
        clear he
        generalize attrText ⟨x, [], ps⟩ = T at cT hq
        go_wp2_with fail
        refine cT.mono ?_
        rintro e w8 ⟨rfl, hb8⟩
        clear cT HA k0 k1 k2
        have HB : Hid (Blk 41 w8 w.heap.size #[.string ⟨#[]⟩, .slice none 0 0, .slice none 0 0]) := HR7.out.below hb8
        have HBE : Hid (Below w.heap.size w w8) := HB7.out.trans (hb8.mono HB7.out.size)
        clear hb8
        go_wp2_with (with_reducible refine wp_at_store rfl _ _ rfl ?_; refine ⟨_, rfl, _, _, _, _, _, _, _, rfl, _, _, _, HB.out, ?_⟩)
        refine bodyPost_ret (res_at1 Tryz.results33 _ _ _ _ _ _ _ rfl rfl (HB.out.setRow _)) rfl ?_
        rw [HF.out]
        exact ⟨_, rfl, own_empty _ _, below_row HBE.out (Nat.le_refl _) _⟩
  have hq61 : (((pieces 61 s).length : Int) == 2) = false := by rw [beq_eq_false_iff_ne]; omega
  by_cases h58 : (pieces 58 s).length = 2
  rotate_left
  · have hq58 : (((pieces 58 s).length : Int) == 2) = false := by rw [beq_eq_false_iff_ne]; omega
    have HPR : Hid (preS s = some emptyA) := pre_no h61 h58
    have HOK : Hid (okA emptyA) := ⟨Nat.zero_le _, by simp [emptyA], HN.out⟩
    have HR : Hid (Blk 41 w2 w.heap.size #[.string ⟨#[]⟩, .slice none 0 0, .slice none 0 0]) := K1
    have HA0 : Hid (Blk 41 w2 (w.heap.size + 1) #[.string ⟨#[]⟩, .slice none 0 0, .slice none 0 0]) := K2
    have HOW : Hid (OwnA (w.heap.size + 2) w2 (.agg #[.string ⟨#[]⟩, .slice none 0 0, .slice none 0 0]) emptyA) := own_empty _ _
    have HBW : Hid (Below w.heap.size w w2) := B2
    clear K1 K2 B2 h61 h58 HR1 HR2 HO1 HO2
    generalize emptyA = a0 at HPR HOK HOW
    have HA : Hid (Blk 41 w2 (w.heap.size + 1) #[.string ⟨#[]⟩, .slice none 0 0, .slice none 0 0]) := HA0.out
    have c := specAttrOk_any _ a0 w2 HOW.out.at HOK.out
    cases hw : attrOk a0 with
    | false =>
      have HF : Hid (attrOfS s = none) := ofS_no1 HPR.out hw
      rw [hw] at c
      clear hw
      go_wp2_with (with_reducible refine wp_at_load rfl _ rfl ?_; refine ⟨_, rfl, _, _, _, HA.out, ?_⟩)
      refine c.mono ?_
      rintro e w7 ⟨rfl, hb7⟩
      clear c HA
      have HB : Hid (Blk 41 w7 w.heap.size #[.string ⟨#[]⟩, .slice none 0 0, .slice none 0 0]) := HR.out.below hb7
      have HBE : Hid (Below w.heap.size w w7) := HBW.out.trans (hb7.mono HBW.out.size)
      clear hb7
      go_wp2_with (with_reducible refine wp_at_store rfl _ _ rfl ?_; refine ⟨_, rfl, _, _, _, _, _, _, _, rfl, _, _, _, HB.out, ?_⟩)
      refine bodyPost_ret (res_at1 Tryz.results33 _ _ _ _ _ _ _ rfl rfl (HB.out.setRow _)) rfl ?_
      rw [HF.out]
      exact ⟨_, rfl, own_empty _ _, below_row HBE.out (Nat.le_refl _) _⟩
    | true =>
      have HWK : Hid (attrOk a0 = true) := hw
      rw [hw] at c
      clear hw
      go_wp2_with (with_reducible refine wp_at_load rfl _ rfl ?_; refine ⟨_, rfl, _, _, _, HA.out, ?_⟩)
      refine c.mono ?_
      rintro e w7 ⟨rfl, hb7⟩
      clear c HA
      have HR7 : Hid (Blk 41 w7 w.heap.size #[.string ⟨#[]⟩, .slice none 0 0, .slice none 0 0]) := HR.out.below hb7
      have HA : Hid (Blk 41 w7 (w.heap.size + 1) #[.string ⟨#[]⟩, .slice none 0 0, .slice none 0 0]) := HA0.out.below hb7
      have HOW7 : Hid (OwnA (w.heap.size + 2) w7 (.agg #[.string ⟨#[]⟩, .slice none 0 0, .slice none 0 0]) a0) := HOW.out.below hb7
      have HB7 : Hid (Below w.heap.size w w7) := HBW.out.trans (hb7.mono HBW.out.size)
      have HA7 := HA
      clear hb7 HR HA0 HOW HBW
      have cT := specAttrText_any _ a0 w7 HOW7.out.at HOK.out
      have k0 : w7.cell? ⟨w.heap.size + 1, 0, none⟩ = some (.string ⟨#[]⟩) := HA.out.cell 0
      have k1 : w7.cell? ⟨w.heap.size + 1, 1, none⟩ = some (.slice none 0 0) := HA.out.cell 1
      have k2 : w7.cell? ⟨w.heap.size + 1, 2, none⟩ = some (.slice none 0 0) := HA.out.cell 2
      by_cases he : attrText a0 = s
      · have HF : Hid (attrOfS s = some a0) := ofS_yes HPR.out HWK.out he
        have hq : ((attrText a0).toList == s.toList) = true := by rw [he]; simp
        clear he
        generalize attrText a0 = T at cT hq
        go_wp2_with fail
        refine cT.mono ?_
        rintro e w8 ⟨rfl, hb8⟩
        clear cT HA k0 k1 k2
        have HB : Hid (Blk 41 w8 w.heap.size #[.string ⟨#[]⟩, .slice none 0 0, .slice none 0 0]) := HR7.out.below hb8
        have HA : Hid (Blk 41 w8 (w.heap.size + 1) #[.string ⟨#[]⟩, .slice none 0 0, .slice none 0 0]) := (show Blk 41 w7 (w.heap.size + 1) #[.string ⟨#[]⟩, .slice none 0 0, .slice none 0 0] from HA7.out).below hb8
        have HOW8 := HOW7.out.below hb8
        have HBE : Hid (Below w.heap.size w w8) := HB7.out.trans (hb8.mono HB7.out.size)
        clear hb8
        go_wp2_with (first | (with_reducible refine wp_at_load rfl _ rfl ?_; refine ⟨_, rfl, _, _, _, HA.out, ?_⟩) | (with_reducible refine wp_at_store rfl _ _ rfl ?_; refine ⟨_, rfl, _, _, _, _, _, _, _, rfl, _, _, _, HB.out, ?_⟩))
        refine bodyPost_ret (res_at1 Tryz.results33 _ _ _ _ _ _ _ rfl rfl (HB.out.setRow _)) rfl ?_
        rw [HF.out]
        exact ⟨_, rfl, (HOW8.setRow _ _ (by omega)).base (by omega), below_row HBE.out (Nat.le_refl _) _⟩
      · have HF : Hid (attrOfS s = none) := ofS_no2 HPR.out he
        have hq : ((attrText a0).toList == s.toList) = false := by rw [beq_eq_false_iff_ne]; exact fun h => he (bytes_eq_iff.1 h)
        clear he
        generalize attrText a0 = T at cT hq
        go_wp2_with fail
        refine cT.mono ?_
        rintro e w8 ⟨rfl, hb8⟩
        clear cT HA k0 k1 k2
        have HB : Hid (Blk 41 w8 w.heap.size #[.string ⟨#[]⟩, .slice none 0 0, .slice none 0 0]) := HR7.out.below hb8
        have HBE : Hid (Below w.heap.size w w8) := HB7.out.trans (hb8.mono HB7.out.size)
        clear hb8
        go_wp2_with (with_reducible refine wp_at_store rfl _ _ rfl ?_; refine ⟨_, rfl, _, _, _, _, _, _, _, rfl, _, _, _, HB.out, ?_⟩)
        refine bodyPost_ret (res_at1 Tryz.results33 _ _ _ _ _ _ _ rfl rfl (HB.out.setRow _)) rfl ?_
        rw [HF.out]
        exact ⟨_, rfl, own_empty _ _, below_row HBE.out (Nat.le_refl _) _⟩
  obtain ⟨x, y, hxy⟩ := list_two h58
  obtain ⟨sx, sy⟩ := small_two hxy
  have HBAD : Hid (numsOf (pieces 44 y) = none → preS s = none) := fun h => pre_bad h61 hxy h
  have HGOOD : Hid (∀ zs, numsOf (pieces 44 y) = some zs → preS s = some ⟨x, zs, []⟩) := fun zs h => pre_two h61 hxy h
  obtain ⟨g, o, rfl, hg, hj⟩ := HR2.out (by omega)
  have hgb := (HO2.out.lt g rfl).1
  have q0 := hj 0 (by omega)
  have q1 := hj 1 (by omega)
  rw [hxy] at q0 q1 hc2
  have q0 : w2.cell? ⟨g, o, none⟩ = some (.string x) := q0
  have q1 : w2.cell? ⟨g, o + 1, none⟩ = some (.string y) := q1
  rw [hxy]
  have hc2' : 2 ≤ cb := hc2
  clear hj HR1 HR2 HO1 HO2 hc1 hc2 h58 h61
  have cY := fun W => specParts_any y 44 W (by omega)
  have hpl : (pieces 44 y).length ≤ 1048577 := by have := pieces_len 44 y; omega
  have HPS : Hid (∀ p ∈ pieces 44 y, p.size ≤ 1048576) := fun p hp => by have := pieces_small 44 y p hp; omega
  generalize pieces 44 y = ps at cY HBAD HGOOD hpl HPS
  have c3 : w2.cell? ⟨w.heap.size + 1, 0, none⟩ = some (.string ⟨#[]⟩) := K2.cell 0
  have f3 := K2.frozen 0
  have S1 := K1.setCell_other ⟨w.heap.size + 1, 0, none⟩ (.string x) (by simp)
  have S2 := K2.setCell 0 (.string x)
  have B3 := B2.setCell (p := ⟨w.heap.size + 1, 0, none⟩) (by simp) (.string x)
  have q1' : (w2.setCell ⟨w.heap.size + 1, 0, none⟩ (.string x)).cell? ⟨g, o + 1, none⟩ = some (.string y) := (World.cell?_of_block (heap_setCell_other _ _ _ _ (by simp; omega))).trans q1
  have HS : Hid (Blk 41 (w2.setCell ⟨w.heap.size + 1, 0, none⟩ (.string x)) w.heap.size #[.string ⟨#[]⟩, .slice none 0 0, .slice none 0 0] ∧ Blk 41 (w2.setCell ⟨w.heap.size + 1, 0, none⟩ (.string x)) (w.heap.size + 1) #[.string x, .slice none 0 0, .slice none 0 0] ∧ Below w.heap.size w (w2.setCell ⟨w.heap.size + 1, 0, none⟩ (.string x))) := ⟨S1, S2, B3⟩
  clear S1 S2 B3 K1 K2 B2
  go_wp2_with fail
  refine (cY _).mono ?_
  rintro e w3 ⟨v3, rfl, ho3, hb3⟩
  clear cY c3 f3 q0 q1 q1' hq61
  obtain ⟨S1, S2, B3⟩ := HS.out
  have ls := S2.lt
  replace S1 := S1.below hb3
  replace S2 := S2.below hb3
  replace B3 := B3.trans (hb3.mono B3.size)
  have ho3 := own_base ho3 (b' := w.heap.size + 2) (by omega)
  have l3 := S2.lt
  clear HS hb3 ls
  obtain ⟨ol, cl, hv3, hcl, hrl⟩ := RowS.of_own ho3 rfl
  subst hv3
  have HLB : Hid (∀ k, (Value.slice ol ps.length cl).ownBlock = some k → w.heap.size + 2 ≤ k) := fun k hk => (ho3.lt k hk).1
  have HRL : Hid (0 < ps.length → ∃ g o, ol = some ⟨g, o, none⟩ ∧ g < w3.heap.size ∧ ∀ j, j < ps.length → w3.cell? ⟨g, o + j, none⟩ = some (.string (tx ps j))) := hrl
  have HS1 : Hid (Blk 41 w3 w.heap.size #[.string ⟨#[]⟩, .slice none 0 0, .slice none 0 0]) := S1
  have HS2 : Hid (Blk 41 w3 (w.heap.size + 1) #[.string x, .slice none 0 0, .slice none 0 0]) := S2
  have HB3 : Hid (Below w.heap.size w w3) := B3
  clear S1 S2 B3 ho3 hrl
  go_wp2
  go_loopw [8, 9, 10] (fun i _ _ wr => ∃ (k : Nat) (zs : List Int) (v : Value), i = .int .i64 k ∧ k ≤ ps.length ∧ numsOf (ps.take k) = some zs ∧ wr.ownsRow w3.heap.size 3 1 v k (zs.map (Value.int .i64)) ∧ Blk 41 wr (w.heap.size + 1) #[.string x, v, .slice none 0 0] ∧ w3.grownBy wr (some (w.heap.size + 1))) (fun i _ _ _ => ps.length - (intOf i).toNat)
  case atStart => exact ⟨0, [], .slice none 0 0, rfl, by omega, rfl, ⟨by simp, .inl ⟨rfl, rfl⟩⟩, HS2.out, World.grownBy.refl _ _⟩
  case round =>
    obtain ⟨k, zs, v, rfl, hk, hzs, hown, hblk, hgr⟩ := hrel
    have HZ : Hid (numsOf (ps.take k) = some zs) := hzs
    have HGR : Hid (w3.grownBy wr (some (w.heap.size + 1))) := hgr
    have HBL : Hid (Blk 41 wr (w.heap.size + 1) #[.string x, v, .slice none 0 0]) := hblk
    have HRR : Hid (Blk 41 wr w.heap.size #[.string ⟨#[]⟩, .slice none 0 0, .slice none 0 0]) := HS1.out.kept hgr (by simp)
    have HBW0 : Hid (Below w.heap.size w wr) := below_gset HB3.out hgr (by omega) HB3.out.size
    clear hzs hgr hblk
    by_cases hlt : k < ps.length
    · obtain ⟨gl, ol', rfl, hgl, hj⟩ := HRL.out (by omega)
      have hgl2 := HLB.out gl rfl
      have hcell : wr.cell? ⟨gl, ol' + k, none⟩ = some (.string (tx ps k)) := (World.cell?_of_block (HGR.out.block gl hgl (by simp; omega))).trans (hj k hlt)
      clear hj
      have cS := specSigned_any (tx ps k) wr (by have := HPS.out _ (tx_mem hlt); omega)
      cases hx : sigSpec (tx ps k).data.toList with
      | none =>
        have HF : Hid (attrOfS s = none) := ofS_no0 (HBAD.out (nums_stop hlt HZ.out hx))
        rw [hx] at cS
        unfold gotInt at cS
        clear hx
        go_wp2_with fail
        refine cS.mono ?_
        rintro e w4 ⟨rfl, hb4⟩
        clear cS hcell
        have HB : Hid (Blk 41 w4 w.heap.size #[.string ⟨#[]⟩, .slice none 0 0, .slice none 0 0]) := HRR.out.below hb4
        have HBE : Hid (Below w.heap.size w w4) := HBW0.out.trans (hb4.mono HBW0.out.size)
        clear hb4 hown
        go_wp2_with (with_reducible refine wp_at_store rfl _ _ rfl ?_; refine ⟨_, rfl, _, _, _, _, _, _, _, rfl, _, _, _, HB.out, ?_⟩)
        refine bodyPost_ret (res_at1 Tryz.results33 _ _ _ _ _ _ _ rfl rfl (HB.out.setRow _)) rfl ?_
        rw [HF.out]
        exact ⟨_, rfl, own_empty _ _, below_row HBE.out (Nat.le_refl _) _⟩
      | some xx =>
        have HN2 : Hid (numsOf (ps.take (k + 1)) = some (zs ++ [xx])) := nums_step hlt HZ.out hx
        obtain ⟨x0, x1⟩ := sig_in hx
        rw [hx] at cS
        unfold gotInt at cS
        clear hx
        go_wp2_with fail
        refine cS.mono ?_
        rintro e w4 ⟨rfl, hb4⟩
        clear cS hcell
        have hown4 := own_below hown hb4
        have HG4 : Hid (w3.grownBy w4 (some (w.heap.size + 1))) := grown_belowR HGR.out hb4
        have HA4 : Hid (Blk 41 w4 (w.heap.size + 1) #[.string x, v, .slice none 0 0]) := HBL.out.below hb4
        have k1 : w4.cell? ⟨w.heap.size + 1, 1, none⟩ = some v := HA4.out.cell 1
        have hsz4 := HG4.out.size
        have la4 := HA4.out.lt
        clear hown hb4 HGR HBL HRR HBW0
        go_wp2_with (at_builtin; refine wpList_append_own _ rfl _ _ 39 rfl w3.heap.size 3 i0 (.int .i64 0) 1 8 Tryz.underlying39 hi hz0 hz1 hz2 rfl (by decide) _ _ _ rfl (hown4.alloc _) ⟨w4.heap.size, 0, none⟩ 1 1 [_] rfl rfl (newc _ _ _) ?d2 ?d3 ?d4 ?d5 ?_)
        case d2 => intro u hu; simp at hu; subst hu; rfl
        case d3 => unfold maxLen; omega
        case d4 => omega
        case d5 => simp; omega
        intro v' w5 hown' hgrow _
        have R : w5.ownsRow w3.heap.size 3 1 v' (k + 1) ((zs ++ [xx]).map (Value.int .i64)) := by simpa using hown'
        have hl4 := hown4.lt
        have HG5 : Hid (w3.grownBy w5 (some (w.heap.size + 1))) := grown_old (grown_belowR HG4.out ((Below.refl _ _).alloc (Nat.le_refl _) _)) hgrow fun j hj => (hl4 j hj).1
        have HA5 : Hid (Blk 41 w5 (w.heap.size + 1) #[.string x, v, .slice none 0 0]) := (HA4.out.alloc _).kept hgrow fun e => by have := (hl4 _ e).1; omega
        have hlz : (zs ++ [xx]).length = k + 1 := by have := nums_len HN2.out; rw [this]; simp; omega
        obtain ⟨on, cn, hvn, -, -⟩ := RowI.of_own R hlz
        rw [hlz] at hvn
        subst hvn
        clear hown' hgrow hown4 hl4 k1
        have c5 : w5.cell? ⟨w.heap.size + 1, 1, none⟩ = some v := HA5.out.cell 1
        have f5 := HA5.out.frozen 1
        have hown6 := own_setCell R ⟨w.heap.size + 1, 1, none⟩ (.slice on (k + 1) cn) (by simp; omega)
        have HA6 : Blk 41 (w5.setCell ⟨w.heap.size + 1, 1, none⟩ (.slice on (k + 1) cn)) (w.heap.size + 1) #[.string x, .slice on (k + 1) cn, .slice none 0 0] := HA5.out.setCell 1 _
        have HX : Hid ((w5.setCell ⟨w.heap.size + 1, 1, none⟩ (.slice on (k + 1) cn)).ownsRow w3.heap.size 3 1 (.slice on (k + 1) cn) (k + 1) ((zs ++ [xx]).map (Value.int .i64)) ∧ Blk 41 (w5.setCell ⟨w.heap.size + 1, 1, none⟩ (.slice on (k + 1) cn)) (w.heap.size + 1) #[.string x, .slice on (k + 1) cn, .slice none 0 0] ∧ w3.grownBy (w5.setCell ⟨w.heap.size + 1, 1, none⟩ (.slice on (k + 1) cn)) (some (w.heap.size + 1))) := ⟨hown6, HA6, grown_setR HG5.out _⟩
        clear hown6 HA6 R
        go_wp2
        go_roundw
        case rel => exact ⟨k + 1, _, _, by go_num, by omega, HN2.out, HX.out.1, HX.out.2.1, HX.out.2.2⟩
        case measure => simp [intOf]; omega
    · obtain rfl : k = ps.length := by omega
      have hN := HZ.out
      rw [List.take_length] at hN
      have hln := nums_len hN
      have HPR : Hid (preS s = some ⟨x, zs, []⟩) := HGOOD.out zs hN
      have HOK : Hid (okA ⟨x, zs, []⟩) := ⟨by show x.size ≤ _; omega, by show zs.length ≤ _; omega, HN.out⟩
      obtain ⟨on, cn, hvn, -, -⟩ := RowI.of_own hown hln
      subst hvn
      rw [← hln] at hown
      have HR := HRR
      have HA0 : Hid (Blk 41 wr (w.heap.size + 1) #[.string x, .slice on zs.length cn, .slice none 0 0]) := HBL.out
      have HOW : Hid (OwnA (w.heap.size + 2) wr (.agg #[.string x, .slice on zs.length cn, .slice none 0 0]) ⟨x, zs, []⟩) := ⟨_, _, rfl, own_base hown (by omega), own_nilS _ _⟩
      have HBW := HBW0
      clear hN hown HRR HBL HBW0 HGR hln
      have HA : Hid (Blk 41 wr (w.heap.size + 1) #[.string x, .slice on zs.length cn, .slice none 0 0]) := HA0.out
      have c := specAttrOk_any _ ⟨x, zs, []⟩ wr HOW.out.at HOK.out
      cases hw : attrOk ⟨x, zs, []⟩ with
      | false =>
        have HF : Hid (attrOfS s = none) := ofS_no1 HPR.out hw
        rw [hw] at c
        clear hw
        go_wp2_with (with_reducible refine wp_at_load rfl _ rfl ?_; refine ⟨_, rfl, _, _, _, HA.out, ?_⟩)
        refine c.mono ?_
        rintro e w7 ⟨rfl, hb7⟩
        clear c HA
        have HB : Hid (Blk 41 w7 w.heap.size #[.string ⟨#[]⟩, .slice none 0 0, .slice none 0 0]) := HR.out.below hb7
        have HBE : Hid (Below w.heap.size w w7) := HBW.out.trans (hb7.mono HBW.out.size)
        clear hb7
        go_wp2_with (with_reducible refine wp_at_store rfl _ _ rfl ?_; refine ⟨_, rfl, _, _, _, _, _, _, _, rfl, _, _, _, HB.out, ?_⟩)
        refine bodyPost_ret (res_at1 Tryz.results33 _ _ _ _ _ _ _ rfl rfl (HB.out.setRow _)) rfl ?_
        rw [HF.out]
        exact ⟨_, rfl, own_empty _ _, below_row HBE.out (Nat.le_refl _) _⟩
      | true =>
        have HWK : Hid (attrOk ⟨x, zs, []⟩ = true) := hw
        rw [hw] at c
        clear hw
        go_wp2_with (with_reducible refine wp_at_load rfl _ rfl ?_; refine ⟨_, rfl, _, _, _, HA.out, ?_⟩)
        refine c.mono ?_
        rintro e w7 ⟨rfl, hb7⟩
        clear c HA
        have HR7 : Hid (Blk 41 w7 w.heap.size #[.string ⟨#[]⟩, .slice none 0 0, .slice none 0 0]) := HR.out.below hb7
        have HA : Hid (Blk 41 w7 (w.heap.size + 1) #[.string x, .slice on zs.length cn, .slice none 0 0]) := HA0.out.below hb7
        have HOW7 : Hid (OwnA (w.heap.size + 2) w7 (.agg #[.string x, .slice on zs.length cn, .slice none 0 0]) ⟨x, zs, []⟩) := HOW.out.below hb7
        have HB7 : Hid (Below w.heap.size w w7) := HBW.out.trans (hb7.mono HBW.out.size)
        have HA7 := HA
        clear hb7 HR HA0 HOW HBW
        have cT := specAttrText_any _ ⟨x, zs, []⟩ w7 HOW7.out.at HOK.out
        have k0 : w7.cell? ⟨w.heap.size + 1, 0, none⟩ = some (.string x) := HA.out.cell 0
        have k1 : w7.cell? ⟨w.heap.size + 1, 1, none⟩ = some (.slice on zs.length cn) := HA.out.cell 1
        have k2 : w7.cell? ⟨w.heap.size + 1, 2, none⟩ = some (.slice none 0 0) := HA.out.cell 2
        by_cases he : attrText ⟨x, zs, []⟩ = s
        · have HF : Hid (attrOfS s = some ⟨x, zs, []⟩) := ofS_yes HPR.out HWK.out he
          have hq : ((attrText ⟨x, zs, []⟩).toList == s.toList) = true := by rw [he]; simp
          clear he
          generalize attrText ⟨x, zs, []⟩ = T at cT hq
          go_wp2_with fail
          refine cT.mono ?_
          rintro e w8 ⟨rfl, hb8⟩
          clear cT HA k0 k1 k2
          have HB : Hid (Blk 41 w8 w.heap.size #[.string ⟨#[]⟩, .slice none 0 0, .slice none 0 0]) := HR7.out.below hb8
          have HA : Hid (Blk 41 w8 (w.heap.size + 1) #[.string x, .slice on zs.length cn, .slice none 0 0]) := (show Blk 41 w7 (w.heap.size + 1) #[.string x, .slice on zs.length cn, .slice none 0 0] from HA7.out).below hb8
          have HOW8 := HOW7.out.below hb8
          have HBE : Hid (Below w.heap.size w w8) := HB7.out.trans (hb8.mono HB7.out.size)
          clear hb8
          go_wp2_with (first | (with_reducible refine wp_at_load rfl _ rfl ?_; refine ⟨_, rfl, _, _, _, HA.out, ?_⟩) | (with_reducible refine wp_at_store rfl _ _ rfl ?_; refine ⟨_, rfl, _, _, _, _, _, _, _, rfl, _, _, _, HB.out, ?_⟩))
          refine bodyPost_ret (res_at1 Tryz.results33 _ _ _ _ _ _ _ rfl rfl (HB.out.setRow _)) rfl ?_
          rw [HF.out]
          exact ⟨_, rfl, (HOW8.setRow _ _ (by omega)).base (by omega), below_row HBE.out (Nat.le_refl _) _⟩
        · have HF : Hid (attrOfS s = none) := ofS_no2 HPR.out he
          have hq : ((attrText ⟨x, zs, []⟩).toList == s.toList) = false := by rw [beq_eq_false_iff_ne]; exact fun h => he (bytes_eq_iff.1 h)
          clear he
          generalize attrText ⟨x, zs, []⟩ = T at cT hq
          go_wp2_with fail
          refine cT.mono ?_
          rintro e w8 ⟨rfl, hb8⟩
          clear cT HA k0 k1 k2
          have HB : Hid (Blk 41 w8 w.heap.size #[.string ⟨#[]⟩, .slice none 0 0, .slice none 0 0]) := HR7.out.below hb8
          have HBE : Hid (Below w.heap.size w w8) := HB7.out.trans (hb8.mono HB7.out.size)
          clear hb8
          go_wp2_with (with_reducible refine wp_at_store rfl _ _ rfl ?_; refine ⟨_, rfl, _, _, _, _, _, _, _, rfl, _, _, _, HB.out, ?_⟩)
          refine bodyPost_ret (res_at1 Tryz.results33 _ _ _ _ _ _ _ rfl rfl (HB.out.setRow _)) rfl ?_
          rw [HF.out]
          exact ⟨_, rfl, own_empty _ _, below_row HBE.out (Nat.le_refl _) _⟩
end Go.Proofs.YtndnplpmkkdieaaGreatDoor
/- A text read as a schema, by the specification. -/
namespace Go.Proofs.YtndnplpmkkdieaaGreatDoor
open Go.RowKit
set_option maxRecDepth 100000

set_option maxHeartbeats 6400000 in
theorem specSchemaOf_any (s : ByteArray) (w : World) (hs : s.size ≤ 1048576) :
    Calls Tryz.prog 13 #[.string s] w fun e w' => ∃ v, e = .returned (.tuple #[v, .bool (schemaOf s).isSome]) ∧ OwnSep w.heap.size w' v ((schemaOf s).getD emptyS) ∧ Below w.heap.size w w' := by
  obtain ⟨i0, hi, hz0, hz1, hz2⟩ := info_parts atInfo
  obtain ⟨K1, B0⟩ := blk_1 27 w #[.slice none 0 0, .slice none 0 0]
  have cP := specParts_any s 124 (w.alloc (.cells #[.slice none 0 0, .slice none 0 0] 27)) hs
  go_enter Tryz.func13, Tryz.ntmps13
  go_wp2_with fail
  refine cP.mono ?_
  rintro e w1 ⟨v1, rfl, ho1, hb1⟩
  clear cP
  have B1 := B0.trans (hb1.mono B0.size)
  have l1 := K1.lt
  replace K1 := K1.below hb1
  have ho1 := own_base ho1 (b' := w.heap.size + 1) (by omega)
  clear hb1 B0
  obtain ⟨oa, ca, hv1, hc1, hr1⟩ := RowS.of_own ho1 rfl
  subst hv1
  by_cases h2 : (pieces 124 s).length = 2
  rotate_left
  · have HF : Hid (schemaOf s = none) := sof_no0 (psch_len h2)
    have hq : (((pieces 124 s).length : Int) == 2) = false := by rw [beq_eq_false_iff_ne]; omega
    have HB : Hid (Blk 27 w1 w.heap.size #[.slice none 0 0, .slice none 0 0]) := K1
    have HBE : Hid (Below w.heap.size w w1) := B1
    clear K1 B1 ho1 hr1 h2
    go_wp2_with (with_reducible refine wp_sc_store rfl _ _ rfl ?_; refine ⟨_, rfl, _, _, _, _, _, _, rfl, _, _, HB.out, ?_⟩)
    refine bodyPost_ret (res_sc1 Tryz.results13 _ _ _ _ _ _ rfl rfl (HB.out.setRow _)) rfl ?_
    rw [HF.out]
    exact ⟨_, rfl, OwnSep.empty _ _, below_row HBE.out (Nat.le_refl _) _⟩
  obtain ⟨x, y, hxy⟩ := list2 h2
  obtain ⟨sx, sy⟩ := small2 hxy
  have HNO : Hid (attrsOf (pieces 59 x) = none → preSch s = none) := fun h => psch_no hxy h
  have HYES : Hid (∀ ls, attrsOf (pieces 59 x) = some ls → preSch s = some ⟨ls, pieces 44 y⟩) := fun ls h => psch_yes hxy h
  obtain ⟨g, o, rfl, hg, hj⟩ := hr1 (by omega)
  have q0 := hj 0 (by omega)
  have q1 := hj 1 (by omega)
  rw [hxy] at q0 q1 hc1
  have q0 : w1.cell? ⟨g, o, none⟩ = some (.string x) := q0
  have q1 : w1.cell? ⟨g, o + 1, none⟩ = some (.string y) := q1
  rw [hxy]
  have hc1' : 2 ≤ ca := hc1
  clear hj hc1 h2 ho1
  have lw1 := K1.lt
  have cY := specParts_any y 44 w1 (by omega)
  have hpl : (pieces 59 x).length ≤ 1048577 := by have := pieces_len 59 x; omega
  have HPS : Hid (∀ p ∈ pieces 59 x, p.size ≤ 1048576) := fun p hp => by have := pieces_small 59 x p hp; omega
  have HCL : Hid (okS (pieces 44 y)) := okS_pieces (by omega) 44
  generalize pieces 44 y = cls at cY HYES HCL
  go_wp2_with fail
  refine cY.mono ?_
  rintro e w2 ⟨v2, rfl, ho2, hb2⟩
  clear cY
  have B2 := B1.trans (hb2.mono B1.size)
  replace K1 := K1.below hb2
  have q0 := (hb2.cell (p := ⟨g, o, none⟩) hg).trans q0
  have hg2 : g < w2.heap.size := Nat.lt_of_lt_of_le hg hb2.size
  have l1 := hb2.size
  have lK := K1.lt
  have ho2 := own_base ho2 (b' := w.heap.size + 1) (by omega)
  clear hb2 B1 q1
  obtain ⟨oc, cc, hv2, -, -⟩ := RowS.of_own ho2 rfl
  subst hv2
  obtain ⟨KD, BD⟩ := blk_1 27 w2 #[.slice none 0 0, .slice oc cls.length cc]
  have q0' : (w2.alloc (.cells #[.slice none 0 0, .slice oc cls.length cc] 27)).cell? ⟨g, o, none⟩ = some (.string x) := (World.cell?_alloc_past _ g o hg2).trans q0
  have B3 := B2.trans (BD.mono B2.size)
  have cX := specParts_any x 59 (w2.alloc (.cells #[.slice none 0 0, .slice oc cls.length cc] 27)) (by omega)
  generalize pieces 59 x = ps at cX HNO HYES hpl HPS
  replace K1 := K1.below BD
  have HLC : Hid (∀ k, (Value.slice oc cls.length cc).ownBlock = some k → w.heap.size + 1 ≤ k ∧ k < w2.heap.size) := ho2.lt
  have ho3 := own_below ho2 BD
  clear BD B2 ho2
  go_wp2_with fail
  refine cX.mono ?_
  rintro e w3 ⟨v3, rfl, hop, hb3⟩
  clear cX q0 q0'
  have HB3 : Hid (Below w.heap.size w w3) := B3.trans (hb3.mono B3.size)
  have HS1 : Hid (Blk 27 w3 w.heap.size #[.slice none 0 0, .slice none 0 0]) := K1.below hb3
  have HS2 : Hid (Blk 27 w3 w2.heap.size #[.slice none 0 0, .slice oc cls.length cc]) := KD.below hb3
  have HOC : Hid (w3.ownsRow (w.heap.size + 1) 9 1 (.slice oc cls.length cc) cls.length (cls.map Value.string)) := own_below ho3 hb3
  have hsz3 := hb3.size
  rw [World.size_alloc] at hsz3 hop
  clear B3 hb3 K1 KD ho3
  obtain ⟨ol, cl, hv3, hcl, hrl⟩ := RowS.of_own hop rfl
  subst hv3
  have HLB : Hid (∀ k, (Value.slice ol ps.length cl).ownBlock = some k → w2.heap.size + 1 ≤ k) := fun k hk => (hop.lt k hk).1
  have HRL : Hid (0 < ps.length → ∃ g o, ol = some ⟨g, o, none⟩ ∧ g < w3.heap.size ∧ ∀ j, j < ps.length → w3.cell? ⟨g, o + j, none⟩ = some (.string (tx ps j))) := hrl
  clear hop hrl
  go_wp2
  go_loopw [7] (fun i wr => ∃ (k : Nat) (zs : List AttrD) (v : Value) (L : Nat → Value × Value) (ys : List Value), i = .int .i64 k ∧ k ≤ ps.length ∧ attrsOf (ps.take k) = some zs ∧ SepL w3.heap.size wr v L ys zs k ∧ Blk 27 wr w2.heap.size #[v, .slice oc cls.length cc] ∧ w3.grownBy wr (some w2.heap.size)) (fun i _ => ps.length - (intOf i).toNat)
  case atStart => exact ⟨0, [], .slice none 0 0, fun _ => (.slice none 0 0, .slice none 0 0), [], rfl, by omega, rfl, SepL.nil _ _ _, HS2.out, World.grownBy.refl _ _⟩
  case round =>
    obtain ⟨k, zs, v, L, ys, rfl, hk, hzs, hsep, hblk, hgr⟩ := hrel
    have HZ : Hid (attrsOf (ps.take k) = some zs) := hzs
    have HZL : Hid (zs.length = k) := by have := attrs_len hzs; show zs.length = k; rw [this]; simp; omega
    have HSEP : Hid (SepL w3.heap.size wr v L ys zs k) := hsep
    have HGR : Hid (w3.grownBy wr (some w2.heap.size)) := hgr
    have HBL : Hid (Blk 27 wr w2.heap.size #[v, .slice oc cls.length cc]) := hblk
    have HRR : Hid (Blk 27 wr w.heap.size #[.slice none 0 0, .slice none 0 0]) := HS1.out.kept hgr (by simp; omega)
    have HBW0 : Hid (Below w.heap.size w wr) := belowG HB3.out hgr (by omega) HB3.out.size
    have HOCR : Hid (wr.ownsRow (w.heap.size + 1) 9 1 (.slice oc cls.length cc) cls.length (cls.map Value.string)) := HOC.out.kept hgr (by
      cases e : (Value.slice oc cls.length cc).ownBlock with
      | none => exact .inl rfl
      | some b => refine .inr ?_; have := (HLC.out b e).2; simp; omega)
    have hszr := hgr.size
    clear hzs hgr hblk hsep
    by_cases hlt : k < ps.length
    · obtain ⟨gl, ol', rfl, hgl, hj⟩ := HRL.out (by omega)
      have hgl2 := HLB.out gl rfl
      have hcell : wr.cell? ⟨gl, ol' + k, none⟩ = some (.string (tx ps k)) := (World.cell?_of_block (HGR.out.block gl hgl (by simp; omega))).trans (hj k hlt)
      clear hj
      have cA := specAttrOf_any (tx ps k) wr (HPS.out _ (tx_mem hlt))
      cases hx : attrOfS (tx ps k) with
      | none =>
        have HF : Hid (schemaOf s = none) := sof_no0 (HNO.out (attrs_stop hlt HZ.out hx))
        rw [hx] at cA
        simp only [Option.isSome_none, Option.getD_none] at cA
        clear hx
        go_wp2_with fail
        refine cA.mono ?_
        rintro e w4 ⟨v4, rfl, ho4, hb4⟩
        clear cA hcell
        obtain ⟨y1, y2, rfl, rr1, rr2⟩ := id ho4
        obtain ⟨p1, d1, rfl, -, -⟩ := RowI.of_own rr1 rfl
        obtain ⟨p2, d2, rfl, -, -⟩ := RowS.of_own rr2 rfl
        clear rr1 rr2 ho4
        obtain ⟨KA, BA⟩ := blk_1 41 w4 #[.string emptyA.name, .slice p1 emptyA.cuts.length d1, .slice p2 emptyA.vals.length d2]
        have HB : Hid (Blk 27 (w4.alloc (.cells #[.string emptyA.name, .slice p1 emptyA.cuts.length d1, .slice p2 emptyA.vals.length d2] 41)) w.heap.size #[.slice none 0 0, .slice none 0 0]) := (HRR.out.below hb4).below BA
        have HBE : Hid (Below w.heap.size w (w4.alloc (.cells #[.string emptyA.name, .slice p1 emptyA.cuts.length d1, .slice p2 emptyA.vals.length d2] 41))) := by
          have h1 := HBW0.out.trans (hb4.mono HBW0.out.size)
          exact h1.trans (BA.mono h1.size)
        clear hb4 KA BA
        go_wp2_with (with_reducible refine wp_sc_store rfl _ _ rfl ?_; refine ⟨_, rfl, _, _, _, _, _, _, rfl, _, _, HB.out, ?_⟩)
        refine bodyPost_ret (res_sc1 Tryz.results13 _ _ _ _ _ _ rfl rfl (HB.out.setRow _)) rfl ?_
        rw [HF.out]
        exact ⟨_, rfl, OwnSep.empty _ _, below_row HBE.out (Nat.le_refl _) _⟩
      | some a =>
        have HN2 : Hid (attrsOf (ps.take (k + 1)) = some (zs ++ [a])) := attrs_step hlt HZ.out hx
        rw [hx] at cA
        simp only [Option.isSome_some, Option.getD_some] at cA
        clear hx
        go_wp2_with fail
        refine cA.mono ?_
        rintro e w4 ⟨v4, rfl, ho4, hb4⟩
        clear cA hcell
        obtain ⟨y1, y2, rfl, rr1, rr2⟩ := ho4
        obtain ⟨p1, d1, hp1, -, -⟩ := RowI.of_own rr1 rfl
        obtain ⟨p2, d2, hp2, -, -⟩ := RowS.of_own rr2 rfl
        subst hp1 hp2
        obtain ⟨KA, BA⟩ := blk_1 41 w4 #[.string a.name, .slice p1 a.cuts.length d1, .slice p2 a.vals.length d2]
        have BB4 := hb4.trans (BA.mono hb4.size)
        have HG5 : Hid (w3.grownBy (w4.alloc (.cells #[.string a.name, .slice p1 a.cuts.length d1, .slice p2 a.vals.length d2] 41)) (some w2.heap.size)) := grownB HGR.out BB4
        have HA5 : Hid (Blk 27 (w4.alloc (.cells #[.string a.name, .slice p1 a.cuts.length d1, .slice p2 a.vals.length d2] 41)) w2.heap.size #[v, .slice oc cls.length cc]) := HBL.out.below BB4
        have HR5 : Hid (Blk 27 (w4.alloc (.cells #[.string a.name, .slice p1 a.cuts.length d1, .slice p2 a.vals.length d2] 41)) w.heap.size #[.slice none 0 0, .slice none 0 0]) := HRR.out.below BB4
        have hrow5 := own_below HSEP.out.row BB4
        have HI5 : Hid ((w4.alloc (.cells #[.string a.name, .slice p1 a.cuts.length d1, .slice p2 a.vals.length d2] 41)).ownsRow wr.heap.size 3 1 (.slice p1 a.cuts.length d1) a.cuts.length (a.cuts.map (Value.int .i64)) ∧ (w4.alloc (.cells #[.string a.name, .slice p1 a.cuts.length d1, .slice p2 a.vals.length d2] 41)).ownsRow wr.heap.size 9 1 (.slice p2 a.vals.length d2) a.vals.length (a.vals.map Value.string)) := ⟨own_below rr1 BA, own_below rr2 BA⟩
        have HBB : Hid (Below wr.heap.size wr (w4.alloc (.cells #[.string a.name, .slice p1 a.cuts.length d1, .slice p2 a.vals.length d2] 41))) := BB4
        have k0 : (w4.alloc (.cells #[.string a.name, .slice p1 a.cuts.length d1, .slice p2 a.vals.length d2] 41)).cell? ⟨w2.heap.size, 0, none⟩ = some v := HA5.out.cell 0
        have hz4 := hb4.size
        clear hb4 KA BA BB4 rr1 rr2
        go_wp2_with (at_builtin; go_loud (refine wpList_append_own _ rfl _ _ 24 rfl w3.heap.size 41 i0 (.agg #[.string ⟨#[]⟩, .slice none 0 0, .slice none 0 0]) 3 64 Tryz.underlying24 hi hz0 hz1 hz2 ?d6 ?d7 v k ys rfl ?d8 ⟨w4.heap.size + 1, 0, none⟩ 1 1 [.string a.name, .slice p1 a.cuts.length d1, .slice p2 a.vals.length d2] rfl rfl ?d1 ?d2 ?d3 ?d4 ?d5 ?_))
        case d6 => rfl
        case d7 => decide
        case d8 => exact hrow5.alloc _
        case d1 =>
          have := newc3 (w4.alloc (.cells #[.string a.name, .slice p1 a.cuts.length d1, .slice p2 a.vals.length d2] 41)) (.string a.name) (.slice p1 a.cuts.length d1) (.slice p2 a.vals.length d2) 41
          rw [World.size_alloc] at this
          exact this
        case d2 => intro u hu; simp at hu; rcases hu with rfl | rfl | rfl <;> rfl
        case d3 => unfold maxLen; omega
        case d4 => omega
        case d5 => simp; omega
        intro v' w5 hown' hgrow _
        have hl5 := hrow5.lt
        have SE := HSEP.out.snoc (b := wr.heap.size) (w1 := ((w4.alloc (.cells #[.string a.name, .slice p1 a.cuts.length d1, .slice p2 a.vals.length d2] 41)).alloc (.cells #[.string a.name, .slice p1 a.cuts.length d1, .slice p2 a.vals.length d2] 41))) HZL.out
          (fun j hj => ⟨fun b hb => ((HSEP.out.ints j hj).lt b hb).2, fun b hb => ((HSEP.out.strs j hj).lt b hb).2⟩)
          (fun ho => (own_below ho HBB.out).alloc _) (HI5.out.1.alloc _) (HI5.out.2.alloc _) hszr (hrow5.alloc _) hgrow hown'
        have HG6 : Hid (w3.grownBy w5 (some w2.heap.size)) := grownO (grownB HG5.out ((Below.refl _ _).alloc (Nat.le_refl _) _)) hgrow fun j hj => (hl5 j hj).1
        have HA6 : Hid (Blk 27 w5 w2.heap.size #[v, .slice oc cls.length cc]) := (HA5.out.alloc _).kept hgrow fun e => by have := (hl5 _ e).1; omega
        obtain ⟨on, cn, hvn⟩ := own_form hown'
        subst hvn
        clear hown' hgrow hrow5 hl5 k0
        have c5 : w5.cell? ⟨w2.heap.size, 0, none⟩ = some v := HA6.out.cell 0
        have f5 := HA6.out.frozen 0
        have SE6 := SE.setCell ⟨w2.heap.size, 0, none⟩ (.slice on (k + 1) cn) (by show w2.heap.size < _; omega)
        have BL6 : Blk 27 (w5.setCell ⟨w2.heap.size, 0, none⟩ (.slice on (k + 1) cn)) w2.heap.size #[.slice on (k + 1) cn, .slice oc cls.length cc] := HA6.out.setCell 0 _
        have HX : Hid (SepL w3.heap.size (w5.setCell ⟨w2.heap.size, 0, none⟩ (.slice on (k + 1) cn)) (.slice on (k + 1) cn) (fun j => if j = k then (.slice p1 a.cuts.length d1, .slice p2 a.vals.length d2) else L j) (ys ++ [.string a.name, .slice p1 a.cuts.length d1, .slice p2 a.vals.length d2]) (zs ++ [a]) (k + 1) ∧ Blk 27 (w5.setCell ⟨w2.heap.size, 0, none⟩ (.slice on (k + 1) cn)) w2.heap.size #[.slice on (k + 1) cn, .slice oc cls.length cc] ∧ w3.grownBy (w5.setCell ⟨w2.heap.size, 0, none⟩ (.slice on (k + 1) cn)) (some w2.heap.size)) := ⟨SE6, BL6, grownC HG6.out _⟩
        clear SE SE6 BL6
        go_wp2
        go_roundw
        case rel => exact ⟨k + 1, _, _, _, _, by go_num, by omega, HN2.out, HX.out.1, HX.out.2.1, HX.out.2.2⟩
        case measure => simp [intOf]; omega
    · obtain rfl : k = ps.length := by omega
      have hN := HZ.out
      rw [List.take_length] at hN
      have HPR : Hid (preSch s = some ⟨zs, cls⟩) := HYES.out zs hN
      have HOK : Hid (okSch ⟨zs, cls⟩) := ⟨by show zs.length ≤ _; rw [HZL.out]; omega, got_each hN, HCL.out⟩
      have hsz : SepL w3.heap.size wr v L ys zs zs.length := by rw [HZL.out]; exact HSEP.out
      have HSZ : Hid (SepL w3.heap.size wr v L ys zs zs.length) := hsz
      obtain ⟨on, cn, hvn⟩ := own_form HSEP.out.row
      subst hvn
      clear hN hsz HSEP
      have HD : Hid (Blk 27 wr w2.heap.size #[.slice on ps.length cn, .slice oc cls.length cc]) := HBL.out
      have c := specSchemaOk_any (.agg #[.slice on ps.length cn, .slice oc cls.length cc]) ⟨zs, cls⟩ wr ⟨_, _, rfl, HSZ.out.own.at, RowS.of_own HOCR.out rfl⟩ HOK.out
      cases hw : schemaOk ⟨zs, cls⟩ with
      | false =>
        have HF : Hid (schemaOf s = none) := sof_no1 HPR.out hw
        rw [hw] at c
        clear hw
        go_wp2_with (with_reducible refine wp_sc_load rfl _ rfl ?_; refine ⟨_, rfl, _, _, HD.out, ?_⟩)
        refine c.mono ?_
        rintro e w7 ⟨rfl, hb7⟩
        clear c
        have HB : Hid (Blk 27 w7 w.heap.size #[.slice none 0 0, .slice none 0 0]) := HRR.out.below hb7
        have HBE : Hid (Below w.heap.size w w7) := HBW0.out.trans (hb7.mono HBW0.out.size)
        clear hb7
        go_wp2_with (with_reducible refine wp_sc_store rfl _ _ rfl ?_; refine ⟨_, rfl, _, _, _, _, _, _, rfl, _, _, HB.out, ?_⟩)
        refine bodyPost_ret (res_sc1 Tryz.results13 _ _ _ _ _ _ rfl rfl (HB.out.setRow _)) rfl ?_
        rw [HF.out]
        exact ⟨_, rfl, OwnSep.empty _ _, below_row HBE.out (Nat.le_refl _) _⟩
      | true =>
        have HF : Hid (schemaOf s = some ⟨zs, cls⟩) := sof_yes HPR.out hw
        rw [hw] at c
        clear hw
        go_wp2_with (with_reducible refine wp_sc_load rfl _ rfl ?_; refine ⟨_, rfl, _, _, HD.out, ?_⟩)
        refine c.mono ?_
        rintro e w7 ⟨rfl, hb7⟩
        clear c
        have HB : Hid (Blk 27 w7 w.heap.size #[.slice none 0 0, .slice none 0 0]) := HRR.out.below hb7
        have HD7 : Hid (Blk 27 w7 w2.heap.size #[.slice on ps.length cn, .slice oc cls.length cc]) := HD.out.below hb7
        have HBE : Hid (Below w.heap.size w w7) := HBW0.out.trans (hb7.mono HBW0.out.size)
        have S7 := HSZ.out.below hb7
        have O7 := own_below HOCR.out hb7
        clear hb7 HD
        go_wp2_with (first | (with_reducible refine wp_sc_load rfl _ rfl ?_; refine ⟨_, rfl, _, _, HD7.out, ?_⟩) | (with_reducible refine wp_sc_store rfl _ _ rfl ?_; refine ⟨_, rfl, _, _, _, _, _, _, rfl, _, _, HB.out, ?_⟩))
        refine bodyPost_ret (res_sc1 Tryz.results13 _ _ _ _ _ _ rfl rfl (HB.out.setRow _)) rfl ?_
        rw [HF.out]
        refine ⟨_, rfl, ⟨_, _, L, ys, rfl, (S7.setRow _ _ (by omega)).base (by omega), own_base (own_setRow O7 _ _ (by omega)) (by omega), fun j c b hj hc hb => ?_⟩, below_row HBE.out (Nat.le_refl _) _⟩
        have h1 := (HLC.out c hc).2
        have h2 := ((S7.strs j hj).lt b hb).1
        omega
end Go.Proofs.YtndnplpmkkdieaaGreatDoor
