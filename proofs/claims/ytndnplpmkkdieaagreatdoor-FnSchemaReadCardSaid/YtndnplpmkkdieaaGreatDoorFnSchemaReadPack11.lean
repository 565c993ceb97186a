/- Texts of this claim, put together: part 11. -/
import Derived.Test.YtndnplpmkkdieaaGreatDoorFnSchemaReadPack9
import Derived.Test.YtndnplpmkkdieaaGreatDoorFnSchemaReadPack10
import Derived.Test.YtndnplpmkkdieaaGreatDoorFnSchemaReadPack5
import Derived.Lib.QuietBelow
import Derived.BigQuiet
import Derived.Test.YtndnplpmkkdieaaGreatDoorFnSchemaReadPack3
import Derived.Test.YtndnplpmkkdieaaGreatDoorFnSchemaReadPack8
import Derived.Lib.Split
import Derived.Lib.SplitLaws
import Derived.Lib.CountLaws
import Derived.Lib.CutLaws
import Derived.Lib.IndexLaws
import Derived.Lib.IndexBytes
/- The text of an attribute, by the specification. -/
namespace Go.Proofs.YtndnplpmkkdieaaGreatDoor
open Go.RowKit
set_option maxRecDepth 100000

theorem sDigits_any (n : Int) (w : World) (h0 : -9223372036854775808 ≤ n) (h1 : n ≤ 9223372036854775807) :
    Calls Tryz.prog 65 #[.int .i64 n] w fun e w' => e = .returned (.string (itB n)) ∧ Below w.heap.size w w' := digits_any n w h0 h1
theorem itB_takeS {cs : List Int} {k : Nat} (h : k < cs.length) : (cs.take (k + 1)).map itB = (cs.take k).map itB ++ [itB (cs.getD k 0)] := by
  rw [List.take_succ_eq_append_getElem h, List.map_append]; simp [h]

set_option maxHeartbeats 3200000 in
theorem specAttrText_any (v : Value) (a : AttrD) (w : World) (h : AttrAt w v a) (hn : okA a) :
    Calls Tryz.prog 49 #[v] w fun e w' => e = .returned (.string (attrText a)) ∧ Below w.heap.size w w' := by
  have mixed : Tryz.prog.follows .mixedOrders = true := by kernel_rfl
  obtain ⟨i0, hi, hz0, hz1, hz2⟩ := info_parts strInfo
  have HH : Hid (AttrAt w v a) := h
  obtain ⟨vc, vv, rfl, hc, hv⟩ := h
  obtain ⟨oc, cc, rfl, hcc, hcr⟩ := id hc
  obtain ⟨ov, cv, rfl, -, -⟩ := id hv
  have HCR : Hid (0 < a.cuts.length → ∃ g o, oc = some ⟨g, o, none⟩ ∧ g < w.heap.size ∧ ∀ j, j < a.cuts.length → w.cell? ⟨g, o + j, none⟩ = some (.int .i64 (a.cuts.getD j 0))) := hcr
  have HV : Hid (RowS w (.slice ov a.vals.length cv) a.vals) := hv
  clear hc hv hcr
  obtain ⟨K0, B0⟩ := blk_1 41 w #[.string a.name, .slice oc a.cuts.length cc, .slice ov a.vals.length cv]
  have c := specAttrOk_any _ a _ (HH.out.later B0) hn
  cases hw : attrOk a with
  | false =>
    have HF : Hid (attrText a = ⟨#[]⟩) := by unfold attrText; rw [hw]; rfl
    rw [hw] at c
    clear hw
    go_enter Tryz.func49, Tryz.ntmps49
    go_wp2_with fail
    refine c.mono ?_
    rintro e w1 ⟨rfl, hb1⟩
    clear c K0
    go_wp2
    go_ret
    exact ⟨by rw [HF.out]; rfl, B0.trans (hb1.mono B0.size)⟩
  | true =>
    have HW : Hid (attrOk a = true) := hw
    have hnm := (word_size (ok_name hw)).2
    rw [hw] at c
    clear hw hn
    go_enter Tryz.func49, Tryz.ntmps49
    go_wp2_with fail
    refine c.mono ?_
    rintro e w1 ⟨rfl, hb1⟩
    clear c
    have B1 := B0.trans (hb1.mono B0.size)
    replace K0 := K0.below hb1
    have k0 : w1.cell? ⟨w.heap.size, 0, none⟩ = some (.string a.name) := K0.cell 0
    have k1 : w1.cell? ⟨w.heap.size, 1, none⟩ = some (.slice oc a.cuts.length cc) := K0.cell 1
    have k2 : w1.cell? ⟨w.heap.size, 2, none⟩ = some (.slice ov a.vals.length cv) := K0.cell 2
    clear hb1 B0
    by_cases h0 : 0 < a.vals.length
    · obtain ⟨-, l2, l4, hwo⟩ := ok_vals HW.out (by omega)
      have hjs : (joinT a.vals ⟨#[44]⟩).size ≤ 36 := by
        have h1 := joinT_size a.vals ⟨#[44]⟩ 8 fun s hs => (word_size (words_all hwo s hs)).2
        have h2 : (⟨#[44]⟩ : ByteArray).size = 1 := rfl
        rw [h2] at h1; omega
      have HF : Hid (attrText a = a.name ++ ⟨#[61]⟩ ++ joinT a.vals ⟨#[44]⟩) := by
        unfold attrText; rw [if_pos HW.out, if_neg (by omega)]; rfl
      have B2 := B1
      clear k0 k1
      have k0 : w1.cell? ⟨w.heap.size, 0, none⟩ = some (.string a.name) := K0.cell 0
      have cJ := fun d os => Calls.regrown_of (specJoin_any (.slice ov a.vals.length cv) a.vals ⟨#[44]⟩ (Go.Sort.grow (redrawn w1 d) os) ((HV.out.later B2).later (below_regrown w1 d os)) (by omega) (by omega))
      have d0 := fun d os => cell_regrown k0 d os
      have d2 := fun d os => cell_regrown k2 d os
      have hbR := fun d os => B2.trans ((below_regrown w1 d os).mono B2.size)
      have HBR : Hid (∀ d os, Below w.heap.size w (Go.Sort.grow (redrawn w1 d) os)) := hbR
      clear hbR B1 B2 K0
      generalize joinT a.vals ⟨#[44]⟩ = J at cJ hjs HF
      generalize a.name = nm at d0 hnm HF k0
      go_wp2
      refine wp_region_quiet_below mixed (by kernel_rfl) ?_
      repeat (go_big_quiet_step (exact cJ _ _))
      refine wpQuiet_nil ?_
      intro _ hw'
      obtain ⟨⟨dq, osq⟩, hw''⟩ := hw'
      subst hw''
      go_wp2
      go_ret
      exact ⟨by rw [HF.out]; rfl, HBR.out _ _⟩
    · obtain ⟨l1, l3, hri⟩ := ok_cuts HW.out (by omega)
      have HRI : Hid (∀ k, k < a.cuts.length → -9999 ≤ a.cuts.getD k 0 ∧ a.cuts.getD k 0 ≤ 9998) := fun k hk => rise_all hri hk
      have hjs : (joinT (a.cuts.map itB) ⟨#[44]⟩).size ≤ 36 := by
        have h1 := joinT_size (a.cuts.map itB) ⟨#[44]⟩ 5 fun s hs => by
          obtain ⟨c, hc, rfl⟩ := List.mem_map.1 hs
          obtain ⟨j, hj, rfl⟩ := List.mem_iff_getElem.1 hc
          have := HRI.out j hj
          simp [hj] at this
          exact itB_size (by omega) (by omega)
        have h2 : (⟨#[44]⟩ : ByteArray).size = 1 := rfl
        rw [h2, List.length_map] at h1; omega
      have HF : Hid (attrText a = a.name ++ ⟨#[58]⟩ ++ joinT (a.cuts.map itB) ⟨#[44]⟩) := by
        unfold attrText; rw [if_pos HW.out, if_pos (by omega)]; rfl
      obtain ⟨g, o, rfl, hg, hj⟩ := HCR.out (by omega)
      have HJ : Hid (∀ j, j < a.cuts.length → w.cell? ⟨g, o + j, none⟩ = some (.int .i64 (a.cuts.getD j 0))) := hj
      have h0' : ¬ 0 < a.vals.length := h0
      clear hj HCR hri
      have B2 := B1
      clear k0 k1
      have k1 : w1.cell? ⟨w.heap.size, 1, none⟩ = some (.slice (some ⟨g, o, none⟩) a.cuts.length cc) := K0.cell 1
      have HK : Hid (Blk 41 w1 w.heap.size #[.string a.name, .slice (some ⟨g, o, none⟩) a.cuts.length cc, .slice ov a.vals.length cv]) := K0
      have hsz2 : w.heap.size < w1.heap.size := K0.lt
      have HB2 : Hid (Below w.heap.size w w1) := B2
      clear B1 K0 B2
      go_wp2
      go_loopw [3, 4] (fun v i wr => ∃ k : Nat, i = .int .i64 k ∧ k ≤ a.cuts.length ∧ wr.ownsRow w1.heap.size 9 1 v k (((a.cuts.take k).map itB).map Value.string) ∧ Below w1.heap.size w1 wr) (fun _ i _ => a.cuts.length - (intOf i).toNat)
      case atStart => exact ⟨0, rfl, by omega, World.ownsRow_lit (base := w1.heap.size) (e := 9) (size := 1) w1 #[] 0 (Nat.le_refl _) (by decide) rfl, (Below.refl _ _).alloc (Nat.le_refl _) _⟩
      case round =>
        obtain ⟨k, rfl, hk, hown, hbr⟩ := hrel
        have hbw := HB2.out.trans (hbr.mono HB2.out.size)
        have k1 : wr.cell? ⟨w.heap.size, 1, none⟩ = some (.slice (some ⟨g, o, none⟩) a.cuts.length cc) := (HK.out.below hbr).cell 1
        by_cases hlt : k < a.cuts.length
        · have hcell : wr.cell? ⟨g, o + k, none⟩ = some (.int .i64 (a.cuts.getD k 0)) := (hbw.cell (p := ⟨g, o + k, none⟩) hg).trans (HJ.out k hlt)
          have HTK : Hid ((a.cuts.take (k + 1)).map itB = (a.cuts.take k).map itB ++ [itB (a.cuts.getD k 0)]) := itB_takeS hlt
          obtain ⟨x0, x1⟩ := HRI.out k hlt
          generalize a.cuts.getD k 0 = x at hcell HTK x0 x1
          have cD := sDigits_any x wr (by omega) (by omega)
          have HBW : Hid (Below w1.heap.size w1 wr) := hbr
          have HOW := hown
          clear hbw hbr
          go_wp2_with fail
          refine cD.mono ?_
          rintro e w3 ⟨rfl, hb3⟩
          clear cD hcell
          have hbr3 := HBW.out.trans (hb3.mono HBW.out.size)
          have hown3 := own_below hown hb3
          have hsz3 := hbr3.size
          have HB3 : Hid (Below w1.heap.size w1 w3) := hbr3
          clear hown HOW hb3 hbr3
          generalize itB x = t at HTK
          go_wp2_with (at_builtin; refine wpList_append_own _ rfl _ _ 25 rfl w1.heap.size 9 i0 (.string ⟨#[]⟩) 1 16 Tryz.underlying25 hi hz0 hz1 hz2 rfl (by decide) _ _ _ rfl (hown3.alloc _) ⟨w3.heap.size, 0, none⟩ 1 1 [_] rfl rfl (newc _ _ _) ?d2 ?d3 ?d4 ?d5 ?_)
          case d2 => intro u hu; simp at hu; subst hu; rfl
          case d3 => unfold maxLen; omega
          case d4 => omega
          case d5 => simp; omega
          intro v' w4 hown' hgrow _
          have R : w4.ownsRow w1.heap.size 9 1 v' (k + 1) (((a.cuts.take (k + 1)).map itB).map Value.string) := by rw [HTK.out]; simpa using hown'
          have BB : Below w1.heap.size w1 w4 := (HB3.out.alloc hsz3 _).grown hgrow (by simp; omega) fun j hj => (hown3.lt j hj).1
          clear hown' hgrow hown3
          go_wp2
          go_roundw
          case rel => exact ⟨k + 1, by go_num, by omega, R, BB⟩
          case measure => simp [intOf]; omega
        · obtain rfl : k = a.cuts.length := by omega
          rw [List.take_length] at hown
          have hrow := RowS.of_own hown (by simp)
          obtain ⟨oo, co, hv', -, -⟩ := id hrow
          rw [List.length_map] at hv'
          subst hv'
          have K0 := HK.out.below hbr
          have k0 : wr.cell? ⟨w.heap.size, 0, none⟩ = some (.string a.name) := K0.cell 0
          have cJ := fun d os => Calls.regrown_of (specJoin_any (.slice oo a.cuts.length co) (a.cuts.map itB) ⟨#[44]⟩ (Go.Sort.grow (redrawn wr d) os) (hrow.later (below_regrown wr d os)) (by simp; omega) (by omega))
          have d0 := fun d os => cell_regrown k0 d os
          have hbR := fun d os => hbw.trans ((below_regrown wr d os).mono hbw.size)
          have HBR : Hid (∀ d os, Below w.heap.size w (Go.Sort.grow (redrawn wr d) os)) := hbR
          clear hbR hbr hbw K0 k0 hown hrow
          generalize joinT (a.cuts.map itB) ⟨#[44]⟩ = J at cJ hjs HF
          generalize a.name = nm at d0 hnm HF
          go_wp2
          refine wp_region_quiet_below mixed (by kernel_rfl) ?_
          repeat (go_big_quiet_step (exact cJ _ _))
          refine wpQuiet_nil ?_
          intro _ hw'
          obtain ⟨⟨dq, osq⟩, hw''⟩ := hw'
          subst hw''
          go_wp2
          go_ret
          exact ⟨by rw [HF.out]; rfl, HBR.out _ _⟩
end Go.Proofs.YtndnplpmkkdieaaGreatDoor
/- Whether a schema is right, by the specification. -/
namespace Go.Proofs.YtndnplpmkkdieaaGreatDoor
open Go.RowKit
set_option maxRecDepth 100000

theorem sch_no1 {s : SchemaD} (h : ¬ ((1 : Int) ≤ s.attrs.length ∧ (s.attrs.length : Int) ≤ 5)) : schemaOk s = false := by
  unfold schemaOk; rw [decide_eq_false (by omega)]; rfl
theorem sch_no2 {s : SchemaD} (h : ¬ ((2 : Int) ≤ s.classes.length ∧ (s.classes.length : Int) ≤ 3)) : schemaOk s = false := by
  unfold schemaOk choices; rw [decide_eq_false h]; simp
theorem sch_no3 {s : SchemaD} (h : wordsOk s.classes = false) : schemaOk s = false := by
  unfold schemaOk choices; rw [h]; simp
theorem sch_yes {s : SchemaD} (h : (1 : Int) ≤ s.attrs.length ∧ (s.attrs.length : Int) ≤ 5) (h2 : (2 : Int) ≤ s.classes.length ∧ (s.classes.length : Int) ≤ 3) (h3 : wordsOk s.classes = true) : schemaOk s = attrsOk s.attrs := by
  unfold schemaOk choices; rw [decide_eq_true (p := 1 ≤ s.attrs.length ∧ s.attrs.length ≤ 5) (by omega), decide_eq_true h2, h3]; rfl

set_option maxHeartbeats 1600000 in
theorem specSchemaOk_any (v : Value) (s : SchemaD) (w : World) (h : SchemaAt w v s) (hn : okSch s) :
    Calls Tryz.prog 9 #[v] w fun e w' => e = .returned (.bool (schemaOk s)) ∧ Below w.heap.size w w' := by
  obtain ⟨va, vc, rfl, ha, hc⟩ := h
  obtain ⟨oa, ca, rfl, hca, har⟩ := id ha
  obtain ⟨oc, cc, rfl, hcc, hcr⟩ := id hc
  have HAR : Hid (RowA w (.slice oa s.attrs.length ca) s.attrs) := ha
  have HCR : Hid (RowS w (.slice oc s.classes.length cc) s.classes) := hc
  have HO : Hid (okSch s) := hn
  have la := hn.attrs
  clear ha hc har hcr hn
  by_cases h1 : (1 : Int) ≤ s.attrs.length ∧ (s.attrs.length : Int) ≤ 5
  rotate_left
  · have HF : Hid (schemaOk s = false) := sch_no1 h1
    go_enter Tryz.func9, Tryz.ntmps9
    go_wp2_with fail
    refine (in_any _ _ _ _).mono ?_
    rintro e w1 ⟨rfl, rfl⟩
    rw [decide_eq_false h1]
    clear h1
    go_wp2
    go_ret
    exact ⟨by rw [HF.out]; rfl, (Below.refl _ _).alloc (Nat.le_refl _) _⟩
  by_cases h2 : (2 : Int) ≤ s.classes.length ∧ (s.classes.length : Int) ≤ 3
  rotate_left
  · have HF : Hid (schemaOk s = false) := sch_no2 h2
    go_enter Tryz.func9, Tryz.ntmps9
    go_wp2_with fail
    refine (in_any _ _ _ _).mono ?_
    rintro e w1 ⟨rfl, rfl⟩
    rw [decide_eq_true h1]
    clear h1
    go_wp2_with fail
    refine (in_any _ _ _ _).mono ?_
    rintro e w1 ⟨rfl, rfl⟩
    rw [decide_eq_false h2]
    clear h2
    go_wp2
    go_ret
    exact ⟨by rw [HF.out]; rfl, (Below.refl _ _).alloc (Nat.le_refl _) _⟩
  obtain ⟨K0, B0⟩ := blk_1 27 w #[.slice oa s.attrs.length ca, .slice oc s.classes.length cc]
  have c := specWords_any _ s.classes _ (HCR.out.later B0) HO.out.classes
  cases hw : wordsOk s.classes with
  | false =>
    have HF : Hid (schemaOk s = false) := sch_no3 hw
    rw [hw] at c
    clear hw
    go_enter Tryz.func9, Tryz.ntmps9
    go_wp2_with fail
    refine (in_any _ _ _ _).mono ?_
    rintro e w1 ⟨rfl, rfl⟩
    rw [decide_eq_true h1]
    clear h1
    go_wp2_with fail
    refine (in_any _ _ _ _).mono ?_
    rintro e w1 ⟨rfl, rfl⟩
    rw [decide_eq_true h2]
    clear h2
    go_wp2_with fail
    refine c.mono ?_
    rintro e w1 ⟨rfl, hb1⟩
    clear c K0
    go_wp2
    go_ret
    exact ⟨by rw [HF.out]; rfl, B0.trans (hb1.mono B0.size)⟩
  | true =>
    have HW : Hid (schemaOk s = attrsOk s.attrs) := sch_yes h1 h2 hw
    rw [hw] at c
    clear hw
    obtain ⟨ls, has⟩ : ∃ ls, s.attrs = ls := ⟨_, rfl⟩
    obtain ⟨g, o, rfl, hg, hj⟩ : ∃ g o, oa = some ⟨g, o, none⟩ ∧ g < w.heap.size ∧ ∀ j, j < ls.length → CellsA w g (o + j * 3) (ad ls j) := by
      obtain ⟨oa', cap', e, _, hr⟩ := HAR.out
      obtain ⟨g, o, e', hg, hj⟩ := hr (by omega)
      injection e with e1 e2 e3
      exact ⟨g, o, by rw [e1, e'], hg, by rw [← has]; exact hj⟩
    have HJ : Hid (∀ j, j < ls.length → CellsA w g (o + j * 3) (ad ls j)) := hj
    have HE : Hid (∀ j, j < ls.length → okA (ad ls j)) := fun j hj => HO.out.each _ (by rw [has]; exact ad_mem hj)
    have HAS : Hid (s.attrs = ls) := has
    clear hj HAR HCR HO
    rw [has] at h1 la hca K0 B0 c
    go_enter Tryz.func9, Tryz.ntmps9
    rw [has]
    clear has
    go_wp2_with fail
    refine (in_any _ _ _ _).mono ?_
    rintro e w1 ⟨rfl, rfl⟩
    rw [decide_eq_true h1]
    go_wp2_with fail
    refine (in_any _ _ _ _).mono ?_
    rintro e w1 ⟨rfl, rfl⟩
    rw [decide_eq_true h2]
    clear h2
    go_wp2_with fail
    refine c.mono ?_
    rintro e w1 ⟨rfl, hb1⟩
    clear c
    have HB1 : Hid (Blk 27 w1 w.heap.size #[.slice (some ⟨g, o, none⟩) ls.length ca, .slice oc s.classes.length cc]) := K0.below hb1
    have B1 := B0.trans (hb1.mono B0.size)
    clear hb1 K0 B0 h1
    go_wp2
    go_loopw [3, 4] (fun i _ wr => ∃ k : Nat, i = .int .i64 k ∧ k ≤ ls.length ∧ (∀ j, j < k → attrAt ls j = true) ∧ Below w1.heap.size w1 wr) (fun i _ _ => ls.length - (intOf i).toNat)
    case atStart => exact ⟨0, rfl, by omega, by omega, Below.refl _ _⟩
    case round =>
      obtain ⟨k, rfl, hk, hal, hb⟩ := hrel
      have HA : Hid (∀ j, j < k → attrAt ls j = true) := hal
      clear hal
      have K : wr.cell? ⟨w.heap.size, 0, none⟩ = some (.slice (some ⟨g, o, none⟩) ls.length ca) := (HB1.out.below hb).cell 0
      have hbw := B1.trans (hb.mono B1.size)
      by_cases hlt : k < ls.length
      · obtain ⟨vc, vv, q0, q1, q2, r1, r2⟩ := (HJ.out k hlt).later hbw hg
        obtain ⟨o1, c1, rfl, -, -⟩ := id r1
        obtain ⟨o2, c2, rfl, -, -⟩ := id r2
        have hx : AttrAt wr (.agg #[.string (ad ls k).name, .slice o1 (ad ls k).cuts.length c1, .slice o2 (ad ls k).vals.length c2]) (ad ls k) := ⟨_, _, rfl, r1, r2⟩
        have c := specAttrOk_any _ (ad ls k) _ hx (HE.out k hlt)
        clear r1 r2 hx
        cases hw : attrOk (ad ls k) with
        | false =>
          have HF : Hid (attrsOk ls = false) := attrs_no k hlt (attrAt_no1 hw)
          rw [hw] at c
          clear hw
          go_wp2_with fail
          refine c.mono ?_
          rintro e w2 ⟨rfl, hb2⟩
          clear c
          go_wp2
          go_ret
          exact ⟨by rw [HW.out, HAS.out, HF.out]; rfl, hbw.trans (hb2.mono hbw.size)⟩
        | true =>
          have HWK : Hid (attrOk (ad ls k) = true) := hw
          rw [hw] at c
          clear hw
          go_wp2_with fail
          refine c.mono ?_
          rintro e w2 ⟨rfl, hb2⟩
          clear c K q0 q1 q2
          have hb3 : Below w1.heap.size w1 w2 := hb.trans (hb2.mono hb.size)
          have hbx : Below w.heap.size w w2 := hbw.trans (hb2.mono hbw.size)
          have K : w2.cell? ⟨w.heap.size, 0, none⟩ = some (.slice (some ⟨g, o, none⟩) ls.length ca) := (HB1.out.below hb3).cell 0
          have q0 : w2.cell? ⟨g, o + k * 3, none⟩ = some (.string (ad ls k).name) := by
            obtain ⟨_, _, q, _⟩ := (HJ.out k hlt).later hbx hg; exact q
          clear hb hb2 hbw
          go_wp2
          go_loopw [4] (fun i wr => ∃ m q : Nat, i = .int .i64 m ∧ m ≤ k ∧ (∀ j, j < m → (ad ls k).name ≠ (ad ls j).name) ∧ wr = w2.drewN q) (fun i _ => k - (intOf i).toNat)
          case atStart => exact ⟨0, 0, rfl, by omega, by omega, rfl⟩
          case round =>
            obtain ⟨m, q, rfl, hm, hne, rfl⟩ := hrel
            have HN : Hid (∀ j, j < m → (ad ls k).name ≠ (ad ls j).name) := hne
            clear hne
            by_cases hmk : m < k
            · have hml : m < ls.length := by omega
              have hcm : w2.cell? ⟨g, o + m * 3, none⟩ = some (.string (ad ls m).name) := by
                obtain ⟨_, _, q, _⟩ := (HJ.out m hml).later hbx hg; exact q
              by_cases he : (ad ls k).name = (ad ls m).name
              · have HF : Hid (attrsOk ls = false) := attrs_no k hlt (attrAt_no2 (hasT_yes (k := m) (by rw [nmsB_len hk]; omega) (by rw [nmsB_at hmk hk]; exact he)))
                have hq : ((ad ls k).name.toList == (ad ls m).name.toList) = true := by rw [← he]; simp
                clear he
                generalize (ad ls k).name = u at q0 hq
                generalize (ad ls m).name = u' at hcm hq
                go_wp2
                go_quiet (fail)
                all_goals go_wp2
                all_goals go_ret
                all_goals exact ⟨by rw [HW.out, HAS.out, HF.out]; rfl, below_drewN (below_drewN hbx _) _⟩
              · have hq : ((ad ls k).name.toList == (ad ls m).name.toList) = false := by
                  rw [beq_eq_false_iff_ne]; exact fun h => he (bytes_eq_iff.1 h)
                have HE' : Hid ((ad ls k).name ≠ (ad ls m).name) := he
                clear he
                generalize hu : (ad ls k).name = u at q0 hq
                generalize hu' : (ad ls m).name = u' at hcm hq
                have HU : Hid ((ad ls k).name = u) := hu
                clear hu hu'
                go_wp2
                go_quiet (fail)
                all_goals go_wp2
                all_goals go_roundw
                case rel =>
                  refine ⟨m + 1, _, by go_num, by omega, ?_, by first | rfl | (simp only [World.drewN_drewN]; rfl)⟩
                  intro j hj
                  rw [← HU.out]
                  by_cases e : j = m
                  · subst e; exact HE'.out
                  · exact HN.out j (by omega)
                case measure => simp [intOf]; omega
            · have HF : Hid (attrAt ls k = true) := attrAt_yes HWK.out (hasT_no fun j hj => by
                have hj' : j < k := by rw [nmsB_len hk] at hj; exact hj
                rw [nmsB_at hj' hk]; exact HN.out j (by omega))
              go_wp2
              go_roundw
              case rel =>
                refine ⟨k + 1, by go_num, by omega, ?_, below_drewN hb3 _⟩
                intro j hj
                by_cases e : j = k
                · subst e; exact HF.out
                · exact HA.out j (by omega)
              case measure => simp [intOf]; omega
      · have HF : Hid (attrsOk ls = true) := attrs_yes fun j hj => HA.out j (by omega)
        go_wp2
        go_ret
        exact ⟨by rw [HW.out, HAS.out, HF.out]; rfl, hbw⟩
end Go.Proofs.YtndnplpmkkdieaaGreatDoor
/- The text of a schema, by the specification. -/
namespace Go.Proofs.YtndnplpmkkdieaaGreatDoor
open Go.RowKit
set_option maxRecDepth 100000

set_option maxHeartbeats 3200000 in
theorem specSchemaText_any (v : Value) (s : SchemaD) (w : World) (h : SchemaAt w v s) (hn : okSch s) :
    Calls Tryz.prog 29 #[v] w fun e w' => e = .returned (.string (schemaText s)) ∧ Below w.heap.size w w' := by
  have mixed : Tryz.prog.follows .mixedOrders = true := by kernel_rfl
  obtain ⟨i0, hi, hz0, hz1, hz2⟩ := info_parts strInfo
  have HH : Hid (SchemaAt w v s) := h
  obtain ⟨va, vc, rfl, ha, hc⟩ := h
  obtain ⟨oa, ca, rfl, hca, har⟩ := id ha
  obtain ⟨oc, cc, rfl, -, -⟩ := id hc
  have HAR : Hid (0 < s.attrs.length → ∃ g o, oa = some ⟨g, o, none⟩ ∧ g < w.heap.size ∧ ∀ j, j < s.attrs.length → CellsA w g (o + j * 3) (ad s.attrs j)) := har
  have HCR : Hid (RowS w (.slice oc s.classes.length cc) s.classes) := hc
  have HO : Hid (okSch s) := hn
  clear ha hc har
  obtain ⟨K0, B0⟩ := blk_1 27 w #[.slice oa s.attrs.length ca, .slice oc s.classes.length cc]
  have c := specSchemaOk_any _ s _ (HH.out.later B0) hn
  cases hw : schemaOk s with
  | false =>
    have HF : Hid (schemaText s = ⟨#[]⟩) := by unfold schemaText; rw [hw]; rfl
    rw [hw] at c
    clear hw
    go_enter Tryz.func29, Tryz.ntmps29
    go_wp2_with fail
    refine c.mono ?_
    rintro e w1 ⟨rfl, hb1⟩
    clear c K0
    go_wp2
    go_ret
    exact ⟨by rw [HF.out]; rfl, B0.trans (hb1.mono B0.size)⟩
  | true =>
    have HF : Hid (schemaText s = joinT (s.attrs.map attrText) ⟨#[59]⟩ ++ ⟨#[124]⟩ ++ joinT s.classes ⟨#[44]⟩) := by unfold schemaText; rw [if_pos hw]; rfl
    obtain ⟨hj1, hj2⟩ := sch_bounds hw
    obtain ⟨⟨l1, l5⟩, ⟨m2, m3⟩, -, -⟩ := sch_parts hw
    rw [hw] at c
    clear hw hn
    obtain ⟨g, o, rfl, hg, hj⟩ := HAR.out (by omega)
    have HJ : Hid (∀ j, j < s.attrs.length → CellsA w g (o + j * 3) (ad s.attrs j)) := hj
    clear hj HAR
    go_enter Tryz.func29, Tryz.ntmps29
    go_wp2_with fail
    refine c.mono ?_
    rintro e w1 ⟨rfl, hb1⟩
    clear c
    have B1 := B0.trans (hb1.mono B0.size)
    replace K0 := K0.below hb1
    have k0 : w1.cell? ⟨w.heap.size, 0, none⟩ = some (.slice (some ⟨g, o, none⟩) s.attrs.length ca) := K0.cell 0
    have HK : Hid (Blk 27 w1 w.heap.size #[.slice (some ⟨g, o, none⟩) s.attrs.length ca, .slice oc s.classes.length cc]) := K0
    have hsz1 : w.heap.size < w1.heap.size := K0.lt
    have HB1 : Hid (Below w.heap.size w w1) := B1
    clear hb1 B0 K0 B1
    go_wp2
    go_loopw [3, 4] (fun v i wr => ∃ k : Nat, i = .int .i64 k ∧ k ≤ s.attrs.length ∧ wr.ownsRow w1.heap.size 9 1 v k (((s.attrs.take k).map attrText).map Value.string) ∧ Below w1.heap.size w1 wr) (fun _ i _ => s.attrs.length - (intOf i).toNat)
    case atStart => exact ⟨0, rfl, by omega, World.ownsRow_lit (base := w1.heap.size) (e := 9) (size := 1) w1 #[] 0 (Nat.le_refl _) (by decide) rfl, (Below.refl _ _).alloc (Nat.le_refl _) _⟩
    case round =>
      obtain ⟨k, rfl, hk, hown, hbr⟩ := hrel
      have hbw := HB1.out.trans (hbr.mono HB1.out.size)
      have k0 : wr.cell? ⟨w.heap.size, 0, none⟩ = some (.slice (some ⟨g, o, none⟩) s.attrs.length ca) := (HK.out.below hbr).cell 0
      by_cases hlt : k < s.attrs.length
      · obtain ⟨xc, xv, q0, q1, q2, r1, r2⟩ := (HJ.out k hlt).later hbw hg
        obtain ⟨o1, c1, rfl, -, -⟩ := id r1
        obtain ⟨o2, c2, rfl, -, -⟩ := id r2
        have HTK : Hid ((s.attrs.take (k + 1)).map attrText = (s.attrs.take k).map attrText ++ [attrText (ad s.attrs k)]) := at_take hlt
        have hok := HO.out.each _ (ad_mem hlt)
        have cT := specAttrText_any _ (ad s.attrs k) wr ⟨_, _, rfl, r1, r2⟩ hok
        have hbrA := hbr
        have hownA := hown
        clear r1 r2 hok hbr hown hbw
        go_wp2_with fail
        refine cT.mono ?_
        rintro e w3 ⟨rfl, hb3⟩
        clear cT q0 q1 q2 k0
        have hbr3 := hbrA.trans (hb3.mono hbrA.size)
        have hown3 := own_below hownA hb3
        have hsz3 := hbr3.size
        have HB3 : Hid (Below w1.heap.size w1 w3) := hbr3
        clear hownA hbrA hb3 hbr3
        generalize attrText (ad s.attrs k) = t at HTK
        go_wp2_with (at_builtin; refine wpList_append_own _ rfl _ _ 25 rfl w1.heap.size 9 i0 (.string ⟨#[]⟩) 1 16 Tryz.underlying25 hi hz0 hz1 hz2 rfl (by decide) _ _ _ rfl (hown3.alloc _) ⟨w3.heap.size, 0, none⟩ 1 1 [_] rfl rfl (newc _ _ _) ?d2 ?d3 ?d4 ?d5 ?_)
        case d2 => intro u hu; simp at hu; subst hu; rfl
        case d3 => unfold maxLen; omega
        case d4 => omega
        case d5 => simp; omega
        intro v' w4 hown' hgrow _
        have R : w4.ownsRow w1.heap.size 9 1 v' (k + 1) (((s.attrs.take (k + 1)).map attrText).map Value.string) := by rw [HTK.out]; simpa using hown'
        have BB : Below w1.heap.size w1 w4 := (HB3.out.alloc hsz3 _).grown hgrow (by simp; omega) fun j hj => (hown3.lt j hj).1
        clear hown' hgrow hown3
        go_wp2
        go_roundw
        case rel => exact ⟨k + 1, by go_num, by omega, R, BB⟩
        case measure => simp [intOf]; omega
      · obtain rfl : k = s.attrs.length := by omega
        rw [List.take_length] at hown
        have hrow := RowS.of_own hown (by simp)
        obtain ⟨oo, co, hv', -, -⟩ := id hrow
        rw [List.length_map] at hv'
        subst hv'
        have k1 : wr.cell? ⟨w.heap.size, 1, none⟩ = some (.slice oc s.classes.length cc) := (HK.out.below hbr).cell 1
        have cJ := fun d os => Calls.regrown_of (specJoin_any (.slice oo s.attrs.length co) (s.attrs.map attrText) ⟨#[59]⟩ (Go.Sort.grow (redrawn wr d) os) (hrow.later (below_regrown wr d os)) (by simp; omega) (by omega))
        have cC := fun d os => Calls.regrown_of (specJoin_any (.slice oc s.classes.length cc) s.classes ⟨#[44]⟩ (Go.Sort.grow (redrawn wr d) os) ((HCR.out.later hbw).later (below_regrown wr d os)) (by omega) (by omega))
        have d1 := fun d os => cell_regrown k1 d os
        have hbR := fun d os => hbw.trans ((below_regrown wr d os).mono hbw.size)
        have HBR : Hid (∀ d os, Below w.heap.size w (Go.Sort.grow (redrawn wr d) os)) := hbR
        clear hbR hbr hbw hown hrow
        generalize joinT (s.attrs.map attrText) ⟨#[59]⟩ = J at cJ hj1 HF
        generalize joinT s.classes ⟨#[44]⟩ = J2 at cC hj2 HF
        go_wp2
        refine wp_region_quiet_below mixed (by kernel_rfl) ?_
        repeat (go_big_quiet_step (first | with_reducible exact cJ _ _ | with_reducible exact cC _ _))
        refine wpQuiet_nil ?_
        intro _ hw'
        obtain ⟨⟨dq, osq⟩, hw''⟩ := hw'
        subst hw''
        go_wp2
        go_ret
        exact ⟨by rw [HF.out]; rfl, HBR.out _ _⟩
end Go.Proofs.YtndnplpmkkdieaaGreatDoor
/- What stands between such bytes of a text: plain facts on lists of bytes; the library's Split answers it. -/
namespace Go.Proofs.YtndnplpmkkdieaaGreatDoor

def cuts (b : UInt8) : List UInt8 → List UInt8 → List (List UInt8)
  | cur, [] => [cur]
  | cur, c :: r => if c = b then cur :: cuts b [] r else cuts b (cur ++ [c]) r
theorem cuts_no (b : UInt8) : ∀ (r cur : List UInt8), (∀ c ∈ r, c ≠ b) → cuts b cur r = [cur ++ r]
  | [], cur, _ => by simp [cuts]
  | c :: r, cur, h => by
    rw [cuts, if_neg (h c (List.mem_cons_self ..)), cuts_no b r _ fun x hx => h x (List.mem_cons_of_mem _ hx)]
    simp
theorem cuts_hit (b : UInt8) (r : List UInt8) : ∀ (p cur : List UInt8), (∀ c ∈ p, c ≠ b) → cuts b cur (p ++ b :: r) = (cur ++ p) :: cuts b [] r
  | [], cur, _ => by simp [cuts]
  | c :: p, cur, h => by
    rw [List.cons_append, cuts, if_neg (h c (List.mem_cons_self ..)), cuts_hit b r p _ fun x hx => h x (List.mem_cons_of_mem _ hx)]
    simp
theorem cuts_len (b : UInt8) : ∀ (r cur : List UInt8), (cuts b cur r).length ≤ r.length + 1
  | [], cur => by simp [cuts]
  | c :: r, cur => by
    unfold cuts
    split
    · have := cuts_len b r []; simp; omega
    · have := cuts_len b r (cur ++ [c]); simp; omega

/-- The pieces behind the first, each with its byte ahead. -/
def tailJ (b : UInt8) (ps : List (List UInt8)) : List UInt8 := ps.flatMap fun p => b :: p
theorem cuts_join (b : UInt8) : ∀ (r cur : List UInt8), ∃ x xs, cuts b cur r = x :: xs ∧ x ++ tailJ b xs = cur ++ r
  | [], cur => ⟨cur, [], rfl, by simp [tailJ]⟩
  | c :: r, cur => by
    unfold cuts
    split
    · next h =>
      subst h
      obtain ⟨x, xs, h1, h2⟩ := cuts_join c r []
      refine ⟨cur, cuts c [] r, rfl, ?_⟩
      rw [h1]
      simp only [tailJ, List.flatMap_cons, List.cons_append]
      simp only [tailJ, List.nil_append] at h2
      rw [h2]
    · obtain ⟨x, xs, h1, h2⟩ := cuts_join b r (cur ++ [c])
      exact ⟨x, xs, h1, by rw [h2]; simp⟩
theorem cuts_clean (b : UInt8) : ∀ (r cur : List UInt8), (∀ c ∈ cur, c ≠ b) → ∀ x ∈ cuts b cur r, ∀ c ∈ x, c ≠ b
  | [], cur, h, x, hx => by simp only [cuts, List.mem_singleton] at hx; subst hx; exact h
  | c :: r, cur, h, x, hx => by
    unfold cuts at hx
    split at hx
    · rcases List.mem_cons.1 hx with rfl | hx
      · exact h
      · exact cuts_clean b r [] (by simp) x hx
    · next hc =>
      refine cuts_clean b r _ ?_ x hx
      intro y hy
      rcases List.mem_append.1 hy with h1 | h1
      · exact h y h1
      · simp only [List.mem_singleton] at h1; subst h1; exact hc

def mkB (l : List UInt8) : ByteArray := ⟨l.toArray⟩
theorem mkB_data (l : List UInt8) : (mkB l).data.toList = l := rfl
theorem mkB_of (s : ByteArray) : mkB s.data.toList = s := by apply ByteArray.ext; simp [mkB]
/-- The pieces of a text. -/
def pieces (b : UInt8) (s : ByteArray) : List ByteArray := (cuts b [] s.data.toList).map mkB
theorem pieces_len (b : UInt8) (s : ByteArray) : (pieces b s).length ≤ s.size + 1 := by
  unfold pieces
  have := cuts_len b s.data.toList []
  simpa using this

theorem index_one' (s : ByteArray) (b : UInt8) : Lib.indexB s ⟨#[b]⟩ = Lib.indexByte s.data.toList b := by
  unfold Lib.indexB
  exact Lib.index_one _ _

theorem split_pieces (b : UInt8) : ∀ (k : Nat) (s : ByteArray), s.size ≤ k → Lib.splitB ⟨#[b]⟩ 0 (Lib.countB s ⟨#[b]⟩) s = pieces b s := by
  intro k
  induction k with
  | zero =>
    intro s hs
    have e : s.data.toList = [] := by
      apply List.eq_nil_of_length_eq_zero
      have : s.data.toList.length = s.size := by simp
      omega
    have hi : Lib.indexB s ⟨#[b]⟩ = -1 := by rw [index_one', e]; rfl
    rw [Lib.countB_miss s _ hi, Lib.splitB_zero, pieces, e]
    simp only [cuts, List.map_cons, List.map_nil]
    rw [← e, mkB_of]
  | succ k ih =>
    intro s hs
    rcases Lib.indexB_cases s ⟨#[b]⟩ with hi | ⟨i, hi, hle⟩
    · have hn := Lib.indexByte_none ((index_one' s b).symm.trans hi)
      rw [Lib.splitB_miss _ _ _ _ hi, pieces, cuts_no b _ _ (fun c hc e => by
        obtain ⟨j, hj, hcj⟩ := List.mem_iff_getElem.1 hc
        exact hn j (by rw [List.getElem?_eq_getElem hj, hcj, e]))]
      simp [mkB_of]
    · have hsome := Lib.indexByte_some ((index_one' s b).symm.trans hi)
      have hsz : (⟨#[b]⟩ : ByteArray).size = 1 := rfl
      rw [hsz] at hle
      rw [Lib.countB_hit s _ i (by rw [hsz]; exact Nat.le_refl _) hi, Nat.add_comm 1, Lib.splitB_hit _ _ _ _ i hi, hsz, ih _ (by simp; omega)]
      have hl : s.data.toList = s.data.toList.take i ++ b :: s.data.toList.drop (i + 1) := by
        have hj : i < s.data.toList.length := by simpa using (show i < s.size by omega)
        have e : s.data.toList[i] = b := by
          have := hsome.1
          rw [List.getElem?_eq_getElem hj] at this
          exact Option.some.inj this
        rw [← e, ← List.drop_eq_getElem_cons hj, List.take_append_drop]
      have hd : (s.extract (i + 1) s.size).data.toList = s.data.toList.drop (i + 1) := Lib.extract_to_end s (i + 1)
      have ht : s.extract 0 (i + 0) = mkB (s.data.toList.take i) := by
        apply ByteArray.ext
        apply Array.toList_inj.1
        rw [Lib.extract_data]; simp [mkB]
      rw [ht]
      unfold pieces
      rw [hd]
      conv => rhs; rw [hl, cuts_hit b _ _ _ (fun c hc e => by
        obtain ⟨j, hj, hcj⟩ := List.mem_iff_getElem.1 hc
        rw [List.length_take] at hj
        rw [List.getElem_take] at hcj
        exact hsome.2 j (by omega) (by rw [List.getElem?_eq_getElem (by omega), hcj, e]))]
      simp
theorem split_all (b : UInt8) (s : ByteArray) : Lib.splitB ⟨#[b]⟩ 0 (Lib.countB s ⟨#[b]⟩) s = pieces b s := split_pieces b s.size s (Nat.le_refl _)
theorem count_pieces (b : UInt8) (s : ByteArray) : Lib.countB s ⟨#[b]⟩ + 1 = (pieces b s).length := by
  rw [← split_all, Lib.splitB_all ⟨#[b]⟩ (by exact Nat.le_refl _) 0 _ s rfl]
end Go.Proofs.YtndnplpmkkdieaaGreatDoor
