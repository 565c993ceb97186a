/- Texts of this claim, put together: part 19. -/
import Derived.Test.YtndnplpmkkdieaaGreatDoorFnSchemaReadPack8
import Derived.Test.YtndnplpmkkdieaaGreatDoorFnSchemaReadPack9
import Derived.Test.YtndnplpmkkdieaaGreatDoorFnSchemaReadPack16
import Derived.Test.YtndnplpmkkdieaaGreatDoorFnSchemaReadPack5
import Derived.Test.YtndnplpmkkdieaaGreatDoorFnSchemaReadPack13
import Derived.Lib.QuietBelow
import Derived.BigQuiet
import Derived.Lib.AppendIntMem
import Derived.Test.YtndnplpmkkdieaaGreatDoorFnSchemaReadPack17
import Derived.Test.YtndnplpmkkdieaaGreatDoorFnSchemaReadPack3
/- Whether an attribute is nominal, by the program. -/
namespace Go.Proofs.YtndnplpmkkdieaaGreatDoor
open Go.RowKit
set_option maxRecDepth 100000

theorem nominal_any (v : Value) (a : AttrD) (w : World) (h : AttrAt w v a) : Calls Tryz.prog 42 #[v] w fun e w' => e = .returned (.bool (decide (0 < a.vals.length))) ∧ Below w.heap.size w w' := by
  obtain ⟨vc, vv, rfl, hc, hv⟩ := h
  obtain ⟨ov, cv, rfl, hvc, hvr⟩ := hv
  clear hvr hc
  go_enter Tryz.func42, Tryz.ntmps42
  go_wp2
  go_ret
  exact ⟨rfl, (Below.refl _ _).alloc (Nat.le_refl _) _⟩
end Go.Proofs.YtndnplpmkkdieaaGreatDoor
/- The text of an attribute, by the program. -/
namespace Go.Proofs.YtndnplpmkkdieaaGreatDoor
open Go.RowKit
set_option maxRecDepth 100000

theorem gPw : Tryz.prog.globalNamed "internal/strconv.uint64pow10" = some 4 := by kernel_rfl
/-- What the writer of digits wants of the library's variables. -/
def Tab (w : World) : Prop := Lib.TabIs Tryz.prog w "internal/strconv.uint64pow10" .u64 Lib.pow10Tab ∧ 4 < w.heap.size
theorem Tab.later {w w' : World} (h : Tab w) (hb : Below w.heap.size w w') : Tab w' := ⟨var?_below hb gPw h.2 h.1, Nat.lt_of_lt_of_le h.2 hb.size⟩

theorem iDigits_any (n : Int) (w : World) (h0 : -9223372036854775808 ≤ n) (h1 : n ≤ 9223372036854775807) (hr : Tab w) :
    Calls Tryz.prog 43 #[.int .i64 n] w fun e w' => e = .returned (.string (itB n)) ∧ Below w.heap.size w w' := by
  have ht := hr.1
  clear hr
  go_enter Tryz.func43, Tryz.ntmps43
  go_wp2_with fail
  refine (Tryz.strconv_Itoa n h0 h1 _ ht).mono ?_
  rintro e w' ⟨rfl, k, os, rfl⟩
  go_wp2
  go_ret
  exact ⟨rfl, Lib.below_grow _ _ (Nat.le_refl _) _ _⟩

theorem itB_take {cs : List Int} {k : Nat} (h : k < cs.length) : (cs.take (k + 1)).map itB = (cs.take k).map itB ++ [itB (cs.getD k 0)] := by
  rw [List.take_succ_eq_append_getElem h, List.map_append]; simp [h]

set_option maxHeartbeats 3200000 in
theorem implAttrText_any (v : Value) (a : AttrD) (w : World) (h : AttrAt w v a) (hn : okA a) (hT : Tab w) :
    Calls Tryz.prog 19 #[v] w fun e w' => e = .returned (.string (attrText a)) ∧ Below w.heap.size w w' := by
  have mixed : Tryz.prog.follows .mixedOrders = true := by kernel_rfl
  obtain ⟨i0, hi, hz0, hz1, hz2⟩ := info_parts strInfo
  have HH : Hid (AttrAt w v a) := h
  obtain ⟨vc, vv, rfl, hc, hv⟩ := h
  obtain ⟨oc, cc, rfl, hcc, hcr⟩ := id hc
  obtain ⟨ov, cv, rfl, -, -⟩ := id hv
  have HCR : Hid (0 < a.cuts.length → ∃ g o, oc = some ⟨g, o, none⟩ ∧ g < w.heap.size ∧ ∀ j, j < a.cuts.length → w.cell? ⟨g, o + j, none⟩ = some (.int .i64 (a.cuts.getD j 0))) := hcr
  have HV : Hid (RowS w (.slice ov a.vals.length cv) a.vals) := hv
  have HT : Hid (Tab w) := hT
  clear hc hv hcr hT
  obtain ⟨K0, B0⟩ := blk_1 41 w #[.string a.name, .slice oc a.cuts.length cc, .slice ov a.vals.length cv]
  have c := implAttrOk_any _ a _ (HH.out.later B0) hn
  cases hw : attrOk a with
  | false =>
    have HF : Hid (attrText a = ⟨#[]⟩) := by unfold attrText; rw [hw]; rfl
    rw [hw] at c
    clear hw
    go_enter Tryz.func19, Tryz.ntmps19
    go_wp2_with fail
    refine c.mono ?_
    rintro e w1 ⟨rfl, hb1⟩
    clear c K0
    go_wp2
    go_ret
    exact ⟨by rw [HF.out]; rfl, B0.trans (hb1.mono B0.size)⟩
  | true =>
    have HW : Hid (attrOk a = true) := hw
    have hnm := (word_size (ok_name hw)).2
    rw [hw] at c
    clear hw hn
    go_enter Tryz.func19, Tryz.ntmps19
    go_wp2_with fail
    refine c.mono ?_
    rintro e w1 ⟨rfl, hb1⟩
    clear c
    have B1 := B0.trans (hb1.mono B0.size)
    replace K0 := K0.below hb1
    have k0 : w1.cell? ⟨w.heap.size, 0, none⟩ = some (.string a.name) := K0.cell 0
    have k1 : w1.cell? ⟨w.heap.size, 1, none⟩ = some (.slice oc a.cuts.length cc) := K0.cell 1
    have k2 : w1.cell? ⟨w.heap.size, 2, none⟩ = some (.slice ov a.vals.length cv) := K0.cell 2
    have c2 := nominal_any _ a w1 (HH.out.later B1)
    clear hb1 B0
    by_cases h0 : 0 < a.vals.length
    · rw [decide_eq_true h0] at c2
      obtain ⟨-, l2, l4, hwo⟩ := ok_vals HW.out (by omega)
      have hjs : (joinT a.vals ⟨#[44]⟩).size ≤ 36 := by
        have h1 := joinT_size a.vals ⟨#[44]⟩ 8 fun s hs => (word_size (words_all hwo s hs)).2
        have h2 : (⟨#[44]⟩ : ByteArray).size = 1 := rfl
        rw [h2] at h1; omega
      have HF : Hid (attrText a = a.name ++ ⟨#[61]⟩ ++ joinT a.vals ⟨#[44]⟩) := by
        unfold attrText; rw [if_pos HW.out, if_neg (by omega)]; rfl
      go_wp2_with fail
      refine c2.mono ?_
      rintro e w2 ⟨rfl, hb2⟩
      clear c2 k0 k1 k2
      have B2 := B1.trans (hb2.mono B1.size)
      replace K0 := K0.below hb2
      have k0 : w2.cell? ⟨w.heap.size, 0, none⟩ = some (.string a.name) := K0.cell 0
      have k2 : w2.cell? ⟨w.heap.size, 2, none⟩ = some (.slice ov a.vals.length cv) := K0.cell 2
      have cJ := fun d os => Calls.regrown_of (implJoin_any (.slice ov a.vals.length cv) a.vals ⟨#[44]⟩ (Go.Sort.grow (redrawn w2 d) os) ((HV.out.later B2).later (below_regrown w2 d os)) (by omega) (by omega))
      have d0 := fun d os => cell_regrown k0 d os
      have d2 := fun d os => cell_regrown k2 d os
      have hbR := fun d os => B2.trans ((below_regrown w2 d os).mono B2.size)
      have HBR : Hid (∀ d os, Below w.heap.size w (Go.Sort.grow (redrawn w2 d) os)) := hbR
      clear hbR hb2 B1 B2 K0 k0 k2
      generalize joinT a.vals ⟨#[44]⟩ = J at cJ hjs HF
      generalize a.name = nm at d0 hnm HF
      go_wp2
      refine wp_region_quiet_below mixed (by kernel_rfl) ?_
      repeat (go_big_quiet_step (exact cJ _ _))
      refine wpQuiet_nil ?_
      intro _ hw'
      obtain ⟨⟨dq, osq⟩, hw''⟩ := hw'
      subst hw''
      go_wp2
      go_ret
      exact ⟨by rw [HF.out]; rfl, HBR.out _ _⟩
    · rw [decide_eq_false h0] at c2
      obtain ⟨l1, l3, hri⟩ := ok_cuts HW.out (by omega)
      have HRI : Hid (∀ k, k < a.cuts.length → -9999 ≤ a.cuts.getD k 0 ∧ a.cuts.getD k 0 ≤ 9998) := fun k hk => rise_all hri hk
      have hjs : (joinT (a.cuts.map itB) ⟨#[44]⟩).size ≤ 36 := by
        have h1 := joinT_size (a.cuts.map itB) ⟨#[44]⟩ 5 fun s hs => by
          obtain ⟨c, hc, rfl⟩ := List.mem_map.1 hs
          obtain ⟨j, hj, rfl⟩ := List.mem_iff_getElem.1 hc
          have := HRI.out j hj
          simp [hj] at this
          exact itB_size (by omega) (by omega)
        have h2 : (⟨#[44]⟩ : ByteArray).size = 1 := rfl
        rw [h2, List.length_map] at h1; omega
      have HF : Hid (attrText a = a.name ++ ⟨#[58]⟩ ++ joinT (a.cuts.map itB) ⟨#[44]⟩) := by
        unfold attrText; rw [if_pos HW.out, if_pos (by omega)]; rfl
      obtain ⟨g, o, rfl, hg, hj⟩ := HCR.out (by omega)
      have HJ : Hid (∀ j, j < a.cuts.length → w.cell? ⟨g, o + j, none⟩ = some (.int .i64 (a.cuts.getD j 0))) := hj
      have h0' : ¬ 0 < a.vals.length := h0
      clear hj HCR hri
      go_wp2_with fail
      refine c2.mono ?_
      rintro e w2 ⟨rfl, hb2⟩
      clear c2 k0 k1 k2
      have B2 := B1.trans (hb2.mono B1.size)
      replace K0 := K0.below hb2
      have k1 : w2.cell? ⟨w.heap.size, 1, none⟩ = some (.slice (some ⟨g, o, none⟩) a.cuts.length cc) := K0.cell 1
      have HK : Hid (Blk 41 w2 w.heap.size #[.string a.name, .slice (some ⟨g, o, none⟩) a.cuts.length cc, .slice ov a.vals.length cv]) := K0
      have hsz2 : w.heap.size < w2.heap.size := K0.lt
      have HB2 : Hid (Below w.heap.size w w2) := B2
      clear hb2 B1 K0 B2
      go_wp2
      go_loopw [3, 21] (fun v i wr => ∃ k : Nat, i = .int .i64 k ∧ k ≤ a.cuts.length ∧ wr.ownsRow w2.heap.size 9 1 v k (((a.cuts.take k).map itB).map Value.string) ∧ Below w2.heap.size w2 wr) (fun _ i _ => a.cuts.length - (intOf i).toNat)
      case atStart => exact ⟨0, rfl, by omega, ⟨by simp, .inl ⟨rfl, rfl⟩⟩, Below.refl _ _⟩
      case round =>
        obtain ⟨k, rfl, hk, hown, hbr⟩ := hrel
        have hbw := HB2.out.trans (hbr.mono HB2.out.size)
        by_cases hlt : k < a.cuts.length
        · have hcell : wr.cell? ⟨g, o + k, none⟩ = some (.int .i64 (a.cuts.getD k 0)) := (hbw.cell (p := ⟨g, o + k, none⟩) hg).trans (HJ.out k hlt)
          have HTK : Hid ((a.cuts.take (k + 1)).map itB = (a.cuts.take k).map itB ++ [itB (a.cuts.getD k 0)]) := itB_take hlt
          obtain ⟨x0, x1⟩ := HRI.out k hlt
          generalize a.cuts.getD k 0 = x at hcell HTK x0 x1
          have cD := iDigits_any x wr (by omega) (by omega) (HT.out.later hbw)
          have HBW : Hid (Below w2.heap.size w2 wr) := hbr
          have HOW := hown
          clear hbw hbr
          go_wp2_with fail
          refine cD.mono ?_
          rintro e w3 ⟨rfl, hb3⟩
          clear cD hcell
          have hbr3 := HBW.out.trans (hb3.mono HBW.out.size)
          have hown3 := own_below hown hb3
          have hsz3 := hbr3.size
          have HB3 : Hid (Below w2.heap.size w2 w3) := hbr3
          clear hown HOW hb3 hbr3
          generalize itB x = t at HTK
          go_wp2_with (at_builtin; refine wpList_append_own _ rfl _ _ 25 rfl w2.heap.size 9 i0 (.string ⟨#[]⟩) 1 16 Tryz.underlying25 hi hz0 hz1 hz2 rfl (by decide) _ _ _ rfl (hown3.alloc _) ⟨w3.heap.size, 0, none⟩ 1 1 [_] rfl rfl (newc _ _ _) ?d2 ?d3 ?d4 ?d5 ?_)
          case d2 => intro u hu; simp at hu; subst hu; rfl
          case d3 => unfold maxLen; omega
          case d4 => omega
          case d5 => simp; omega
          intro v' w4 hown' hgrow _
          have R : w4.ownsRow w2.heap.size 9 1 v' (k + 1) (((a.cuts.take (k + 1)).map itB).map Value.string) := by rw [HTK.out]; simpa using hown'
          have BB : Below w2.heap.size w2 w4 := (HB3.out.alloc hsz3 _).grown hgrow (by simp; omega) fun j hj => (hown3.lt j hj).1
          clear hown' hgrow hown3
          go_wp2
          go_roundw
          case rel => exact ⟨k + 1, by go_num, by omega, R, BB⟩
          case measure => simp [intOf]; omega
        · obtain rfl : k = a.cuts.length := by omega
          rw [List.take_length] at hown
          have hrow := RowS.of_own hown (by simp)
          obtain ⟨oo, co, hv', -, -⟩ := id hrow
          rw [List.length_map] at hv'
          subst hv'
          have K0 := HK.out.below hbr
          have k0 : wr.cell? ⟨w.heap.size, 0, none⟩ = some (.string a.name) := K0.cell 0
          have cJ := fun d os => Calls.regrown_of (implJoin_any (.slice oo a.cuts.length co) (a.cuts.map itB) ⟨#[44]⟩ (Go.Sort.grow (redrawn wr d) os) (hrow.later (below_regrown wr d os)) (by simp; omega) (by omega))
          have d0 := fun d os => cell_regrown k0 d os
          have hbR := fun d os => hbw.trans ((below_regrown wr d os).mono hbw.size)
          have HBR : Hid (∀ d os, Below w.heap.size w (Go.Sort.grow (redrawn wr d) os)) := hbR
          clear hbR hbr hbw K0 k0 hown hrow
          generalize joinT (a.cuts.map itB) ⟨#[44]⟩ = J at cJ hjs HF
          generalize a.name = nm at d0 hnm HF
          go_wp2
          refine wp_region_quiet_below mixed (by kernel_rfl) ?_
          repeat (go_big_quiet_step (exact cJ _ _))
          refine wpQuiet_nil ?_
          intro _ hw'
          obtain ⟨⟨dq, osq⟩, hw''⟩ := hw'
          subst hw''
          go_wp2
          go_ret
          exact ⟨by rw [HF.out]; rfl, HBR.out _ _⟩
end Go.Proofs.YtndnplpmkkdieaaGreatDoor
/- The text of a schema, by the program. -/
namespace Go.Proofs.YtndnplpmkkdieaaGreatDoor
open Go.RowKit
set_option maxRecDepth 100000

set_option maxHeartbeats 3200000 in
theorem implSchemaText_any (v : Value) (s : SchemaD) (w : World) (h : SchemaAt w v s) (hn : okSch s) (hT : Tab w) :
    Calls Tryz.prog 8 #[v] w fun e w' => e = .returned (.string (schemaText s)) ∧ Below w.heap.size w w' := by
  have mixed : Tryz.prog.follows .mixedOrders = true := by kernel_rfl
  obtain ⟨i0, hi, hz0, hz1, hz2⟩ := info_parts strInfo
  have HH : Hid (SchemaAt w v s) := h
  obtain ⟨va, vc, rfl, ha, hc⟩ := h
  obtain ⟨oa, ca, rfl, hca, har⟩ := id ha
  obtain ⟨oc, cc, rfl, -, -⟩ := id hc
  have HAR : Hid (0 < s.attrs.length → ∃ g o, oa = some ⟨g, o, none⟩ ∧ g < w.heap.size ∧ ∀ j, j < s.attrs.length → CellsA w g (o + j * 3) (ad s.attrs j)) := har
  have HCR : Hid (RowS w (.slice oc s.classes.length cc) s.classes) := hc
  have HO : Hid (okSch s) := hn
  have HT : Hid (Tab w) := hT
  clear hT
  clear ha hc har
  obtain ⟨K0, B0⟩ := blk_1 27 w #[.slice oa s.attrs.length ca, .slice oc s.classes.length cc]
  have c := implSchemaOk_any _ s _ (HH.out.later B0) hn
  cases hw : schemaOk s with
  | false =>
    have HF : Hid (schemaText s = ⟨#[]⟩) := by unfold schemaText; rw [hw]; rfl
    rw [hw] at c
    clear hw
    go_enter Tryz.func8, Tryz.ntmps8
    go_wp2_with fail
    refine c.mono ?_
    rintro e w1 ⟨rfl, hb1⟩
    clear c K0
    go_wp2
    go_ret
    exact ⟨by rw [HF.out]; rfl, B0.trans (hb1.mono B0.size)⟩
  | true =>
    have HF : Hid (schemaText s = joinT (s.attrs.map attrText) ⟨#[59]⟩ ++ ⟨#[124]⟩ ++ joinT s.classes ⟨#[44]⟩) := by unfold schemaText; rw [if_pos hw]; rfl
    obtain ⟨hj1, hj2⟩ := sch_bounds hw
    obtain ⟨⟨l1, l5⟩, ⟨m2, m3⟩, -, -⟩ := sch_parts hw
    rw [hw] at c
    clear hw hn
    obtain ⟨g, o, rfl, hg, hj⟩ := HAR.out (by omega)
    have HJ : Hid (∀ j, j < s.attrs.length → CellsA w g (o + j * 3) (ad s.attrs j)) := hj
    clear hj HAR
    go_enter Tryz.func8, Tryz.ntmps8
    go_wp2_with fail
    refine c.mono ?_
    rintro e w1 ⟨rfl, hb1⟩
    clear c
    have B1 := B0.trans (hb1.mono B0.size)
    replace K0 := K0.below hb1
    have k0 : w1.cell? ⟨w.heap.size, 0, none⟩ = some (.slice (some ⟨g, o, none⟩) s.attrs.length ca) := K0.cell 0
    have HK : Hid (Blk 27 w1 w.heap.size #[.slice (some ⟨g, o, none⟩) s.attrs.length ca, .slice oc s.classes.length cc]) := K0
    have hsz1 : w.heap.size < w1.heap.size := K0.lt
    have HB1 : Hid (Below w.heap.size w w1) := B1
    clear hb1 B0 K0 B1
    go_wp2
    go_loopw [3, 12] (fun v i wr => ∃ k : Nat, i = .int .i64 k ∧ k ≤ s.attrs.length ∧ wr.ownsRow w1.heap.size 9 1 v k (((s.attrs.take k).map attrText).map Value.string) ∧ Below w1.heap.size w1 wr) (fun _ i _ => s.attrs.length - (intOf i).toNat)
    case atStart => exact ⟨0, rfl, by omega, ⟨by simp, .inl ⟨rfl, rfl⟩⟩, Below.refl _ _⟩
    case round =>
      obtain ⟨k, rfl, hk, hown, hbr⟩ := hrel
      have hbw := HB1.out.trans (hbr.mono HB1.out.size)
      have k0 : wr.cell? ⟨w.heap.size, 0, none⟩ = some (.slice (some ⟨g, o, none⟩) s.attrs.length ca) := (HK.out.below hbr).cell 0
      by_cases hlt : k < s.attrs.length
      · obtain ⟨xc, xv, q0, q1, q2, r1, r2⟩ := (HJ.out k hlt).later hbw hg
        obtain ⟨o1, c1, rfl, -, -⟩ := id r1
        obtain ⟨o2, c2, rfl, -, -⟩ := id r2
        have HTK : Hid ((s.attrs.take (k + 1)).map attrText = (s.attrs.take k).map attrText ++ [attrText (ad s.attrs k)]) := at_take hlt
        have hok := HO.out.each _ (ad_mem hlt)
        obtain ⟨KA, BA⟩ := blk_1 41 wr #[.string (ad s.attrs k).name, .slice o1 (ad s.attrs k).cuts.length c1, .slice o2 (ad s.attrs k).vals.length c2]
        have hx : AttrAt (wr.alloc (.cells #[.string (ad s.attrs k).name, .slice o1 (ad s.attrs k).cuts.length c1, .slice o2 (ad s.attrs k).vals.length c2] 41)) (.agg #[.string (ad s.attrs k).name, .slice o1 (ad s.attrs k).cuts.length c1, .slice o2 (ad s.attrs k).vals.length c2]) (ad s.attrs k) := ⟨_, _, rfl, r1.later BA, r2.later BA⟩
        have hbA := hbw.trans (BA.mono hbw.size)
        have cT := implAttrText_any _ (ad s.attrs k) _ hx hok (HT.out.later hbA)
        have hbrA := hbr.trans (BA.mono hbr.size)
        have hownA := own_below hown BA
        clear KA BA hbA
        clear r1 r2 hok hbr hown hbw
        go_wp2_with fail
        refine cT.mono ?_
        rintro e w3 ⟨rfl, hb3⟩
        clear cT q0 q1 q2 k0
        have hbr3 := hbrA.trans (hb3.mono hbrA.size)
        have hown3 := own_below hownA hb3
        have hsz3 := hbr3.size
        have HB3 : Hid (Below w1.heap.size w1 w3) := hbr3
        clear hownA hbrA hb3 hbr3
        generalize attrText (ad s.attrs k) = t at HTK
        go_wp2_with (at_builtin; refine wpList_append_own _ rfl _ _ 25 rfl w1.heap.size 9 i0 (.string ⟨#[]⟩) 1 16 Tryz.underlying25 hi hz0 hz1 hz2 rfl (by decide) _ _ _ rfl (hown3.alloc _) ⟨w3.heap.size, 0, none⟩ 1 1 [_] rfl rfl (newc _ _ _) ?d2 ?d3 ?d4 ?d5 ?_)
        case d2 => intro u hu; simp at hu; subst hu; rfl
        case d3 => unfold maxLen; omega
        case d4 => omega
        case d5 => simp; omega
        intro v' w4 hown' hgrow _
        have R : w4.ownsRow w1.heap.size 9 1 v' (k + 1) (((s.attrs.take (k + 1)).map attrText).map Value.string) := by rw [HTK.out]; simpa using hown'
        have BB : Below w1.heap.size w1 w4 := (HB3.out.alloc hsz3 _).grown hgrow (by simp; omega) fun j hj => (hown3.lt j hj).1
        clear hown' hgrow hown3
        go_wp2
        go_roundw
        case rel => exact ⟨k + 1, by go_num, by omega, R, BB⟩
        case measure => simp [intOf]; omega
      · obtain rfl : k = s.attrs.length := by omega
        rw [List.take_length] at hown
        have hrow := RowS.of_own hown (by simp)
        obtain ⟨oo, co, hv', -, -⟩ := id hrow
        rw [List.length_map] at hv'
        subst hv'
        have k1 : wr.cell? ⟨w.heap.size, 1, none⟩ = some (.slice oc s.classes.length cc) := (HK.out.below hbr).cell 1
        have cJ := fun d os => Calls.regrown_of (implJoin_any (.slice oo s.attrs.length co) (s.attrs.map attrText) ⟨#[59]⟩ (Go.Sort.grow (redrawn wr d) os) (hrow.later (below_regrown wr d os)) (by simp; omega) (by omega))
        have cC := fun d os => Calls.regrown_of (implJoin_any (.slice oc s.classes.length cc) s.classes ⟨#[44]⟩ (Go.Sort.grow (redrawn wr d) os) ((HCR.out.later hbw).later (below_regrown wr d os)) (by omega) (by omega))
        have d1 := fun d os => cell_regrown k1 d os
        have hbR := fun d os => hbw.trans ((below_regrown wr d os).mono hbw.size)
        have HBR : Hid (∀ d os, Below w.heap.size w (Go.Sort.grow (redrawn wr d) os)) := hbR
        clear hbR hbr hbw hown hrow
        generalize joinT (s.attrs.map attrText) ⟨#[59]⟩ = J at cJ hj1 HF
        generalize joinT s.classes ⟨#[44]⟩ = J2 at cC hj2 HF
        go_wp2
        refine wp_region_quiet_below mixed (by kernel_rfl) ?_
        repeat (go_big_quiet_step (first | with_reducible exact cJ _ _ | with_reducible exact cC _ _))
        refine wpQuiet_nil ?_
        intro _ hw'
        obtain ⟨⟨dq, osq⟩, hw''⟩ := hw'
        subst hw''
        go_wp2
        go_ret
        exact ⟨by rw [HF.out]; rfl, HBR.out _ _⟩
end Go.Proofs.YtndnplpmkkdieaaGreatDoor
/- Two lists, two attributes, two schemas held against each other, by the program and by the specification. -/
namespace Go.Proofs.YtndnplpmkkdieaaGreatDoor
open Go.RowKit
set_option maxRecDepth 100000

theorem same_len {α : Type} [DecidableEq α] {a b : List α} (h : a.length ≠ b.length) : decide (a = b) = false := decide_eq_false fun e => h (by rw [e])
theorem sameI_yes {a b : List Int} (hl : a.length = b.length) (h : ∀ j, j < a.length → a.getD j 0 = b.getD j 0) : decide (a = b) = true := by
  apply decide_eq_true
  apply List.ext_getElem hl
  intro i h1 h2
  have := h i h1
  simpa [h1, h2] using this
theorem sameI_no {a b : List Int} {k : Nat} (h : a.getD k 0 ≠ b.getD k 0) : decide (a = b) = false := decide_eq_false fun e => h (by rw [e])
theorem sameS_yes {a b : List ByteArray} (hl : a.length = b.length) (h : ∀ j, j < a.length → tx a j = tx b j) : decide (a = b) = true := by
  apply decide_eq_true
  apply List.ext_getElem hl
  intro i h1 h2
  have := h i h1
  rwa [tx_eq h1, tx_eq h2] at this
theorem sameS_no {a b : List ByteArray} {k : Nat} (h : tx a k ≠ tx b k) : decide (a = b) = false := decide_eq_false fun e => h (by rw [e])

set_option maxHeartbeats 800000 in
theorem specSameI_any (va vb : Value) (za zb : List Int) (w : World) (ha : RowI w va za) (hb : RowI w vb zb) (hna : za.length ≤ 1099511627776) :
    Calls Tryz.prog 25 #[va, vb] w fun e w' => e = .returned (.bool (decide (za = zb))) ∧ Below w.heap.size w w' := by
  obtain ⟨oa, ca, rfl, hca, hra⟩ := ha
  obtain ⟨ob, cb, rfl, hcb, hrb⟩ := hb
  have HA : Hid (0 < za.length → ∃ g o, oa = some ⟨g, o, none⟩ ∧ g < w.heap.size ∧ ∀ j, j < za.length → w.cell? ⟨g, o + j, none⟩ = some (.int .i64 (za.getD j 0))) := hra
  have HB : Hid (0 < zb.length → ∃ g o, ob = some ⟨g, o, none⟩ ∧ g < w.heap.size ∧ ∀ j, j < zb.length → w.cell? ⟨g, o + j, none⟩ = some (.int .i64 (zb.getD j 0))) := hrb
  clear hra hrb
  by_cases hl : za.length = zb.length
  rotate_left
  · have HF : Hid (decide (za = zb) = false) := same_len hl
    have hq : ((za.length : Int) == (zb.length : Int)) = false := by simp; omega
    go_enter Tryz.func25, Tryz.ntmps25
    go_wp2
    go_ret
    exact ⟨by rw [HF.out]; rfl, Below.refl _ _⟩
  have HL : Hid (za.length = zb.length) := hl
  obtain ⟨n, hn⟩ : ∃ n, n = za.length := ⟨_, rfl⟩
  have HNA : Hid (n = za.length) := hn
  have HNB : Hid (n = zb.length) := hn.trans hl
  rw [← hl, ← hn]
  rw [← hn] at hca hna
  clear hl hn hcb
  go_enter Tryz.func25, Tryz.ntmps25
  go_wp2
  go_loopw [5] (fun i wr => ∃ k q : Nat, i = .int .i64 k ∧ k ≤ n ∧ (∀ j, j < k → za.getD j 0 = zb.getD j 0) ∧ wr = w.drewN q) (fun i _ => n - (intOf i).toNat)
  case atStart => exact ⟨0, 0, rfl, by omega, by omega, rfl⟩
  case round =>
    obtain ⟨k, q, rfl, hk, hal, rfl⟩ := hrel
    have HK : Hid (∀ j, j < k → za.getD j 0 = zb.getD j 0) := hal
    clear hal
    by_cases hlt : k < n
    · obtain ⟨g, o, rfl, _, hj⟩ := HA.out (by have := HNA.out; omega)
      obtain ⟨g', o', rfl, _, hj'⟩ := HB.out (by have := HNB.out; omega)
      have ha' := hj k (by have := HNA.out; omega)
      have hb' := hj' k (by have := HNB.out; omega)
      clear hj hj' HA HB
      by_cases he : za.getD k 0 = zb.getD k 0
      · have HE : Hid (za.getD k 0 = zb.getD k 0) := he
        have hq : (za.getD k 0 == zb.getD k 0) = true := by rw [he]; simp
        clear he
        generalize za.getD k 0 = x at ha' hq
        generalize zb.getD k 0 = y at hb' hq
        go_wp2
        go_quiet (fail)
        all_goals go_wp2
        all_goals go_roundw
        case rel =>
          refine ⟨k + 1, _, by go_num, by omega, ?_, by first | rfl | (simp only [World.drewN_drewN]; rfl)⟩
          intro j hj
          by_cases e : j = k
          · subst e; exact HE.out
          · exact HK.out j (by omega)
        case measure => simp [intOf]; omega
      · have HF : Hid (decide (za = zb) = false) := sameI_no he
        have hq : (za.getD k 0 == zb.getD k 0) = false := by simpa using he
        clear he
        generalize za.getD k 0 = x at ha' hq
        generalize zb.getD k 0 = y at hb' hq
        go_wp2
        go_quiet (fail)
        all_goals go_wp2
        all_goals go_ret
        all_goals exact ⟨by rw [HF.out]; rfl, below_drewN (below_drewN (Below.refl _ _) _) _⟩
    · have HF : Hid (decide (za = zb) = true) := sameI_yes HL.out fun j hj => HK.out j (by have := HNA.out; omega)
      go_wp2
      go_ret
      exact ⟨by rw [HF.out]; rfl, below_drewN (Below.refl _ _) _⟩

set_option maxHeartbeats 800000 in
theorem specSameS_any (va vb : Value) (za zb : List ByteArray) (w : World) (ha : RowS w va za) (hb : RowS w vb zb) (hna : za.length ≤ 1099511627776) :
    Calls Tryz.prog 24 #[va, vb] w fun e w' => e = .returned (.bool (decide (za = zb))) ∧ Below w.heap.size w w' := by
  obtain ⟨oa, ca, rfl, hca, hra⟩ := ha
  obtain ⟨ob, cb, rfl, hcb, hrb⟩ := hb
  have HA : Hid (0 < za.length → ∃ g o, oa = some ⟨g, o, none⟩ ∧ g < w.heap.size ∧ ∀ j, j < za.length → w.cell? ⟨g, o + j, none⟩ = some (.string (tx za j))) := hra
  have HB : Hid (0 < zb.length → ∃ g o, ob = some ⟨g, o, none⟩ ∧ g < w.heap.size ∧ ∀ j, j < zb.length → w.cell? ⟨g, o + j, none⟩ = some (.string (tx zb j))) := hrb
  clear hra hrb
  by_cases hl : za.length = zb.length
  rotate_left
  · have HF : Hid (decide (za = zb) = false) := same_len hl
    have hq : ((za.length : Int) == (zb.length : Int)) = false := by simp; omega
    go_enter Tryz.func24, Tryz.ntmps24
    go_wp2
    go_ret
    exact ⟨by rw [HF.out]; rfl, Below.refl _ _⟩
  have HL : Hid (za.length = zb.length) := hl
  obtain ⟨n, hn⟩ : ∃ n, n = za.length := ⟨_, rfl⟩
  have HNA : Hid (n = za.length) := hn
  have HNB : Hid (n = zb.length) := hn.trans hl
  rw [← hl, ← hn]
  rw [← hn] at hca hna
  clear hl hn hcb
  go_enter Tryz.func24, Tryz.ntmps24
  go_wp2
  go_loopw [5] (fun i wr => ∃ k q : Nat, i = .int .i64 k ∧ k ≤ n ∧ (∀ j, j < k → tx za j = tx zb j) ∧ wr = w.drewN q) (fun i _ => n - (intOf i).toNat)
  case atStart => exact ⟨0, 0, rfl, by omega, by omega, rfl⟩
  case round =>
    obtain ⟨k, q, rfl, hk, hal, rfl⟩ := hrel
    have HK : Hid (∀ j, j < k → tx za j = tx zb j) := hal
    clear hal
    by_cases hlt : k < n
    · obtain ⟨g, o, rfl, _, hj⟩ := HA.out (by have := HNA.out; omega)
      obtain ⟨g', o', rfl, _, hj'⟩ := HB.out (by have := HNB.out; omega)
      have ha' := hj k (by have := HNA.out; omega)
      have hb' := hj' k (by have := HNB.out; omega)
      clear hj hj' HA HB
      by_cases he : tx za k = tx zb k
      · have HE : Hid (tx za k = tx zb k) := he
        have hq : ((tx za k).toList == (tx zb k).toList) = true := by rw [he]; simp
        clear he
        generalize tx za k = x at ha' hq
        generalize tx zb k = y at hb' hq
        go_wp2
        go_quiet (fail)
        all_goals go_wp2
        all_goals go_roundw
        case rel =>
          refine ⟨k + 1, _, by go_num, by omega, ?_, by first | rfl | (simp only [World.drewN_drewN]; rfl)⟩
          intro j hj
          by_cases e : j = k
          · subst e; exact HE.out
          · exact HK.out j (by omega)
        case measure => simp [intOf]; omega
      · have HF : Hid (decide (za = zb) = false) := sameS_no he
        have hq : ((tx za k).toList == (tx zb k).toList) = false := by
          rw [beq_eq_false_iff_ne]; exact fun h => he (bytes_eq_iff.1 h)
        clear he
        generalize tx za k = x at ha' hq
        generalize tx zb k = y at hb' hq
        go_wp2
        go_quiet (fail)
        all_goals go_wp2
        all_goals go_ret
        all_goals exact ⟨by rw [HF.out]; rfl, below_drewN (below_drewN (Below.refl _ _) _) _⟩
    · have HF : Hid (decide (za = zb) = true) := sameS_yes HL.out fun j hj => HK.out j (by have := HNA.out; omega)
      go_wp2
      go_ret
      exact ⟨by rw [HF.out]; rfl, below_drewN (Below.refl _ _) _⟩

set_option maxHeartbeats 800000 in
theorem libSameI_any (va vb : Value) (za zb : List Int) (w : World) (ha : RowI w va za) (hb : RowI w vb zb) (hna : za.length ≤ 1099511627776) :
    Calls Tryz.prog 48 #[va, vb] w fun e w' => e = .returned (.bool (decide (za = zb))) ∧ Below w.heap.size w w' := by
  obtain ⟨oa, ca, rfl, hca, hra⟩ := ha
  obtain ⟨ob, cb, rfl, hcb, hrb⟩ := hb
  have HA : Hid (0 < za.length → ∃ g o, oa = some ⟨g, o, none⟩ ∧ g < w.heap.size ∧ ∀ j, j < za.length → w.cell? ⟨g, o + j, none⟩ = some (.int .i64 (za.getD j 0))) := hra
  have HB : Hid (0 < zb.length → ∃ g o, ob = some ⟨g, o, none⟩ ∧ g < w.heap.size ∧ ∀ j, j < zb.length → w.cell? ⟨g, o + j, none⟩ = some (.int .i64 (zb.getD j 0))) := hrb
  clear hra hrb
  by_cases hl : za.length = zb.length
  rotate_left
  · have HF : Hid (decide (za = zb) = false) := same_len hl
    have hq : ((za.length : Int) == (zb.length : Int)) = false := by simp; omega
    go_enter Tryz.func48, Tryz.ntmps48
    go_wp2
    go_ret
    exact ⟨by rw [HF.out]; rfl, Below.refl _ _⟩
  have HL : Hid (za.length = zb.length) := hl
  obtain ⟨n, hn⟩ : ∃ n, n = za.length := ⟨_, rfl⟩
  have HNA : Hid (n = za.length) := hn
  have HNB : Hid (n = zb.length) := hn.trans hl
  rw [← hl, ← hn]
  rw [← hn] at hca hna
  clear hl hn hcb
  go_enter Tryz.func48, Tryz.ntmps48
  go_wp2
  go_loopw [13] (fun i wr => ∃ k q : Nat, i = .int .i64 k ∧ k ≤ n ∧ (∀ j, j < k → za.getD j 0 = zb.getD j 0) ∧ wr = w.drewN q) (fun i _ => n - (intOf i).toNat)
  case atStart => exact ⟨0, 0, rfl, by omega, by omega, rfl⟩
  case round =>
    obtain ⟨k, q, rfl, hk, hal, rfl⟩ := hrel
    have HK : Hid (∀ j, j < k → za.getD j 0 = zb.getD j 0) := hal
    clear hal
    by_cases hlt : k < n
    · obtain ⟨g, o, rfl, _, hj⟩ := HA.out (by have := HNA.out; omega)
      obtain ⟨g', o', rfl, _, hj'⟩ := HB.out (by have := HNB.out; omega)
      have ha' := hj k (by have := HNA.out; omega)
      have hb' := hj' k (by have := HNB.out; omega)
      clear hj hj' HA HB
      by_cases he : za.getD k 0 = zb.getD k 0
      · have HE : Hid (za.getD k 0 = zb.getD k 0) := he
        have hq : (za.getD k 0 == zb.getD k 0) = true := by rw [he]; simp
        clear he
        generalize za.getD k 0 = x at ha' hq
        generalize zb.getD k 0 = y at hb' hq
        go_wp2
        go_quiet (fail)
        all_goals go_wp2
        all_goals go_roundw
        case rel =>
          refine ⟨k + 1, _, by go_num, by omega, ?_, by first | rfl | (simp only [World.drewN_drewN]; rfl)⟩
          intro j hj
          by_cases e : j = k
          · subst e; exact HE.out
          · exact HK.out j (by omega)
        case measure => simp [intOf]; omega
      · have HF : Hid (decide (za = zb) = false) := sameI_no he
        have hq : (za.getD k 0 == zb.getD k 0) = false := by simpa using he
        clear he
        generalize za.getD k 0 = x at ha' hq
        generalize zb.getD k 0 = y at hb' hq
        go_wp2
        go_quiet (fail)
        all_goals go_wp2
        all_goals go_ret
        all_goals exact ⟨by rw [HF.out]; rfl, below_drewN (below_drewN (Below.refl _ _) _) _⟩
    · have HF : Hid (decide (za = zb) = true) := sameI_yes HL.out fun j hj => HK.out j (by have := HNA.out; omega)
      go_wp2
      go_ret
      exact ⟨by rw [HF.out]; rfl, below_drewN (Below.refl _ _) _⟩

set_option maxHeartbeats 800000 in
theorem libSameS_any (va vb : Value) (za zb : List ByteArray) (w : World) (ha : RowS w va za) (hb : RowS w vb zb) (hna : za.length ≤ 1099511627776) :
    Calls Tryz.prog 28 #[va, vb] w fun e w' => e = .returned (.bool (decide (za = zb))) ∧ Below w.heap.size w w' := by
  obtain ⟨oa, ca, rfl, hca, hra⟩ := ha
  obtain ⟨ob, cb, rfl, hcb, hrb⟩ := hb
  have HA : Hid (0 < za.length → ∃ g o, oa = some ⟨g, o, none⟩ ∧ g < w.heap.size ∧ ∀ j, j < za.length → w.cell? ⟨g, o + j, none⟩ = some (.string (tx za j))) := hra
  have HB : Hid (0 < zb.length → ∃ g o, ob = some ⟨g, o, none⟩ ∧ g < w.heap.size ∧ ∀ j, j < zb.length → w.cell? ⟨g, o + j, none⟩ = some (.string (tx zb j))) := hrb
  clear hra hrb
  by_cases hl : za.length = zb.length
  rotate_left
  · have HF : Hid (decide (za = zb) = false) := same_len hl
    have hq : ((za.length : Int) == (zb.length : Int)) = false := by simp; omega
    go_enter Tryz.func28, Tryz.ntmps28
    go_wp2
    go_ret
    exact ⟨by rw [HF.out]; rfl, Below.refl _ _⟩
  have HL : Hid (za.length = zb.length) := hl
  obtain ⟨n, hn⟩ : ∃ n, n = za.length := ⟨_, rfl⟩
  have HNA : Hid (n = za.length) := hn
  have HNB : Hid (n = zb.length) := hn.trans hl
  rw [← hl, ← hn]
  rw [← hn] at hca hna
  clear hl hn hcb
  go_enter Tryz.func28, Tryz.ntmps28
  go_wp2
  go_loopw [13] (fun i wr => ∃ k q : Nat, i = .int .i64 k ∧ k ≤ n ∧ (∀ j, j < k → tx za j = tx zb j) ∧ wr = w.drewN q) (fun i _ => n - (intOf i).toNat)
  case atStart => exact ⟨0, 0, rfl, by omega, by omega, rfl⟩
  case round =>
    obtain ⟨k, q, rfl, hk, hal, rfl⟩ := hrel
    have HK : Hid (∀ j, j < k → tx za j = tx zb j) := hal
    clear hal
    by_cases hlt : k < n
    · obtain ⟨g, o, rfl, _, hj⟩ := HA.out (by have := HNA.out; omega)
      obtain ⟨g', o', rfl, _, hj'⟩ := HB.out (by have := HNB.out; omega)
      have ha' := hj k (by have := HNA.out; omega)
      have hb' := hj' k (by have := HNB.out; omega)
      clear hj hj' HA HB
      by_cases he : tx za k = tx zb k
      · have HE : Hid (tx za k = tx zb k) := he
        have hq : ((tx za k).toList == (tx zb k).toList) = true := by rw [he]; simp
        clear he
        generalize tx za k = x at ha' hq
        generalize tx zb k = y at hb' hq
        go_wp2
        go_quiet (fail)
        all_goals go_wp2
        all_goals go_roundw
        case rel =>
          refine ⟨k + 1, _, by go_num, by omega, ?_, by first | rfl | (simp only [World.drewN_drewN]; rfl)⟩
          intro j hj
          by_cases e : j = k
          · subst e; exact HE.out
          · exact HK.out j (by omega)
        case measure => simp [intOf]; omega
      · have HF : Hid (decide (za = zb) = false) := sameS_no he
        have hq : ((tx za k).toList == (tx zb k).toList) = false := by
          rw [beq_eq_false_iff_ne]; exact fun h => he (bytes_eq_iff.1 h)
        clear he
        generalize tx za k = x at ha' hq
        generalize tx zb k = y at hb' hq
        go_wp2
        go_quiet (fail)
        all_goals go_wp2
        all_goals go_ret
        all_goals exact ⟨by rw [HF.out]; rfl, below_drewN (below_drewN (Below.refl _ _) _) _⟩
    · have HF : Hid (decide (za = zb) = true) := sameS_yes HL.out fun j hj => HK.out j (by have := HNA.out; omega)
      go_wp2
      go_ret
      exact ⟨by rw [HF.out]; rfl, below_drewN (Below.refl _ _) _⟩
end Go.Proofs.YtndnplpmkkdieaaGreatDoor
