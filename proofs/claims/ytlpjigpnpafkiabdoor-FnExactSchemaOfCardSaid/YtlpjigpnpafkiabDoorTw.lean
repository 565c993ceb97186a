/- The text of an attribute, by the specification. -/
import Derived.Test.YtlpjigpnpafkiabDoorJn
import Derived.Test.YtlpjigpnpafkiabDoorVb
import Derived.Test.YtlpjigpnpafkiabDoorVs
import Derived.Test.YtlpjigpnpafkiabDoorDg
import Derived.Lib.QuietBelow
import Derived.BigQuiet
namespace Go.Proofs.YtlpjigpnpafkiabDoor
open Go.RowKit
set_option maxRecDepth 100000

theorem sDigits_any (n : Int) (w : World) (h0 : -9223372036854775808 ≤ n) (h1 : n ≤ 9223372036854775807) :
    Calls Tryd.prog 29 #[.int .i64 n] w fun e w' => e = .returned (.string (itB n)) ∧ Below w.heap.size w w' := digits_any n w h0 h1
theorem itB_takeS {cs : List Int} {k : Nat} (h : k < cs.length) : (cs.take (k + 1)).map itB = (cs.take k).map itB ++ [itB (cs.getD k 0)] := by
  rw [List.take_succ_eq_append_getElem h, List.map_append]; simp [h]

set_option maxHeartbeats 3200000 in
theorem specAttrText_any (v : Value) (a : AttrD) (w : World) (h : AttrAt w v a) (hn : okA a) :
    Calls Tryd.prog 8 #[v] w fun e w' => e = .returned (.string (attrText a)) ∧ Below w.heap.size w w' := by
  have mixed : Tryd.prog.follows .mixedOrders = true := by kernel_rfl
  obtain ⟨i0, hi, hz0, hz1, hz2⟩ := info_parts strInfo
  have HH : Hid (AttrAt w v a) := h
  obtain ⟨vc, vv, rfl, hc, hv⟩ := h
  obtain ⟨oc, cc, rfl, hcc, hcr⟩ := id hc
  obtain ⟨ov, cv, rfl, -, -⟩ := id hv
  have HCR : Hid (0 < a.cuts.length → ∃ g o, oc = some ⟨g, o, none⟩ ∧ g < w.heap.size ∧ ∀ j, j < a.cuts.length → w.cell? ⟨g, o + j, none⟩ = some (.int .i64 (a.cuts.getD j 0))) := hcr
  have HV : Hid (RowS w (.slice ov a.vals.length cv) a.vals) := hv
  clear hc hv hcr
  obtain ⟨K0, B0⟩ := blk_1 28 w #[.string a.name, .slice oc a.cuts.length cc, .slice ov a.vals.length cv]
  have c := specAttrOk_any _ a _ (HH.out.later B0) hn
  cases hw : attrOk a with
  | false =>
    have HF : Hid (attrText a = ⟨#[]⟩) := by unfold attrText; rw [hw]; rfl
    rw [hw] at c
    clear hw
    go_enter Tryd.func8, Tryd.ntmps8
    go_wp2_with fail
    refine c.mono ?_
    rintro e w1 ⟨rfl, hb1⟩
    clear c K0
    go_wp2
    go_ret
    exact ⟨by rw [HF.out]; rfl, B0.trans (hb1.mono B0.size)⟩
  | true =>
    have HW : Hid (attrOk a = true) := hw
    have hnm := (word_size (ok_name hw)).2
    rw [hw] at c
    clear hw hn
    go_enter Tryd.func8, Tryd.ntmps8
    go_wp2_with fail
    refine c.mono ?_
    rintro e w1 ⟨rfl, hb1⟩
    clear c
    have B1 := B0.trans (hb1.mono B0.size)
    replace K0 := K0.below hb1
    have k0 : w1.cell? ⟨w.heap.size, 0, none⟩ = some (.string a.name) := K0.cell 0
    have k1 : w1.cell? ⟨w.heap.size, 1, none⟩ = some (.slice oc a.cuts.length cc) := K0.cell 1
    have k2 : w1.cell? ⟨w.heap.size, 2, none⟩ = some (.slice ov a.vals.length cv) := K0.cell 2
    clear hb1 B0
    by_cases h0 : 0 < a.vals.length
    · obtain ⟨-, l2, l4, hwo⟩ := ok_vals HW.out (by omega)
      have hjs : (joinT a.vals ⟨#[44]⟩).size ≤ 36 := by
        have h1 := joinT_size a.vals ⟨#[44]⟩ 8 fun s hs => (word_size (words_all hwo s hs)).2
        have h2 : (⟨#[44]⟩ : ByteArray).size = 1 := rfl
        rw [h2] at h1; omega
      have HF : Hid (attrText a = a.name ++ ⟨#[61]⟩ ++ joinT a.vals ⟨#[44]⟩) := by
        unfold attrText; rw [if_pos HW.out, if_neg (by omega)]; rfl
      have B2 := B1
      clear k0 k1
      have k0 : w1.cell? ⟨w.heap.size, 0, none⟩ = some (.string a.name) := K0.cell 0
      have cJ := fun d os => Calls.regrown_of (specJoin_any (.slice ov a.vals.length cv) a.vals ⟨#[44]⟩ (Go.Sort.grow (redrawn w1 d) os) ((HV.out.later B2).later (below_regrown w1 d os)) (by omega) (by omega))
      have d0 := fun d os => cell_regrown k0 d os
      have d2 := fun d os => cell_regrown k2 d os
      have hbR := fun d os => B2.trans ((below_regrown w1 d os).mono B2.size)
      have HBR : Hid (∀ d os, Below w.heap.size w (Go.Sort.grow (redrawn w1 d) os)) := hbR
      clear hbR B1 B2 K0
      generalize joinT a.vals ⟨#[44]⟩ = J at cJ hjs HF
      generalize a.name = nm at d0 hnm HF k0
      go_wp2
      refine wp_region_quiet_below mixed (by kernel_rfl) ?_
      repeat (go_big_quiet_step (exact cJ _ _))
      refine wpQuiet_nil ?_
      intro _ hw'
      obtain ⟨⟨dq, osq⟩, hw''⟩ := hw'
      subst hw''
      go_wp2
      go_ret
      exact ⟨by rw [HF.out]; rfl, HBR.out _ _⟩
    · obtain ⟨l1, l3, hri⟩ := ok_cuts HW.out (by omega)
      have HRI : Hid (∀ k, k < a.cuts.length → -9999 ≤ a.cuts.getD k 0 ∧ a.cuts.getD k 0 ≤ 9998) := fun k hk => rise_all hri hk
      have hjs : (joinT (a.cuts.map itB) ⟨#[44]⟩).size ≤ 36 := by
        have h1 := joinT_size (a.cuts.map itB) ⟨#[44]⟩ 5 fun s hs => by
          obtain ⟨c, hc, rfl⟩ := List.mem_map.1 hs
          obtain ⟨j, hj, rfl⟩ := List.mem_iff_getElem.1 hc
          have := HRI.out j hj
          simp [hj] at this
          exact itB_size (by omega) (by omega)
        have h2 : (⟨#[44]⟩ : ByteArray).size = 1 := rfl
        rw [h2, List.length_map] at h1; omega
      have HF : Hid (attrText a = a.name ++ ⟨#[58]⟩ ++ joinT (a.cuts.map itB) ⟨#[44]⟩) := by
        unfold attrText; rw [if_pos HW.out, if_pos (by omega)]; rfl
      obtain ⟨g, o, rfl, hg, hj⟩ := HCR.out (by omega)
      have HJ : Hid (∀ j, j < a.cuts.length → w.cell? ⟨g, o + j, none⟩ = some (.int .i64 (a.cuts.getD j 0))) := hj
      have h0' : ¬ 0 < a.vals.length := h0
      clear hj HCR hri
      have B2 := B1
      clear k0 k1
      have k1 : w1.cell? ⟨w.heap.size, 1, none⟩ = some (.slice (some ⟨g, o, none⟩) a.cuts.length cc) := K0.cell 1
      have HK : Hid (Blk 28 w1 w.heap.size #[.string a.name, .slice (some ⟨g, o, none⟩) a.cuts.length cc, .slice ov a.vals.length cv]) := K0
      have hsz2 : w.heap.size < w1.heap.size := K0.lt
      have HB2 : Hid (Below w.heap.size w w1) := B2
      clear B1 K0 B2
      go_wp2
      go_loopw [3, 4] (fun v i wr => ∃ k : Nat, i = .int .i64 k ∧ k ≤ a.cuts.length ∧ wr.ownsRow w1.heap.size 9 1 v k (((a.cuts.take k).map itB).map Value.string) ∧ Below w1.heap.size w1 wr) (fun _ i _ => a.cuts.length - (intOf i).toNat)
      case atStart => exact ⟨0, rfl, by omega, World.ownsRow_lit (base := w1.heap.size) (e := 9) (size := 1) w1 #[] 0 (Nat.le_refl _) (by decide) rfl, (Below.refl _ _).alloc (Nat.le_refl _) _⟩
      case round =>
        obtain ⟨k, rfl, hk, hown, hbr⟩ := hrel
        have hbw := HB2.out.trans (hbr.mono HB2.out.size)
        have k1 : wr.cell? ⟨w.heap.size, 1, none⟩ = some (.slice (some ⟨g, o, none⟩) a.cuts.length cc) := (HK.out.below hbr).cell 1
        by_cases hlt : k < a.cuts.length
        · have hcell : wr.cell? ⟨g, o + k, none⟩ = some (.int .i64 (a.cuts.getD k 0)) := (hbw.cell (p := ⟨g, o + k, none⟩) hg).trans (HJ.out k hlt)
          have HTK : Hid ((a.cuts.take (k + 1)).map itB = (a.cuts.take k).map itB ++ [itB (a.cuts.getD k 0)]) := itB_takeS hlt
          obtain ⟨x0, x1⟩ := HRI.out k hlt
          generalize a.cuts.getD k 0 = x at hcell HTK x0 x1
          have cD := sDigits_any x wr (by omega) (by omega)
          have HBW : Hid (Below w1.heap.size w1 wr) := hbr
          have HOW := hown
          clear hbw hbr
          go_wp2_with fail
          refine cD.mono ?_
          rintro e w3 ⟨rfl, hb3⟩
          clear cD hcell
          have hbr3 := HBW.out.trans (hb3.mono HBW.out.size)
          have hown3 := own_below hown hb3
          have hsz3 := hbr3.size
          have HB3 : Hid (Below w1.heap.size w1 w3) := hbr3
          clear hown HOW hb3 hbr3
          generalize itB x = t at HTK
          go_wp2_with (at_builtin; refine wpList_append_own _ rfl _ _ 23 rfl w1.heap.size 9 i0 (.string ⟨#[]⟩) 1 16 Tryd.underlying23 hi hz0 hz1 hz2 rfl (by decide) _ _ _ rfl (hown3.alloc _) ⟨w3.heap.size, 0, none⟩ 1 1 [_] rfl rfl (newc _ _ _) ?d2 ?d3 ?d4 ?d5 ?_)
          case d2 => intro u hu; simp at hu; subst hu; rfl
          case d3 => unfold maxLen; omega
          case d4 => omega
          case d5 => simp; omega
          intro v' w4 hown' hgrow _
          have R : w4.ownsRow w1.heap.size 9 1 v' (k + 1) (((a.cuts.take (k + 1)).map itB).map Value.string) := by rw [HTK.out]; simpa using hown'
          have BB : Below w1.heap.size w1 w4 := (HB3.out.alloc hsz3 _).grown hgrow (by simp; omega) fun j hj => (hown3.lt j hj).1
          clear hown' hgrow hown3
          go_wp2
          go_roundw
          case rel => exact ⟨k + 1, by go_num, by omega, R, BB⟩
          case measure => simp [intOf]; omega
        · obtain rfl : k = a.cuts.length := by omega
          rw [List.take_length] at hown
          have hrow := RowS.of_own hown (by simp)
          obtain ⟨oo, co, hv', -, -⟩ := id hrow
          rw [List.length_map] at hv'
          subst hv'
          have K0 := HK.out.below hbr
          have k0 : wr.cell? ⟨w.heap.size, 0, none⟩ = some (.string a.name) := K0.cell 0
          have cJ := fun d os => Calls.regrown_of (specJoin_any (.slice oo a.cuts.length co) (a.cuts.map itB) ⟨#[44]⟩ (Go.Sort.grow (redrawn wr d) os) (hrow.later (below_regrown wr d os)) (by simp; omega) (by omega))
          have d0 := fun d os => cell_regrown k0 d os
          have hbR := fun d os => hbw.trans ((below_regrown wr d os).mono hbw.size)
          have HBR : Hid (∀ d os, Below w.heap.size w (Go.Sort.grow (redrawn wr d) os)) := hbR
          clear hbR hbr hbw K0 k0 hown hrow
          generalize joinT (a.cuts.map itB) ⟨#[44]⟩ = J at cJ hjs HF
          generalize a.name = nm at d0 hnm HF
          go_wp2
          refine wp_region_quiet_below mixed (by kernel_rfl) ?_
          repeat (go_big_quiet_step (exact cJ _ _))
          refine wpQuiet_nil ?_
          intro _ hw'
          obtain ⟨⟨dq, osq⟩, hw''⟩ := hw'
          subst hw''
          go_wp2
          go_ret
          exact ⟨by rw [HF.out]; rfl, HBR.out _ _⟩
end Go.Proofs.YtlpjigpnpafkiabDoor
