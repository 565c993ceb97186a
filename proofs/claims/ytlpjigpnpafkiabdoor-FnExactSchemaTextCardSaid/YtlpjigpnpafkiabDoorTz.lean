/- The text of a schema, by the specification. -/
import Derived.Test.YtlpjigpnpafkiabDoorTyp
import Derived.Test.YtlpjigpnpafkiabDoorTw
import Derived.Test.YtlpjigpnpafkiabDoorVe
namespace Go.Proofs.YtlpjigpnpafkiabDoor
open Go.RowKit
set_option maxRecDepth 100000

set_option maxHeartbeats 3200000 in
theorem specSchemaText_any (v : Value) (s : SchemaD) (w : World) (h : SchemaAt w v s) (hn : okSch s) :
    Calls Tryd.prog 17 #[v] w fun e w' => e = .returned (.string (schemaText s)) ∧ Below w.heap.size w w' := by
  have mixed : Tryd.prog.follows .mixedOrders = true := by kernel_rfl
  obtain ⟨i0, hi, hz0, hz1, hz2⟩ := info_parts strInfo
  have HH : Hid (SchemaAt w v s) := h
  obtain ⟨va, vc, rfl, ha, hc⟩ := h
  obtain ⟨oa, ca, rfl, hca, har⟩ := id ha
  obtain ⟨oc, cc, rfl, -, -⟩ := id hc
  have HAR : Hid (0 < s.attrs.length → ∃ g o, oa = some ⟨g, o, none⟩ ∧ g < w.heap.size ∧ ∀ j, j < s.attrs.length → CellsA w g (o + j * 3) (ad s.attrs j)) := har
  have HCR : Hid (RowS w (.slice oc s.classes.length cc) s.classes) := hc
  have HO : Hid (okSch s) := hn
  clear ha hc har
  obtain ⟨K0, B0⟩ := blk_1 43 w #[.slice oa s.attrs.length ca, .slice oc s.classes.length cc]
  have c := specSchemaOk_any _ s _ (HH.out.later B0) hn
  cases hw : schemaOk s with
  | false =>
    have HF : Hid (schemaText s = ⟨#[]⟩) := by unfold schemaText; rw [hw]; rfl
    rw [hw] at c
    clear hw
    go_enter Tryd.func17, Tryd.ntmps17
    go_wp2_with fail
    refine c.mono ?_
    rintro e w1 ⟨rfl, hb1⟩
    clear c K0
    go_wp2
    go_ret
    exact ⟨by rw [HF.out]; rfl, B0.trans (hb1.mono B0.size)⟩
  | true =>
    have HF : Hid (schemaText s = joinT (s.attrs.map attrText) ⟨#[59]⟩ ++ ⟨#[124]⟩ ++ joinT s.classes ⟨#[44]⟩) := by unfold schemaText; rw [if_pos hw]; rfl
    obtain ⟨hj1, hj2⟩ := sch_bounds hw
    obtain ⟨⟨l1, l5⟩, ⟨m2, m3⟩, -, -⟩ := sch_parts hw
    rw [hw] at c
    clear hw hn
    obtain ⟨g, o, rfl, hg, hj⟩ := HAR.out (by omega)
    have HJ : Hid (∀ j, j < s.attrs.length → CellsA w g (o + j * 3) (ad s.attrs j)) := hj
    clear hj HAR
    go_enter Tryd.func17, Tryd.ntmps17
    go_wp2_with fail
    refine c.mono ?_
    rintro e w1 ⟨rfl, hb1⟩
    clear c
    have B1 := B0.trans (hb1.mono B0.size)
    replace K0 := K0.below hb1
    have k0 : w1.cell? ⟨w.heap.size, 0, none⟩ = some (.slice (some ⟨g, o, none⟩) s.attrs.length ca) := K0.cell 0
    have HK : Hid (Blk 43 w1 w.heap.size #[.slice (some ⟨g, o, none⟩) s.attrs.length ca, .slice oc s.classes.length cc]) := K0
    have hsz1 : w.heap.size < w1.heap.size := K0.lt
    have HB1 : Hid (Below w.heap.size w w1) := B1
    clear hb1 B0 K0 B1
    go_wp2
    go_loopw [3, 4] (fun v i wr => ∃ k : Nat, i = .int .i64 k ∧ k ≤ s.attrs.length ∧ wr.ownsRow w1.heap.size 9 1 v k (((s.attrs.take k).map attrText).map Value.string) ∧ Below w1.heap.size w1 wr) (fun _ i _ => s.attrs.length - (intOf i).toNat)
    case atStart => exact ⟨0, rfl, by omega, World.ownsRow_lit (base := w1.heap.size) (e := 9) (size := 1) w1 #[] 0 (Nat.le_refl _) (by decide) rfl, (Below.refl _ _).alloc (Nat.le_refl _) _⟩
    case round =>
      obtain ⟨k, rfl, hk, hown, hbr⟩ := hrel
      have hbw := HB1.out.trans (hbr.mono HB1.out.size)
      have k0 : wr.cell? ⟨w.heap.size, 0, none⟩ = some (.slice (some ⟨g, o, none⟩) s.attrs.length ca) := (HK.out.below hbr).cell 0
      by_cases hlt : k < s.attrs.length
      · obtain ⟨xc, xv, q0, q1, q2, r1, r2⟩ := (HJ.out k hlt).later hbw hg
        obtain ⟨o1, c1, rfl, -, -⟩ := id r1
        obtain ⟨o2, c2, rfl, -, -⟩ := id r2
        have HTK : Hid ((s.attrs.take (k + 1)).map attrText = (s.attrs.take k).map attrText ++ [attrText (ad s.attrs k)]) := at_take hlt
        have hok := HO.out.each _ (ad_mem hlt)
        have cT := specAttrText_any _ (ad s.attrs k) wr ⟨_, _, rfl, r1, r2⟩ hok
        have hbrA := hbr
        have hownA := hown
        clear r1 r2 hok hbr hown hbw
        go_wp2_with fail
        refine cT.mono ?_
        rintro e w3 ⟨rfl, hb3⟩
        clear cT q0 q1 q2 k0
        have hbr3 := hbrA.trans (hb3.mono hbrA.size)
        have hown3 := own_below hownA hb3
        have hsz3 := hbr3.size
        have HB3 : Hid (Below w1.heap.size w1 w3) := hbr3
        clear hownA hbrA hb3 hbr3
        generalize attrText (ad s.attrs k) = t at HTK
        go_wp2_with (at_builtin; refine wpList_append_own _ rfl _ _ 23 rfl w1.heap.size 9 i0 (.string ⟨#[]⟩) 1 16 Tryd.underlying23 hi hz0 hz1 hz2 rfl (by decide) _ _ _ rfl (hown3.alloc _) ⟨w3.heap.size, 0, none⟩ 1 1 [_] rfl rfl (newc _ _ _) ?d2 ?d3 ?d4 ?d5 ?_)
        case d2 => intro u hu; simp at hu; subst hu; rfl
        case d3 => unfold maxLen; omega
        case d4 => omega
        case d5 => simp; omega
        intro v' w4 hown' hgrow _
        have R : w4.ownsRow w1.heap.size 9 1 v' (k + 1) (((s.attrs.take (k + 1)).map attrText).map Value.string) := by rw [HTK.out]; simpa using hown'
        have BB : Below w1.heap.size w1 w4 := (HB3.out.alloc hsz3 _).grown hgrow (by simp; omega) fun j hj => (hown3.lt j hj).1
        clear hown' hgrow hown3
        go_wp2
        go_roundw
        case rel => exact ⟨k + 1, by go_num, by omega, R, BB⟩
        case measure => simp [intOf]; omega
      · obtain rfl : k = s.attrs.length := by omega
        rw [List.take_length] at hown
        have hrow := RowS.of_own hown (by simp)
        obtain ⟨oo, co, hv', -, -⟩ := id hrow
        rw [List.length_map] at hv'
        subst hv'
        have k1 : wr.cell? ⟨w.heap.size, 1, none⟩ = some (.slice oc s.classes.length cc) := (HK.out.below hbr).cell 1
        have cJ := fun d os => Calls.regrown_of (specJoin_any (.slice oo s.attrs.length co) (s.attrs.map attrText) ⟨#[59]⟩ (Go.Sort.grow (redrawn wr d) os) (hrow.later (below_regrown wr d os)) (by simp; omega) (by omega))
        have cC := fun d os => Calls.regrown_of (specJoin_any (.slice oc s.classes.length cc) s.classes ⟨#[44]⟩ (Go.Sort.grow (redrawn wr d) os) ((HCR.out.later hbw).later (below_regrown wr d os)) (by omega) (by omega))
        have d1 := fun d os => cell_regrown k1 d os
        have hbR := fun d os => hbw.trans ((below_regrown wr d os).mono hbw.size)
        have HBR : Hid (∀ d os, Below w.heap.size w (Go.Sort.grow (redrawn wr d) os)) := hbR
        clear hbR hbr hbw hown hrow
        generalize joinT (s.attrs.map attrText) ⟨#[59]⟩ = J at cJ hj1 HF
        generalize joinT s.classes ⟨#[44]⟩ = J2 at cC hj2 HF
        go_wp2
        refine wp_region_quiet_below mixed (by kernel_rfl) ?_
        repeat (go_big_quiet_step (first | with_reducible exact cJ _ _ | with_reducible exact cC _ _))
        refine wpQuiet_nil ?_
        intro _ hw'
        obtain ⟨⟨dq, osq⟩, hw''⟩ := hw'
        subst hw''
        go_wp2
        go_ret
        exact ⟨by rw [HF.out]; rfl, HBR.out _ _⟩
end Go.Proofs.YtlpjigpnpafkiabDoor
