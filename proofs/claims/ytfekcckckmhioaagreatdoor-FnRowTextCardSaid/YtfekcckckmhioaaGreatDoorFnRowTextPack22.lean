/- Texts of this claim, put together: part 22. -/
import Derived.Test.YtfekcckckmhioaaGreatDoorFnRowTextPack11
import Derived.Test.YtfekcckckmhioaaGreatDoorFnRowTextPack8
import Derived.Test.YtfekcckckmhioaaGreatDoorFnRowTextPack16
import Derived.Test.YtfekcckckmhioaaGreatDoorFnRowTextPack20
import Derived.Test.YtfekcckckmhioaaGreatDoorFnRowTextPack13
import Derived.Test.YtfekcckckmhioaaGreatDoorFnRowTextPack19
import Derived.Lib.QuietBelow
import Derived.BigQuiet
import Derived.Test.YtfekcckckmhioaaGreatDoorFnRowTextPack9
import Derived.Test.YtfekcckckmhioaaGreatDoorFnRowTextPack1
import Derived.Test.YtfekcckckmhioaaGreatDoorFnRowTextPack14
import Derived.Lib.AppendIntMem
/- How many bins an attribute has, by the program and by the specification. -/
namespace Go.Proofs.YtfekcckckmhioaaGreatDoor
open Go.RowKit
set_option maxRecDepth 100000

set_option maxHeartbeats 400000 in
theorem implBins_any (v : Value) (a : AttrD) (w : World) (h : AttrAt w v a) (hn : okA a) :
    Calls Tryz.prog 66 #[v] w fun e w' => e = .returned (.int .i64 (bins a)) ∧ Below w.heap.size w w' := by
  have c := fun W (hW : Below w.heap.size w W) => implAttrOk_any v a W (h.later hW) hn
  have c' := fun W (hW : Below w.heap.size w W) => nominal_any v a W (h.later hW)
  have lc := hn.cuts
  have lv := hn.vals.1
  obtain ⟨vc, vv, rfl, hc, hv⟩ := h
  obtain ⟨oc, cc, rfl, hcc, hcr⟩ := hc
  obtain ⟨ov, cv, rfl, hvc, hvr⟩ := hv
  clear hcr hvr hn
  have B0 : ∀ o, Below w.heap.size w (w.alloc o) := fun o => (Below.refl _ _).alloc (Nat.le_refl _) _
  have HB : Hid (∀ o, Below w.heap.size w (w.alloc o)) := B0
  clear B0
  cases hok : attrOk a with
  | false =>
    have HF : Hid (bins a = 0) := by unfold bins; rw [hok]; rfl
    rw [hok] at c
    clear hok c'
    go_enter Tryz.func66, Tryz.ntmps66
    go_wp2_with fail
    refine (c _ (HB.out _)).mono ?_
    rintro e w1 ⟨rfl, hb1⟩
    go_wp2
    go_ret
    exact ⟨by rw [HF.out]; rfl, (HB.out _).trans (hb1.mono (by simp))⟩
  | true =>
    rw [hok] at c
    by_cases h0 : 0 < a.vals.length
    · have HF : Hid (bins a = a.vals.length) := by unfold bins; rw [hok, if_pos rfl, if_neg (by omega)]; rfl
      clear hok
      go_enter Tryz.func66, Tryz.ntmps66
      go_wp2_with fail
      refine (c _ (HB.out _)).mono ?_
      rintro e w1 ⟨rfl, hb1⟩
      have K := (Blk.new _ _ _).below hb1
      have B1 := (HB.out _).trans (hb1.mono (by simp))
      have k0 : w1.cell? ⟨w.heap.size, 0, none⟩ = some (.string a.name) := K.cell 0
      have k1 : w1.cell? ⟨w.heap.size, 1, none⟩ = some (.slice oc a.cuts.length cc) := K.cell 1
      have k2 : w1.cell? ⟨w.heap.size, 2, none⟩ = some (.slice ov a.vals.length cv) := K.cell 2
      clear c hb1
      go_wp2_with fail
      refine (c' _ B1).mono ?_
      rintro e w2 ⟨rfl, hb2⟩
      have k2 : w2.cell? ⟨w.heap.size, 2, none⟩ = some (.slice ov a.vals.length cv) := (K.below hb2).cell 2
      clear c' K
      rw [decide_eq_true h0]
      go_wp2
      go_ret
      exact ⟨by rw [HF.out]; rfl, B1.trans (hb2.mono B1.size)⟩
    · have HF : Hid (bins a = a.cuts.length + 1) := by unfold bins; rw [hok, if_pos rfl, if_pos (by omega)]; rfl
      clear hok
      go_enter Tryz.func66, Tryz.ntmps66
      go_wp2_with fail
      refine (c _ (HB.out _)).mono ?_
      rintro e w1 ⟨rfl, hb1⟩
      have K := (Blk.new _ _ _).below hb1
      have B1 := (HB.out _).trans (hb1.mono (by simp))
      have k0 : w1.cell? ⟨w.heap.size, 0, none⟩ = some (.string a.name) := K.cell 0
      have k1 : w1.cell? ⟨w.heap.size, 1, none⟩ = some (.slice oc a.cuts.length cc) := K.cell 1
      have k2 : w1.cell? ⟨w.heap.size, 2, none⟩ = some (.slice ov a.vals.length cv) := K.cell 2
      clear c hb1
      go_wp2_with fail
      refine (c' _ B1).mono ?_
      rintro e w2 ⟨rfl, hb2⟩
      have k1 : w2.cell? ⟨w.heap.size, 1, none⟩ = some (.slice oc a.cuts.length cc) := (K.below hb2).cell 1
      clear c' K
      rw [decide_eq_false h0]
      go_wp2
      go_ret
      exact ⟨by rw [HF.out]; first | rfl | (congr 1; go_num), B1.trans (hb2.mono B1.size)⟩

end Go.Proofs.YtfekcckckmhioaaGreatDoor
/- Whether an example is right, by the program. -/
namespace Go.Proofs.YtfekcckckmhioaaGreatDoor
open Go.RowKit
set_option maxRecDepth 100000
set_option linter.unusedSimpArgs false
set_option maxHeartbeats 3200000 in
theorem implExOk_any (vs ve : Value) (s : SchemaD) (e : ExD) (w : World) (hs : SchemaAt w vs s) (he : ExAt w ve e) (hn : okSch s) (hb : e.bins.length ≤ 1099511627776) :
    Calls Tryz.prog 41 #[vs, ve] w fun r w' => r = .returned (.bool (exOk s e)) ∧ Below w.heap.size w w' := by
  have mixed : Tryz.prog.follows .mixedOrders = true := by kernel_rfl
  have HS : Hid (∀ W, Below w.heap.size w W → SchemaAt W vs s) := fun W h => hs.later h
  have HEX : Hid (∀ W, Below w.heap.size w W → ExAt W ve e) := fun W h => he.later h
  have HOK : Hid (okSch s) := hn
  obtain ⟨va, vc, rfl, ra, rc⟩ := hs
  obtain ⟨oa, ka, rfl, -, -⟩ := id ra
  obtain ⟨oc, kc, rfl, -, -⟩ := id rc
  obtain ⟨vb, rfl, rb⟩ := he
  obtain ⟨ob, kb, rfl, -, -⟩ := id rb
  have la := hn.attrs
  have lc := hn.classes.1
  clear ra rc rb hn
  have B0 : Below w.heap.size w ((w.alloc (.cells #[.slice oa s.attrs.length ka, .slice oc s.classes.length kc] 35)).alloc (.cells #[.slice ob e.bins.length kb, .int .i64 e.cls] 30)) := ((Below.refl _ _).alloc (Nat.le_refl _) _).alloc (by simp) _
  have K1 := (Blk.new 35 w #[.slice oa s.attrs.length ka, .slice oc s.classes.length kc]).alloc (.cells #[.slice ob e.bins.length kb, .int .i64 e.cls] 30)
  have K2 : Blk 30 ((w.alloc (.cells #[.slice oa s.attrs.length ka, .slice oc s.classes.length kc] 35)).alloc (.cells #[.slice ob e.bins.length kb, .int .i64 e.cls] 30)) (w.heap.size + 1) #[.slice ob e.bins.length kb, .int .i64 e.cls] := by
    have := Blk.new 30 (w.alloc (.cells #[.slice oa s.attrs.length ka, .slice oc s.classes.length kc] 35)) #[.slice ob e.bins.length kb, .int .i64 e.cls]
    rwa [show (w.alloc (.cells #[.slice oa s.attrs.length ka, .slice oc s.classes.length kc] 35)).heap.size = w.heap.size + 1 by simp] at this
  have e1 := implSchemaOk_any _ s _ (HS.out _ B0) HOK.out
  cases hk : schemaOk s with
  | false =>
    have HE : Hid (exOk s e = false) := by unfold exOk; rw [hk]; rfl
    rw [hk] at e1
    clear hk K1 K2
    go_enter Tryz.func41, Tryz.ntmps41
    go_wp2_with fail
    refine e1.mono ?_
    clear e1
    rintro r w1 ⟨rfl, hb1⟩
    go_wp2
    go_ret
    exact ⟨by rw [HE.out]; rfl, B0.trans (hb1.mono (by simp; omega))⟩
  | true =>
    have HX : Hid (exOk s e = (decide (e.bins.length = s.attrs.length) && (decide (-1 ≤ e.cls ∧ e.cls ≤ (s.classes.length : Int) - 1) && binsRight s e))) := by unfold exOk; rw [hk]; rfl
    rw [hk] at e1
    clear hk
    go_enter Tryz.func41, Tryz.ntmps41
    go_wp2_with fail
    refine e1.mono ?_
    clear e1
    rintro r w1 ⟨rfl, hb1⟩
    have B1 := B0.trans (hb1.mono (by simp; omega))
    replace K1 := K1.below hb1
    replace K2 := K2.below hb1
    have p0 : w1.cell? ⟨w.heap.size, 0, none⟩ = some (.slice oa s.attrs.length ka) := K1.cell 0
    have p1 : w1.cell? ⟨w.heap.size, 1, none⟩ = some (.slice oc s.classes.length kc) := K1.cell 1
    have q0 : w1.cell? ⟨w.heap.size + 1, 0, none⟩ = some (.slice ob e.bins.length kb) := K2.cell 0
    have q1 : w1.cell? ⟨w.heap.size + 1, 1, none⟩ = some (.int .i64 e.cls) := K2.cell 1
    clear hb1 B0
    by_cases hl : e.bins.length = s.attrs.length
    rotate_left
    · have HE : Hid (exOk s e = false) := by rw [HX.out, decide_eq_false hl]; rfl
      have hq : ((e.bins.length : Int) != (s.attrs.length : Int)) = true := by rw [bne_iff_ne]; omega
      clear hl
      go_wp2
      go_ret
      exact ⟨by rw [HE.out]; rfl, B1⟩
    have hq : ((e.bins.length : Int) != (s.attrs.length : Int)) = false := by rw [hl]; simp
    have HLEN : Hid (e.bins.length = s.attrs.length) := hl
    have HX2 : Hid (exOk s e = (decide (-1 ≤ e.cls ∧ e.cls ≤ (s.classes.length : Int) - 1) && binsRight s e)) := by rw [HX.out, decide_eq_true hl]; rfl
    clear HX hl
    have HK : Hid (Blk 35 w1 w.heap.size #[.slice oa s.attrs.length ka, .slice oc s.classes.length kc] ∧ Blk 30 w1 (w.heap.size + 1) #[.slice ob e.bins.length kb, .int .i64 e.cls]) := ⟨K1, K2⟩
    clear p1 q1 K1 K2
    go_wp2
    go_loopw [5, 22] (fun _ i wr => ∃ k : Nat, i = .int .i64 k ∧ k ≤ s.attrs.length ∧ Hid (∀ j, j < k → binRight s e j = true) ∧ Below w1.heap.size w1 wr) (fun _ i _ => s.attrs.length - (intOf i).toNat)
    case atStart => exact ⟨0, rfl, by omega, fun j hj => by omega, Below.refl _ _⟩
    case round =>
      obtain ⟨k, rfl, hk, hal, hbr⟩ := hrel
      have hbw := B1.trans (hbr.mono B1.size)
      have j0 : wr.cell? ⟨w.heap.size + 1, 0, none⟩ = some (.slice ob e.bins.length kb) := (HK.out.2.below hbr).cell 0
      by_cases hkA : k < s.attrs.length
      · obtain ⟨va', vc', e', rA, -⟩ := HS.out wr hbw
        cases e'
        obtain ⟨oa', ka', e', -, hrA⟩ := rA
        cases e'
        have hlt : k < e.bins.length := by have := HLEN.out; omega
        obtain ⟨ga, fa, rfl, hga, hjA⟩ := hrA (by omega)
        obtain ⟨x1, x2, c0, c1, c2, r1, r2⟩ := hjA k hkA
        obtain ⟨y1, z1, rfl, -, -⟩ := id r1
        obtain ⟨y2, z2, rfl, -, -⟩ := id r2
        obtain ⟨vb', e', rB⟩ := HEX.out wr hbw
        cases e'
        obtain ⟨ob', kb', e', -, hrB⟩ := rB
        cases e'
        obtain ⟨gb, fb, rfl, hgb, hjB⟩ := hrB (by omega)
        have b0 := hjB k hlt
        have hbl := bins_le (HOK.out.each _ (ad_mem hkA))
        obtain ⟨l0, l1⟩ := hbl
        obtain ⟨KA, BA⟩ := blk_1 57 wr #[.string (ad s.attrs k).name, .slice y1 (ad s.attrs k).cuts.length z1, .slice y2 (ad s.attrs k).vals.length z2]
        obtain ⟨W, hW⟩ : ∃ W, W = wr.alloc (.cells #[.string (ad s.attrs k).name, .slice y1 (ad s.attrs k).cuts.length z1, .slice y2 (ad s.attrs k).vals.length z2] 57) := ⟨_, rfl⟩
        have HW : Hid (W = wr.alloc (.cells #[.string (ad s.attrs k).name, .slice y1 (ad s.attrs k).cuts.length z1, .slice y2 (ad s.attrs k).vals.length z2] 57)) := hW
        rw [← hW] at KA BA
        have cB := fun d os => Calls.regrown_of (implBins_any (.agg #[.string (ad s.attrs k).name, .slice y1 (ad s.attrs k).cuts.length z1, .slice y2 (ad s.attrs k).vals.length z2]) (ad s.attrs k) (Go.Sort.grow (redrawn W d) os) ⟨_, _, rfl, (r1.later BA).later (below_regrown W d os), (r2.later BA).later (below_regrown W d os)⟩ (HOK.out.each _ (ad_mem hkA)))
        have cI := fun d os => regrown_same (placeOk_any (e.bins.getD k 0) (bins (ad s.attrs k)) (Go.Sort.grow (redrawn W d) os))
        have HBT : Hid (-1 ≤ e.bins.getD k 0 ∧ e.bins.getD k 0 ≤ bins (ad s.attrs k) - 1 → binRight s e k = true) := fun h => decide_eq_true h
        have HBF : Hid (¬ (-1 ≤ e.bins.getD k 0 ∧ e.bins.getD k 0 ≤ bins (ad s.attrs k) - 1) → binRight s e k = false) := fun h => decide_eq_false h
        have s0 : W.cell? ⟨wr.heap.size, 0, none⟩ = some (.string (ad s.attrs k).name) := KA.cell 0
        have s1 : W.cell? ⟨wr.heap.size, 1, none⟩ = some (.slice y1 (ad s.attrs k).cuts.length z1) := KA.cell 1
        have s2 : W.cell? ⟨wr.heap.size, 2, none⟩ = some (.slice y2 (ad s.attrs k).vals.length z2) := KA.cell 2
        have d0 := fun d os => cell_regrown s0 d os
        have d1 := fun d os => cell_regrown s1 d os
        have d2 := fun d os => cell_regrown s2 d os
        have f1 := fun d os => cell_regrown ((BA.cell (p := ⟨w.heap.size + 1, 0, none⟩) (HK.out.2.below hbr).lt).trans j0) d os
        have f2 := fun d os => cell_regrown ((BA.cell (p := ⟨gb, fb + k, none⟩) hgb).trans b0) d os
        have HBR : Hid (∀ d os, Below w1.heap.size w1 (Go.Sort.grow (redrawn W d) os)) := fun d os => (hbr.trans (BA.mono hbr.size)).trans ((below_regrown W d os).mono (Nat.le_trans hbr.size BA.size))
        have HBW : Hid (∀ d os, Below w.heap.size w (Go.Sort.grow (redrawn W d) os)) := fun d os => (hbw.trans (BA.mono hbw.size)).trans ((below_regrown W d os).mono (Nat.le_trans hbw.size BA.size))
        clear s0 s1 s2 hjA hjB hrA hrB r1 r2 b0 hbr hbw hgb KA BA j0 p0 q0
        generalize e.bins.getD k 0 = zb at cI f2 HBT HBF
        generalize bins (ad s.attrs k) = nb at cB cI l0 l1 HBT HBF
        by_cases hin : -1 ≤ zb ∧ zb ≤ nb - 1
        · have HT : Hid (binRight s e k = true) := HBT.out hin
          rw [decide_eq_true hin] at cI
          clear hin
          go_wp2
          rw [← hW]
          refine wp_region_quiet_below mixed (by kernel_rfl) ?_
          clear hW
          repeat (go_big_quiet_step (first | with_reducible exact cB _ _ | with_reducible exact cI _ _))
          refine wpQuiet_nil ?_
          intro _ hw'
          obtain ⟨⟨dq, osq⟩, hw''⟩ := hw'
          subst hw''
          clear cB cI d0 d1 d2 f1 f2 c0 c1 c2
          go_wp2
          go_roundw
          case rel =>
            refine ⟨k + 1, by go_num, by omega, fun j hj => ?_, HBR.out _ _⟩
            by_cases ej : j = k
            · subst ej; exact HT.out
            · exact hal.out j (by omega)
          case measure => simp [intOf]; omega
        · have HE : Hid (binsRight s e = false) := binsRight_no k hlt (HBF.out hin)
          rw [decide_eq_false hin] at cI
          clear hin
          go_wp2
          rw [← hW]
          refine wp_region_quiet_below mixed (by kernel_rfl) ?_
          clear hW
          repeat (go_big_quiet_step (first | with_reducible exact cB _ _ | with_reducible exact cI _ _))
          refine wpQuiet_nil ?_
          intro _ hw'
          obtain ⟨⟨dq, osq⟩, hw''⟩ := hw'
          subst hw''
          clear cB cI d0 d1 d2 f1 f2 c0 c1 c2
          go_wp2
          go_ret
          exact ⟨by rw [HX2.out, HE.out, Bool.and_false]; rfl, HBW.out _ _⟩
      · have HE : Hid (binsRight s e = true) := binsRight_yes fun j hj => hal.out j (by have := HLEN.out; omega)
        have p1 : wr.cell? ⟨w.heap.size, 1, none⟩ = some (.slice oc s.classes.length kc) := (HK.out.1.below hbr).cell 1
        have q1 : wr.cell? ⟨w.heap.size + 1, 1, none⟩ = some (.int .i64 e.cls) := (HK.out.2.below hbr).cell 1
        have e2 := placeOk_any e.cls (s.classes.length : Int) wr
        generalize decide (-1 ≤ e.cls ∧ e.cls ≤ (s.classes.length : Int) - 1) = D at e2 HX2
        clear p0 q0 j0
        go_wp2_with fail
        refine e2.mono ?_
        clear e2
        rintro r w2 ⟨rfl, e2'⟩
        rw [e2']
        go_wp2
        go_ret
        exact ⟨by rw [HX2.out, HE.out, Bool.and_true]; rfl, hbw⟩
end Go.Proofs.YtfekcckckmhioaaGreatDoor
/- The digits of a number, by the program: what it wants of the library's table. -/
namespace Go.Proofs.YtfekcckckmhioaaGreatDoor
open Go.RowKit
set_option maxRecDepth 100000
theorem gPw : Tryz.prog.globalNamed "internal/strconv.uint64pow10" = some 3 := by kernel_rfl
/-- What the writer of digits wants of the library's variables. -/
def Tab (w : World) : Prop := Lib.TabIs Tryz.prog w "internal/strconv.uint64pow10" .u64 Lib.pow10Tab ∧ 3 < w.heap.size
theorem Tab.later {w w' : World} (h : Tab w) (hb : Below w.heap.size w w') : Tab w' := ⟨var?_below hb gPw h.2 h.1, Nat.lt_of_lt_of_le h.2 hb.size⟩

theorem iDigits_any (n : Int) (w : World) (h0 : -9223372036854775808 ≤ n) (h1 : n ≤ 9223372036854775807) (hr : Tab w) :
    Calls Tryz.prog 69 #[.int .i64 n] w fun e w' => e = .returned (.string (itB n)) ∧ Below w.heap.size w w' := by
  have ht := hr.1
  clear hr
  go_enter Tryz.func69, Tryz.ntmps69
  go_wp2_with fail
  refine (Tryz.strconv_Itoa n h0 h1 _ ht).mono ?_
  rintro e w' ⟨rfl, k, os, rfl⟩
  go_wp2
  go_ret
  exact ⟨rfl, Lib.below_grow _ _ (Nat.le_refl _) _ _⟩

end Go.Proofs.YtfekcckckmhioaaGreatDoor
/- The text of a place among words, the text of a cell: by the program. -/
namespace Go.Proofs.YtfekcckckmhioaaGreatDoor
open Go.RowKit
set_option maxRecDepth 100000
set_option linter.unusedSimpArgs false
def choiceT (ss : List ByteArray) (p : Int) : ByteArray := if p = -1 then askB else tx ss p.toNat
theorem choiceText_any (v : Value) (ss : List ByteArray) (p : Int) (w : World) (h : RowS w v ss) (h0 : -1 ≤ p) (h1 : p < (ss.length : Int)) (hn : ss.length ≤ 1099511627776) (hz : ∀ s ∈ ss, s.size ≤ 8) :
    Calls Tryz.prog 44 #[v, .int .i64 p] w fun e w' => e = .returned (.string (choiceT ss p)) ∧ Below w.heap.size w w' := by
  obtain ⟨oa, cap, rfl, hc, hr⟩ := h
  by_cases hp : p = -1
  · subst hp
    clear hr hz
    go_enter Tryz.func44, Tryz.ntmps44
    go_wp2
    go_ret
    exact ⟨rfl, Below.refl _ _⟩
  · have HE : Hid (choiceT ss p = tx ss p.toNat) := if_neg hp
    have hq : (p == -1) = false := by rw [beq_eq_false_iff_ne]; exact hp
    obtain ⟨k, rfl⟩ := Int.eq_ofNat_of_zero_le (show 0 ≤ p by omega)
    obtain ⟨g, o, rfl, hg, hj⟩ := hr (by omega)
    have hcell := hj k (by omega)
    have hk : k < ss.length := by omega
    have hs := hz _ (tx_mem hk)
    have HE : Hid (choiceT ss (k : Int) = tx ss k) := HE.out
    generalize tx ss k = t at hcell hs HE
    clear hr hz hj hp
    have c := clone_any t w (by omega)
    go_enter Tryz.func44, Tryz.ntmps44
    go_wp2_with fail
    refine c.mono ?_
    rintro e w1 ⟨rfl, hb1⟩
    clear c
    go_wp2
    go_ret
    exact ⟨by rw [HE.out]; rfl, hb1⟩
set_option maxHeartbeats 1600000 in
theorem implCellText_any (v : Value) (a : AttrD) (b : Int) (w : World) (h : AttrAt w v a) (hn : okA a) (hT : Tab w) :
    Calls Tryz.prog 42 #[v, .int .i64 b] w fun e w' => e = .returned (.string (cellText a b)) ∧ Below w.heap.size w w' := by
  have hat := h
  obtain ⟨vc, vv, rfl, hc, hv⟩ := h
  have HAT : Hid (∀ W, Below w.heap.size w W → AttrAt W (.agg #[.string a.name, vc, vv]) a) := fun W h => hat.later h
  have HC : Hid (∀ W, Below w.heap.size w W → RowI W vc a.cuts) := fun W h => hc.later h
  have HV : Hid (∀ W, Below w.heap.size w W → RowS W vv a.vals) := fun W h => hv.later h
  have HTB : Hid (∀ W, Below w.heap.size w W → Tab W) := fun W h => hT.later h
  obtain ⟨oc, cc, rfl, -, -⟩ := id hc
  obtain ⟨ov, cv, rfl, -, -⟩ := id hv
  have lc := hn.cuts
  have lv := hn.vals.1
  have HOK : Hid (okA a) := hn
  have hbl := bins_le hn
  clear hc hv hat hn hT
  have B0 : Below w.heap.size w (w.alloc (.cells #[.string a.name, .slice oc a.cuts.length cc, .slice ov a.vals.length cv] 57)) := (Below.refl _ _).alloc (Nat.le_refl _) _
  have K0 := Blk.new 57 w #[.string a.name, .slice oc a.cuts.length cc, .slice ov a.vals.length cv]
  have e1 := implAttrOk_any _ a _ (HAT.out _ B0) HOK.out
  cases hk : attrOk a with
  | false =>
    have HE : Hid (cellText a b = ⟨#[]⟩) := if_neg (fun h => by rw [hk] at h; cases h.1)
    rw [hk] at e1
    clear hk
    go_enter Tryz.func42, Tryz.ntmps42
    go_wp2_with fail
    refine e1.mono ?_
    clear e1
    rintro e w1 ⟨rfl, hb1⟩
    go_wp2
    go_ret
    exact ⟨by rw [HE.out]; rfl, B0.trans (hb1.mono (by simp))⟩
  | true =>
    rw [hk] at e1
    go_enter Tryz.func42, Tryz.ntmps42
    go_wp2_with fail
    refine e1.mono ?_
    clear e1
    rintro e w1 ⟨rfl, hb1⟩
    have B1 := B0.trans (hb1.mono (by simp))
    have K1 := K0.below hb1
    have p0 : w1.cell? ⟨w.heap.size, 0, none⟩ = some (.string a.name) := K1.cell 0
    have p1 : w1.cell? ⟨w.heap.size, 1, none⟩ = some (.slice oc a.cuts.length cc) := K1.cell 1
    have p2 : w1.cell? ⟨w.heap.size, 2, none⟩ = some (.slice ov a.vals.length cv) := K1.cell 2
    have e2 := implBins_any _ a w1 (HAT.out w1 B1) HOK.out
    clear K0 hb1
    go_wp2_with fail
    refine e2.mono ?_
    clear e2
    rintro e w2 ⟨rfl, hb2⟩
    have hs2 := hb2.size
    have B2 := B1.trans (hb2.mono B1.size)
    have K2 := K1.below hb2
    clear p0 p1 p2 K1 hb2 B1
    obtain ⟨l0, l1⟩ := hbl
    have e3 := placeOk_any b (bins a) w2
    by_cases hin : -1 ≤ b ∧ b ≤ bins a - 1
    rotate_left
    · have HE : Hid (cellText a b = ⟨#[]⟩) := if_neg (fun h => hin h.2)
      rw [decide_eq_false hin] at e3
      clear hk hin
      go_wp2_with fail
      refine e3.mono ?_
      clear e3
      rintro e w3 ⟨rfl, e3'⟩
      rw [e3']
      go_wp2
      go_ret
      exact ⟨by rw [HE.out]; rfl, B2⟩
    have HT : Hid (cellText a b = (if b = -1 then askB else if 0 < a.vals.length then tx a.vals b.toNat else if b < (a.cuts.length : Int) then itB (a.cuts.getD b.toNat 0) else itB (a.cuts.getD (a.cuts.length - 1) 0 + 1))) := if_pos ⟨hk, hin⟩
    have HB : Hid (bins a = (if a.vals.length = 0 then (a.cuts.length : Int) + 1 else a.vals.length)) := by unfold bins; rw [if_pos hk]; rfl
    have HKD : Hid (a.vals.length = 0 ↔ a.cuts.length ≠ 0) := ok_kind hk
    have HCT : Hid (a.vals.length = 0 → ∀ j, j < a.cuts.length → -9999 ≤ a.cuts.getD j 0 ∧ a.cuts.getD j 0 ≤ 9998) := fun _ => cuts_in hk
    have HZ : Hid (∀ s ∈ a.vals, s.size ≤ 8) := fun s hs => by
      have hv0 : a.vals.length ≠ 0 := fun e => by rw [List.eq_nil_of_length_eq_zero e] at hs; cases hs
      exact (word_size (words_all (ok_vals hk hv0).2.2.2 _ hs)).2
    rw [decide_eq_true hin] at e3
    obtain ⟨n0, n1⟩ := hin
    clear hk
    rw [HB.out] at n1
    go_wp2_with fail
    refine e3.mono ?_
    clear e3
    rintro e w3 ⟨rfl, e3'⟩
    rw [e3']
    clear e3' w3
    have q0 : w2.cell? ⟨w.heap.size, 0, none⟩ = some (.string a.name) := K2.cell 0
    have q1 : w2.cell? ⟨w.heap.size, 1, none⟩ = some (.slice oc a.cuts.length cc) := K2.cell 1
    have q2 : w2.cell? ⟨w.heap.size, 2, none⟩ = some (.slice ov a.vals.length cv) := K2.cell 2
    have e4 := nominal_any _ a w2 (HAT.out w2 B2)
    by_cases hv0 : 0 < a.vals.length
    · rw [decide_eq_true hv0] at e4
      rw [if_neg (by omega)] at n1
      have HE : Hid (choiceT a.vals b = cellText a b) := by
        rw [HT.out]; unfold choiceT
        by_cases hb : b = -1
        · rw [if_pos hb, if_pos hb]; rfl
        · rw [if_neg hb, if_neg hb, if_pos hv0]; rfl
      go_wp2_with fail
      refine e4.mono ?_
      clear e4
      rintro e w3 ⟨rfl, hb3⟩
      have B3 := B2.trans (hb3.mono B2.size)
      have K3 := K2.below hb3
      have q2 : w3.cell? ⟨w.heap.size, 2, none⟩ = some (.slice ov a.vals.length cv) := K3.cell 2
      have e5 := choiceText_any _ a.vals b w3 (HV.out w3 B3) n0 (by omega) lv HZ.out
      rw [HE.out] at e5
      clear q0 q1 hb3 K2 K3
      go_wp2_with fail
      refine e5.mono ?_
      clear e5
      rintro e w4 ⟨rfl, hb4⟩
      go_wp2
      go_ret
      exact ⟨rfl, B3.trans (hb4.mono B3.size)⟩
    rw [decide_eq_false hv0] at e4
    have hz0 : a.vals.length = 0 := by omega
    rw [if_pos hz0] at n1
    have hc0 := HKD.out.1 hz0
    have HZ0 : Hid (a.vals.length = 0) := hz0
    have HV0 : Hid (¬ 0 < a.vals.length) := hv0
    clear hz0 hv0
    go_wp2_with fail
    refine e4.mono ?_
    clear e4
    rintro e w3 ⟨rfl, hb3⟩
    have B3 := B2.trans (hb3.mono B2.size)
    have K3 := K2.below hb3
    clear q0 q1 q2 hb3 K2 B2
    have q1 : w3.cell? ⟨w.heap.size, 1, none⟩ = some (.slice oc a.cuts.length cc) := K3.cell 1
    have q2 : w3.cell? ⟨w.heap.size, 2, none⟩ = some (.slice ov a.vals.length cv) := K3.cell 2
    by_cases b1 : b = -1
    · have hq : (b == -1) = true := by rw [b1]; rfl
      have HE : Hid (choiceT a.vals b = cellText a b) := by rw [HT.out]; unfold choiceT; rw [if_pos b1, if_pos b1]; rfl
      have e5 := choiceText_any _ a.vals b w3 (HV.out w3 B3) n0 (by have := HZ0.out; omega) lv HZ.out
      rw [HE.out] at e5
      clear b1 q1 K3
      go_wp2_with fail
      refine e5.mono ?_
      clear e5
      rintro e w4 ⟨rfl, hb4⟩
      go_wp2
      go_ret
      exact ⟨rfl, B3.trans (hb4.mono B3.size)⟩
    have hq : (b == -1) = false := by rw [beq_eq_false_iff_ne]; exact b1
    obtain ⟨k, rfl⟩ := Int.eq_ofNat_of_zero_le (show 0 ≤ b by omega)
    obtain ⟨oc', cc', e', hcc, hr⟩ := HC.out w3 B3
    cases e'
    obtain ⟨g, o, rfl, hg, hj⟩ := hr (by omega)
    by_cases hkl : k = a.cuts.length
    · obtain ⟨n, hn⟩ : ∃ n, a.cuts.length = n + 1 := ⟨a.cuts.length - 1, by omega⟩
      have hcell := hj n (by omega)
      have hin := HCT.out HZ0.out n (by omega)
      have HE : Hid (cellText a (k : Int) = itB (a.cuts.getD n 0 + 1)) := by
        rw [HT.out, if_neg b1, if_neg HV0.out, if_neg (by omega), hn]; rfl
      generalize a.cuts.getD n 0 = z at hcell hin HE
      have hkn : k = n + 1 := by omega
      have hq2 : ((k : Int) == (a.cuts.length : Int)) = true := by rw [hkl]; simp
      clear hkl hr hj b1 HT HB q2
      subst hkn
      have hw : IntKind.i64.wrap ((↑(n + 1) : Int) - 1) = (n : Int) := by rw [IntKind.wrap_i64]; omega
      have e5 := iDigits_any (z + 1) w3 (by omega) (by omega) (HTB.out w3 B3)
      have HN : Hid (a.cuts.length = n + 1) := hn
      have hnl : n < a.cuts.length := by omega
      clear hn
      go_wp2_with fail
      refine e5.mono ?_
      clear e5
      rintro e w4 ⟨rfl, hb4⟩
      go_wp2
      go_ret
      exact ⟨by rw [HE.out]; rfl, B3.trans (hb4.mono B3.size)⟩
    · have hlt : k < a.cuts.length := by omega
      have hcell := hj k hlt
      have hin := HCT.out HZ0.out k hlt
      have HE : Hid (cellText a (k : Int) = itB (a.cuts.getD k 0)) := by
        rw [HT.out, if_neg b1, if_neg HV0.out, if_pos (by omega)]; rfl
      generalize a.cuts.getD k 0 = z at hcell hin HE
      have hq2 : ((k : Int) == (a.cuts.length : Int)) = false := by rw [beq_eq_false_iff_ne]; omega
      clear hkl hr hj b1 HT HB q2
      have e5 := iDigits_any z w3 (by omega) (by omega) (HTB.out w3 B3)
      go_wp2_with fail
      refine e5.mono ?_
      clear e5
      rintro e w4 ⟨rfl, hb4⟩
      go_wp2
      go_ret
      exact ⟨by rw [HE.out]; rfl, B3.trans (hb4.mono B3.size)⟩
end Go.Proofs.YtfekcckckmhioaaGreatDoor
