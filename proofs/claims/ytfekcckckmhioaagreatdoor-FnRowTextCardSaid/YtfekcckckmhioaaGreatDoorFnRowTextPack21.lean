/- Texts of this claim, put together: part 21. -/
import Derived.Test.YtfekcckckmhioaaGreatDoorFnRowTextPack1
import Derived.Laws.BytesArg
import Derived.Lib.BufferRead
import Derived.Deep.RegionLaw
import Derived.Test.YtfekcckckmhioaaGreatDoorFnRowTextPack19
import Derived.Test.YtfekcckckmhioaaGreatDoorFnRowTextPack10
import Derived.Test.YtfekcckckmhioaaGreatDoorFnRowTextPack20
/- A list of bytes that a function is handed, and the text that it makes. -/
namespace Go.Proofs.YtfekcckckmhioaaGreatDoor
open Go.RowKit
set_option maxRecDepth 100000
/-- What a function knows of a list of bytes that it is handed: the text that it makes, now and later. -/
def BytesAt (w : World) (v : Value) (row : ByteArray) : Prop :=
  ∃ oa cap, v = .slice oa row.size cap ∧ ∀ W, Below w.heap.size w W → (convert 26 9 v).run Tryz.prog W = .ok (.string row) W
theorem BytesAt.later {w w' : World} {v : Value} {row : ByteArray} (h : BytesAt w v row) (hb : Below w.heap.size w w') : BytesAt w' v row := by
  obtain ⟨oa, cap, rfl, h1⟩ := h
  exact ⟨oa, cap, rfl, fun W hW => h1 W (hb.trans (hW.mono hb.size))⟩
theorem BytesAt.of_own {w : World} {base n : Nat} {v : Value} {zs : List Int} (h : w.ownsRow base 5 1 v n (zs.map (Value.int .u8))) (hn : zs.length = n) : BytesAt w v (strOfNums zs) := by
  subst hn
  rcases id h.2 with ⟨rfl, h0⟩ | ⟨g, cap, cur, rfl, _⟩
  · have hz : zs = [] := List.eq_nil_of_length_eq_zero h0
    subst hz
    exact ⟨none, 0, rfl, fun W _ => Lib.run_convert_nil_bytes W _ _ 5 0 Tryz.underlying26 Tryz.underlying5 Tryz.underlying9⟩
  · refine ⟨_, cap, by rw [strOfNums_size], fun W hW => ?_⟩
    refine run_convert_bytes_arg (P := Tryz.prog) W 26 5 Tryz.underlying26 Tryz.underlying5 g 0 zs.length cap zs rfl (fun i hi => ?_) _ Tryz.underlying9
    have hlt := (h.lt g rfl).2
    rw [Nat.zero_add, hW.cell (p := ⟨g, i, none⟩) hlt, h.cellAt i (by omega)]
    simp [hi]
end Go.Proofs.YtfekcckckmhioaaGreatDoor
/- A row read as an example, by the program. -/
namespace Go.Proofs.YtfekcckckmhioaaGreatDoor
open Go.RowKit
set_option maxRecDepth 100000
set_option linter.unusedSimpArgs false
theorem res_ex1 {fn : Func} {p q : Tmp} (h : fn.results = #[.cell p 30, .tmp q]) (tmps : Array Value) (w : World) (g : Nat) (c0 c1 v : Value)
    (hp : tmps.getD p undef = .pointer (some ⟨g, 0, none⟩)) (hq : tmps.getD q undef = v) (hg : Blk 30 w g #[c0, c1]) : (results fn tmps).run Tryz.prog w = .ok (.tuple #[.agg #[c0, c1], v]) w := by
  have hp' : tmps[p]?.getD undef = .pointer (some ⟨g, 0, none⟩) := by simpa using hp
  have hq' : tmps[q]?.getD undef = v := by simpa using hq
  simp [results, h, hp', hq', asAddr, run_loadVar_row w g _ 30 _ _ _ hg Tryz.underlying30 rfl ex_size]
theorem ownE_none (w : World) (b : Nat) : OwnE b w (.agg #[.slice none 0 0, .int .i64 0]) noEx := ⟨_, rfl, ⟨by simp [noEx], .inl ⟨rfl, rfl⟩⟩⟩
theorem own_row {w : World} {base e n : Nat} {v : Value} {xs : List Value} (h : w.ownsRow base e 1 v n xs) (k : Nat) (c : Array Value) (hp : k < base) : (w.setRow k c).ownsRow base e 1 v n xs := by
  refine ⟨h.1, ?_⟩
  rcases h.2 with h' | ⟨g, cap, cur, hv, hg, hc, r⟩
  · exact .inl h'
  · refine .inr ⟨g, cap, cur, hv, hg, ?_, r⟩
    rw [Go.setRow_other w k g c (by omega)]; exact hc
set_option maxHeartbeats 3200000 in
theorem rowRead_any (vs vr : Value) (s : SchemaD) (row : ByteArray) (u : TypeId) (ev : Value) (m : Int) (w : World) (hs : SchemaAt w vs s) (hr : BytesAt w vr row) (hn : okSch s) (hz : row.size ≤ 1099511627776) (hE : Env u ev m w) :
    Calls Tryz.prog 31 #[vs, vr] w fun e w' => ∃ v, e = .returned (.tuple #[v, errV (rowOf s row).2.1 (rowOf s row).2.2]) ∧ OwnE w.heap.size w' v (rowOf s row).1 ∧ Below w.heap.size w w' := by
  have mixed : Tryz.prog.follows .mixedOrders = true := by kernel_rfl
  have HS : Hid (∀ W, Below w.heap.size w W → SchemaAt W vs s) := fun W h => hs.later h
  have HR : Hid (∀ W, Below w.heap.size w W → BytesAt W vr row) := fun W h => hr.later h
  have HENV : Hid (∀ W, Below w.heap.size w W → Env u ev m W) := fun W h => hE.later h
  have HOK : Hid (okSch s) := hn
  obtain ⟨va, vc, rfl, ra, rc⟩ := hs
  obtain ⟨oa, ka, rfl, -, -⟩ := id ra
  obtain ⟨oc, kc, rfl, -, -⟩ := id rc
  obtain ⟨or, kr, rfl, -⟩ := hr
  have la := hn.attrs
  have lc := hn.classes.1
  clear ra rc hn hE
  obtain ⟨K1, K2, B0⟩ := blk_2 35 30 w #[.slice oa s.attrs.length ka, .slice oc s.classes.length kc] #[.slice none 0 0, .int .i64 0]
  have e1 := implSchemaOk_any _ s _ (HS.out _ B0) HOK.out
  cases hk : schemaOk s with
  | false =>
    have HF : Hid (rowOf s row = (noEx, 1, 0)) := rowOf_1 hk
    rw [hk] at e1
    clear hk
    go_enter Tryz.func31, Tryz.ntmps31
    go_wp2_with fail
    refine e1.mono ?_
    clear e1
    rintro r w1 ⟨rfl, hb1⟩
    have HT2 : Hid (Blk 30 w1 (w.heap.size + 1) #[.slice none 0 0, .int .i64 0]) := K2.below hb1
    have B1 := B0.trans (hb1.mono B0.size)
    clear K1 K2 hb1 B0
    go_wp2_with (with_reducible refine wp_ex_store rfl _ _ rfl ?_; refine ⟨_, rfl, _, _, _, _, rfl, _, _, HT2.out, ?_⟩)
    exact bodyPost_ret (res_ex1 Tryz.results31 _ _ _ _ _ _ rfl rfl (HT2.out.setRow _)) rfl ⟨_, by rw [HF.out]; rfl, by rw [HF.out]; exact ownE_none _ _, below_row B1 (by omega) _⟩
  | true =>
    have HSK : Hid (schemaOk s = true) := hk
    rw [hk] at e1
    clear hk
    go_enter Tryz.func31, Tryz.ntmps31
    go_wp2_with fail
    refine e1.mono ?_
    clear e1
    rintro r w1 ⟨rfl, hb1⟩
    have HT2 : Hid (Blk 30 w1 (w.heap.size + 1) #[.slice none 0 0, .int .i64 0]) := K2.below hb1
    have HT1 : Hid (Blk 35 w1 w.heap.size #[.slice oa s.attrs.length ka, .slice oc s.classes.length kc]) := K1.below hb1
    have B1 := B0.trans (hb1.mono B0.size)
    clear K1 K2 hb1 B0
    by_cases h80 : (row.size : Int) > 80
    · have HF : Hid (rowOf s row = (noEx, 2, 0)) := rowOf_2 HSK.out (by omega)
      go_wp2_with (with_reducible refine wp_ex_store rfl _ _ rfl ?_; refine ⟨_, rfl, _, _, _, _, rfl, _, _, HT2.out, ?_⟩)
      exact bodyPost_ret (res_ex1 Tryz.results31 _ _ _ _ _ _ rfl rfl (HT2.out.setRow _)) rfl ⟨_, by rw [HF.out]; rfl, by rw [HF.out]; exact ownE_none _ _, below_row B1 (by omega) _⟩
    have h80' : row.size ≤ 80 := by omega
    obtain ⟨or', kr', er, hcv⟩ := HR.out w1 B1
    cases er
    have cv := hcv w1 (Below.refl _ _)
    have cP := iParts_any row 124 u ev m w1 (by omega) (HENV.out w1 B1)
    have hpl := pieces_len 124 row
    have HPZ : Hid (∀ p ∈ pieces 124 row, p.size ≤ 80) := fun p hp => Nat.le_trans (pieces_small 124 row p hp) h80'
    have HPS : Hid (pieces 124 row = pieces 124 row) := rfl
    obtain ⟨hs2, hhs⟩ : ∃ x, x = pieces 124 row := ⟨_, rfl⟩
    have HHS : Hid (hs2 = pieces 124 row) := hhs
    rw [← hhs] at cP hpl HPZ
    clear hhs HPS hcv
    have H80 : Hid (row.size ≤ 80) := h80'
    clear h80'
    go_wp2_with fail
    refine cP.mono ?_
    clear cP cv
    rintro r w2 ⟨v2, rfl, ho2, hb2⟩
    have B2 := B1.trans (hb2.mono B1.size)
    replace HT2 : Hid (Blk 30 w2 (w.heap.size + 1) #[.slice none 0 0, .int .i64 0]) := HT2.out.below hb2
    replace HT1 : Hid (Blk 35 w2 w.heap.size #[.slice oa s.attrs.length ka, .slice oc s.classes.length kc]) := HT1.out.below hb2
    obtain ⟨oh, kh, rfl⟩ := own_slice ho2
    have HRH : Hid (RowS w2 (.slice oh hs2.length kh) hs2) := RowS.of_own ho2 rfl
    clear hb2 B1 ho2
    by_cases h2 : hs2.length = 2
    rotate_left
    · have HF : Hid (rowOf s row = (noEx, 3, 0)) := rowOf_3 HSK.out H80.out (by rw [← HHS.out]; exact h2)
      have hq : ((hs2.length : Int) != 2) = true := by rw [bne_iff_ne]; omega
      clear h2
      go_wp2_with (with_reducible refine wp_ex_store rfl _ _ rfl ?_; refine ⟨_, rfl, _, _, _, _, rfl, _, _, HT2.out, ?_⟩)
      exact bodyPost_ret (res_ex1 Tryz.results31 _ _ _ _ _ _ rfl rfl (HT2.out.setRow _)) rfl ⟨_, by rw [HF.out]; rfl, by rw [HF.out]; exact ownE_none _ _, below_row B2 (by omega) _⟩
    have H2 : Hid (hs2.length = 2) := h2
    obtain ⟨oh', kh', eh, hkh, hrh⟩ := HRH.out
    cases eh
    obtain ⟨gh, fh, rfl, hgh, hjh⟩ := hrh (by omega)
    have hc0 := hjh 0 (by omega)
    have hc1 := hjh 1 (by omega)
    rw [Nat.add_zero] at hc0
    rw [h2] at hkh HRH ⊢
    have hz0 := HPZ.out _ (tx_mem (ss := hs2) (j := 0) (by omega))
    have hz1 := HPZ.out _ (tx_mem (ss := hs2) (j := 1) (by omega))
    clear hrh hjh h2 hpl
    have bd : Below w2.heap.size w2 w2.drew := below_drewN (Below.refl _ _) 1
    have B3 := B2.trans (bd.mono B2.size)
    have k0 : w2.drew.cell? ⟨w.heap.size, 0, none⟩ = some (.slice oa s.attrs.length ka) := HT1.out.cell 0
    have q0 : w2.drew.cell? ⟨gh, fh, none⟩ = some (.string (tx hs2 0)) := hc0
    have cP := iParts_any (tx hs2 0) 44 u ev m w2.drew (by omega) (HENV.out _ B3)
    have hpl := pieces_len 44 (tx hs2 0)
    have HPZ0 : Hid (∀ p ∈ pieces 44 (tx hs2 0), p.size ≤ 1048576) := fun p hp => by have := pieces_small 44 _ p hp; omega
    obtain ⟨ps, hps⟩ : ∃ x, x = pieces 44 (tx hs2 0) := ⟨_, rfl⟩
    have HPS : Hid (pieces 44 (tx (pieces 124 row) 0) = ps) := by rw [← HHS.out]; exact hps.symm
    rw [← hps] at cP hpl HPZ0
    clear hps
    have HB3 : Hid (Below w.heap.size w w2.drew) := B3
    have HLT1 : Hid (w.heap.size < w2.drew.heap.size) := HT1.out.lt
    have HTT : Hid (Blk 35 w2.drew w.heap.size #[.slice oa s.attrs.length ka, .slice oc s.classes.length kc] ∧ Blk 30 w2.drew (w.heap.size + 1) #[.slice none 0 0, .int .i64 0] ∧ gh < w2.drew.heap.size ∧ w2.drew.cell? ⟨gh, fh + 1, none⟩ = some (.string (tx hs2 1))) := ⟨HT1.out, HT2.out, hgh, hc1⟩
    have HPL : Hid (ps.length ≤ 1000) := show ps.length ≤ 1000 by omega
    generalize tx hs2 0 = t0 at cP hpl q0 hc0 hz0
    generalize htx1 : tx hs2 1 = t1 at hz1 hc1 HTT
    have HTX1 : Hid (tx (pieces 124 row) 1 = t1) := by rw [← HHS.out]; exact htx1
    clear htx1 hc0 hc1 bd B2 HT1 HT2 B3 hpl hz0
    go_wp2
    go_region_law (first
      | (refine step_wp rfl ?_; unfold Oper.wp; go_simp; go_at_call 56; refine cP.mono ?_; clear cP; rintro r w3 ⟨v3, rfl, ho3, hb3⟩; obtain ⟨op, kp, rfl⟩ := own_slice ho3; have k3 : w3.cell? ⟨w.heap.size, 0, none⟩ = some (.slice oa s.attrs.length ka) := (hb3.cell (p := ⟨w.heap.size, 0, none⟩) HLT1.out).trans k0)
      | (refine step_wp rfl ?_; unfold Oper.wp; go_simp; go_at_call 57; have B4 := HB3.out.trans (hb3.mono HB3.out.size); refine (binsRead_any _ _ s.attrs ps u ev m w3 ((by obtain ⟨x, y, e', r1, -⟩ := HS.out w3 B4; cases e'; exact r1) : RowA w3 (.slice oa s.attrs.length ka) s.attrs) (RowS.of_own ho3 rfl) la (by have := HPL.out; omega) HOK.out.each HPZ0.out (HENV.out w3 B4)).mono ?_; rintro r w4 ⟨v4, l, c, n, rfl, hG, ho4, hb4⟩))
    all_goals
      clear k3
      have B4 := HB3.out.trans (hb3.mono HB3.out.size)
      have B5 := B4.trans (hb4.mono B4.size)
      obtain ⟨T1, T2, hghl, hcl1⟩ := HTT.out
      have S1 := (T1.below hb3).below hb4
      have HT2 : Hid (Blk 30 w4 (w.heap.size + 1) #[.slice none 0 0, .int .i64 0]) := (T2.below hb3).below hb4
      have q1 : w4.cell? ⟨gh, fh + 1, none⟩ = some (.string t1) := (hb4.cell (p := ⟨gh, fh + 1, none⟩) (Nat.lt_of_lt_of_le hghl hb3.size)).trans ((hb3.cell (p := ⟨gh, fh + 1, none⟩) hghl).trans hcl1)
      have k1 : w4.cell? ⟨w.heap.size, 1, none⟩ = some (.slice oc s.classes.length kc) := S1.cell 1
      have hs3 : w.heap.size + 2 ≤ w3.heap.size := by have := T2.lt; have := hb3.size; omega
      obtain ⟨o4, k4, rfl⟩ := own_slice ho4
      have HO4 : Hid (w4.ownsRow (w.heap.size + 2) 3 1 (.slice o4 l.length k4) l.length (l.map (Value.int .i64))) := own_base ho4 hs3
      have HB5 : Hid (Below w.heap.size w w4) := B5
      have H3 : Hid ((pieces 124 row).length = 2) := by rw [← HHS.out]; exact H2.out
      clear T1 T2 hcl1 hb3 hb4 ho3 ho4 B4 S1 k0 q0 hs3
      rcases hG with ⟨hg1, rfl, rfl, rfl⟩ | ⟨hg1, ⟨k, hg2, hg3, hg4, rfl⟩, rfl, rfl⟩ | ⟨hg1, hg2, rfl, rfl⟩
      · have HF : Hid (rowOf s row = (noEx, 4, 0)) := rowOf_4 HSK.out H80.out H3.out (by rw [HPS.out]; exact hg1)
        rw [show errV 4 0 = Value.iface 91 (.agg #[]) from rfl]
        clear hg1
        go_wp2_with (with_reducible refine wp_ex_store rfl _ _ rfl ?_; refine ⟨_, rfl, _, _, _, _, rfl, _, _, HT2.out, ?_⟩)
        exact bodyPost_ret (res_ex1 Tryz.results31 _ _ _ _ _ _ rfl rfl (HT2.out.setRow _)) rfl ⟨_, by rw [HF.out]; rfl, by rw [HF.out]; exact ownE_none _ _, below_row HB5.out (by omega) _⟩
      · have HF : Hid (rowOf s row = (noEx, 5, (k : Int))) := rowOf_5 HSK.out H80.out H3.out HPS.out hg1 hg2 hg3 hg4
        rw [show errV 5 (k : Int) = Value.iface 93 (.agg #[.int .i64 (k : Int)]) from rfl]
        clear hg1 hg2 hg3 hg4
        go_wp2_with (with_reducible refine wp_ex_store rfl _ _ rfl ?_; refine ⟨_, rfl, _, _, _, _, rfl, _, _, HT2.out, ?_⟩)
        exact bodyPost_ret (res_ex1 Tryz.results31 _ _ _ _ _ _ rfl rfl (HT2.out.setRow _)) rfl ⟨_, by rw [HF.out]; rfl, by rw [HF.out]; exact ownE_none _ _, below_row HB5.out (by omega) _⟩
      · rw [show errV 0 0 = Value.nilIface from rfl]
        obtain ⟨va', vc', e', -, rC⟩ := HS.out w4 HB5.out
        cases e'
        have cC := fun d os => Calls.regrown_of (choiceRead_any (.slice oc s.classes.length kc) s.classes t1 (Go.Sort.grow (redrawn w4 d) os) (rC.later (below_regrown w4 d os)) lc)
        have d1 := fun d os => cell_regrown k1 d os
        have d2 := fun d os => cell_regrown q1 d os
        have HBR : Hid (∀ d os, Below w.heap.size w (Go.Sort.grow (redrawn w4 d) os) ∧ Blk 30 (Go.Sort.grow (redrawn w4 d) os) (w.heap.size + 1) #[.slice none 0 0, .int .i64 0] ∧ (Go.Sort.grow (redrawn w4 d) os).ownsRow (w.heap.size + 2) 3 1 (.slice o4 l.length k4) l.length (l.map (Value.int .i64))) := fun d os => ⟨HB5.out.trans ((below_regrown w4 d os).mono HB5.out.size), HT2.out.below (below_regrown w4 d os), own_below HO4.out (below_regrown w4 d os)⟩
        have hpb := placeT_bounds s.classes t1
        by_cases hcl : t1 = askB ∨ 0 ≤ placeT s.classes t1
        · have HF : Hid (rowOf s row = (⟨l, (if t1 = askB then -1 else placeT s.classes t1)⟩, 0, 0)) := by
            have hor : 0 ≤ placeT s.classes (tx (pieces 124 row) 1) ∨ tx (pieces 124 row) 1 = askB := by rw [HTX1.out]; exact hcl.symm
            have h1 := rowOf_0 HSK.out H80.out H3.out HPS.out hg1 hg2 hor
            rw [HTX1.out] at h1
            rw [h1]
            by_cases ha : t1 = askB
            · rw [if_pos ha, ha, place_ask (sch_parts HSK.out).2.2.1]; rfl
            · rw [if_neg ha]; rfl
          rw [decide_eq_true hcl] at cC
          generalize (if t1 = askB then -1 else placeT s.classes t1) = X at cC HF
          clear hcl hg1 hg2 rC q1 k1 hpb
          go_wp2
          refine wp_region_quiet_below mixed (by kernel_rfl) ?_
          repeat (go_big_quiet_step (with_reducible exact cC _ _))
          refine wpQuiet_nil ?_
          intro _ hw'
          obtain ⟨⟨dq, osq⟩, hw''⟩ := hw'
          subst hw''
          clear cC d1 d2
          have HX := HBR.out dq osq
          clear HBR
          generalize Go.Sort.grow (redrawn w4 dq) osq = w5 at HX
          have HX' : Hid (Below w.heap.size w w5 ∧ Blk 30 w5 (w.heap.size + 1) #[.slice none 0 0, .int .i64 0] ∧ w5.ownsRow (w.heap.size + 2) 3 1 (.slice o4 l.length k4) l.length (l.map (Value.int .i64))) := HX
          clear HX
          go_wp2_with (with_reducible refine wp_ex_store rfl _ _ rfl ?_; refine ⟨_, rfl, _, _, _, _, rfl, _, _, HX'.out.2.1, ?_⟩)
          exact bodyPost_ret (res_ex1 Tryz.results31 _ _ _ _ _ _ rfl rfl (HX'.out.2.1.setRow _)) rfl ⟨_, by rw [HF.out]; rfl, by rw [HF.out]; exact ⟨_, rfl, own_base (own_row HX'.out.2.2 _ _ (by omega)) (by omega)⟩, below_row HX'.out.1 (by omega) _⟩
        · have HF : Hid (rowOf s row = (noEx, 6, 0)) := rowOf_6 HSK.out H80.out H3.out HPS.out hg1 hg2 (by rw [HTX1.out]; exact fun h => hcl h.symm)
          rw [decide_eq_false hcl] at cC
          generalize (if t1 = askB then -1 else placeT s.classes t1) = X at cC
          clear hcl hg1 hg2 rC q1 k1 hpb
          go_wp2
          refine wp_region_quiet_below mixed (by kernel_rfl) ?_
          repeat (go_big_quiet_step (with_reducible exact cC _ _))
          refine wpQuiet_nil ?_
          intro _ hw'
          obtain ⟨⟨dq, osq⟩, hw''⟩ := hw'
          subst hw''
          clear cC d1 d2
          have HX := HBR.out dq osq
          clear HBR
          generalize Go.Sort.grow (redrawn w4 dq) osq = w5 at HX
          have HX' : Hid (Below w.heap.size w w5 ∧ Blk 30 w5 (w.heap.size + 1) #[.slice none 0 0, .int .i64 0] ∧ w5.ownsRow (w.heap.size + 2) 3 1 (.slice o4 l.length k4) l.length (l.map (Value.int .i64))) := HX
          clear HX
          go_wp2_with (with_reducible refine wp_ex_store rfl _ _ rfl ?_; refine ⟨_, rfl, _, _, _, _, rfl, _, _, HX'.out.2.1, ?_⟩)
          exact bodyPost_ret (res_ex1 Tryz.results31 _ _ _ _ _ _ rfl rfl (HX'.out.2.1.setRow _)) rfl ⟨_, by rw [HF.out]; rfl, by rw [HF.out]; exact ownE_none _ _, below_row HX'.out.1 (by omega) _⟩
end Go.Proofs.YtfekcckckmhioaaGreatDoor
/- An example and two numbers handed back. -/
namespace Go.Proofs.YtfekcckckmhioaaGreatDoor
open Go.RowKit
set_option maxRecDepth 100000
theorem res_ex2 {fn : Func} {p q r : Tmp} (h : fn.results = #[.cell p 30, .tmp q, .tmp r]) (tmps : Array Value) (w : World) (g : Nat) (c0 c1 v z : Value)
    (hp : tmps.getD p undef = .pointer (some ⟨g, 0, none⟩)) (hq : tmps.getD q undef = v) (hr : tmps.getD r undef = z) (hg : Blk 30 w g #[c0, c1]) : (results fn tmps).run Tryz.prog w = .ok (.tuple #[.agg #[c0, c1], v, z]) w := by
  have hp' : tmps[p]?.getD undef = .pointer (some ⟨g, 0, none⟩) := by simpa using hp
  have hq' : tmps[q]?.getD undef = v := by simpa using hq
  have hr' : tmps[r]?.getD undef = z := by simpa using hr
  simp [results, h, hp', hq', hr', asAddr, run_loadVar_row w g _ 30 _ _ _ hg Tryz.underlying30 rfl ex_size]
end Go.Proofs.YtfekcckckmhioaaGreatDoor
/- A row read as an example, its code and its place, by the program. -/
namespace Go.Proofs.YtfekcckckmhioaaGreatDoor
open Go.RowKit
set_option maxRecDepth 100000
set_option linter.unusedSimpArgs false
theorem row_code (s : SchemaD) (row : ByteArray) : 0 ≤ (rowOf s row).2.1 ∧ (rowOf s row).2.1 ≤ 6 ∧ ((rowOf s row).2.1 ≠ 5 → (rowOf s row).2.2 = 0) := by
  rcases row_total s row with ⟨h1, -, h3⟩ | ⟨h1, h2, -, h4, h5, -⟩
  · exact ⟨by omega, by omega, fun _ => h3⟩
  · refine ⟨by omega, h2, fun h => ?_⟩
    rcases h5 with h5 | ⟨h5, -⟩
    · exact h5
    · exact absurd h5 h
set_option maxHeartbeats 1600000 in
theorem implRowOf_any (vs vr : Value) (s : SchemaD) (row : ByteArray) (u : TypeId) (ev : Value) (m : Int) (w : World) (hs : SchemaAt w vs s) (hr : BytesAt w vr row) (hn : okSch s) (hz : row.size ≤ 1099511627776) (hE : Env u ev m w) (hg : EtAt w) :
    Calls Tryz.prog 9 #[vs, vr] w fun e w' => ∃ v, e = .returned (.tuple #[v, .int .i64 (rowOf s row).2.1, .int .i64 (rowOf s row).2.2]) ∧ OwnE w.heap.size w' v (rowOf s row).1 ∧ Below w.heap.size w w' := by
  have HG : Hid (∀ W, Below w.heap.size w W → EtAt W) := fun W h => hg.later h
  obtain ⟨hc0, hc1, hc2⟩ := row_code s row
  obtain ⟨va, vc, rfl, ra, rc⟩ := id hs
  obtain ⟨oa, ka, rfl, -, -⟩ := id ra
  obtain ⟨oc, kc, rfl, -, -⟩ := id rc
  obtain ⟨or, kr, rfl, -⟩ := id hr
  clear ra rc hg
  obtain ⟨K1, K2, B0⟩ := blk_2 35 30 w #[.slice oa s.attrs.length ka, .slice oc s.classes.length kc] #[.slice none 0 0, .int .i64 0]
  have e1 := rowRead_any _ _ s row u ev m _ (hs.later B0) (hr.later B0) hn hz (hE.later B0)
  have HC : Hid ((rowOf s row).2.1 ≠ 5 → (rowOf s row).2.2 = 0) := hc2
  generalize (rowOf s row).1 = X at e1
  generalize (rowOf s row).2.1 = c at e1 hc0 hc1 HC
  generalize (rowOf s row).2.2 = n at e1 HC
  clear hs hr hn hE hc2 K1
  go_enter Tryz.func9, Tryz.ntmps9
  go_wp2_with fail
  refine e1.mono ?_
  clear e1
  rintro r w1 ⟨v1, rfl, ⟨vb, rfl, ho1⟩, hb1⟩
  obtain ⟨ob, kb, rfl⟩ := own_slice ho1
  have B1 := B0.trans (hb1.mono B0.size)
  have K2' := K2.below hb1
  obtain ⟨K3, B2⟩ := blk_1 30 w1 #[.slice ob X.bins.length kb, .int .i64 X.cls]
  have B3 := B1.trans (B2.mono B1.size)
  have hs1 : w.heap.size + 2 ≤ w1.heap.size := by have := K2'.lt; omega
  have ho1' := own_base ho1 (b' := w.heap.size + 2) (by simp)
  have HO : Hid (w1.ownsRow (w.heap.size + 2) 3 1 (.slice ob X.bins.length kb) X.bins.length (X.bins.map (Value.int .i64))) := ho1'
  have c1 := rowCode_any c n (w1.alloc (.cells #[.slice ob X.bins.length kb, .int .i64 X.cls] 30)) (HG.out _ B3) hc0 hc1 HC.out
  have HK : Hid (Blk 30 (w1.alloc (.cells #[.slice ob X.bins.length kb, .int .i64 X.cls] 30)) (w.heap.size + 1) #[.slice none 0 0, .int .i64 0] ∧ Blk 30 (w1.alloc (.cells #[.slice ob X.bins.length kb, .int .i64 X.cls] 30)) w1.heap.size #[.slice ob X.bins.length kb, .int .i64 X.cls] ∧ (w1.alloc (.cells #[.slice ob X.bins.length kb, .int .i64 X.cls] 30)).ownsRow (w.heap.size + 2) 3 1 (.slice ob X.bins.length kb) X.bins.length (X.bins.map (Value.int .i64))) := ⟨K2'.below B2, K3, own_below ho1' B2⟩
  have HB3 : Hid (Below w.heap.size w (w1.alloc (.cells #[.slice ob X.bins.length kb, .int .i64 X.cls] 30))) := B3
  clear K2 K2' K3 B0 B1 B2 B3 hb1 ho1 ho1'
  generalize errV c n = E at c1
  go_wp2_with fail
  refine c1.mono ?_
  clear c1
  rintro r w2 ⟨rfl, hb2⟩
  have HX : Hid (Blk 30 w2 (w.heap.size + 1) #[.slice none 0 0, .int .i64 0] ∧ Blk 30 w2 w1.heap.size #[.slice ob X.bins.length kb, .int .i64 X.cls] ∧ w2.ownsRow (w.heap.size + 2) 3 1 (.slice ob X.bins.length kb) X.bins.length (X.bins.map (Value.int .i64)) ∧ Below w.heap.size w w2) := ⟨HK.out.1.below hb2, HK.out.2.1.below hb2, own_below HK.out.2.2 hb2, HB3.out.trans (hb2.mono HB3.out.size)⟩
  clear hb2
  go_wp2_with (first | (with_reducible refine wp_ex_load rfl _ rfl ?_; refine ⟨_, rfl, _, _, HX.out.2.1, ?_⟩) | (with_reducible refine wp_ex_store rfl _ _ rfl ?_; refine ⟨_, rfl, _, _, _, _, rfl, _, _, HX.out.1, ?_⟩))
  exact bodyPost_ret (res_ex2 Tryz.results9 _ _ _ _ _ _ _ rfl rfl rfl (HX.out.1.setRow _)) rfl ⟨_, rfl, ⟨_, rfl, own_base (own_row HX.out.2.2.1 _ _ (by omega)) (by omega)⟩, below_row HX.out.2.2.2 (by omega) _⟩
end Go.Proofs.YtfekcckckmhioaaGreatDoor
