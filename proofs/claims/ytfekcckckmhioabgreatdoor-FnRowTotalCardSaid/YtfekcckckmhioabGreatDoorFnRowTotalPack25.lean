/- Texts of this claim, put together: part 25. -/
import Derived.Test.YtfekcckckmhioabGreatDoorFnRowTotalPack9
import Derived.Test.YtfekcckckmhioabGreatDoorFnRowTotalPack24
import Derived.Deep.RegionLaw
import Derived.Test.YtfekcckckmhioabGreatDoorFnRowTotalPack4
import Derived.Test.YtfekcckckmhioabGreatDoorFnRowTotalPack13
import Derived.Lib.QuietBelow
import Derived.BigQuiet
import Derived.Test.YtfekcckckmhioabGreatDoorFnRowTotalPack15
import Derived.Test.YtfekcckckmhioabGreatDoorFnRowTotalPack23
import Derived.Test.YtfekcckckmhioabGreatDoorFnRowTotalPack12
import Derived.BigGuardPart
/- Texts with another one between, by the library. -/
namespace Go.Proofs.YtfekcckckmhioabGreatDoor
open Go.RowKit
set_option maxRecDepth 100000

theorem implJoin_any (v : Value) (ss : List ByteArray) (sep : ByteArray) (w : World) (h : RowS w v ss) (hn : ss.length ≤ 1048576) (hz : (joinT ss sep).size ≤ 1000000) :
    Calls Tryz.prog 19 #[v, .string sep] w fun e w' => e = .returned (.string (joinT ss sep)) ∧ Below w.heap.size w w' := by
  obtain ⟨oa, cap, rfl, hc, hr⟩ := h
  by_cases h0 : 0 < ss.length
  · obtain ⟨g, o, rfl, hg, hj⟩ := hr h0
    refine Tryz.strings_Join g o cap ss sep w (fun j x hx => ?_) hg (by omega) hc ?_
    · have hlt : j < ss.length := by
        rcases Nat.lt_or_ge j ss.length with h1 | h1
        · exact h1
        · rw [List.getElem?_eq_none h1] at hx; cases hx
      rw [hj j hlt, tx_eq hlt]
      rw [List.getElem?_eq_getElem hlt] at hx
      injection hx with hx
      rw [hx]
    · have h1 : (joinT ss sep).size = (Lib.join (ss.map (·.data.toList)) sep.data.toList).length := by simp [joinT, ByteArray.size]
      omega
  · obtain rfl : ss = [] := List.eq_nil_of_length_eq_zero (by omega)
    exact (Tryz.strings_Join_none oa cap sep w).mono fun e w' ⟨h1, h2⟩ => ⟨h1, h2 ▸ Below.refl _ _⟩
end Go.Proofs.YtfekcckckmhioabGreatDoor
/- The text of an example, by the program. -/
namespace Go.Proofs.YtfekcckckmhioabGreatDoor
open Go.RowKit
set_option maxRecDepth 100000
set_option linter.unusedSimpArgs false
theorem sch_words {s : SchemaD} (h : schemaOk s = true) : wordsOk s.classes = true := by
  unfold schemaOk choices at h
  rw [Bool.and_eq_true, Bool.and_eq_true, Bool.and_eq_true] at h
  exact h.2.1.2
set_option maxHeartbeats 3200000 in
theorem implExText_any (vs ve : Value) (s : SchemaD) (e : ExD) (w : World) (hs : SchemaAt w vs s) (he : ExAt w ve e) (hn : okSch s) (hb : e.bins.length ≤ 1099511627776) (hT : Tab w) :
    Calls Tryz.prog 8 #[vs, ve] w fun r w' => r = .returned (.string (exText s e)) ∧ Below w.heap.size w w' := by
  obtain ⟨i0, hi, hi0, hi1, hi2⟩ := info_parts strInfo
  have HS : Hid (∀ W, Below w.heap.size w W → SchemaAt W vs s) := fun W h => hs.later h
  have HEX : Hid (∀ W, Below w.heap.size w W → ExAt W ve e) := fun W h => he.later h
  have HOK : Hid (okSch s) := hn
  have HTB : Hid (∀ W, Below w.heap.size w W → Tab W) := fun W h => hT.later h
  have mixed : Tryz.prog.follows .mixedOrders = true := by kernel_rfl
  clear hT
  obtain ⟨va, vc, rfl, ra, rc⟩ := hs
  obtain ⟨oa, ka, rfl, -, -⟩ := id ra
  obtain ⟨oc, kc, rfl, -, -⟩ := id rc
  obtain ⟨vb, rfl, rb⟩ := he
  obtain ⟨ob, kb, rfl, -, -⟩ := id rb
  have la := hn.attrs
  have lc := hn.classes.1
  clear ra rc rb hn
  have B0 : Below w.heap.size w ((w.alloc (.cells #[.slice oa s.attrs.length ka, .slice oc s.classes.length kc] 27)).alloc (.cells #[.slice ob e.bins.length kb, .int .i64 e.cls] 32)) := ((Below.refl _ _).alloc (Nat.le_refl _) _).alloc (by simp) _
  have K1 := (Blk.new 27 w #[.slice oa s.attrs.length ka, .slice oc s.classes.length kc]).alloc (.cells #[.slice ob e.bins.length kb, .int .i64 e.cls] 32)
  have K2 : Blk 32 ((w.alloc (.cells #[.slice oa s.attrs.length ka, .slice oc s.classes.length kc] 27)).alloc (.cells #[.slice ob e.bins.length kb, .int .i64 e.cls] 32)) (w.heap.size + 1) #[.slice ob e.bins.length kb, .int .i64 e.cls] := by
    have := Blk.new 32 (w.alloc (.cells #[.slice oa s.attrs.length ka, .slice oc s.classes.length kc] 27)) #[.slice ob e.bins.length kb, .int .i64 e.cls]
    rwa [show (w.alloc (.cells #[.slice oa s.attrs.length ka, .slice oc s.classes.length kc] 27)).heap.size = w.heap.size + 1 by simp] at this
  have e1 := implExOk_any _ _ s e _ (HS.out _ B0) (HEX.out _ B0) HOK.out hb
  cases hk : exOk s e with
  | false =>
    have HE : Hid (exText s e = ⟨#[]⟩) := by unfold exText; rw [hk]; rfl
    rw [hk] at e1
    clear hk K1 K2
    go_enter Tryz.func8, Tryz.ntmps8
    go_wp2_with fail
    refine e1.mono ?_
    clear e1
    rintro r w1 ⟨rfl, hb1⟩
    go_wp2
    go_ret
    exact ⟨by rw [HE.out]; rfl, B0.trans (hb1.mono (by simp; omega))⟩
  | true =>
    have HX : Hid (exText s e = joinT (cellsT s e e.bins.length) ⟨#[44]⟩ ++ ⟨#[124]⟩ ++ classText s e.cls) := by unfold exText; rw [hk]; rfl
    have HP : Hid (schemaOk s = true ∧ e.bins.length = s.attrs.length ∧ (-1 ≤ e.cls ∧ e.cls ≤ (s.classes.length : Int) - 1) ∧ binsRight s e = true) := ex_parts hk
    rw [hk] at e1
    clear hk
    go_enter Tryz.func8, Tryz.ntmps8
    go_wp2_with fail
    refine e1.mono ?_
    clear e1
    rintro r w1 ⟨rfl, hb1⟩
    have hs1 := hb1.size
    simp only [World.size_alloc] at hs1
    have B1 := B0.trans (hb1.mono (by simp; omega))
    replace K1 := K1.below hb1
    replace K2 := K2.below hb1
    clear hb1 B0
    have HK : Hid (∀ W, Below w1.heap.size w1 W → Blk 27 W w.heap.size #[.slice oa s.attrs.length ka, .slice oc s.classes.length kc] ∧ Blk 32 W (w.heap.size + 1) #[.slice ob e.bins.length kb, .int .i64 e.cls]) := fun W h => ⟨K1.below h, K2.below h⟩
    have p0 : w1.cell? ⟨w.heap.size, 0, none⟩ = some (.slice oa s.attrs.length ka) := K1.cell 0
    clear K1 K2
    go_wp2
    go_loopw [5, 6, 15] (fun v _ i wr => ∃ k : Nat, i = .int .i64 k ∧ k ≤ s.attrs.length ∧ wr.ownsRow w1.heap.size 9 1 v k ((cellsT s e k).map Value.string) ∧ Below w1.heap.size w1 wr) (fun _ _ i _ => s.attrs.length - (intOf i).toNat)
    case atStart => exact ⟨0, rfl, by omega, ⟨by simp [cellsT], .inl ⟨rfl, rfl⟩⟩, Below.refl _ _⟩
    case round =>
      obtain ⟨k, rfl, hk, own, hbr⟩ := hrel
      have hbw := B1.trans (hbr.mono B1.size)
      obtain ⟨A1, A2⟩ := HK.out wr hbr
      have k1 : wr.cell? ⟨w.heap.size, 1, none⟩ = some (.slice oc s.classes.length kc) := A1.cell 1
      have j0 : wr.cell? ⟨w.heap.size + 1, 0, none⟩ = some (.slice ob e.bins.length kb) := A2.cell 0
      have j1 : wr.cell? ⟨w.heap.size + 1, 1, none⟩ = some (.int .i64 e.cls) := A2.cell 1
      clear p0
      by_cases hkA : k < s.attrs.length
      · obtain ⟨va', vc', e', rA, -⟩ := HS.out wr hbw
        cases e'
        obtain ⟨oa', ka', e', -, hrA⟩ := rA
        cases e'
        have hlt : k < e.bins.length := by have := HP.out.2.1; omega
        obtain ⟨ga, fa, rfl, hga, hjA⟩ := hrA (by omega)
        obtain ⟨x1, x2, c0, c1, c2, r1, r2⟩ := hjA k hkA
        obtain ⟨y1, z1, rfl, -, -⟩ := id r1
        obtain ⟨y2, z2, rfl, -, -⟩ := id r2
        obtain ⟨vb', e', rB⟩ := HEX.out wr hbw
        cases e'
        obtain ⟨ob', kb', e', -, hrB⟩ := rB
        cases e'
        obtain ⟨gb, fb, rfl, hgb, hjB⟩ := hrB (by omega)
        have b0 := hjB k hlt
        obtain ⟨KA, BA⟩ := blk_1 49 wr #[.string (ad s.attrs k).name, .slice y1 (ad s.attrs k).cuts.length z1, .slice y2 (ad s.attrs k).vals.length z2]
        obtain ⟨W, hW⟩ : ∃ W, W = wr.alloc (.cells #[.string (ad s.attrs k).name, .slice y1 (ad s.attrs k).cuts.length z1, .slice y2 (ad s.attrs k).vals.length z2] 49) := ⟨_, rfl⟩
        rw [← hW] at KA BA
        have bd : Below W.heap.size W W.drew := below_drewN (Below.refl _ _) 1
        have hbWw := hbw.trans (BA.mono hbw.size)
        have e1 := implCellText_any (.agg #[.string (ad s.attrs k).name, .slice y1 (ad s.attrs k).cuts.length z1, .slice y2 (ad s.attrs k).vals.length z2]) (ad s.attrs k) (e.bins.getD k 0) W.drew ⟨_, _, rfl, (r1.later BA).later bd, (r2.later BA).later bd⟩ (HOK.out.each _ (ad_mem hkA)) (HTB.out _ (hbWw.trans (bd.mono hbWw.size)))
        have HCT : Hid ((cellsT s e (k + 1)).map Value.string = (cellsT s e k).map Value.string ++ [.string (cellText (ad s.attrs k) (e.bins.getD k 0))]) := by rw [cellsT_succ, List.map_append]; rfl
        generalize cellText (ad s.attrs k) (e.bins.getD k 0) = T at e1 HCT
        generalize e.bins.getD k 0 = zb at e1 b0
        have od : W.drew.ownsRow w1.heap.size 9 1 _ k ((cellsT s e k).map Value.string) := own_below (own_below own BA) bd
        obtain ⟨ov, cv, rfl⟩ := own_slice own
        have hvo : ∀ j, (Value.slice ov k cv).ownBlock = some j → w1.heap.size ≤ j := fun j hj => (own.lt j hj).1
        have d0 : W.drew.cell? ⟨wr.heap.size, 0, none⟩ = some (.string (ad s.attrs k).name) := KA.cell 0
        have d1 : W.drew.cell? ⟨wr.heap.size, 1, none⟩ = some (.slice y1 (ad s.attrs k).cuts.length z1) := KA.cell 1
        have d2 : W.drew.cell? ⟨wr.heap.size, 2, none⟩ = some (.slice y2 (ad s.attrs k).vals.length z2) := KA.cell 2
        have d3 : W.drew.cell? ⟨gb, fb + k, none⟩ = some (.int .i64 zb) := (BA.cell (p := ⟨gb, fb + k, none⟩) hgb).trans b0
        have d5 : W.drew.cell? ⟨w.heap.size + 1, 0, none⟩ = some (.slice (some ⟨gb, fb, none⟩) e.bins.length kb) := (BA.cell (p := ⟨w.heap.size + 1, 0, none⟩) A2.lt).trans j0
        have hbd : Below w1.heap.size w1 W.drew := below_drewN (hbr.trans (BA.mono hbr.size)) 1
        have hsr := hbr.size
        have HBD : Hid (Below w1.heap.size w1 W.drew) := hbd
        have hsW : w1.heap.size ≤ W.drew.heap.size := hbd.size
        clear own hjA hjB hrA hrB r1 r2 hbr hbw hgb A1 A2 k1 j1 j0 b0 KA BA bd hbWw hbd
        go_wp2
        rw [← hW]
        clear hW c0 c1 c2
        go_region_law (first
          | (refine step_wp rfl ?_; unfold Oper.wp; go_simp; go_at_call 18; refine e1.mono ?_; clear e1; rintro r w2 ⟨rfl, hb2⟩; have o2 := own_below od hb2; have hs2 : w1.heap.size ≤ w2.heap.size := Nat.le_trans hsW hb2.size)
          | (refine step_wp rfl (wp_append_own _ _ _ 25 rfl w1.heap.size 9 i0 (.string ⟨#[]⟩) 1 16 Tryz.underlying25 hi hi0 hi1 hi2 rfl (by decide) _ _ _ rfl (o2.alloc (.cells #[.string T] 9)) ⟨w2.heap.size, 0, none⟩ 1 1 [.string T] rfl rfl (newc _ _ _) (by simp [Value.oneCell']) (by unfold maxLen; omega) (by omega) (by simp; omega) ?_); intro v' w3 ho hg3 hnil))
        all_goals
          have b3 : Below w1.heap.size w1 w3 := ((HBD.out.trans (hb2.mono HBD.out.size)).alloc (by omega) (.cells #[.string T] 9)).grown hg3 (by simp; omega) hvo
          clear hg3 hnil hb2 o2 hvo od d0 d1 d2 d3 d5
          go_wp2
          go_roundw
          case rel => exact ⟨k + 1, by go_num, by omega, by rw [HCT.out]; exact ho, b3⟩
          case measure => simp [intOf]; omega
      · obtain rfl : k = s.attrs.length := by omega
        have HLN : Hid (e.bins.length = s.attrs.length) := HP.out.2.1
        have h5 : s.attrs.length ≤ 5 := by have := (sch_parts5 HP.out.1).1; omega
        have hrow := RowS.of_own own (cellsT_len s e _)
        obtain ⟨oo, co, rfl⟩ := own_slice own
        have hjz : (joinT (cellsT s e s.attrs.length) ⟨#[44]⟩).size ≤ 500000 := by
          have := joinT_size (cellsT s e s.attrs.length) ⟨#[44]⟩ 8 (fun t ht => by
            obtain ⟨i, _, rfl⟩ := List.mem_map.1 ht
            exact cellText_size _ _)
          rw [cellsT_len] at this
          have h1 : (⟨#[44]⟩ : ByteArray).size = 1 := rfl
          rw [h1] at this
          omega
        have hcls := HP.out.2.2.1
        have hwz : ∀ t ∈ s.classes, t.size ≤ 8 := fun t ht => (word_size (words_all (sch_words HP.out.1) t ht)).2
        obtain ⟨va', vc', e', -, rC⟩ := HS.out wr hbw
        cases e'
        have hCz : (choiceT s.classes e.cls).size ≤ 8 := by
          unfold choiceT
          split
          · decide
          · exact hwz _ (tx_mem (by omega))
        have HX2 : Hid (exText s e = joinT (cellsT s e s.attrs.length) ⟨#[44]⟩ ++ ⟨#[124]⟩ ++ choiceT s.classes e.cls) := by
          rw [HX.out, HLN.out]
          have : classText s e.cls = choiceT s.classes e.cls := by
            unfold classText choiceT
            by_cases h0 : e.cls = -1
            · rw [if_neg (by omega), if_pos h0]
            · rw [if_pos (by omega), if_neg h0]
          rw [this]; rfl
        have cJ := fun d os => Calls.regrown_of (implJoin_any (.slice oo s.attrs.length co) (cellsT s e s.attrs.length) ⟨#[44]⟩ (Go.Sort.grow (redrawn wr d) os) (hrow.later (below_regrown wr d os)) (by rw [cellsT_len]; omega) (by omega))
        have cC := fun d os => Calls.regrown_of (choiceText_any (.slice oc s.classes.length kc) s.classes e.cls (Go.Sort.grow (redrawn wr d) os) (rC.later (below_regrown wr d os)) hcls.1 (by omega) lc hwz)
        have d1 := fun d os => cell_regrown k1 d os
        have d2 := fun d os => cell_regrown j1 d os
        have HBR : Hid (∀ d os, Below w.heap.size w (Go.Sort.grow (redrawn wr d) os)) := fun d os => hbw.trans ((below_regrown wr d os).mono hbw.size)
        generalize joinT (cellsT s e s.attrs.length) ⟨#[44]⟩ = J at cJ hjz HX2
        generalize choiceT s.classes e.cls = C at cC hCz HX2
        clear hbr hbw own hrow HX A1 A2 hcls hwz rC k1 j0 j1
        go_wp2
        refine wp_region_quiet_below mixed (by kernel_rfl) ?_
        repeat (go_big_quiet_step (first | with_reducible exact cJ _ _ | with_reducible exact cC _ _))
        refine wpQuiet_nil ?_
        intro _ hw'
        obtain ⟨⟨dq, osq⟩, hw''⟩ := hw'
        subst hw''
        clear cJ cC d1 d2
        go_wp2
        go_ret
        exact ⟨by rw [HX2.out]; rfl, HBR.out _ _⟩
end Go.Proofs.YtfekcckckmhioabGreatDoor
/- For every code the law FnRowTotal returns true (the walk). -/
namespace Go.Proofs.YtfekcckckmhioabGreatDoor
open Go.RowKit
set_option maxRecDepth 100000
set_option linter.unusedSimpArgs false
theorem Env.tab7 {u : TypeId} {ev : Value} {m : Int} {w : World} (h : Env u ev m w) : Tab w := ⟨h.1.1, h.1.2.2.2.2.1⟩
set_option maxHeartbeats 6400000 in
theorem rowTotal_in (a0 : Option Addr) (len0 cap0 : Nat) (z0 : List Int) (w : World) (h0 : IsRow .u8 w a0 len0 cap0 z0) (u : TypeId) (ev : Value) (m : Int) (hE : Env u ev m w) (hg : EtAt w) (hlen : len0 ≤ 1048576) :
    Calls Tryz.prog 3 #[.slice a0 len0 cap0] w fun e w' => e = .returned (.bool true) ∧ Below w.heap.size w w' := by
  have c1 := big_any a0 len0 cap0 w (by omega)
  rw [decide_eq_false (by omega)] at c1
  have HE : Hid (∀ W, Below w.heap.size w W → Env u ev m W ∧ EtAt W) := fun W h => ⟨hE.later h, hg.later h⟩
  clear hE hg
  go_enter Tryz.func3, Tryz.ntmps3
  go_wp2_with fail
  refine c1.mono ?_
  clear c1
  rintro e w0 ⟨rfl, e0⟩
  rw [e0]; clear e0 w0
  go_wp2_with fail
  refine (drawRowOf_any a0 len0 cap0 z0 w h0 hlen).mono ?_
  clear h0
  rintro e w1 ⟨vs, d, vr, row, rfl, hO, htn, hby, hrz, B⟩
  have HOK : Hid (okSch d) := htn.ok
  have la := htn.attrs
  have hx := hO.at
  clear hO htn
  obtain ⟨va, vc, rfl, ra, rc⟩ := id hx
  obtain ⟨oa, ka, rfl, -, -⟩ := id ra
  obtain ⟨oc, kc, rfl, -, -⟩ := id rc
  obtain ⟨or, kr, rfl, -⟩ := id hby
  clear ra rc
  obtain ⟨KS, BN⟩ := blk_1 27 w1 #[.slice oa d.attrs.length ka, .slice oc d.classes.length kc]
  replace hx := hx.later BN
  replace hby := hby.later BN
  replace B := B.trans (BN.mono B.size)
  clear BN
  have cI := implRowOf_any _ _ d row u ev m _ hx hby HOK.out (by omega) (HE.out _ B).1 (HE.out _ B).2
  have HT := row_total d row
  have k0 : (w1.alloc (.cells #[.slice oa d.attrs.length ka, .slice oc d.classes.length kc] 27)).cell? ⟨w1.heap.size, 0, none⟩ = some (.slice oa d.attrs.length ka) := KS.cell 0
  generalize rowOf d row = G at cI HT
  obtain ⟨G0, G1, G2⟩ := G
  simp only at cI HT
  rcases HT with ⟨hG1, hG0, hG2⟩ | ⟨hc1, hc6, hG0, hat0, hat, hsch⟩
  · subst hG1 hG2
    have HX : Hid (exOk d G0 = true) := hG0
    have hGl : G0.bins.length ≤ 6 := by have := (exOk_parts hG0).2.1; omega
    clear hG0 k0
    go_wp2_with fail
    refine cI.mono ?_
    clear cI
    rintro e w3 ⟨v3, rfl, ⟨vb, rfl, oE⟩, hb3⟩
    obtain ⟨ob, kb, rfl⟩ := own_slice oE
    replace hx := hx.later hb3
    replace KS := KS.below hb3
    replace B := B.trans (hb3.mono B.size)
    clear hb3 hby
    obtain ⟨KE, BN⟩ := blk_1 32 w3 #[.slice ob G0.bins.length kb, .int .i64 G0.cls]
    replace hx := hx.later BN
    replace KS := KS.below BN
    replace oE := own_below oE BN
    replace B := B.trans (BN.mono B.size)
    clear BN
    have k0 : (w3.alloc (.cells #[.slice ob G0.bins.length kb, .int .i64 G0.cls] 32)).cell? ⟨w1.heap.size, 0, none⟩ = some (.slice oa d.attrs.length ka) := KS.cell 0
    have k1 : (w3.alloc (.cells #[.slice ob G0.bins.length kb, .int .i64 G0.cls] 32)).cell? ⟨w1.heap.size, 1, none⟩ = some (.slice oc d.classes.length kc) := KS.cell 1
    have cO := implExOk_any _ (.agg #[.slice ob G0.bins.length kb, .int .i64 G0.cls]) d G0 _ hx ⟨_, rfl, RowI.of_own oE rfl⟩ HOK.out (by omega)
    rw [HX.out] at cO
    go_wp2_with fail
    refine cO.mono ?_
    clear cO
    rintro e w4 ⟨rfl, hb4⟩
    replace hx := hx.later hb4
    replace KS := KS.below hb4
    replace KE := KE.below hb4
    replace oE := own_below oE hb4
    replace B := B.trans (hb4.mono B.size)
    clear hb4 k0 k1
    have k0 : w4.cell? ⟨w1.heap.size, 0, none⟩ = some (.slice oa d.attrs.length ka) := KS.cell 0
    have k1 : w4.cell? ⟨w1.heap.size, 1, none⟩ = some (.slice oc d.classes.length kc) := KS.cell 1
    have j0 : w4.cell? ⟨w3.heap.size, 0, none⟩ = some (.slice ob G0.bins.length kb) := KE.cell 0
    have j1 : w4.cell? ⟨w3.heap.size, 1, none⟩ = some (.int .i64 G0.cls) := KE.cell 1
    have cT := implExText_any _ (.agg #[.slice ob G0.bins.length kb, .int .i64 G0.cls]) d G0 _ hx ⟨_, rfl, RowI.of_own oE rfl⟩ HOK.out (by omega) (Env.tab7 (HE.out _ B).1)
    have hne := exText_ne HX.out
    generalize exText d G0 = T at cT hne
    have hq : (T.toList == ([] : List UInt8)) = false := by
      rw [beq_eq_false_iff_ne]
      exact fun e => hne (bytes_eq_iff.1 (e.trans (by decide +kernel : ([] : List UInt8) = (⟨#[]⟩ : ByteArray).toList)))
    have hq2 : (T.toList != ([] : List UInt8)) = true := by rw [bne, hq]; rfl
    clear hne
    go_wp2_with fail
    refine cT.mono ?_
    clear cT
    rintro e w5 ⟨rfl, hb5⟩
    go_wp2
    go_ret
    exact ⟨rfl, B.trans (hb5.mono B.size)⟩
  · subst hG0
    go_wp2_with fail
    refine cI.mono ?_
    clear cI k0
    rintro e w3 ⟨v3, rfl, ⟨vb, rfl, oE⟩, hb3⟩
    obtain ⟨ob, kb, rfl⟩ := own_slice oE
    replace hx := hx.later hb3
    replace KS := KS.below hb3
    replace B := B.trans (hb3.mono B.size)
    clear hb3 hby oE
    obtain ⟨KE, BN⟩ := blk_1 32 w3 #[.slice ob 0 kb, .int .i64 0]
    replace hx := hx.later BN
    replace KS := KS.below BN
    replace B := B.trans (BN.mono B.size)
    clear BN KE
    have hnx : noEx.bins.length = 0 := rfl
    have hnc : noEx.cls = 0 := rfl
    rw [hnx, hnc]
    clear hnx hnc
    rcases (show G1 = 1 ∨ G1 = 2 ∨ G1 = 3 ∨ G1 = 4 ∨ G1 = 5 ∨ G1 = 6 by omega) with rfl | rfl | rfl | rfl | rfl | rfl
    · have hz : G2 = 0 := by
        rcases hat with h | ⟨h, _⟩
        · exact h
        · exact absurd h (by decide)
      subst hz
      have hsk : schemaOk d = false := hsch.1 rfl
      clear hc1 hc6 hat0 hat hsch
      have k0 : (w3.alloc (.cells #[.slice ob 0 kb, .int .i64 0] 32)).cell? ⟨w1.heap.size, 0, none⟩ = some (.slice oa d.attrs.length ka) := KS.cell 0
      have k1 : (w3.alloc (.cells #[.slice ob 0 kb, .int .i64 0] 32)).cell? ⟨w1.heap.size, 1, none⟩ = some (.slice oc d.classes.length kc) := KS.cell 1
      have cS := specSchemaOk_any _ d (w3.alloc (.cells #[.slice ob 0 kb, .int .i64 0] 32)) hx HOK.out
      rw [hsk] at cS
      clear hsk
      go_wp2_with fail
      refine cS.mono ?_
      clear cS
      rintro e w4 ⟨rfl, hb4⟩
      go_wp2
      go_ret
      exact ⟨rfl, B.trans (hb4.mono B.size)⟩
    · have hz : G2 = 0 := by
        rcases hat with h | ⟨h, _⟩
        · exact h
        · exact absurd h (by decide)
      subst hz
      have hsk : schemaOk d = true := by
        cases h : schemaOk d with
        | true => rfl
        | false => exact absurd (hsch.2 h) (by decide)
      clear hc1 hc6 hat0 hat hsch
      have k0 : (w3.alloc (.cells #[.slice ob 0 kb, .int .i64 0] 32)).cell? ⟨w1.heap.size, 0, none⟩ = some (.slice oa d.attrs.length ka) := KS.cell 0
      have k1 : (w3.alloc (.cells #[.slice ob 0 kb, .int .i64 0] 32)).cell? ⟨w1.heap.size, 1, none⟩ = some (.slice oc d.classes.length kc) := KS.cell 1
      have cS := specSchemaOk_any _ d (w3.alloc (.cells #[.slice ob 0 kb, .int .i64 0] 32)) hx HOK.out
      rw [hsk] at cS
      clear hsk
      go_wp2_with fail
      refine cS.mono ?_
      clear cS
      rintro e w4 ⟨rfl, hb4⟩
      go_wp2
      go_ret
      exact ⟨rfl, B.trans (hb4.mono B.size)⟩
    · have hz : G2 = 0 := by
        rcases hat with h | ⟨h, _⟩
        · exact h
        · exact absurd h (by decide)
      subst hz
      have hsk : schemaOk d = true := by
        cases h : schemaOk d with
        | true => rfl
        | false => exact absurd (hsch.2 h) (by decide)
      clear hc1 hc6 hat0 hat hsch
      have k0 : (w3.alloc (.cells #[.slice ob 0 kb, .int .i64 0] 32)).cell? ⟨w1.heap.size, 0, none⟩ = some (.slice oa d.attrs.length ka) := KS.cell 0
      have k1 : (w3.alloc (.cells #[.slice ob 0 kb, .int .i64 0] 32)).cell? ⟨w1.heap.size, 1, none⟩ = some (.slice oc d.classes.length kc) := KS.cell 1
      have cS := specSchemaOk_any _ d (w3.alloc (.cells #[.slice ob 0 kb, .int .i64 0] 32)) hx HOK.out
      rw [hsk] at cS
      clear hsk
      go_wp2_with fail
      refine cS.mono ?_
      clear cS
      rintro e w4 ⟨rfl, hb4⟩
      go_wp2
      go_ret
      exact ⟨rfl, B.trans (hb4.mono B.size)⟩
    · have hz : G2 = 0 := by
        rcases hat with h | ⟨h, _⟩
        · exact h
        · exact absurd h (by decide)
      subst hz
      have hsk : schemaOk d = true := by
        cases h : schemaOk d with
        | true => rfl
        | false => exact absurd (hsch.2 h) (by decide)
      clear hc1 hc6 hat0 hat hsch
      have k0 : (w3.alloc (.cells #[.slice ob 0 kb, .int .i64 0] 32)).cell? ⟨w1.heap.size, 0, none⟩ = some (.slice oa d.attrs.length ka) := KS.cell 0
      have k1 : (w3.alloc (.cells #[.slice ob 0 kb, .int .i64 0] 32)).cell? ⟨w1.heap.size, 1, none⟩ = some (.slice oc d.classes.length kc) := KS.cell 1
      have cS := specSchemaOk_any _ d (w3.alloc (.cells #[.slice ob 0 kb, .int .i64 0] 32)) hx HOK.out
      rw [hsk] at cS
      clear hsk
      go_wp2_with fail
      refine cS.mono ?_
      clear cS
      rintro e w4 ⟨rfl, hb4⟩
      go_wp2
      go_ret
      exact ⟨rfl, B.trans (hb4.mono B.size)⟩
    · have hsk : schemaOk d = true := by
        cases h : schemaOk d with
        | true => rfl
        | false => exact absurd (hsch.2 h) (by decide)
      by_cases hz : G2 = 0
      · subst hz
        clear hc1 hc6 hat0 hat hsch
        have k0 : (w3.alloc (.cells #[.slice ob 0 kb, .int .i64 0] 32)).cell? ⟨w1.heap.size, 0, none⟩ = some (.slice oa d.attrs.length ka) := KS.cell 0
        have k1 : (w3.alloc (.cells #[.slice ob 0 kb, .int .i64 0] 32)).cell? ⟨w1.heap.size, 1, none⟩ = some (.slice oc d.classes.length kc) := KS.cell 1
        have cS := specSchemaOk_any _ d (w3.alloc (.cells #[.slice ob 0 kb, .int .i64 0] 32)) hx HOK.out
        rw [hsk] at cS
        clear hsk
        go_wp2_with fail
        refine cS.mono ?_
        clear cS
        rintro e w4 ⟨rfl, hb4⟩
        go_wp2
        go_ret
        exact ⟨rfl, B.trans (hb4.mono B.size)⟩
      · have hlt : G2 < (d.attrs.length : Int) := by
          rcases hat with h | ⟨_, h⟩
          · exact absurd h hz
          · exact h
        have hbz : (G2 == 0) = false := by rw [beq_eq_false_iff_ne]; exact hz
        clear hc1 hc6 hat hsch hz
        have k0 : (w3.alloc (.cells #[.slice ob 0 kb, .int .i64 0] 32)).cell? ⟨w1.heap.size, 0, none⟩ = some (.slice oa d.attrs.length ka) := KS.cell 0
        have k1 : (w3.alloc (.cells #[.slice ob 0 kb, .int .i64 0] 32)).cell? ⟨w1.heap.size, 1, none⟩ = some (.slice oc d.classes.length kc) := KS.cell 1
        have cS := specSchemaOk_any _ d (w3.alloc (.cells #[.slice ob 0 kb, .int .i64 0] 32)) hx HOK.out
        rw [hsk] at cS
        clear hsk
        go_wp2_with fail
        refine cS.mono ?_
        clear cS
        rintro e w4 ⟨rfl, hb4⟩
        go_wp2
        go_ret
        exact ⟨rfl, B.trans (hb4.mono B.size)⟩
    · have hz : G2 = 0 := by
        rcases hat with h | ⟨h, _⟩
        · exact h
        · exact absurd h (by decide)
      subst hz
      have hsk : schemaOk d = true := by
        cases h : schemaOk d with
        | true => rfl
        | false => exact absurd (hsch.2 h) (by decide)
      clear hc1 hc6 hat0 hat hsch
      have k0 : (w3.alloc (.cells #[.slice ob 0 kb, .int .i64 0] 32)).cell? ⟨w1.heap.size, 0, none⟩ = some (.slice oa d.attrs.length ka) := KS.cell 0
      have k1 : (w3.alloc (.cells #[.slice ob 0 kb, .int .i64 0] 32)).cell? ⟨w1.heap.size, 1, none⟩ = some (.slice oc d.classes.length kc) := KS.cell 1
      have cS := specSchemaOk_any _ d (w3.alloc (.cells #[.slice ob 0 kb, .int .i64 0] 32)) hx HOK.out
      rw [hsk] at cS
      clear hsk
      go_wp2_with fail
      refine cS.mono ?_
      clear cS
      rintro e w4 ⟨rfl, hb4⟩
      go_wp2
      go_ret
      exact ⟨rfl, B.trans (hb4.mono B.size)⟩
theorem rowTotal_walk (a0 : Option Addr) (len0 cap0 : Nat) (z0 : List Int) (w : World) (h0 : IsRow .u8 w a0 len0 cap0 z0) (u : TypeId) (ev : Value) (m : Int) (hE : Env u ev m w) (hg : EtAt w) :
    Calls Tryz.prog 3 #[.slice a0 len0 cap0] w fun e w' => e = .returned (.bool true) ∧ Below w.heap.size w w' := by
  by_cases hlen : len0 ≤ 1048576
  · exact rowTotal_in a0 len0 cap0 z0 w h0 u ev m hE hg hlen
  · have c1 := big_any a0 len0 cap0 w h0.le
    rw [decide_eq_true (by omega)] at c1
    clear h0 hE hg
    go_enter Tryz.func3, Tryz.ntmps3
    go_wp2_with fail
    refine c1.mono ?_
    clear c1
    rintro e w0 ⟨rfl, e0⟩
    rw [e0]
    go_wp2
    go_ret
    exact ⟨rfl, Below.refl _ _⟩
end Go.Proofs.YtfekcckckmhioabGreatDoor
