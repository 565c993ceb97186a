/- Texts of this claim, put together: part 31. -/
import Derived.Test.YtmdmplphendpcaaFnAnyOrderPack6
import Derived.Test.YtmdmplphendpcaaFnAnyOrderPack30
import Derived.Test.YtmdmplphendpcaaFnAnyOrderPack8
import Derived.Test.YtmdmplphendpcaaFnAnyOrderPack25
import Derived.Test.YtmdmplphendpcaaFnAnyOrderPack27
import Derived.Test.YtmdmplphendpcaaFnAnyOrderPack16
import Derived.Test.YtmdmplphendpcaaFnAnyOrderPack17
import Derived.Lib.QuietBelow
import Derived.BigQuiet
import Derived.Test.YtmdmplphendpcaaFnAnyOrderPack3
/- The total of counts, by the program. -/
namespace Go.Proofs.Ytmdmplphendpcaa
open Go.RowKit
set_option maxRecDepth 100000
set_option linter.unusedSimpArgs false
theorem ok_weights {s : SchemaD} {t : StatsD} (h : statsOk s t = true) : weightsOk t.totals = true := by
  obtain ⟨-, -, h1, h2⟩ := statsOk_parts h
  unfold weightsOk; rw [h1, decide_eq_true h2]; rfl
set_option maxHeartbeats 1600000 in
theorem implTotal_any (vs vt : Value) (s : SchemaD) (t : StatsD) (w : World) (hs : SchemaAt w vs s) (ht : StatsAt w vt t) (hn : okSch s) (hb : okSt t) :
    Calls Try.prog 16 #[vs, vt] w fun r w' => r = .returned (.int .i64 (statsTotal s t)) ∧ Below w.heap.size w w' := by
  have HS : Hid (∀ W, Below w.heap.size w W → SchemaAt W vs s) := fun W h => hs.later h
  have HT : Hid (∀ W, Below w.heap.size w W → StatsAt W vt t) := fun W h => ht.later h
  have HOK : Hid (okSch s) := hn
  have HOT : Hid (okSt t) := hb
  obtain ⟨va, vc, rfl, -, -⟩ := hs
  obtain ⟨vx, vy, rfl, rx, -⟩ := ht
  obtain ⟨ox, kx, rfl, -, -⟩ := id rx
  have lx := hb.totals
  clear rx hn hb
  have B0 : Below w.heap.size w ((w.alloc (.cells #[va, vc] 27)).alloc (.cells #[.slice ox t.totals.length kx, vy] 31)) := ((Below.refl _ _).alloc (Nat.le_refl _) _).alloc (by simp) _
  have K2 : Blk 31 ((w.alloc (.cells #[va, vc] 27)).alloc (.cells #[.slice ox t.totals.length kx, vy] 31)) (w.heap.size + 1) #[.slice ox t.totals.length kx, vy] := by
    have := Blk.new 31 (w.alloc (.cells #[va, vc] 27)) #[.slice ox t.totals.length kx, vy]
    rwa [show (w.alloc (.cells #[va, vc] 27)).heap.size = w.heap.size + 1 by simp] at this
  have e1 := implStatsOk_any _ _ s t _ (HS.out _ B0) (HT.out _ B0) HOK.out HOT.out
  cases hk : statsOk s t with
  | false =>
    have HE : Hid (statsTotal s t = 0) := by unfold statsTotal; rw [hk]; rfl
    rw [hk] at e1
    clear hk K2
    go_enter Try.func16, Try.ntmps16
    go_wp2_with fail
    refine e1.mono ?_
    clear e1
    rintro r w1 ⟨rfl, hb1⟩
    go_wp2
    go_ret
    exact ⟨by rw [HE.out]; rfl, B0.trans (hb1.mono (by simp; omega))⟩
  | true =>
    have HE : Hid (statsTotal s t = weightSum t.totals) := by show _ = _; unfold statsTotal weightSum; rw [hk, ok_weights hk]
    rw [hk] at e1
    clear hk
    go_enter Try.func16, Try.ntmps16
    go_wp2_with fail
    refine e1.mono ?_
    clear e1
    rintro r w1 ⟨rfl, hb1⟩
    have B1 := B0.trans (hb1.mono (by simp; omega))
    have k0 : w1.cell? ⟨w.heap.size + 1, 0, none⟩ = some (.slice ox t.totals.length kx) := (K2.below hb1).cell 0
    clear hb1 B0 K2
    obtain ⟨vx', vy', e', rX, -⟩ := HT.out w1 B1
    cases e'
    have cw := weightOf_any _ t.totals w1 rX lx
    generalize weightsOk t.totals = q at cw
    generalize weightSum t.totals = z at cw HE
    clear rX
    go_wp2_with fail
    refine cw.mono ?_
    clear cw
    rintro r w2 ⟨rfl, hb2⟩
    clear k0
    go_wp2
    go_ret
    exact ⟨by rw [HE.out]; rfl, B1.trans (hb2.mono B1.size)⟩
end Go.Proofs.Ytmdmplphendpcaa
/- What is added to counts, by the program. -/
namespace Go.Proofs.Ytmdmplphendpcaa
open Go.RowKit Go.Maps
set_option maxRecDepth 100000
set_option linter.unusedSimpArgs false
set_option maxHeartbeats 6400000 in
theorem implStatsAdd_any (vs vt ve : Value) (s : SchemaD) (t : StatsD) (e : ExD) (x : Int) (w : World) (hs : SchemaAt w vs s) (ht : StatsAt w vt t) (he : ExAt w ve e) (hn : okSch s) (hb : okSt t) (hbe : e.bins.length ≤ 1099511627776) :
    Calls Try.prog 12 #[vs, vt, ve, .int .i64 x] w fun r w' => ∃ v', r = .returned (.tuple #[v', .bool (addOk s t e x)]) ∧ OwnSt w.heap.size w' v' (statsAdd s t e x) ∧ Below w.heap.size w w' := by
  have mixed : Try.prog.follows .mixedOrders = true := by kernel_rfl
  have HS : Hid (∀ W, Below w.heap.size w W → SchemaAt W vs s) := fun W h => hs.later h
  have HT : Hid (∀ W, Below w.heap.size w W → StatsAt W vt t) := fun W h => ht.later h
  have HEX : Hid (∀ W, Below w.heap.size w W → ExAt W ve e) := fun W h => he.later h
  have HOK : Hid (okSch s) := hn
  have HOT : Hid (okSt t) := hb
  have HBE : Hid (e.bins.length ≤ 1099511627776) := hbe
  obtain ⟨va, vc, rfl, -, rc⟩ := hs
  obtain ⟨oc, kc, rfl, -, -⟩ := id rc
  obtain ⟨vx, vy, rfl, -, -⟩ := ht
  obtain ⟨vb, rfl, rb⟩ := he
  obtain ⟨ob, kb, rfl, -, -⟩ := id rb
  clear rc rb hn hb
  obtain ⟨K1, K2, K3, K4, B0⟩ := blk_4 27 31 33 31 w #[va, .slice oc s.classes.length kc] #[vx, vy] #[.slice ob e.bins.length kb, .int .i64 e.cls] #[.slice none 0 0, .slice none 0 0]
  have c1 := statsCopy_any _ t _ (HT.out _ B0) HOT.out
  go_enter Try.func12, Try.ntmps12
  go_wp2_with fail
  refine c1.mono ?_
  clear c1
  rintro r w1 ⟨vO, rfl, hO, hb1⟩
  obtain ⟨v1, v2, L, ys, rfl, o1, sep, hne⟩ := hO
  have B1 := B0.trans (hb1.mono B0.size)
  replace K1 := K1.below hb1
  replace K2 := K2.below hb1
  replace K3 := K3.below hb1
  replace K4 := K4.below hb1
  have hs1 : w.heap.size + 4 ≤ w1.heap.size := by have := hb1.size; simp at this; omega
  obtain ⟨q1, j1, rfl⟩ := own_slice o1
  obtain ⟨q2, j2, rfl⟩ := own_slice sep.row
  obtain ⟨KX, BX⟩ := blk_1 31 w1 #[.slice q1 t.totals.length j1, .slice q2 t.cells.length j2]
  have B2 := B1.trans (BX.mono B1.size)
  replace K1 := K1.below BX
  replace K2 := K2.below BX
  replace K3 := K3.below BX
  replace K4 := K4.below BX
  have hb04 : w.heap.size + 4 ≤ ((((w.alloc (.cells #[va, .slice oc s.classes.length kc] 27)).alloc (.cells #[vx, vy] 31)).alloc (.cells #[.slice ob e.bins.length kb, .int .i64 e.cls] 33)).alloc (.cells #[.slice none 0 0, .slice none 0 0] 31)).heap.size := by simp
  have o2 := own_base (own_below o1 BX) hb04
  have sep2 := (sep.below BX).base hb04
  clear hb1 B1 B0 BX o1 sep hb04
  obtain ⟨p, hp⟩ : ∃ p, p = w1.heap.size := ⟨_, rfl⟩
  have a0 : (w1.alloc (.cells #[.slice q1 t.totals.length j1, .slice q2 t.cells.length j2] 31)).cell? ⟨w.heap.size, 0, none⟩ = some va := K1.cell 0
  have a1 : (w1.alloc (.cells #[.slice q1 t.totals.length j1, .slice q2 t.cells.length j2] 31)).cell? ⟨w.heap.size, 1, none⟩ = some (.slice oc s.classes.length kc) := K1.cell 1
  have a2 : (w1.alloc (.cells #[.slice q1 t.totals.length j1, .slice q2 t.cells.length j2] 31)).cell? ⟨w.heap.size + 1, 0, none⟩ = some vx := K2.cell 0
  have a3 : (w1.alloc (.cells #[.slice q1 t.totals.length j1, .slice q2 t.cells.length j2] 31)).cell? ⟨w.heap.size + 1, 1, none⟩ = some vy := K2.cell 1
  have e1 := implStatsOk_any _ _ s t _ (HS.out _ B2) (HT.out _ B2) HOK.out HOT.out
  go_wp2_with fail
  clear a0 a1 a2 a3
  generalize (w1.alloc (.cells #[.slice q1 t.totals.length j1, .slice q2 t.cells.length j2] 31)) = wa at KX K1 K2 K3 K4 o2 sep2 B2 e1 ⊢
  rw [← hp] at KX ⊢
  have hpw : w.heap.size + 4 ≤ p := by omega
  clear hp
  have HFAIL : Hid (addOk s t e x = false → ∀ W, Below wa.heap.size wa W → OwnSt w.heap.size (W.setRow (w.heap.size + 1 + 1 + 1) #[.slice q1 t.totals.length j1, .slice q2 t.cells.length j2]) (.agg #[.slice q1 t.totals.length j1, .slice q2 t.cells.length j2]) (statsAdd s t e x) ∧ Below w.heap.size w (W.setRow (w.heap.size + 1 + 1 + 1) #[.slice q1 t.totals.length j1, .slice q2 t.cells.length j2])) := fun hno W hW => by
    rw [add_no hno]
    exact ⟨⟨_, _, L, ys, rfl, own_base (own_setRow (own_below o2 hW) _ _ (by omega)) (by omega), (((sep2.below hW).setRow _ _ (by omega))).base (by omega), hne⟩, below_row (B2.trans (hW.mono B2.size)) (by omega) _⟩
  refine e1.mono ?_
  clear e1
  rintro r w2 ⟨rfl, hb2⟩
  have G2 := hb2
  replace K1 := K1.below hb2
  replace K2 := K2.below hb2
  replace K3 := K3.below hb2
  replace K4 := K4.below hb2
  replace KX := KX.below hb2
  have HEQ : Hid (addOk s t e x = (statsOk s t && (exOk s e && (decide (0 ≤ e.cls) && (decide (1 ≤ x ∧ x ≤ 7) && decide (statsTotal s t + x ≤ 999)))))) := rfl
  cases hk : statsOk s t with
  | false =>
    have HNO : Hid (addOk s t e x = false) := by rw [HEQ.out, hk]; rfl
    have HF : Hid _ := HFAIL.out HNO.out w2 G2
    clear HFAIL hk
    go_wp2_with (first
      | (with_reducible refine wp_st_load rfl _ rfl ?_; refine ⟨p, rfl, _, _, KX, ?_⟩)
      | (with_reducible refine wp_st_store rfl _ _ rfl ?_; refine ⟨w.heap.size + 1 + 1 + 1, rfl, _, _, _, _, _, _, rfl, _, _, K4, ?_⟩)
      | go_in)
    exact bodyPost_ret (res_st1 Try.results12 _ _ _ _ _ _ rfl rfl (K4.setRow _)) rfl ⟨_, by rw [HNO.out]; rfl, HF.out⟩
  | true =>
    have HEQ1 : Hid (addOk s t e x = (exOk s e && (decide (0 ≤ e.cls) && (decide (1 ≤ x ∧ x ≤ 7) && decide (statsTotal s t + x ≤ 999))))) := by rw [HEQ.out, hk]; rfl
    have BW2 := B2.trans (hb2.mono B2.size)
    have e2 := implExOk_any _ _ s e w2 (HS.out _ BW2) (HEX.out _ BW2) HOK.out HBE.out
    have a0 : w2.cell? ⟨w.heap.size, 0, none⟩ = some va := K1.cell 0
    have a1 : w2.cell? ⟨w.heap.size, 1, none⟩ = some (.slice oc s.classes.length kc) := K1.cell 1
    have a2 : w2.cell? ⟨w.heap.size + 1 + 1, 0, none⟩ = some (.slice ob e.bins.length kb) := K3.cell 0
    have a3 : w2.cell? ⟨w.heap.size + 1 + 1, 1, none⟩ = some (.int .i64 e.cls) := K3.cell 1
    clear hk HEQ
    go_wp2_with fail
    clear a0 a1 a2 a3
    refine e2.mono ?_
    clear e2
    rintro r w3 ⟨rfl, hb3⟩
    have G3 := G2.trans (hb3.mono G2.size)
    replace K1 := K1.below hb3
    replace K2 := K2.below hb3
    replace K3 := K3.below hb3
    replace K4 := K4.below hb3
    replace KX := KX.below hb3
    clear hb2 hb3 BW2
    cases hk : exOk s e with
    | false =>
      have HNO : Hid (addOk s t e x = false) := by rw [HEQ1.out, hk]; rfl
      have HF : Hid _ := HFAIL.out HNO.out w3 G3
      clear HFAIL hk
      go_wp2_with (first
        | (with_reducible refine wp_st_load rfl _ rfl ?_; refine ⟨p, rfl, _, _, KX, ?_⟩)
        | (with_reducible refine wp_st_store rfl _ _ rfl ?_; refine ⟨w.heap.size + 1 + 1 + 1, rfl, _, _, _, _, _, _, rfl, _, _, K4, ?_⟩)
        | go_in)
      exact bodyPost_ret (res_st1 Try.results12 _ _ _ _ _ _ rfl rfl (K4.setRow _)) rfl ⟨_, by rw [HNO.out]; rfl, HF.out⟩
    | true =>
      have HEQ2 : Hid (addOk s t e x = (decide (0 ≤ e.cls) && (decide (1 ≤ x ∧ x ≤ 7) && decide (statsTotal s t + x ≤ 999)))) := by rw [HEQ1.out, hk]; rfl
      have a3 : w3.cell? ⟨w.heap.size + 1 + 1, 1, none⟩ = some (.int .i64 e.cls) := K3.cell 1
      have hk0 := hk
      clear hk HEQ1
      have hcm1 : -1 ≤ e.cls := ex_cls hk0
      by_cases hcl : e.cls < 0
      · have HNO : Hid (addOk s t e x = false) := by rw [HEQ2.out, decide_eq_false (by omega)]; rfl
        have HF : Hid _ := HFAIL.out HNO.out w3 G3
        have hcq : e.cls = -1 := by omega
        have hce : (e.cls == -1) = true := by rw [hcq]; rfl
        clear HFAIL
        go_wp2_with (first
          | (with_reducible refine wp_st_load rfl _ rfl ?_; refine ⟨p, rfl, _, _, KX, ?_⟩)
          | (with_reducible refine wp_st_store rfl _ _ rfl ?_; refine ⟨w.heap.size + 1 + 1 + 1, rfl, _, _, _, _, _, _, rfl, _, _, K4, ?_⟩)
          | go_in)
        exact bodyPost_ret (res_st1 Try.results12 _ _ _ _ _ _ rfl rfl (K4.setRow _)) rfl ⟨_, by rw [HNO.out]; rfl, HF.out⟩
      have HEQ3 : Hid (addOk s t e x = (decide (1 ≤ x ∧ x ≤ 7) && decide (statsTotal s t + x ≤ 999))) := by rw [HEQ2.out, decide_eq_true (by omega)]; rfl
      have hce : (e.cls == -1) = false := by rw [beq_eq_false_iff_ne]; omega
      by_cases hx0 : x < 1
      · have HNO : Hid (addOk s t e x = false) := by rw [HEQ3.out, decide_eq_false (by omega)]; rfl
        have HF : Hid _ := HFAIL.out HNO.out w3 G3
        clear HFAIL
        go_wp2_with (first
          | (with_reducible refine wp_st_load rfl _ rfl ?_; refine ⟨p, rfl, _, _, KX, ?_⟩)
          | (with_reducible refine wp_st_store rfl _ _ rfl ?_; refine ⟨w.heap.size + 1 + 1 + 1, rfl, _, _, _, _, _, _, rfl, _, _, K4, ?_⟩)
          | go_in)
        exact bodyPost_ret (res_st1 Try.results12 _ _ _ _ _ _ rfl rfl (K4.setRow _)) rfl ⟨_, by rw [HNO.out]; rfl, HF.out⟩
      by_cases hx1 : 7 < x
      · have HNO : Hid (addOk s t e x = false) := by rw [HEQ3.out, decide_eq_false (by omega)]; rfl
        have HF : Hid _ := HFAIL.out HNO.out w3 G3
        clear HFAIL
        go_wp2_with (first
          | (with_reducible refine wp_st_load rfl _ rfl ?_; refine ⟨p, rfl, _, _, KX, ?_⟩)
          | (with_reducible refine wp_st_store rfl _ _ rfl ?_; refine ⟨w.heap.size + 1 + 1 + 1, rfl, _, _, _, _, _, _, rfl, _, _, K4, ?_⟩)
          | go_in)
        exact bodyPost_ret (res_st1 Try.results12 _ _ _ _ _ _ rfl rfl (K4.setRow _)) rfl ⟨_, by rw [HNO.out]; rfl, HF.out⟩
      have hin : 1 ≤ x ∧ x ≤ 7 := by omega
      have HEQ4 : Hid (addOk s t e x = decide (statsTotal s t + x ≤ 999)) := by rw [HEQ3.out, decide_eq_true hin]; rfl
      clear HEQ2 HEQ3
      have BW3 := B2.trans (G3.mono B2.size)
      have e5 := implTotal_any _ _ s t w3 (HS.out _ BW3) (HT.out _ BW3) HOK.out HOT.out
      have a0 : w3.cell? ⟨w.heap.size, 0, none⟩ = some va := K1.cell 0
      have a1 : w3.cell? ⟨w.heap.size, 1, none⟩ = some (.slice oc s.classes.length kc) := K1.cell 1
      have a2 : w3.cell? ⟨w.heap.size + 1, 0, none⟩ = some vx := K2.cell 0
      have a4 : w3.cell? ⟨w.heap.size + 1, 1, none⟩ = some vy := K2.cell 1
      have htot : 0 ≤ statsTotal s t ∧ statsTotal s t ≤ 999 := total_bounds s t
      go_wp2_with fail
      refine e5.mono ?_
      clear e5
      rintro r w5 ⟨rfl, hb5⟩
      have G5 := G3.trans (hb5.mono G3.size)
      replace K1 := K1.below hb5
      replace K2 := K2.below hb5
      replace K3 := K3.below hb5
      replace K4 := K4.below hb5
      replace KX := KX.below hb5
      clear a0 a1 a2 a3 a4 hb5 BW3 G3 G2
      by_cases hsum : statsTotal s t + x ≤ 999
      rotate_left
      · have HNO : Hid (addOk s t e x = false) := by rw [HEQ4.out, decide_eq_false hsum]; rfl
        have HF : Hid _ := HFAIL.out HNO.out w5 G5
        have hsum' : 999 - statsTotal s t < x := by omega
        clear HFAIL hsum
        go_wp2_with (first
          | (with_reducible refine wp_st_load rfl _ rfl ?_; refine ⟨p, rfl, _, _, KX, ?_⟩)
          | (with_reducible refine wp_st_store rfl _ _ rfl ?_; refine ⟨w.heap.size + 1 + 1 + 1, rfl, _, _, _, _, _, _, rfl, _, _, K4, ?_⟩)
          | go_in)
        exact bodyPost_ret (res_st1 Try.results12 _ _ _ _ _ _ rfl rfl (K4.setRow _)) rfl ⟨_, by rw [HNO.out]; rfl, HF.out⟩
      have HYES : Hid (addOk s t e x = true) := by rw [HEQ4.out, decide_eq_true hsum]; rfl
      clear HFAIL HEQ4
      have AF := add_facts HYES.out
      have HAF : Hid (AddF s t e x) := AF
      obtain ⟨hcl0, hcl1⟩ := AF.cls
      rw [← AF.len] at hcl1
      obtain ⟨g1, rfl⟩ : ∃ g1, q1 = some ⟨g1, 0, none⟩ := by
        rcases o2.2 with ⟨e', h0⟩ | ⟨g, cap, cur, e', _⟩
        · omega
        · injection e' with e1 _ _; exact ⟨g, e1⟩
      have o5 := own_below o2 G5
      have sep5 := sep2.below G5
      have BW5 := B2.trans (G5.mono B2.size)
      have hy := all_at AF.tot (show e.cls.toNat < t.totals.length by omega)
      have cy : w5.cell? ⟨g1, e.cls.toNat, none⟩ = some (.int .i64 (t.totals.getD e.cls.toNat 0)) := by rw [o5.cellAt _ (by omega)]; exact getD_mapI _ _ (by omega)
      have fy := o5.frozenAt e.cls.toNat
      have HY : Hid (cellPut t.totals e.cls.toNat x = t.totals.set e.cls.toNat (t.totals.getD e.cls.toNat 0 + x)) := rfl
      have hg1 := (o5.lt g1 rfl)
      clear AF o2 sep2 B2 G5
      generalize t.totals.getD e.cls.toNat 0 = y at cy hy HY
      obtain ⟨hy0, hy1⟩ := hy
      obtain ⟨hx0, hx1⟩ := hin
      have n1 : g1 ≠ p := fun e' => own_ne_blk o5 KX (by decide) (by rw [← e']; rfl)
      have n2 : g1 ≠ w.heap.size := by omega
      have n3 : g1 ≠ w.heap.size + 1 + 1 := by omega
      have n4 : g1 ≠ w.heap.size + 1 + 1 + 1 := by omega
      have hst := o5.stored e.cls.toNat (.int .i64 (y + x))
      have X7 := KX.setCell_other ⟨g1, e.cls.toNat, none⟩ (.int .i64 (y + x)) n1
      have E7 := K3.setCell_other ⟨g1, e.cls.toNat, none⟩ (.int .i64 (y + x)) n3
      have S7 := K1.setCell_other ⟨g1, e.cls.toNat, none⟩ (.int .i64 (y + x)) n2
      have R7 := K4.setCell_other ⟨g1, e.cls.toNat, none⟩ (.int .i64 (y + x)) n4
      have B7 := BW5.setCell (p := ⟨g1, e.cls.toNat, none⟩) (by simp; omega) (.int .i64 (y + x))
      have o7 : (w5.setCell ⟨g1, e.cls.toNat, none⟩ (.int .i64 (y + x))).ownsRow (w.heap.size + 4) 3 1 (.slice (some ⟨g1, 0, none⟩) t.totals.length j1) t.totals.length ((cellPut t.totals e.cls.toNat x).map (Value.int .i64)) := by rw [HY.out, List.map_set]; exact hst.1
      have row7 := own_setCellN sep5.row g1 e.cls.toNat (.int .i64 (y + x)) (by
        rcases apart_ty sep5.row o5 (by decide) with h | h
        · rw [h]; intro e'; cases e'
        · intro e'; exact h e')
      have D7 : DoneII (w5.setCell ⟨g1, e.cls.toNat, none⟩ (.int .i64 (y + x))) (w.heap.size + 4) ys L (addTo s e x t.cells 0) t.cells.length := ⟨sep5.cells, fun j hj => own_setCellN (sep5.ints j hj) g1 _ _ (fun hb => hne j g1 g1 hj rfl hb rfl), sep5.ord⟩
      have x0 : w5.cell? ⟨p, 0, none⟩ = some (.slice (some ⟨g1, 0, none⟩) t.totals.length j1) := KX.cell 0
      have x2 : w5.cell? ⟨w.heap.size + 1 + 1, 1, none⟩ = some (.int .i64 e.cls) := K3.cell 1
      have x3 : (w5.setCell ⟨g1, e.cls.toNat, none⟩ (.int .i64 (y + x))).cell? ⟨p, 1, none⟩ = some (.slice q2 t.cells.length j2) := X7.cell 1
      clear KX K3 K1 K2 K4 BW5 o5 sep5 hst n1 n2 n3 n4
      go_wp2
      clear x0 x2 x3 cy fy
      generalize (w5.setCell ⟨g1, e.cls.toNat, none⟩ (.int .i64 (y + x))) = w7 at X7 E7 S7 R7 B7 o7 row7 D7 ⊢
      go_loopw [59] (fun i wr => ∃ (k : Nat) (ys : List Value) (L : Nat → Value), i = .int .i64 k ∧ k ≤ t.cells.length ∧ Blk 31 wr p #[.slice (some ⟨g1, 0, none⟩) t.totals.length j1, .slice q2 t.cells.length j2] ∧ Blk 33 wr (w.heap.size + 1 + 1) #[.slice ob e.bins.length kb, .int .i64 e.cls] ∧ Blk 27 wr w.heap.size #[va, .slice oc s.classes.length kc] ∧ Blk 31 wr (w.heap.size + 1 + 1 + 1) #[.slice none 0 0, .slice none 0 0] ∧ Below w.heap.size w wr ∧
          wr.ownsRow (w.heap.size + 4) 3 1 (.slice (some ⟨g1, 0, none⟩) t.totals.length j1) t.totals.length ((cellPut t.totals e.cls.toNat x).map (Value.int .i64)) ∧ wr.ownsRow (w.heap.size + 4) 28 1 (.slice q2 t.cells.length j2) t.cells.length ys ∧ DoneII wr (w.heap.size + 4) ys L (addTo s e x t.cells k) t.cells.length ∧ Hid (∀ j b, j < t.cells.length → (L j).ownBlock = some b → g1 ≠ b)) (fun i _ => t.cells.length - (intOf i).toNat)
      case atStart => exact ⟨0, ys, L, rfl, by omega, X7, E7, S7, R7, B7, o7, row7, D7, fun j b hj hb => hne j g1 b hj rfl hb⟩
      case round =>
        obtain ⟨k, ys, L, rfl, hk, X8, E8, S8, R8, B8, o8, row8, D8, HNE⟩ := hrel
        clear X7 E7 S7 R7 B7 o7 row7 D7 hne
        have hncl : t.cells.length ≤ 1099511627776 := HOT.out.cells
        by_cases hlt : k < t.cells.length
        · have hkb : k < e.bins.length := by
            have h1 := HAF.out.cells
            have h2 := HAF.out.bins
            omega
          obtain ⟨vb', e', rB⟩ := HEX.out wr B8
          cases e'
          obtain ⟨ob', kb', e', -, hrB⟩ := rB
          cases e'
          obtain ⟨gb, fb, rfl, hgb, hjB⟩ := hrB (by omega)
          have cb := hjB k hkb
          have hbe' := HBE.out
          have b0 : wr.cell? ⟨w.heap.size + 1 + 1, 0, none⟩ = some (.slice (some ⟨gb, fb, none⟩) e.bins.length kb) := E8.cell 0
          have s1 : wr.cell? ⟨w.heap.size, 1, none⟩ = some (.slice oc s.classes.length kc) := S8.cell 1
          obtain ⟨hlen12, hallk, hbinf⟩ := HAF.out.cell k hlt
          have hfour := HAF.out.four k hlt
          have hlow := HAF.out.low k hkb
          have hil := addTo_rest s e x t.cells k k (Nat.le_refl _) (by omega)
          have li := D8.ints k hlt
          rw [hil] at li
          obtain ⟨ol, cl, hLk⟩ := own_slice li
          obtain ⟨gr, rfl⟩ : ∃ gr, q2 = some ⟨gr, 0, none⟩ := by
            rcases row8.2 with ⟨e', h0⟩ | ⟨g, cap, cur, e', _⟩
            · omega
            · injection e' with e1 _ _; exact ⟨g, e1⟩
          have cl0 : wr.cell? ⟨gr, k, none⟩ = some (.slice ol (il t.cells k).length cl) := by rw [row8.cellAt k (by omega), D8.cells k hlt, hLk]
          by_cases hbn : 0 ≤ e.bins.getD k 0
          rotate_left
          · have HN : Hid (addTo s e x t.cells (k + 1) = addTo s e x t.cells k) := by show _ = _; rw [addTo, if_neg hbn]
            have hbq : (e.bins.getD k 0 == -1) = true := by rw [beq_iff_eq]; omega
            have hbq2 : (e.bins.getD k 0 != -1) = false := by rw [bne, hbq]; rfl
            generalize e.bins.getD k 0 = bn at cb hbn hbq hbq2
            clear hjB hrB li hLk hil hallk hbinf
            go_wp2
            go_roundw
            case rel => exact ⟨k + 1, ys, L, by go_num, by omega, X8, E8, S8, R8, B8, o8, row8, by rw [HN.out]; exact D8, HNE⟩
            case measure => simp [intOf]; omega
          obtain ⟨hb3, hA⟩ := hbinf hbn
          have HN : Hid (addTo s e x t.cells (k + 1) = (addTo s e x t.cells k).set k ((il t.cells k).set (addAt s e k) ((il t.cells k).getD (addAt s e k) 0 + x))) := by show _ = _; rw [addTo, if_pos hbn]; rfl
          have hz := all_at hallk hA
          have hcls3 := sch_classes HAF.out.sch
          have HAD : Hid (addAt s e k = (e.bins.getD k 0).toNat * s.classes.length + e.cls.toNat) := rfl
          have hmpos : 0 < s.classes.length := by omega
          have hcm : e.cls.toNat < s.classes.length := by have := HAF.out.len; omega
          have hdiv : addAt s e k / s.classes.length = (e.bins.getD k 0).toNat := by rw [HAD.out, Nat.mul_comm, Nat.mul_add_div hmpos, Nat.div_eq_of_lt hcm, Nat.add_zero]
          have hmod : addAt s e k % s.classes.length = e.cls.toNat := by rw [HAD.out, Nat.mul_comm, Nat.mul_add_mod, Nat.mod_eq_of_lt hcm]
          have hkey := kat_of (m := s.classes.length) (i := addAt s e k) (by omega)
          rw [hdiv, hmod] at hkey
          obtain ⟨Q, hQ⟩ := Int.eq_ofNat_of_zero_le hbn
          rw [hQ] at cb hb3 hkey
          rw [Int.toNat_natCast, Int.toNat_of_nonneg hcl0] at hkey
          obtain ⟨A, hAe⟩ : ∃ A, A = addAt s e k := ⟨_, rfl⟩
          rw [← hAe] at hA HN hz hkey
          have ec := cellsOf_any (.slice ol (il t.cells k).length cl) (il t.cells k) s.classes.length wr (by rw [← hLk]; exact RowI.of_own li rfl) (by omega) hmpos (by omega) hallk
          have hbqn : ((Q : Int) != -1) = true := by rw [bne_iff_ne]; omega
          have HLEN : Hid (il (addTo s e x t.cells k) k = il t.cells k) := hil
          have HNN : Hid ((addTo s e x t.cells k).set k ((il t.cells k).set A ((il t.cells k).getD A 0 + x)) = addTo s e x t.cells (k + 1)) := HN.out.symm
          have hbw : Below wr.heap.size wr wr := Below.refl _ _
          clear hjB hrB hQ hAe HAD hil hbinf hbn HN hdiv hmod hcm
          go_wp2_with fail
          refine ec.mono ?_
          clear ec
          rintro r w9 ⟨D, rfl, hown, hD, hb9⟩
          obtain ⟨bm, hbm⟩ : ∃ bm, bm = wr.heap.size := ⟨_, rfl⟩
          have HBM : Hid (bm = wr.heap.size) := hbm
          have hbm1 : w.heap.size + 4 ≤ bm := by rw [hbm]; have := X8.lt; omega
          rw [← hbm] at hown ⊢
          have hhas : Maps.has D (kat s.classes.length A) = true := (hD.has _).2 ⟨A, by omega, hA, rfl⟩
          have hat : D.atKey (kat s.classes.length A) (.lit (.int .i64 0)) = .lit (.int .i64 ((il t.cells k).getD A 0)) := hD.at' A (by omega) hA _
          have HD2 : Hid (∀ q : Int, Holds (kat s.classes.length) (D.put (kat s.classes.length A) (.lit (.int .i64 q))) ((il t.cells k).set A q) 0 (il t.cells k).length) := fun q => hD.put_old (kat_nos _) (by omega) hA hA q
          have hS : Blk 33 w9.drew (w.heap.size + 1 + 1) #[.slice (some ⟨gb, fb, none⟩) e.bins.length kb, .int .i64 e.cls] ∧ w9.drew.cell? ⟨gb, fb + k, none⟩ = some (.int .i64 (Q : Int)) ∧ w9.drew.ownsMap Try.prog 81 (plainElem (H := Unit) Try.prog 3) bm (il t.cells k).length D := ⟨E8.below hb9.drew, (hb9.cell (p := ⟨gb, fb + k, none⟩) hgb).trans cb, hown⟩
          have hb9d : Below wr.heap.size wr w9.drew := hb9.drew
          generalize (il t.cells k).getD A 0 = z at hz hat HNN
          obtain ⟨hz0, hz1⟩ := hz
          clear hD hown hbm hb9 cb b0 s1 cl0 hbw
          go_wp2
          refine region_L (S := fun W => Blk 33 W (w.heap.size + 1 + 1) #[.slice (some ⟨gb, fb, none⟩) e.bins.length kb, .int .i64 e.cls] ∧ W.cell? ⟨gb, fb + k, none⟩ = some (.int .i64 (Q : Int)) ∧ W.ownsMap Try.prog 81 (plainElem (H := Unit) Try.prog 3) bm (il t.cells k).length D) (last := 14) mixed ?_
          generalize w9.drew = w10 at hS hb9d ⊢
          refine firstL 0 (.map (some bm)) rfl (by kernel_rfl) (by kernel_rfl) (by kernel_rfl) (fun _ _ _ h => h) (by kernel_rfl) (.inl ⟨by rfl, fun w hw => by rfl⟩) hS ?_
          try simp only [Act.put, List.setIfInBounds_toArray, List.set_cons_zero, List.set_cons_succ]
          refine firstL 1 (.pointer (some ⟨w.heap.size + 1 + 1, 0, none⟩)) rfl (by kernel_rfl) (by kernel_rfl) (by kernel_rfl) (fun _ _ _ h => h) (by kernel_rfl) (.inl ⟨by rfl, fun w hw => by (unfold execOp; go_simp; all_goals (rw [IntKind.wrap_i64]; omega))⟩) hS ?_
          try simp only [Act.put, List.setIfInBounds_toArray, List.set_cons_zero, List.set_cons_succ]
          refine firstL 2 (.slice (some ⟨gb, fb, none⟩) e.bins.length kb) rfl (by kernel_rfl) (by kernel_rfl) (by kernel_rfl) (fun _ _ _ h => h) (by kernel_rfl) (.inl ⟨by rfl, fun w hw => by have h := hw.1.cell 0; unfold execOp; go_simp⟩) hS ?_
          try simp only [Act.put, List.setIfInBounds_toArray, List.set_cons_zero, List.set_cons_succ]
          refine firstL 3 (.int .i64 (k : Int)) rfl (by kernel_rfl) (by kernel_rfl) (by kernel_rfl) (fun _ _ _ h => h) (by kernel_rfl) (.inl ⟨by rfl, fun w hw => by rfl⟩) hS ?_
          try simp only [Act.put, List.setIfInBounds_toArray, List.set_cons_zero, List.set_cons_succ]
          refine firstL 4 (.pointer (some ⟨gb, fb + k, none⟩)) rfl (by kernel_rfl) (by kernel_rfl) (by kernel_rfl) (fun _ _ _ h => h) (by kernel_rfl) (.inl ⟨by rfl, fun w hw => by (unfold execOp; go_simp; all_goals (rw [IntKind.wrap_i64]; omega))⟩) hS ?_
          try simp only [Act.put, List.setIfInBounds_toArray, List.set_cons_zero, List.set_cons_succ]
          refine firstL 5 (.int .i64 (Q : Int)) rfl (by kernel_rfl) (by kernel_rfl) (by kernel_rfl) (fun _ _ _ h => h) (by kernel_rfl) (.inl ⟨by rfl, fun w hw => by have h := hw.2.1; unfold execOp; go_simp⟩) hS ?_
          try simp only [Act.put, List.setIfInBounds_toArray, List.set_cons_zero, List.set_cons_succ]
          refine firstL 6 (.pointer (some ⟨w.heap.size + 1 + 1, 1, none⟩)) rfl (by kernel_rfl) (by kernel_rfl) (by kernel_rfl) (fun _ _ _ h => h) (by kernel_rfl) (.inl ⟨by rfl, fun w hw => by (unfold execOp; go_simp; all_goals (rw [IntKind.wrap_i64]; omega))⟩) hS ?_
          try simp only [Act.put, List.setIfInBounds_toArray, List.set_cons_zero, List.set_cons_succ]
          refine firstL 7 (.int .i64 e.cls) rfl (by kernel_rfl) (by kernel_rfl) (by kernel_rfl) (fun _ _ _ h => h) (by kernel_rfl) (.inl ⟨by rfl, fun w hw => by have h := hw.1.cell 1; unfold execOp; go_simp⟩) hS ?_
          try simp only [Act.put, List.setIfInBounds_toArray, List.set_cons_zero, List.set_cons_succ]
          refine firstL 8 (.agg #[.int .i64 (Q : Int), .int .i64 e.cls]) rfl (by kernel_rfl) (by kernel_rfl) (by kernel_rfl) (fun _ _ _ h => h) (by kernel_rfl) (.inl ⟨by rfl, fun w hw => by have e := buildKey (Q : Int) e.cls w; unfold execOp; simp only [List.map_toArray, List.map_cons, List.map_nil, Sem.run_bind]; exact (congrArg (fun r => Result.andThen r fun z w' => (pure (Next.value z) : Sem Next).run Try.prog w') e)⟩) hS ?_
          try simp only [Act.put, List.setIfInBounds_toArray, List.set_cons_zero, List.set_cons_succ]
          refine firstL 9 (.int .i64 z) rfl (by kernel_rfl) (by kernel_rfl) (by kernel_rfl) (fun _ _ _ h => h) (by kernel_rfl) (yields_look (by rfl) _ _ rfl bm rfl (.agg #[.int .i64 (Q : Int), .int .i64 e.cls]) rfl z (fun W hW => ⟨_, _, _, hW.2.2, hkey, hat⟩)) hS ?_
          try simp only [Act.put, List.setIfInBounds_toArray, List.set_cons_zero, List.set_cons_succ]
          refine firstL 10 (.int .i64 x) rfl (by kernel_rfl) (by kernel_rfl) (by kernel_rfl) (fun _ _ _ h => h) (by kernel_rfl) (.inl ⟨by rfl, fun w hw => by rfl⟩) hS ?_
          try simp only [Act.put, List.setIfInBounds_toArray, List.set_cons_zero, List.set_cons_succ]
          refine firstL 11 (.int .i64 (z + x)) rfl (by kernel_rfl) (by kernel_rfl) (by kernel_rfl) (fun _ _ _ h => h) (by kernel_rfl) (.inl ⟨by rfl, fun w hw => by (unfold execOp; go_simp; all_goals (rw [IntKind.wrap_i64]; omega))⟩) hS ?_
          try simp only [Act.put, List.setIfInBounds_toArray, List.set_cons_zero, List.set_cons_succ]
          obtain ⟨v0, st, hen, hsto⟩ := entry_there hS.2.2 kLaw0 Try.underlying78 (by unfold maxLen; omega) hkey hhas
          obtain ⟨w11, hrun, hown2, hg11⟩ := hsto (plainElem_int (H := Unit) Try.underlying3 (WalkArith.wf_i64 (n := z + x) (by omega)))
          refine stepL 12 rfl (by kernel_rfl) (by rfl) fun K hK => ?_
          refine wp_entry _ _ 78 rfl _ _ _ rfl rfl hen ?_
          refine hK _ _ hS ?_
          clear hK K
          try simp only [Act.put, List.setIfInBounds_toArray, List.set_cons_zero, List.set_cons_succ]
          refine firstL 13 (goInt st) rfl (by kernel_rfl) (by kernel_rfl) (by kernel_rfl) (fun _ _ _ h => h) (by kernel_rfl) (.inl ⟨by rfl, fun w hw => by rfl⟩) hS ?_
          try simp only [Act.put, List.setIfInBounds_toArray, List.set_cons_zero, List.set_cons_succ]
          refine lastL rfl (by kernel_rfl) (by kernel_rfl) (by rfl) ?_
          refine wp_entryStore _ _ _ 78 rfl _ _ _ rfl rfl rfl hrun ?_
          have hb11 : Below wr.heap.size wr w11 := hb9d.grown hg11 hb9d.size (fun j hj => by cases hj; exact Nat.le_of_eq HBM.out.symm)
          have hm2 := owns_tight hown2
          have HD3 := HD2.out (z + x)
          have hset : ((il t.cells k).set A (z + x)).length = (il t.cells k).length := List.length_set
          have hsz : Maps.size (D.put (kat s.classes.length A) (.lit (.int .i64 (z + x)))) = ((il t.cells k).set A (z + x)).length := by rw [HD3.size, hset]; omega
          rw [hsz] at hm2
          rw [← hset] at HD3
          obtain ⟨nl, hnl⟩ : ∃ nl, nl = (il t.cells k).set A (z + x) := ⟨_, rfl⟩
          rw [← hnl] at hm2 HD3 hset
          have HNN2 : Hid ((addTo s e x t.cells k).set k nl = addTo s e x t.cells (k + 1)) := by rw [hnl]; exact HNN.out
          have el := list_any bm _ s.classes.length nl w11.drew hm2 HD3 hmpos (by omega) (by omega)
          clear hnl HNN hset
          have hS : Blk 31 w11.drew p #[.slice (some ⟨g1, 0, none⟩) t.totals.length j1, .slice (some ⟨gr, 0, none⟩) t.cells.length j2] := X8.below hb11.drew
          have hb11d : Below wr.heap.size wr w11.drew := hb11.drew
          clear hown2 hm2 HD2 HD3 hen hsto hrun hat hhas hkey hb9d hg11 hb11 hsz
          simp only [Act.put]
          go_wp2
          refine region_L (S := fun W => Blk 31 W p #[.slice (some ⟨g1, 0, none⟩) t.totals.length j1, .slice (some ⟨gr, 0, none⟩) t.cells.length j2]) (last := 6) mixed ?_
          generalize w11.drew = w12 at hS hb11d el ⊢
          refine firstL 0 (.pointer (some ⟨p, 1, none⟩)) rfl (by kernel_rfl) (by kernel_rfl) (by kernel_rfl) (fun _ _ _ h => h) (by kernel_rfl) (.inl ⟨by rfl, fun w hw => by (unfold execOp; go_simp; all_goals (rw [IntKind.wrap_i64]; omega))⟩) hS ?_
          try simp only [Act.put, List.setIfInBounds_toArray, List.set_cons_zero, List.set_cons_succ]
          refine firstL 1 (.slice (some ⟨gr, 0, none⟩) t.cells.length j2) rfl (by kernel_rfl) (by kernel_rfl) (by kernel_rfl) (fun _ _ _ h => h) (by kernel_rfl) (.inl ⟨by rfl, fun w hw => by have h := hw.cell 1; unfold execOp; go_simp⟩) hS ?_
          try simp only [Act.put, List.setIfInBounds_toArray, List.set_cons_zero, List.set_cons_succ]
          refine firstL 2 (.int .i64 (k : Int)) rfl (by kernel_rfl) (by kernel_rfl) (by kernel_rfl) (fun _ _ _ h => h) (by kernel_rfl) (.inl ⟨by rfl, fun w hw => by rfl⟩) hS ?_
          try simp only [Act.put, List.setIfInBounds_toArray, List.set_cons_zero, List.set_cons_succ]
          refine firstL 3 (.map (some bm)) rfl (by kernel_rfl) (by kernel_rfl) (by kernel_rfl) (fun _ _ _ h => h) (by kernel_rfl) (.inl ⟨by rfl, fun w hw => by rfl⟩) hS ?_
          try simp only [Act.put, List.setIfInBounds_toArray, List.set_cons_zero, List.set_cons_succ]
          refine stepL 4 rfl (by kernel_rfl) (by rfl) fun K hK => ?_
          go_simp
          refine el.mono ?_
          clear el
          rintro r w13 ⟨vn, rfl, hon, hg13⟩
          have hb13 : Below wr.heap.size wr w13 := hb11d.grown hg13 hb11d.size (fun j hj => by cases hj; exact Nat.le_of_eq HBM.out.symm)
          have X13 := X8.below hb13
          refine hK _ _ X13 ?_
          clear hK K hS
          have hS := X13
          obtain ⟨on, cn, rfl⟩ := own_slice hon
          try simp only [Act.put, List.setIfInBounds_toArray, List.set_cons_zero, List.set_cons_succ]
          refine firstL 5 (.pointer (some ⟨gr, k, none⟩)) rfl (by kernel_rfl) (by kernel_rfl) (by kernel_rfl) (fun _ _ _ h => h) (by kernel_rfl) (.inl ⟨by rfl, fun w hw => by (unfold execOp; go_simp; all_goals (rw [IntKind.wrap_i64]; omega))⟩) hS ?_
          try simp only [Act.put, List.setIfInBounds_toArray, List.set_cons_zero, List.set_cons_succ]
          have row13 := own_below row8 hb13
          have D13 := D8.below hb13
          have fr := row13.frozenAt k
          have cr : w13.cell? ⟨gr, k, none⟩ = some (L k) := by rw [row13.cellAt k (by omega)]; exact D13.cells k hlt
          refine lastL rfl (by kernel_rfl) (by kernel_rfl) (by rfl) ?_
          go_simp
          have hon2 := own_base hon (b' := wr.heap.size) hb11d.size
          have D14 := D13.replace (i := k) (B := wr.heap.size) hlt (by have := row13.1; omega) (by rw [addTo_len]; exact hlt) D8.lt hon2 (by have := (row8.lt gr rfl).2; have := (row8.lt gr rfl).1; omega)
          rw [HNN2.out] at D14
          have hst := row13.stored k (.slice on nl.length cn)
          have mb : ∀ {T : TypeId} {g : Nat} {cs : Array Value}, Blk T w13 g cs → 28 ≠ T → gr ≠ g := fun hB hT e' => own_ne_blk row13 hB hT (by rw [← e']; rfl)
          have E13 := E8.below hb13
          have S13 := S8.below hb13
          have R13 := R8.below hb13
          have o13 := own_below o8 hb13
          have X15 := X13.setCell_other ⟨gr, k, none⟩ (.slice on nl.length cn) (mb X13 (by decide))
          have E15 := E13.setCell_other ⟨gr, k, none⟩ (.slice on nl.length cn) (mb E13 (by decide))
          have S15 := S13.setCell_other ⟨gr, k, none⟩ (.slice on nl.length cn) (mb S13 (by decide))
          have R15 := R13.setCell_other ⟨gr, k, none⟩ (.slice on nl.length cn) (mb R13 (by decide))
          have BF := (B8.trans (hb13.mono B8.size)).setCell (p := ⟨gr, k, none⟩) (by have := (row13.lt gr rfl).1; simp; omega) (.slice on nl.length cn)
          have o15 := own_setCellN o13 gr k (.slice on nl.length cn) (by
            rcases apart_ty o13 row13 (by decide) with h | h
            · rw [h]; intro e'; cases e'
            · intro e'; exact h e')
          have D15 : DoneII (w13.setCell ⟨gr, k, none⟩ (.slice on nl.length cn)) (w.heap.size + 4) (ys.set k (.slice on nl.length cn)) (fun j => if j = k then .slice on nl.length cn else L j) (addTo s e x t.cells (k + 1)) t.cells.length :=
            ⟨D14.cells, fun j hj => own_setCellN (D14.ints j hj) gr k _ (by
              rcases apart_ty (D14.ints j hj) row13 (by decide) with h | h
              · rw [h]; intro e'; cases e'
              · intro e'; exact h e'), D14.ord⟩
          have HNE2 : Hid (∀ j b, j < t.cells.length → (if j = k then Value.slice on nl.length cn else L j).ownBlock = some b → g1 ≠ b) := fun j b hj hb => by
            by_cases ej : j = k
            · rw [if_pos ej] at hb
              have h1 := (hon2.lt b hb).1
              have h2 := (o8.lt g1 rfl).2
              omega
            · rw [if_neg ej] at hb
              exact HNE.out j b hj hb
          have row15 := hst.1
          clear hS hb11d hg13 hb13 X13 hon hon2 row13 D13 fr cr D14 hst mb E13 S13 R13 o13 X8 E8 S8 R8 B8 o8 row8 D8 li
          go_wp2
          go_roundw
          case rel => exact ⟨k + 1, _, _, by go_num, by omega, X15, E15, S15, R15, BF, o15, row15, D15, HNE2⟩
          case measure => simp [intOf]; omega
        · obtain rfl : k = t.cells.length := by omega
          go_wp2_with (first
            | (with_reducible refine wp_st_load rfl _ rfl ?_; refine ⟨p, rfl, _, _, X8, ?_⟩)
            | (with_reducible refine wp_st_store rfl _ _ rfl ?_; refine ⟨w.heap.size + 1 + 1 + 1, rfl, _, _, _, _, _, _, rfl, _, _, R8, ?_⟩)
            | go_in)
          have oF := own_base (own_setRow o8 (w.heap.size + 1 + 1 + 1) #[.slice (some ⟨g1, 0, none⟩) t.totals.length j1, .slice q2 t.cells.length j2] (by omega)) (b' := w.heap.size) (by omega)
          have rF := own_base (own_setRow row8 (w.heap.size + 1 + 1 + 1) #[.slice (some ⟨g1, 0, none⟩) t.totals.length j1, .slice q2 t.cells.length j2] (by omega)) (b' := w.heap.size) (by omega)
          have DF := D8.setRowN R8 (by decide) #[.slice (some ⟨g1, 0, none⟩) t.totals.length j1, .slice q2 t.cells.length j2]
          refine bodyPost_ret (res_st1 Try.results12 _ _ _ _ _ _ rfl rfl (R8.setRow _)) rfl ⟨_, by rw [HYES.out]; rfl, ?_, below_row B8 (by omega) _⟩
          rw [add_yes HYES.out]
          have hc : ∀ j, j < (addSt s t e x).cells.length → j < t.cells.length := fun j hj => by
            have h : j < (addTo s e x t.cells t.cells.length).length := hj
            rwa [addTo_len] at h
          have HNEF : ∀ j a b, j < t.cells.length → (Value.slice (some ⟨g1, 0, none⟩) t.totals.length j1).ownBlock = some a → (L j).ownBlock = some b → a ≠ b := fun j a b hj ha hb => by
            have e' : g1 = a := by simpa [Value.ownBlock] using ha
            rw [← e']; exact HNE.out j b hj hb
          refine ⟨_, _, L, ys, rfl, ?_, ⟨?_, fun j hj => DF.cells j (hc j hj), fun j hj => own_base (DF.ints j (hc j hj)) (by omega), fun i j a b hij hj => DF.ord i j a b hij (hc j hj)⟩, fun j a b hj ha hb => HNEF j a b (hc j hj) ha hb⟩
          · show World.ownsRow _ _ _ _ _ (cellPut t.totals e.cls.toNat x).length _
            unfold cellPut at oF ⊢
            rw [List.length_set]; exact oF
          · show World.ownsRow _ _ _ _ _ (addTo s e x t.cells t.cells.length).length _
            rw [addTo_len]; exact rF
end Go.Proofs.Ytmdmplphendpcaa
/- What is added to counts, in either order; what is added is there: in plain words. -/
namespace Go.Proofs.Ytmdmplphendpcaa
open Go.RowKit
set_option maxRecDepth 100000
theorem sumL_foldl (l : List Int) (a : Int) : l.foldl (· + ·) a = a + sumL l := by
  unfold sumL
  induction l generalizing a with
  | nil => simp
  | cons b l ih => rw [List.foldl_cons, List.foldl_cons, ih (a + b), ih (0 + b)]; omega
theorem sumL_cons (a : Int) (l : List Int) : sumL (a :: l) = a + sumL l := by
  show l.foldl (· + ·) (0 + a) = _
  rw [sumL_foldl]; omega
theorem sumL_set : ∀ (l : List Int) (k : Nat) (v : Int), k < l.length → sumL (l.set k v) = sumL l - l.getD k 0 + v
  | [], k, v, h => absurd h (by simp)
  | a :: l, 0, v, _ => by rw [List.set_cons_zero, sumL_cons, sumL_cons]; simp only [List.getD_cons_zero]; omega
  | a :: l, k + 1, v, h => by
    rw [List.set_cons_succ, sumL_cons, sumL_cons, sumL_set l k v (by simpa using h), List.getD_cons_succ]; omega
theorem sumL_put {l : List Int} {k : Nat} (h : k < l.length) (x : Int) : sumL (cellPut l k x) = sumL l + x := by
  unfold cellPut; rw [sumL_set l k _ h]; omega
theorem put_len (l : List Int) (k : Nat) (x : Int) : (cellPut l k x).length = l.length := by unfold cellPut; rw [List.length_set]
theorem put_get (l : List Int) (k j : Nat) (x : Int) (h : k < l.length) : (cellPut l k x).getD j 0 = if j = k then l.getD k 0 + x else l.getD j 0 := by
  unfold cellPut
  rw [List.getD_eq_getElem?_getD]
  by_cases e : j = k
  · subst e; rw [if_pos rfl, List.getElem?_set_self h]; rfl
  · rw [if_neg e, List.getElem?_set_ne (fun h => e h.symm), ← List.getD_eq_getElem?_getD]
theorem getD_ext {l m : List Int} (h : l.length = m.length) (h2 : ∀ j, j < l.length → l.getD j 0 = m.getD j 0) : l = m := by
  refine List.ext_getElem h fun j h3 h4 => ?_
  have := h2 j h3
  rw [List.getD_eq_getElem?_getD, List.getD_eq_getElem?_getD, List.getElem?_eq_getElem h3, List.getElem?_eq_getElem h4] at this
  exact this
theorem put_comm (l : List Int) (k j : Nat) (x y : Int) (hk : k < l.length) (hj : j < l.length) : cellPut (cellPut l k x) j y = cellPut (cellPut l j y) k x := by
  refine getD_ext (by simp [put_len]) fun i _ => ?_
  rw [put_get (cellPut l k x) j i y (by rw [put_len]; exact hj), put_get (cellPut l j y) k i x (by rw [put_len]; exact hk), put_get l k j x hk, put_get l k i x hk, put_get l j k y hj, put_get l j i y hj]
  by_cases e1 : i = j <;> by_cases e2 : i = k
  · subst e1; subst e2; simp; omega
  · subst e1; rw [if_pos rfl, if_neg e2, if_neg e2, if_pos rfl]
  · subst e2; rw [if_neg e1, if_pos rfl, if_pos rfl, if_neg e1]
  · rw [if_neg e1, if_neg e2, if_neg e2, if_neg e1]
theorem all_getD {l : List Int} (h : ∀ j, j < l.length → 0 ≤ l.getD j 0 ∧ l.getD j 0 ≤ 999) : l.all inW = true := by
  rw [List.all_eq_true]
  intro a ha
  obtain ⟨j, hj, rfl⟩ := List.getElem_of_mem ha
  have := h j hj
  rw [List.getD_eq_getElem?_getD, List.getElem?_eq_getElem hj] at this
  exact decide_eq_true this
/-- One of some numbers that are not below 0 is at most all together. -/
theorem le_sum : ∀ (l : List Int), l.all inW = true → ∀ k, k < l.length → l.getD k 0 ≤ sumL l
  | [], _, k, h => absurd h (by simp)
  | a :: l, hl, k, h => by
    rw [List.all_cons, Bool.and_eq_true] at hl
    have ha := of_decide_eq_true hl.1
    have hs := sum_nonneg hl.2
    rw [sumL_cons]
    cases k with
    | zero => simp only [List.getD_cons_zero]; omega
    | succ k => rw [List.getD_cons_succ]; have := le_sum l hl.2 k (by simpa using h); omega
theorem place_eq {m b b' k k' : Nat} (hk : k < m) (hk' : k' < m) (h : b * m + k = b' * m + k') : b = b' ∧ k = k' := by
  have h1 : (b * m + k) / m = b := by rw [Nat.mul_comm, Nat.mul_add_div (by omega), Nat.div_eq_of_lt hk]; rfl
  have h2 : (b' * m + k') / m = b' := by rw [Nat.mul_comm, Nat.mul_add_div (by omega), Nat.div_eq_of_lt hk']; rfl
  have : b = b' := by rw [← h1, ← h2, h]
  subst this
  exact ⟨rfl, by omega⟩
theorem colL_len (c : List Int) (m k n : Nat) : (colL c m k n).length = n := by simp [colL]
theorem colL_get (c : List Int) (m k n j : Nat) (h : j < n) : (colL c m k n).getD j 0 = c.getD (j * m + k) 0 := by
  unfold colL
  rw [List.getD_eq_getElem?_getD, List.getElem?_map, List.getElem?_range h]
  rfl
/-- The column of a list of which one cell was turned. -/
theorem col_put {c : List Int} {m k n b q : Nat} (x : Int) (hk : k < m) (hq : q < m) (hb : b < n) (hc : b * m + q < c.length) :
    colL (cellPut c (b * m + q) x) m k n = if k = q then cellPut (colL c m k n) b x else colL c m k n := by
  by_cases e : k = q
  · subst e
    rw [if_pos rfl]
    refine getD_ext (by simp [put_len, colL_len]) fun j hj => ?_
    rw [colL_len] at hj
    rw [colL_get _ _ _ _ _ hj, put_get _ _ _ _ hc, put_get _ _ _ _ (by rw [colL_len]; exact hb), colL_get _ _ _ _ _ hb, colL_get _ _ _ _ _ hj]
    by_cases e : j = b
    · subst e; rw [if_pos rfl, if_pos rfl]
    · rw [if_neg e, if_neg fun h => e (place_eq hk hk h).1]
  · rw [if_neg e]
    refine getD_ext (by simp [colL_len]) fun j hj => ?_
    rw [colL_len] at hj
    rw [colL_get _ _ _ _ _ hj, colL_get _ _ _ _ _ hj, put_get _ _ _ _ hc, if_neg fun h => e (place_eq hk hq h).2]
theorem addTo_get (s : SchemaD) (e : ExD) (x : Int) (cs : List (List Int)) : ∀ n, n ≤ cs.length → ∀ j, j < n → il (addTo s e x cs n) j = if 0 ≤ e.bins.getD j 0 then cellPut (il cs j) (addAt s e j) x else il cs j
  | 0, _, j, h => absurd h (by omega)
  | n + 1, hn, j, h => by
    by_cases ej : j = n
    · subst ej
      unfold addTo
      split
      · rw [il_set (by rw [addTo_len]; omega), if_pos rfl]
      · exact addTo_rest s e x cs j j (Nat.le_refl _) (by omega)
    · have ih := addTo_get s e x cs n (by omega) j (by omega)
      rw [← ih]
      show il (if 0 ≤ e.bins.getD n 0 then (addTo s e x cs n).set n (cellPut (il cs n) (addAt s e n) x) else addTo s e x cs n) j = _
      split
      · rw [il_set (by rw [addTo_len]; omega), if_neg ej]
      · rfl
structure OkF (s : SchemaD) (t : StatsD) : Prop where
  sch : schemaOk s = true
  len : t.totals.length = s.classes.length
  tot : t.totals.all inW = true
  sum : sumL t.totals ≤ 999
  cells : t.cells.length = 0 ∨ (t.cells.length = s.attrs.length ∧ (List.range t.cells.length).all (cellOk s t) = true)
theorem okF_iff {s : SchemaD} {t : StatsD} : statsOk s t = true ↔ OkF s t := by
  constructor
  · intro h
    obtain ⟨h1, h2, h3, h4⟩ := statsOk_parts h
    refine ⟨h1, h2, h3, h4, ?_⟩
    unfold statsOk at h
    rw [Bool.and_eq_true, Bool.and_eq_true, Bool.and_eq_true, Bool.and_eq_true, Bool.or_eq_true, Bool.and_eq_true, decide_eq_true_eq, decide_eq_true_eq, decide_eq_true_eq, decide_eq_true_eq] at h
    exact h.2.2.2.2
  · intro h
    unfold statsOk
    rw [Bool.and_eq_true, Bool.and_eq_true, Bool.and_eq_true, Bool.and_eq_true, Bool.or_eq_true, Bool.and_eq_true, decide_eq_true_eq, decide_eq_true_eq, decide_eq_true_eq, decide_eq_true_eq]
    exact ⟨h.sch, h.len, h.tot, h.sum, h.cells⟩
theorem colOk_iff {t : StatsD} {c : List Int} {m n k : Nat} : colOk t c m n k = true ↔ (colL c m k n).all inW = true ∧ sumL (colL c m k n) ≤ t.totals.getD k 0 := by
  unfold colOk; rw [Bool.and_eq_true, decide_eq_true_eq]
theorem ex_bin {s : SchemaD} {e : ExD} (h : exOk s e = true) {i : Nat} (hi : i < e.bins.length) : e.bins.getD i 0 ≤ bins (ad s.attrs i) - 1 := by
  unfold exOk binsRight at h
  rw [Bool.and_eq_true, Bool.and_eq_true, Bool.and_eq_true, List.all_eq_true] at h
  have := h.2.2.2 i (List.mem_range.2 hi)
  exact (of_decide_eq_true this).2
/-- What is right stays right when something is added. -/
theorem add_right {s : SchemaD} {t : StatsD} {e : ExD} {x : Int} (h : addOk s t e x = true) : statsOk s (addSt s t e x) = true := by
  have hF := add_facts h
  unfold addOk at h
  rw [Bool.and_eq_true, Bool.and_eq_true, Bool.and_eq_true, Bool.and_eq_true, decide_eq_true_eq, decide_eq_true_eq, decide_eq_true_eq] at h
  obtain ⟨h1, h2, h3, h4, h5⟩ := h
  have hO := okF_iff.1 h1
  have ht : statsTotal s t = sumL t.totals := by unfold statsTotal; rw [if_pos h1]
  rw [ht] at h5
  obtain ⟨q, hq⟩ := Int.eq_ofNat_of_zero_le h3
  have hqc : q < s.classes.length := by have := hF.cls; omega
  have hqt : q < t.totals.length := by rw [hO.len]; exact hqc
  have hcn : e.cls.toNat = q := by omega
  have hsum : sumL (cellPut t.totals q x) = sumL t.totals + x := sumL_put hqt x
  have hat : ∀ {k}, k < t.totals.length → 0 ≤ t.totals.getD k 0 ∧ t.totals.getD k 0 ≤ 999 := fun hk => allW_at hO.tot hk
  have hle := le_sum _ hO.tot
  rw [okF_iff]
  refine ⟨hO.sch, ?_, ?_, ?_, ?_⟩
  · show (cellPut t.totals _ x).length = _; rw [put_len]; exact hO.len
  · show (cellPut t.totals e.cls.toNat x).all inW = true
    rw [hcn]
    refine all_getD fun j hj => ?_
    rw [put_len] at hj
    rw [put_get _ _ _ _ hqt]
    have a1 := hat hj
    have a2 := hat hqt
    have a3 := hle q hqt
    split <;> omega
  · show sumL (cellPut t.totals e.cls.toNat x) ≤ 999
    rw [hcn, hsum]; exact h5
  · show (addTo s e x t.cells t.cells.length).length = 0 ∨ (addTo s e x t.cells t.cells.length).length = s.attrs.length ∧ _
    rw [addTo_len]
    rcases hO.cells with h0 | ⟨h0, hall⟩
    · exact .inl h0
    · refine .inr ⟨h0, ?_⟩
      show (List.range (addTo s e x t.cells t.cells.length).length).all _ = true
      rw [addTo_len, List.all_eq_true]
      intro i hi
      have hi' := List.mem_range.1 hi
      have hok := List.all_eq_true.1 hall i hi
      unfold cellOk at hok ⊢
      rw [Bool.and_eq_true, decide_eq_true_eq] at hok ⊢
      have hcell := addTo_get s e x t.cells _ (Nat.le_refl _) i hi'
      show ((il (addTo s e x t.cells t.cells.length) i).length : Int) = _ ∧ (List.range s.classes.length).all (colOk (addSt s t e x) (il (addTo s e x t.cells t.cells.length) i) s.classes.length (bins (ad s.attrs i)).toNat) = true
      rw [hcell]
      obtain ⟨b0, b1⟩ := small_bins (ad s.attrs i)
      obtain ⟨nb, hnb⟩ := Int.eq_ofNat_of_zero_le b0
      have hnn : (bins (ad s.attrs i)).toNat = nb := by omega
      rw [hnn] at hok ⊢
      have htk : ∀ k, (addSt s t e x).totals.getD k 0 = if k = q then t.totals.getD q 0 + x else t.totals.getD k 0 := fun k => by
        show (cellPut t.totals e.cls.toNat x).getD k 0 = _
        rw [hcn, put_get _ _ _ _ hqt]
      refine ⟨?_, ?_⟩
      · split
        · rw [put_len]; exact hok.1
        · exact hok.1
      · rw [List.all_eq_true]
        intro k hk
        have hk' := List.mem_range.1 hk
        have hc := colOk_iff.1 (List.all_eq_true.1 hok.2 k hk)
        rw [colOk_iff, htk]
        have ux := h4.1
        split
        · rename_i hbin
          obtain ⟨p1, p2⟩ := (hF.cell i hi').2.2 hbin
          have hlt : e.bins.getD i 0 ≤ bins (ad s.attrs i) - 1 := ex_bin h2 (by rw [hF.bins]; omega)
          obtain ⟨bn, hbn⟩ := Int.eq_ofNat_of_zero_le hbin
          have hbnb : bn < nb := by omega
          have hA : addAt s e i = bn * s.classes.length + q := by unfold addAt; rw [hcn, show (e.bins.getD i 0).toNat = bn by omega]
          rw [hA] at p2 ⊢
          rw [col_put x hk' hqc hbnb p2]
          by_cases ek : k = q
          · subst ek
            rw [if_pos rfl, if_pos rfl]
            have hl : bn < (colL (il t.cells i) s.classes.length k nb).length := by rw [colL_len]; exact hbnb
            rw [sumL_put hl]
            refine ⟨all_getD fun j hj => ?_, by omega⟩
            rw [put_len] at hj
            rw [put_get _ _ _ _ hl]
            have a1 := allW_at hc.1 hj
            have a2 := allW_at hc.1 hl
            have a3 := le_sum _ hc.1 _ hl
            have a4 := hle k hqt
            have hc2 := hc.2
            split <;> omega
          · rw [if_neg ek, if_neg ek]; exact hc
        · refine ⟨hc.1, ?_⟩
          have := hc.2
          split
          · rename_i e; subst e; omega
          · exact this
theorem add_total {s : SchemaD} {t : StatsD} {e : ExD} {x : Int} (h : addOk s t e x = true) : statsTotal s (addSt s t e x) = statsTotal s t + x := by
  have hF := add_facts h
  have hr := add_right h
  unfold addOk at h
  rw [Bool.and_eq_true] at h
  unfold statsTotal
  rw [if_pos hr, if_pos h.1]
  exact sumL_put (by have := hF.cls; have := hF.len; omega) x
theorem add_iff {s : SchemaD} {t : StatsD} {e : ExD} {x : Int} : addOk s t e x = true ↔ statsOk s t = true ∧ exOk s e = true ∧ 0 ≤ e.cls ∧ (1 ≤ x ∧ x ≤ 7) ∧ statsTotal s t + x ≤ 999 := by
  unfold addOk
  rw [Bool.and_eq_true, Bool.and_eq_true, Bool.and_eq_true, Bool.and_eq_true, decide_eq_true_eq, decide_eq_true_eq, decide_eq_true_eq]
/-- Who may be added first may be added second. -/
theorem add_swap {s : SchemaD} {t : StatsD} {e f : ExD} {x u : Int} (h1 : addOk s t e x = true) (h2 : addOk s (addSt s t e x) f u = true) : addOk s t f u = true ∧ addOk s (addSt s t f u) e x = true := by
  have ht := add_total h1
  have a1 := add_iff.1 h1
  have a2 := add_iff.1 h2
  rw [ht] at a2
  have h3 : addOk s t f u = true := add_iff.2 ⟨a1.1, a2.2.1, a2.2.2.1, a2.2.2.2.1, by omega⟩
  refine ⟨h3, add_iff.2 ⟨add_right h3, a1.2.1, a1.2.2.1, a1.2.2.2.1, ?_⟩⟩
  rw [add_total h3]; omega
theorem il_ext {a b : List (List Int)} (h : a.length = b.length) (h2 : ∀ j, j < a.length → il a j = il b j) : a = b := by
  refine List.ext_getElem h fun j h3 h4 => ?_
  have := h2 j h3
  rwa [il_eq h3, il_eq h4] at this
theorem add_comm8 {s : SchemaD} {t : StatsD} {e f : ExD} {x u : Int} (h1 : addOk s t e x = true) (h2 : addOk s t f u = true) : addSt s (addSt s t e x) f u = addSt s (addSt s t f u) e x := by
  have hE := add_facts h1
  have hF := add_facts h2
  have e1 : cellPut (cellPut t.totals e.cls.toNat x) f.cls.toNat u = cellPut (cellPut t.totals f.cls.toNat u) e.cls.toNat x :=
    put_comm _ _ _ _ _ (by have := hE.cls; have := hE.len; omega) (by have := hF.cls; have := hF.len; omega)
  have e2 : addTo s f u (addTo s e x t.cells t.cells.length) (addTo s e x t.cells t.cells.length).length = addTo s e x (addTo s f u t.cells t.cells.length) (addTo s f u t.cells t.cells.length).length := by
    refine il_ext (by simp only [addTo_len]) fun j hj => ?_
    simp only [addTo_len] at hj
    rw [addTo_get _ _ _ _ _ (Nat.le_refl _) j (by simpa only [addTo_len] using hj), addTo_get _ _ _ _ _ (Nat.le_refl _) j hj, addTo_get _ _ _ _ _ (Nat.le_refl _) j (by simpa only [addTo_len] using hj), addTo_get _ _ _ _ _ (Nat.le_refl _) j hj]
    by_cases c1 : 0 ≤ e.bins.getD j 0 <;> by_cases c2 : 0 ≤ f.bins.getD j 0
    · rw [if_pos c1, if_pos c2, if_pos c2, if_pos c1]
      exact put_comm _ _ _ _ _ ((hE.cell j hj).2.2 c1).2 ((hF.cell j hj).2.2 c2).2
    · rw [if_pos c1, if_neg c2, if_neg c2, if_pos c1]
    · rw [if_neg c1, if_pos c2, if_neg c1]
    · rw [if_neg c1, if_neg c2, if_neg c1]
  unfold addSt
  simp only
  rw [e1, e2]
theorem statsSame_self (a : StatsD) : statsSame a a = true := by simp [statsSame]
/-- Either order: both may be added, and leave the same; or one may not, either way. -/
theorem any_order (s : SchemaD) (t : StatsD) (e f : ExD) (x u : Int) :
    (addOk s t e x = true ∧ addOk s (statsAdd s t e x) f u = true ∧ addOk s t f u = true ∧ addOk s (statsAdd s t f u) e x = true ∧ statsAdd s (statsAdd s t e x) f u = statsAdd s (statsAdd s t f u) e x) ∨
    ((addOk s t e x && addOk s (statsAdd s t e x) f u) = false ∧ (!addOk s t f u || !addOk s (statsAdd s t f u) e x) = true) := by
  by_cases h1 : addOk s t e x = true ∧ addOk s (statsAdd s t e x) f u = true
  · obtain ⟨h1, h2⟩ := h1
    rw [add_yes h1] at h2
    obtain ⟨h3, h4⟩ := add_swap h1 h2
    refine .inl ⟨h1, by rw [add_yes h1]; exact h2, h3, by rw [add_yes h3]; exact h4, ?_⟩
    rw [add_yes h1, add_yes h2, add_yes h3, add_yes h4]
    exact add_comm8 h1 h3
  · refine .inr ⟨?_, ?_⟩
    · rw [Bool.eq_false_iff]; intro h; rw [Bool.and_eq_true] at h; exact h1 h
    · by_cases h3 : addOk s t f u = true ∧ addOk s (statsAdd s t f u) e x = true
      · obtain ⟨h3, h4⟩ := h3
        rw [add_yes h3] at h4
        obtain ⟨h5, h6⟩ := add_swap h3 h4
        exact absurd ⟨h5, by rw [add_yes h5]; exact h6⟩ h1
      · cases h4 : addOk s t f u with
        | false => rfl
        | true =>
          cases h5 : addOk s (statsAdd s t f u) e x with
          | false => rfl
          | true => exact absurd ⟨h4, h5⟩ h3
end Go.Proofs.Ytmdmplphendpcaa
/- Two lists held against each other, in plain words. -/
namespace Go.Proofs.Ytmdmplphendpcaa
open Go.RowKit
set_option maxRecDepth 100000
theorem same_len {α : Type} [DecidableEq α] {a b : List α} (h : a.length ≠ b.length) : decide (a = b) = false := decide_eq_false fun e => h (by rw [e])
theorem sameI_yes {a b : List Int} (hl : a.length = b.length) (h : ∀ j, j < a.length → a.getD j 0 = b.getD j 0) : decide (a = b) = true := by
  apply decide_eq_true
  apply List.ext_getElem hl
  intro i h1 h2
  have := h i h1
  simpa [h1, h2] using this
theorem sameI_no {a b : List Int} {k : Nat} (h : a.getD k 0 ≠ b.getD k 0) : decide (a = b) = false := decide_eq_false fun e => h (by rw [e])
theorem sameS_yes {a b : List ByteArray} (hl : a.length = b.length) (h : ∀ j, j < a.length → tx a j = tx b j) : decide (a = b) = true := by
  apply decide_eq_true
  apply List.ext_getElem hl
  intro i h1 h2
  have := h i h1
  rwa [tx_eq h1, tx_eq h2] at this
theorem sameS_no {a b : List ByteArray} {k : Nat} (h : tx a k ≠ tx b k) : decide (a = b) = false := decide_eq_false fun e => h (by rw [e])

end Go.Proofs.Ytmdmplphendpcaa
