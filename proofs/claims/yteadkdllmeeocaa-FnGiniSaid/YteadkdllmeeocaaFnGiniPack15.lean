/- Texts of this claim, put together: part 15. -/
import Derived.Test.YteadkdllmeeocaaFnGiniPack6
import Derived.Test.YteadkdllmeeocaaFnGiniPack3
import Derived.Test.YteadkdllmeeocaaFnGiniPack7
import Derived.Test.YteadkdllmeeocaaFnGiniPack5
import Derived.Test.YteadkdllmeeocaaRows
import Derived.WalkKit
import Derived.ProofKit
import Derived.OpenShut
import Derived.Test.YteadkdllmeeocaaFnGiniPack4
import Derived.Test.YteadkdllmeeocaaFnGiniPack14
import Derived.BigGuardPart
/- The sum of squares and the sum, by the specification. -/
namespace Go.Proofs.Yteadkdllmeeocaa
open Go.RowKit
set_option maxRecDepth 100000
set_option linter.unusedSimpArgs false
theorem specSum10_any (v : Value) (cs : List Int) (w : World) (h : RowI w v cs) (hn : cs.length ≤ 1048576) (hb : ∀ j, j < cs.length → inW (cs.getD j 0) = true) :
    Calls Try.prog 46 #[v] w fun e w' => e = .returned (.int .i64 (sumL cs)) ∧ w' = w := by
  obtain ⟨oa, cap, rfl, hc, hr⟩ := h
  have HJ : Hid (∀ k, k < cs.length → ∃ g o, oa = some ⟨g, o, none⟩ ∧ w.cell? ⟨g, o + k, none⟩ = some (.int .i64 (cs.getD k 0))) := fun k hk => by
    obtain ⟨g, o, e, hg, hj⟩ := hr (by omega)
    exact ⟨g, o, e, hj k hk⟩
  have HB : Hid (∀ j, j < cs.length → inW (cs.getD j 0) = true) := hb
  clear hr hb
  go_enter Try.func46, Try.ntmps46
  go_wp2
  go_loop [3, 4] (fun n i => ∃ k : Nat, i = .int .i64 k ∧ n = .int .i64 (sumL (cs.take k)) ∧ k ≤ cs.length) (fun _ i => cs.length - (intOf i).toNat)
  case atStart => exact ⟨0, rfl, rfl, by omega⟩
  case round =>
    obtain ⟨k, rfl, rfl, hk⟩ := hrel
    have HL := sum_bound10 k hk fun j hj => HB.out j (by omega)
    by_cases hlt : k < cs.length
    · obtain ⟨g, o, rfl, hcell⟩ := HJ.out k hlt
      have hin := of_decide_eq_true (HB.out k hlt)
      have HS : Hid (sumL (cs.take (k + 1)) = sumL (cs.take k) + cs.getD k 0) := sum_take10 hlt
      generalize cs.getD k 0 = c at hcell HS hin
      generalize sumL (cs.take k) = b at HL HS
      have h1 : b + c ≤ 1048576 * 999 + 999 := by omega
      go_wp2
      go_round
      case rel => exact ⟨k + 1, by go_num, by rw [HS.out], by omega⟩
      case measure => simp [intOf]; omega
    · have HE : Hid (sumL (cs.take k) = sumL cs) := by rw [List.take_of_length_le (by omega)]; rfl
      rw [HE.out]
      go_wp2
      go_ret
      exact ⟨rfl, rfl⟩
theorem specSquares_any (v : Value) (cs : List Int) (w : World) (h : RowI w v cs) (hn : cs.length ≤ 1099511627776) :
    Calls Try.prog 12 #[v] w fun e w' => e = .returned (.int .i64 (squares cs)) ∧ Below w.heap.size w w' := by
  obtain ⟨oa, cap, rfl, hc, hr⟩ := h
  by_cases h3 : 3 < cs.length
  · rw [squares_long h3]
    clear hr
    go_enter Try.func12, Try.ntmps12
    go_wp2
    go_ret
    exact ⟨rfl, Below.refl _ _⟩
  have HJ : Hid (∀ W, Below w.heap.size w W → ∀ k, k < cs.length → ∃ g o, oa = some ⟨g, o, none⟩ ∧ W.cell? ⟨g, o + k, none⟩ = some (.int .i64 (cs.getD k 0))) := fun W hW k hk => by
    obtain ⟨g, o, e, hg, hj⟩ := hr (by omega)
    exact ⟨g, o, e, (hW.cell (p := ⟨g, o + k, none⟩) hg).trans (hj k hk)⟩
  clear hr
  have hq3 : decide (3 < cs.length) = false := decide_eq_false h3
  go_enter Try.func12, Try.ntmps12
  go_wp2
  clear hq3
  go_loopw [3, 4] (fun n i wr => ∃ k : Nat, i = .int .i64 k ∧ n = .int .i64 (sqL (cs.take k)) ∧ k ≤ cs.length ∧ Hid (∀ j, j < k → inW (cs.getD j 0) = true) ∧ Below w.heap.size w wr) (fun _ i _ => cs.length - (intOf i).toNat)
  case atStart => exact ⟨0, rfl, rfl, by omega, fun j hj => by omega, Below.refl _ _⟩
  case round =>
    obtain ⟨k, rfl, rfl, hk, HB, hbr⟩ := hrel
    have HL := sq_bound k hk fun j hj => HB.out j hj
    by_cases hlt : k < cs.length
    rotate_left
    · have HE : Hid (sqL (cs.take k) = squares cs) := by
        show _ = _
        rw [squares_yes (by omega) (fun j hj => HB.out j (by omega))]
        rw [List.take_of_length_le (by omega), List.take_of_length_le (by omega)]
      rw [HE.out]
      go_wp2
      go_ret
      exact ⟨rfl, hbr⟩
    obtain ⟨g, o, rfl, hcell⟩ := HJ.out wr hbr k hlt
    have hcell2 : wr.drew.cell? ⟨g, o + k, none⟩ = some (.int .i64 (cs.getD k 0)) := hcell
    have HS : Hid (sqL (cs.take (k + 1)) = sqL (cs.take k) + cs.getD k 0 * cs.getD k 0) := sq_take hlt
    by_cases hin : 0 ≤ cs.getD k 0 ∧ cs.getD k 0 ≤ 999
    rotate_left
    · have HE : Hid (squares cs = -1) := squares_no hlt (decide_eq_false hin)
      have cc := in_any (cs.getD k 0) 0 999 wr
      rw [decide_eq_false hin] at cc
      clear hin HS hcell2
      generalize cs.getD k 0 = c at hcell cc
      go_wp2_with fail
      refine cc.mono ?_
      rintro e w2 ⟨rfl, e2⟩
      rw [e2]
      go_wp2
      go_ret
      exact ⟨by show _ = Ending.returned (.int .i64 (squares cs)); rw [HE.out]; rfl, hbr⟩
    have HIN : Hid (inW (cs.getD k 0) = true) := decide_eq_true hin
    have hsq := sq_small HIN.out
    have cc := in_any (cs.getD k 0) 0 999 wr
    rw [decide_eq_true hin] at cc
    have HB2 : Hid (∀ j, j < k + 1 → inW (cs.getD j 0) = true) := fun j hj => by
      rcases Nat.lt_or_eq_of_le (Nat.le_of_lt_succ hj) with h | h
      · exact HB.out j h
      · rw [h]; exact HIN.out
    clear HB HIN
    generalize cs.getD k 0 = c at hcell hcell2 cc hin HS hsq
    generalize sqL (cs.take k) = b at HL HS
    generalize hcc : c * c = y at HS hsq
    go_wp2_with fail
    refine cc.mono ?_
    clear cc
    rintro e w2 ⟨rfl, e2⟩
    rw [e2]
    clear e2 w2
    go_wp2_with fail
    go_quiet (fail)
    go_wp2
    go_roundw
    case rel => exact ⟨k + 1, by go_num, by rw [HS.out], by omega, HB2, below_drewN hbr _⟩
    case measure => simp [intOf]; omega
end Go.Proofs.Yteadkdllmeeocaa
/- In a region that draws its order: the load of a whole struct. -/
namespace Go.Proofs.Yteadkdllmeeocaa
open Go.RowKit
set_option maxRecDepth 100000

theorem yields_row {ops : Array Oper} {S : World → Prop} {op : Oper} {a : Act} {T : TypeId} {d : Array Field} {cs : Array Value} (hu : Try.prog.underlying T = some (.struct d))
    (hi : (Try.prog.info? T).map (·.size) = some cs.size) (hw : Region.wanted op (yielded ops a.tmps) = true) (x : Operand) (ho : op.op = .load T x)
    (g : Nat) (hx : a.eval x = .pointer (some ⟨g, 0, none⟩)) (hS : ∀ w, S w → Blk T w g cs) : YieldsIf Try.prog ops S op (.agg cs) a :=
  .inl ⟨hw, fun w hw' => by
    unfold execOp
    simp only [ho, hx, Instr.loadAt, Instr.sureAddr, Sem.run_bind, Sem.run_pure, Result.andThen_ok, run_loadVar_row w g _ T _ _ _ (hS w hw') hu rfl hi]⟩
end Go.Proofs.Yteadkdllmeeocaa
/- A step of a region that draws; a row as a slice. -/
namespace Go.Proofs.Yteadkdllmeeocaa
open Go.RowKit
set_option maxRecDepth 100000
theorem step_wp {P : Program} {ops : Array Oper} {o : Oper} {a : Act} {w : World} {K : Act → World → Prop} {Q : Exit → Act → World → Prop} {E : Prop} (hg : o.guard = none) (h : Oper.wp P o a w K Q) :
    if Region.wanted o (yielded ops a.tmps) = true then Oper.wp P o a w K Q else E := by
  rw [if_pos (by simp [Region.wanted, hg])]; exact h
theorem own_slice {w : World} {b e s n : Nat} {v : Value} {xs : List Value} (h : w.ownsRow b e s v n xs) : ∃ o c, v = .slice o n c := by
  rcases h.2 with ⟨rfl, h0⟩ | ⟨g, cap, cur, rfl, _⟩
  · exact ⟨none, 0, by rw [h0]⟩
  · exact ⟨_, _, rfl⟩
end Go.Proofs.Yteadkdllmeeocaa
/- For every code the law FnGini returns true (the walk). -/
namespace Go.Proofs.Yteadkdllmeeocaa
open Go.RowKit
set_option maxRecDepth 100000
set_option linter.unusedSimpArgs false
set_option maxHeartbeats 6400000 in
theorem fnGini_in (a0 : Option Addr) (len0 cap0 : Nat) (z0 : List Int) (w : World) (h0 : IsRow .u8 w a0 len0 cap0 z0) (hlen : len0 ≤ 1048576) :
    Calls Try.prog 3 #[.slice a0 len0 cap0] w fun e w' => e = .returned (.bool true) ∧ Below w.heap.size w w' := by
  have c1 := big_any a0 len0 cap0 w (by omega)
  rw [decide_eq_false (by omega)] at c1
  go_enter Try.func3, Try.ntmps3
  go_wp2_with fail
  refine c1.mono ?_
  clear c1
  rintro e w0 ⟨rfl, e0⟩
  rw [e0]; clear e0 w0
  go_wp2_with fail
  refine (drawGini_any a0 len0 cap0 z0 w h0 hlen).mono ?_
  clear h0
  rintro e w1 ⟨v, ys, rfl, hyl, hown, B⟩
  obtain ⟨oy, cy, rfl⟩ := own_slice hown
  have HRY : Hid (∀ W, Below w1.heap.size w1 W → RowI W (.slice oy ys.length cy) ys) := fun W h => (RowI.of_own hown rfl).later h
  have HB : Hid (Below w.heap.size w w1) := B
  have hbs := B.size
  clear hown B
  have cc := implGini_any _ ys w1 (HRY.out w1 (Below.refl _ _)) (by omega)
  go_wp2_with fail
  refine cc.mono ?_
  clear cc
  rintro e w2 ⟨rfl, hb⟩
  obtain ⟨n1, hn1⟩ : ∃ n1, giniN ys = n1 := ⟨_, rfl⟩
  obtain ⟨n2, hn2⟩ : ∃ n2, giniD ys = n2 := ⟨_, rfl⟩
  have HN : Hid (giniN ys = n1 ∧ giniD ys = n2) := ⟨hn1, hn2⟩
  rw [hn1, hn2]
  clear hn1 hn2
  have hb2s := hb.size
  obtain ⟨KA, BN⟩ := blk_1 27 w2 #[.int .i64 n1, .int .i64 n2]
  have PP := Pair10.start (w2.alloc (.cells #[.int .i64 n1, .int .i64 n2] 27))
  have BP : Below (w2.alloc (.cells #[.int .i64 n1, .int .i64 n2] 27)).heap.size (w2.alloc (.cells #[.int .i64 n1, .int .i64 n2] 27)) (((w2.alloc (.cells #[.int .i64 n1, .int .i64 n2] 27)).alloc (.cells #[] 3)).alloc (.cells #[] 3)) := ((Below.refl _ _).alloc (Nat.le_refl _) _).alloc (by simp) _
  replace KA := KA.below BP
  have h5 := (hb.trans (BN.mono hb.size)).trans (BP.mono (hb.trans (BN.mono hb.size)).size)
  rw [World.size_alloc] at PP
  clear hb BN BP
  go_wp2
  generalize ((w2.alloc (.cells #[.int .i64 n1, .int .i64 n2] 27)).alloc (.cells #[] 3)).alloc (.cells #[] 3) = w5 at KA PP h5 ⊢
  obtain ⟨gA, hgA⟩ : ∃ gA, w2.heap.size = gA := ⟨_, rfl⟩
  rw [hgA] at KA PP hb2s ⊢
  clear hgA
  obtain ⟨gr, hgr⟩ : ∃ gr : Nat → Int, (fun k => ys.getD (ys.length - 1 - k) 0) = gr := ⟨_, rfl⟩
  have HGR : Hid (∀ k, gr k = ys.getD (ys.length - 1 - k) 0) := fun k => by rw [← hgr]
  have HGE : Hid ((fun k => ys.getD (ys.length - 1 - k) 0) = gr) := hgr
  clear hgr
  go_loopw [5, 7, 8] (fun vb so i wr => ∃ k : Nat, i = .int .i64 k ∧ so = .int .i64 ((posTo ys k : Nat) : Int) ∧ k ≤ ys.length ∧ Pair10 (gA + 1) wr vb (.slice (some ⟨gA + 1 + 1, 0, none⟩) 0 0) (mkL k gr) [] ∧ Blk 27 wr gA #[.int .i64 n1, .int .i64 n2] ∧ gA + 1 ≤ wr.heap.size ∧ Hid (Below w1.heap.size w1 wr)) (fun _ _ i _ => ys.length - (intOf i).toNat)
  case atStart => exact ⟨0, rfl, rfl, by omega, PP, KA, KA.lt, h5⟩
  case round =>
    clear PP KA h5
    obtain ⟨k, rfl, rfl, hk, PP, KA, hsz, HBR⟩ := hrel
    have hbr := HBR.out
    have hpo := posTo_le ys k
    by_cases hlt : k < ys.length
    rotate_left
    · have HK : Hid (k = ys.length) := by show _ = _; omega
      have PQ := PP
      rw [HK.out] at PQ
      clear PP
      have cc := specSquares_any _ ys wr (HRY.out wr hbr) (by omega)
      have HPK : Hid (posTo ys k = posTo ys ys.length) := by show _ = _; rw [HK.out]
      generalize posTo ys k = pk at HPK hpo ⊢
      go_wp2_with fail
      refine cc.mono ?_
      clear cc hlt hk HK
      rintro e w10 ⟨rfl, hb⟩
      replace PQ := PQ.below hb
      replace KA := KA.below hb
      have hbr2 := hbr.trans (hb.mono hbr.size)
      replace hsz := Nat.le_trans hsz hb.size
      clear hb hbr HBR
      by_cases hneg : squares ys < 0
      · have hz : squares ys = -1 := by rcases squares_cases ys with h | ⟨-, -, -, h, -⟩ <;> omega
        have cc := implSquaresB _ ys w10 (HRY.out w10 hbr2) (by omega)
        have hN0 : giniN ys = 0 ∧ giniD ys = 0 := by unfold giniN giniD; rw [if_pos hneg, if_pos hneg]; exact ⟨rfl, rfl⟩
        have e1 : n1 = 0 := by rw [← HN.out.1]; exact hN0.1
        have e2 : n2 = 0 := by rw [← HN.out.2]; exact hN0.2
        rw [hz] at cc ⊢
        subst e1
        subst e2
        clear hN0 hneg hz
        have a0 : w10.cell? ⟨gA, 0, none⟩ = some (.int .i64 0) := KA.cell 0
        have a1 : w10.cell? ⟨gA, 1, none⟩ = some (.int .i64 0) := KA.cell 1
        go_wp2_with fail
        refine cc.mono ?_
        clear cc a0 a1
        rintro e w11 ⟨rfl, hb⟩
        have B := HB.out.trans ((hbr2.trans (hb.mono hbr2.size)).mono HB.out.size)
        go_wp2
        go_ret
        exact ⟨rfl, B⟩
      obtain ⟨f1, f2, f3, f4⟩ := gini_facts hneg
      obtain ⟨hv1, hv2, hv3⟩ := halves hneg
      have HHV : Hid (giniN (mkL ys.length (fun k => ys.getD k 0 / 2 * 2)) = giniN (mkL ys.length (fun k => ys.getD k 0 / 2)) ∧ giniD (mkL ys.length (fun k => ys.getD k 0 / 2 * 2)) = giniD (mkL ys.length (fun k => ys.getD k 0 / 2))) := by
        show _ ∧ _
        have := gini_dbl (l := mkL ys.length (fun k => ys.getD k 0 / 2)) (by rw [← hv1]; exact hv2) hv3
        rw [← hv1] at this
        exact this
      have hval : ∀ j, j < ys.length → 0 ≤ ys.getD j 0 ∧ ys.getD j 0 ≤ 999 := fun j hj => by
        rcases squares_cases ys with h | ⟨-, h, -⟩
        · omega
        · exact of_decide_eq_true (h j hj)
      have HVAL : Hid (∀ j, j < ys.length → 0 ≤ ys.getD j 0 ∧ ys.getD j 0 ≤ 999) := hval
      rw [HN.out.1, HN.out.2] at f2
      rw [HN.out.1] at f1 f4
      rw [HN.out.2] at f3
      rw [← HPK.out] at f4
      clear hv1 hv2 hv3 hval
      have HF4 : Hid (n1 = 0 ↔ pk ≤ 1) := f4
      clear f4 HPK
      have hns : ¬ squares ys < 0 := hneg
      have HREV : Hid (giniN (mkL ys.length gr) = n1 ∧ giniD (mkL ys.length gr) = n2) := by show _ ∧ _; rw [← HN.out.1, ← HN.out.2, ← HGE.out]; exact gini_rev ys
      clear HN
      generalize squares ys = sq at hns ⊢
      clear hneg
      go_wp2
      clear hns
      go_loopw [6, 9] (fun vt i wr => ∃ k : Nat, i = .int .i64 k ∧ k ≤ ys.length ∧ Pair10 (gA + 1) wr u5 vt (mkL ys.length gr) (mkL k (fun k => ys.getD k 0 / 2 * 2)) ∧ Blk 27 wr gA #[.int .i64 n1, .int .i64 n2] ∧ gA + 1 ≤ wr.heap.size ∧ Hid (Below w1.heap.size w1 wr)) (fun _ i _ => ys.length - (intOf i).toNat)
      case atStart => exact ⟨0, rfl, by omega, PQ, KA, hsz, hbr2⟩
      case round =>
        clear PQ KA hbr2 hsz
        obtain ⟨k, rfl, hk, PP, KA, hsz, HBR⟩ := hrel
        have hbr := HBR.out
        by_cases hlt : k < ys.length
        rotate_left
        · have HK : Hid (k = ys.length) := by show _ = _; omega
          have PQ := PP
          rw [HK.out] at PQ
          clear PP
          obtain ⟨wo, hwo⟩ : ∃ wo, wo = wr := ⟨_, rfl⟩
          subst hwo
          have ownH := ownI_lit0 wo wo.heap.size (Nat.le_refl _)
          have bH : Below wo.heap.size wo (wo.alloc (.cells #[] 3)) := (Below.refl _ _).alloc (Nat.le_refl _) _
          go_wp2
          clear hlt hk HK
          go_loopw [10, 11] (fun vh i wr => ∃ k : Nat, i = .int .i64 k ∧ k ≤ ys.length ∧ wr.ownsRow wo.heap.size 3 1 vh k ((mkL k (fun k => ys.getD k 0 / 2)).map (Value.int .i64)) ∧ Hid (Below wo.heap.size wo wr)) (fun _ i _ => ys.length - (intOf i).toNat)
          case atStart => exact ⟨0, rfl, by omega, ownH, bH⟩
          case round =>
            clear ownH bH
            obtain ⟨k, rfl, hk, ownH, HBI⟩ := hrel
            have hbi := HBI.out
            have hbw := hbr.trans (hbi.mono hbr.size)
            by_cases hlt : k < ys.length
            rotate_left
            · have HK : Hid (k = ys.length) := by show _ = _; omega
              have ownH2 : wr.ownsRow wo.heap.size 3 1 u10 ys.length ((mkL ys.length (fun k => ys.getD k 0 / 2)).map (Value.int .i64)) := by have := ownH; rw [HK.out] at this; exact this
              clear ownH
              replace PQ := PQ.below hbi
              replace KA := KA.below hbi
              have bd : Below wr.heap.size wr wr.drew := below_drewN (Below.refl _ _) 1
              have hbd := hbw.trans (bd.mono hbw.size)
              replace PQ := PQ.below bd
              replace KA := KA.below bd
              replace ownH2 := own_below ownH2 bd
              have cA := implGini_any _ (mkL ys.length gr) wr.drew (RowI.of_own PQ.l rfl) (by rw [mkL_len]; omega)
              have rT : RowI wr.drew u6 (mkL ys.length (fun k => ys.getD k 0 / 2 * 2)) := RowI.of_own PQ.r rfl
              have rH : RowI wr.drew u10 (mkL ys.length (fun k => ys.getD k 0 / 2)) := RowI.of_own ownH2 (mkL_len _ _)
              have cB := fun W h => implGini_any _ (mkL ys.length (fun k => ys.getD k 0 / 2 * 2)) W (rT.later h) (by rw [mkL_len]; omega)
              have cC := fun W h => implGini_any _ (mkL ys.length (fun k => ys.getD k 0 / 2)) W (rH.later h) (by rw [mkL_len]; omega)
              rw [HREV.out.1, HREV.out.2] at cA
              rw [HHV.out.1, HHV.out.2] at cB
              generalize giniN (mkL ys.length (fun k => ys.getD k 0 / 2)) = h1 at cB cC
              generalize giniD (mkL ys.length (fun k => ys.getD k 0 / 2)) = h2 at cB cC
              clear rT rH PQ ownH2 hbr hbi HBI HBR hbw
              go_wp2_with fail
              refine wp_region_held_drew (S := fun w' => Blk 27 w' gA #[.int .i64 n1, .int .i64 n2]) (by kernel_rfl) KA ?_
              intro hS
              clear KA bd
              have bb : Below wr.drew.heap.size wr.drew wr.drew := Below.refl _ _
              generalize hw9 : wr.drew = w30 at hS cA cB cC hbd bb ⊢
              clear hw9
              by_cases hz : n1 = 0
              · have hle : pk ≤ 1 := HF4.out.1 hz
                have hle2 : (pk : Int) ≤ 1 := by omega
                subst hz
                refine takeL 0 (u5) rfl (by kernel_rfl) (by kernel_rfl) (by kernel_rfl) (fun _ _ _ h => h) (.inl ⟨by rfl, fun w _ => by rfl⟩) hS ?_
                try simp only [Act.put, List.setIfInBounds_toArray, List.set_cons_zero, List.set_cons_succ]
                refine takeL 2 (.agg #[.int .i64 0, .int .i64 n2]) rfl (by kernel_rfl) (by kernel_rfl) (by kernel_rfl) (fun _ _ _ h => h) (yields_row Try.underlying27 (by kernel_rfl) (by rfl) _ rfl _ rfl (fun _ h => h)) hS ?_
                try simp only [Act.put, List.setIfInBounds_toArray, List.set_cons_zero, List.set_cons_succ]
                refine nextL 1 rfl (by kernel_rfl) (by rfl) fun K hK => ?_
                go_simp
                refine (cA).mono ?_
                rintro e w31 ⟨rfl, hb⟩
                replace hbd := hbd.trans (hb.mono hbd.size)
                replace bb := bb.trans (hb.mono bb.size)
                replace hS : (fun w' => Blk 27 w' gA #[.int .i64 0, .int .i64 n2]) w31 := Blk.below hS hb
                refine hK _ _ hS ?_
                clear hK K hb
                intro _
                refine takeL 3 (.bool true) rfl (by kernel_rfl) (by kernel_rfl) (by kernel_rfl) (fun _ _ _ h => h) (.inl ⟨by rfl, fun w hw => by (unfold execOp; go_simp; all_goals simp)⟩) hS ?_
                try simp only [Act.put, List.setIfInBounds_toArray, List.set_cons_zero, List.set_cons_succ]
                refine takeL 4 (.bool true) rfl (by kernel_rfl) (by kernel_rfl) (by kernel_rfl) (fun _ _ _ h => h) (.inl ⟨by rfl, fun w _ => by rfl⟩) hS ?_
                try simp only [Act.put, List.setIfInBounds_toArray, List.set_cons_zero, List.set_cons_succ]
                refine takeL 5 (.pointer (some ⟨gA, 0, none⟩)) rfl (by kernel_rfl) (by kernel_rfl) (by kernel_rfl) (fun _ _ _ h => h) (.inl ⟨by rfl, fun w hw => by (unfold execOp; go_simp)⟩) hS ?_
                try simp only [Act.put, List.setIfInBounds_toArray, List.set_cons_zero, List.set_cons_succ]
                refine takeL 6 (.int .i64 0) rfl (by kernel_rfl) (by kernel_rfl) (by kernel_rfl) (fun _ _ _ h => h) (.inl ⟨by rfl, fun w hw => by (have h0 := (hw).cell 0; unfold execOp; go_simp)⟩) hS ?_
                try simp only [Act.put, List.setIfInBounds_toArray, List.set_cons_zero, List.set_cons_succ]
                refine takeL 7 (.bool true) rfl (by kernel_rfl) (by kernel_rfl) (by kernel_rfl) (fun _ _ _ h => h) (.inl ⟨by rfl, fun w hw => by (unfold execOp; go_simp; all_goals (first | omega | (simp; omega) | simp))⟩) hS ?_
                try simp only [Act.put, List.setIfInBounds_toArray, List.set_cons_zero, List.set_cons_succ]
                refine takeL 8 (.bool true) rfl (by kernel_rfl) (by kernel_rfl) (by kernel_rfl) (fun _ _ _ h => h) (.inl ⟨by rfl, fun w _ => by rfl⟩) hS ?_
                try simp only [Act.put, List.setIfInBounds_toArray, List.set_cons_zero, List.set_cons_succ]
                refine takeL 9 (.bool true) rfl (by kernel_rfl) (by kernel_rfl) (by kernel_rfl) (fun _ _ _ h => h) (.inl ⟨by rfl, fun w _ => by rfl⟩) hS ?_
                try simp only [Act.put, List.setIfInBounds_toArray, List.set_cons_zero, List.set_cons_succ]
                refine takeL 10 (.pointer (some ⟨gA, 0, none⟩)) rfl (by kernel_rfl) (by kernel_rfl) (by kernel_rfl) (fun _ _ _ h => h) (.inl ⟨by rfl, fun w hw => by (unfold execOp; go_simp)⟩) hS ?_
                try simp only [Act.put, List.setIfInBounds_toArray, List.set_cons_zero, List.set_cons_succ]
                refine takeL 11 (.int .i64 0) rfl (by kernel_rfl) (by kernel_rfl) (by kernel_rfl) (fun _ _ _ h => h) (.inl ⟨by rfl, fun w hw => by (have h0 := (hw).cell 0; unfold execOp; go_simp)⟩) hS ?_
                try simp only [Act.put, List.setIfInBounds_toArray, List.set_cons_zero, List.set_cons_succ]
                refine takeL 12 (.pointer (some ⟨gA, 1, none⟩)) rfl (by kernel_rfl) (by kernel_rfl) (by kernel_rfl) (fun _ _ _ h => h) (.inl ⟨by rfl, fun w hw => by (unfold execOp; go_simp)⟩) hS ?_
                try simp only [Act.put, List.setIfInBounds_toArray, List.set_cons_zero, List.set_cons_succ]
                refine takeL 13 (.int .i64 n2) rfl (by kernel_rfl) (by kernel_rfl) (by kernel_rfl) (fun _ _ _ h => h) (.inl ⟨by rfl, fun w hw => by (have h0 := (hw).cell 1; unfold execOp; go_simp)⟩) hS ?_
                try simp only [Act.put, List.setIfInBounds_toArray, List.set_cons_zero, List.set_cons_succ]
                refine takeL 14 (.bool true) rfl (by kernel_rfl) (by kernel_rfl) (by kernel_rfl) (fun _ _ _ h => h) (.inl ⟨by rfl, fun w hw => by (unfold execOp; go_simp; all_goals (first | omega | (simp; omega) | simp))⟩) hS ?_
                try simp only [Act.put, List.setIfInBounds_toArray, List.set_cons_zero, List.set_cons_succ]
                refine takeL 15 (.bool true) rfl (by kernel_rfl) (by kernel_rfl) (by kernel_rfl) (fun _ _ _ h => h) (.inl ⟨by rfl, fun w _ => by rfl⟩) hS ?_
                try simp only [Act.put, List.setIfInBounds_toArray, List.set_cons_zero, List.set_cons_succ]
                refine takeL 16 (.bool true) rfl (by kernel_rfl) (by kernel_rfl) (by kernel_rfl) (fun _ _ _ h => h) (.inl ⟨by rfl, fun w _ => by rfl⟩) hS ?_
                try simp only [Act.put, List.setIfInBounds_toArray, List.set_cons_zero, List.set_cons_succ]
                refine takeL 17 (.pointer (some ⟨gA, 0, none⟩)) rfl (by kernel_rfl) (by kernel_rfl) (by kernel_rfl) (fun _ _ _ h => h) (.inl ⟨by rfl, fun w hw => by (unfold execOp; go_simp)⟩) hS ?_
                try simp only [Act.put, List.setIfInBounds_toArray, List.set_cons_zero, List.set_cons_succ]
                refine takeL 18 (.int .i64 0) rfl (by kernel_rfl) (by kernel_rfl) (by kernel_rfl) (fun _ _ _ h => h) (.inl ⟨by rfl, fun w hw => by (have h0 := (hw).cell 0; unfold execOp; go_simp)⟩) hS ?_
                try simp only [Act.put, List.setIfInBounds_toArray, List.set_cons_zero, List.set_cons_succ]
                refine takeL 19 (.bool true) rfl (by kernel_rfl) (by kernel_rfl) (by kernel_rfl) (fun _ _ _ h => h) (.inl ⟨by rfl, fun w hw => by (unfold execOp; go_simp; all_goals (first | omega | (simp; omega) | simp))⟩) hS ?_
                try simp only [Act.put, List.setIfInBounds_toArray, List.set_cons_zero, List.set_cons_succ]
                refine takeL 20 (.int .i64 ((pk : Int))) rfl (by kernel_rfl) (by kernel_rfl) (by kernel_rfl) (fun _ _ _ h => h) (.inl ⟨by rfl, fun w _ => by rfl⟩) hS ?_
                try simp only [Act.put, List.setIfInBounds_toArray, List.set_cons_zero, List.set_cons_succ]
                refine takeL 21 (.bool true) rfl (by kernel_rfl) (by kernel_rfl) (by kernel_rfl) (fun _ _ _ h => h) (.inl ⟨by rfl, fun w hw => by (unfold execOp; go_simp; all_goals (first | omega | (simp; omega) | simp))⟩) hS ?_
                try simp only [Act.put, List.setIfInBounds_toArray, List.set_cons_zero, List.set_cons_succ]
                refine takeL 22 (.bool true) rfl (by kernel_rfl) (by kernel_rfl) (by kernel_rfl) (fun _ _ _ h => h) (.inl ⟨by rfl, fun w hw => by (unfold execOp; go_simp; all_goals (first | rfl | simp))⟩) hS ?_
                try simp only [Act.put, List.setIfInBounds_toArray, List.set_cons_zero, List.set_cons_succ]
                refine takeL 23 (.bool true) rfl (by kernel_rfl) (by kernel_rfl) (by kernel_rfl) (fun _ _ _ h => h) (.inl ⟨by rfl, fun w _ => by rfl⟩) hS ?_
                try simp only [Act.put, List.setIfInBounds_toArray, List.set_cons_zero, List.set_cons_succ]
                refine takeL 24 (.bool true) rfl (by kernel_rfl) (by kernel_rfl) (by kernel_rfl) (fun _ _ _ h => h) (.inl ⟨by rfl, fun w _ => by rfl⟩) hS ?_
                try simp only [Act.put, List.setIfInBounds_toArray, List.set_cons_zero, List.set_cons_succ]
                refine takeL 25 (u6) rfl (by kernel_rfl) (by kernel_rfl) (by kernel_rfl) (fun _ _ _ h => h) (.inl ⟨by rfl, fun w _ => by rfl⟩) hS ?_
                try simp only [Act.put, List.setIfInBounds_toArray, List.set_cons_zero, List.set_cons_succ]
                refine takeL 27 (u10) rfl (by kernel_rfl) (by kernel_rfl) (by kernel_rfl) (fun _ _ _ h => h) (.inl ⟨by rfl, fun w _ => by rfl⟩) hS ?_
                try simp only [Act.put, List.setIfInBounds_toArray, List.set_cons_zero, List.set_cons_succ]
                refine nextL 26 rfl (by kernel_rfl) (by rfl) fun K hK => ?_
                go_simp
                refine (cB w31 bb).mono ?_
                rintro e w32 ⟨rfl, hb⟩
                replace hbd := hbd.trans (hb.mono hbd.size)
                replace bb := bb.trans (hb.mono bb.size)
                replace hS : (fun w' => Blk 27 w' gA #[.int .i64 0, .int .i64 n2]) w32 := Blk.below hS hb
                refine hK _ _ hS ?_
                clear hK K hb
                intro _
                refine nextL 28 rfl (by kernel_rfl) (by rfl) fun K hK => ?_
                go_simp
                refine (cC w32 bb).mono ?_
                rintro e w33 ⟨rfl, hb⟩
                replace hbd := hbd.trans (hb.mono hbd.size)
                replace bb := bb.trans (hb.mono bb.size)
                replace hS : (fun w' => Blk 27 w' gA #[.int .i64 0, .int .i64 n2]) w33 := Blk.below hS hb
                refine hK _ _ hS ?_
                clear hK K hb
                intro _
                refine takeL 29 (.bool true) rfl (by kernel_rfl) (by kernel_rfl) (by kernel_rfl) (fun _ _ _ h => h) (.inl ⟨by rfl, fun w hw => by (unfold execOp; go_simp; all_goals simp)⟩) hS ?_
                try simp only [Act.put, List.setIfInBounds_toArray, List.set_cons_zero, List.set_cons_succ]
                refine takeL 30 (.bool true) rfl (by kernel_rfl) (by kernel_rfl) (by kernel_rfl) (fun _ _ _ h => h) (.inl ⟨by rfl, fun w _ => by rfl⟩) hS ?_
                try simp only [Act.put, List.setIfInBounds_toArray, List.set_cons_zero, List.set_cons_succ]
                refine takeL 31 (.bool true) rfl (by kernel_rfl) (by kernel_rfl) (by kernel_rfl) (fun _ _ _ h => h) (.inl ⟨by rfl, fun w _ => by rfl⟩) hS ?_
                try simp only [Act.put, List.setIfInBounds_toArray, List.set_cons_zero, List.set_cons_succ]
                refine wpAnyH_done (by kernel_rfl) ?_ _
                clear hS cA cB cC
                have B := HB.out.trans (hbd.mono HB.out.size)
                go_wp2
                go_ret
                exact ⟨rfl, B⟩
              have hle : ¬ pk ≤ 1 := fun h => hz (HF4.out.2 h)
              have hle2 : ¬ (pk : Int) ≤ 1 := by omega
              refine takeL 0 (u5) rfl (by kernel_rfl) (by kernel_rfl) (by kernel_rfl) (fun _ _ _ h => h) (.inl ⟨by rfl, fun w _ => by rfl⟩) hS ?_
              try simp only [Act.put, List.setIfInBounds_toArray, List.set_cons_zero, List.set_cons_succ]
              refine takeL 2 (.agg #[.int .i64 n1, .int .i64 n2]) rfl (by kernel_rfl) (by kernel_rfl) (by kernel_rfl) (fun _ _ _ h => h) (yields_row Try.underlying27 (by kernel_rfl) (by rfl) _ rfl _ rfl (fun _ h => h)) hS ?_
              try simp only [Act.put, List.setIfInBounds_toArray, List.set_cons_zero, List.set_cons_succ]
              refine nextL 1 rfl (by kernel_rfl) (by rfl) fun K hK => ?_
              go_simp
              refine (cA).mono ?_
              rintro e w31 ⟨rfl, hb⟩
              replace hbd := hbd.trans (hb.mono hbd.size)
              replace bb := bb.trans (hb.mono bb.size)
              replace hS : (fun w' => Blk 27 w' gA #[.int .i64 n1, .int .i64 n2]) w31 := Blk.below hS hb
              refine hK _ _ hS ?_
              clear hK K hb
              intro _
              refine takeL 3 (.bool true) rfl (by kernel_rfl) (by kernel_rfl) (by kernel_rfl) (fun _ _ _ h => h) (.inl ⟨by rfl, fun w hw => by (unfold execOp; go_simp; all_goals simp)⟩) hS ?_
              try simp only [Act.put, List.setIfInBounds_toArray, List.set_cons_zero, List.set_cons_succ]
              refine takeL 4 (.bool true) rfl (by kernel_rfl) (by kernel_rfl) (by kernel_rfl) (fun _ _ _ h => h) (.inl ⟨by rfl, fun w _ => by rfl⟩) hS ?_
              try simp only [Act.put, List.setIfInBounds_toArray, List.set_cons_zero, List.set_cons_succ]
              refine takeL 5 (.pointer (some ⟨gA, 0, none⟩)) rfl (by kernel_rfl) (by kernel_rfl) (by kernel_rfl) (fun _ _ _ h => h) (.inl ⟨by rfl, fun w hw => by (unfold execOp; go_simp)⟩) hS ?_
              try simp only [Act.put, List.setIfInBounds_toArray, List.set_cons_zero, List.set_cons_succ]
              refine takeL 6 (.int .i64 n1) rfl (by kernel_rfl) (by kernel_rfl) (by kernel_rfl) (fun _ _ _ h => h) (.inl ⟨by rfl, fun w hw => by (have h0 := (hw).cell 0; unfold execOp; go_simp)⟩) hS ?_
              try simp only [Act.put, List.setIfInBounds_toArray, List.set_cons_zero, List.set_cons_succ]
              refine takeL 7 (.bool true) rfl (by kernel_rfl) (by kernel_rfl) (by kernel_rfl) (fun _ _ _ h => h) (.inl ⟨by rfl, fun w hw => by (unfold execOp; go_simp; all_goals (first | omega | (simp; omega) | simp))⟩) hS ?_
              try simp only [Act.put, List.setIfInBounds_toArray, List.set_cons_zero, List.set_cons_succ]
              refine takeL 8 (.bool true) rfl (by kernel_rfl) (by kernel_rfl) (by kernel_rfl) (fun _ _ _ h => h) (.inl ⟨by rfl, fun w _ => by rfl⟩) hS ?_
              try simp only [Act.put, List.setIfInBounds_toArray, List.set_cons_zero, List.set_cons_succ]
              refine takeL 9 (.bool true) rfl (by kernel_rfl) (by kernel_rfl) (by kernel_rfl) (fun _ _ _ h => h) (.inl ⟨by rfl, fun w _ => by rfl⟩) hS ?_
              try simp only [Act.put, List.setIfInBounds_toArray, List.set_cons_zero, List.set_cons_succ]
              refine takeL 10 (.pointer (some ⟨gA, 0, none⟩)) rfl (by kernel_rfl) (by kernel_rfl) (by kernel_rfl) (fun _ _ _ h => h) (.inl ⟨by rfl, fun w hw => by (unfold execOp; go_simp)⟩) hS ?_
              try simp only [Act.put, List.setIfInBounds_toArray, List.set_cons_zero, List.set_cons_succ]
              refine takeL 11 (.int .i64 n1) rfl (by kernel_rfl) (by kernel_rfl) (by kernel_rfl) (fun _ _ _ h => h) (.inl ⟨by rfl, fun w hw => by (have h0 := (hw).cell 0; unfold execOp; go_simp)⟩) hS ?_
              try simp only [Act.put, List.setIfInBounds_toArray, List.set_cons_zero, List.set_cons_succ]
              refine takeL 12 (.pointer (some ⟨gA, 1, none⟩)) rfl (by kernel_rfl) (by kernel_rfl) (by kernel_rfl) (fun _ _ _ h => h) (.inl ⟨by rfl, fun w hw => by (unfold execOp; go_simp)⟩) hS ?_
              try simp only [Act.put, List.setIfInBounds_toArray, List.set_cons_zero, List.set_cons_succ]
              refine takeL 13 (.int .i64 n2) rfl (by kernel_rfl) (by kernel_rfl) (by kernel_rfl) (fun _ _ _ h => h) (.inl ⟨by rfl, fun w hw => by (have h0 := (hw).cell 1; unfold execOp; go_simp)⟩) hS ?_
              try simp only [Act.put, List.setIfInBounds_toArray, List.set_cons_zero, List.set_cons_succ]
              refine takeL 14 (.bool true) rfl (by kernel_rfl) (by kernel_rfl) (by kernel_rfl) (fun _ _ _ h => h) (.inl ⟨by rfl, fun w hw => by (unfold execOp; go_simp; all_goals (first | omega | (simp; omega) | simp))⟩) hS ?_
              try simp only [Act.put, List.setIfInBounds_toArray, List.set_cons_zero, List.set_cons_succ]
              refine takeL 15 (.bool true) rfl (by kernel_rfl) (by kernel_rfl) (by kernel_rfl) (fun _ _ _ h => h) (.inl ⟨by rfl, fun w _ => by rfl⟩) hS ?_
              try simp only [Act.put, List.setIfInBounds_toArray, List.set_cons_zero, List.set_cons_succ]
              refine takeL 16 (.bool true) rfl (by kernel_rfl) (by kernel_rfl) (by kernel_rfl) (fun _ _ _ h => h) (.inl ⟨by rfl, fun w _ => by rfl⟩) hS ?_
              try simp only [Act.put, List.setIfInBounds_toArray, List.set_cons_zero, List.set_cons_succ]
              refine takeL 17 (.pointer (some ⟨gA, 0, none⟩)) rfl (by kernel_rfl) (by kernel_rfl) (by kernel_rfl) (fun _ _ _ h => h) (.inl ⟨by rfl, fun w hw => by (unfold execOp; go_simp)⟩) hS ?_
              try simp only [Act.put, List.setIfInBounds_toArray, List.set_cons_zero, List.set_cons_succ]
              refine takeL 18 (.int .i64 n1) rfl (by kernel_rfl) (by kernel_rfl) (by kernel_rfl) (fun _ _ _ h => h) (.inl ⟨by rfl, fun w hw => by (have h0 := (hw).cell 0; unfold execOp; go_simp)⟩) hS ?_
              try simp only [Act.put, List.setIfInBounds_toArray, List.set_cons_zero, List.set_cons_succ]
              refine takeL 19 (.bool false) rfl (by kernel_rfl) (by kernel_rfl) (by kernel_rfl) (fun _ _ _ h => h) (.inl ⟨by rfl, fun w hw => by (unfold execOp; go_simp; all_goals (first | omega | (simp; omega) | simp))⟩) hS ?_
              try simp only [Act.put, List.setIfInBounds_toArray, List.set_cons_zero, List.set_cons_succ]
              refine takeL 20 (.int .i64 ((pk : Int))) rfl (by kernel_rfl) (by kernel_rfl) (by kernel_rfl) (fun _ _ _ h => h) (.inl ⟨by rfl, fun w _ => by rfl⟩) hS ?_
              try simp only [Act.put, List.setIfInBounds_toArray, List.set_cons_zero, List.set_cons_succ]
              refine takeL 21 (.bool false) rfl (by kernel_rfl) (by kernel_rfl) (by kernel_rfl) (fun _ _ _ h => h) (.inl ⟨by rfl, fun w hw => by (unfold execOp; go_simp; all_goals (first | omega | (simp; omega) | simp))⟩) hS ?_
              try simp only [Act.put, List.setIfInBounds_toArray, List.set_cons_zero, List.set_cons_succ]
              refine takeL 22 (.bool true) rfl (by kernel_rfl) (by kernel_rfl) (by kernel_rfl) (fun _ _ _ h => h) (.inl ⟨by rfl, fun w hw => by (unfold execOp; go_simp; all_goals (first | rfl | simp))⟩) hS ?_
              try simp only [Act.put, List.setIfInBounds_toArray, List.set_cons_zero, List.set_cons_succ]
              refine takeL 23 (.bool true) rfl (by kernel_rfl) (by kernel_rfl) (by kernel_rfl) (fun _ _ _ h => h) (.inl ⟨by rfl, fun w _ => by rfl⟩) hS ?_
              try simp only [Act.put, List.setIfInBounds_toArray, List.set_cons_zero, List.set_cons_succ]
              refine takeL 24 (.bool true) rfl (by kernel_rfl) (by kernel_rfl) (by kernel_rfl) (fun _ _ _ h => h) (.inl ⟨by rfl, fun w _ => by rfl⟩) hS ?_
              try simp only [Act.put, List.setIfInBounds_toArray, List.set_cons_zero, List.set_cons_succ]
              refine takeL 25 (u6) rfl (by kernel_rfl) (by kernel_rfl) (by kernel_rfl) (fun _ _ _ h => h) (.inl ⟨by rfl, fun w _ => by rfl⟩) hS ?_
              try simp only [Act.put, List.setIfInBounds_toArray, List.set_cons_zero, List.set_cons_succ]
              refine takeL 27 (u10) rfl (by kernel_rfl) (by kernel_rfl) (by kernel_rfl) (fun _ _ _ h => h) (.inl ⟨by rfl, fun w _ => by rfl⟩) hS ?_
              try simp only [Act.put, List.setIfInBounds_toArray, List.set_cons_zero, List.set_cons_succ]
              refine nextL 26 rfl (by kernel_rfl) (by rfl) fun K hK => ?_
              go_simp
              refine (cB w31 bb).mono ?_
              rintro e w32 ⟨rfl, hb⟩
              replace hbd := hbd.trans (hb.mono hbd.size)
              replace bb := bb.trans (hb.mono bb.size)
              replace hS : (fun w' => Blk 27 w' gA #[.int .i64 n1, .int .i64 n2]) w32 := Blk.below hS hb
              refine hK _ _ hS ?_
              clear hK K hb
              intro _
              refine nextL 28 rfl (by kernel_rfl) (by rfl) fun K hK => ?_
              go_simp
              refine (cC w32 bb).mono ?_
              rintro e w33 ⟨rfl, hb⟩
              replace hbd := hbd.trans (hb.mono hbd.size)
              replace bb := bb.trans (hb.mono bb.size)
              replace hS : (fun w' => Blk 27 w' gA #[.int .i64 n1, .int .i64 n2]) w33 := Blk.below hS hb
              refine hK _ _ hS ?_
              clear hK K hb
              intro _
              refine takeL 29 (.bool true) rfl (by kernel_rfl) (by kernel_rfl) (by kernel_rfl) (fun _ _ _ h => h) (.inl ⟨by rfl, fun w hw => by (unfold execOp; go_simp; all_goals simp)⟩) hS ?_
              try simp only [Act.put, List.setIfInBounds_toArray, List.set_cons_zero, List.set_cons_succ]
              refine takeL 30 (.bool true) rfl (by kernel_rfl) (by kernel_rfl) (by kernel_rfl) (fun _ _ _ h => h) (.inl ⟨by rfl, fun w _ => by rfl⟩) hS ?_
              try simp only [Act.put, List.setIfInBounds_toArray, List.set_cons_zero, List.set_cons_succ]
              refine takeL 31 (.bool true) rfl (by kernel_rfl) (by kernel_rfl) (by kernel_rfl) (fun _ _ _ h => h) (.inl ⟨by rfl, fun w _ => by rfl⟩) hS ?_
              try simp only [Act.put, List.setIfInBounds_toArray, List.set_cons_zero, List.set_cons_succ]
              refine wpAnyH_done (by kernel_rfl) ?_ _
              clear hS cA cB cC
              have B := HB.out.trans (hbd.mono HB.out.size)
              go_wp2
              go_ret
              exact ⟨rfl, B⟩
            obtain ⟨ov, cv, e, hc1, hr1⟩ := HRY.out wr hbw
            cases e
            obtain ⟨gy, fy, rfl, hgy, hjy⟩ := hr1 (by omega)
            have c0 := hjy k hlt
            have hv := HVAL.out k hlt
            have HNX : Hid (mkL (k + 1) (fun k => ys.getD k 0 / 2) = mkL k (fun k => ys.getD k 0 / 2) ++ [ys.getD k 0 / 2]) := by show _ = _; rw [mkL_succ]
            obtain ⟨y2, hy2⟩ : ∃ y2, ys.getD k 0 / 2 = y2 := ⟨_, rfl⟩
            have hy2b : 0 ≤ y2 ∧ y2 ≤ 499 := by omega
            have htd : (ys.getD k 0).tdiv 2 = y2 := by rw [Int.tdiv_eq_ediv_of_nonneg hv.1]; exact hy2
            rw [hy2] at HNX
            clear hy2
            generalize ys.getD k 0 = y1 at c0 hv htd
            clear hr1 hjy
            have own1 : wr.ownsRow wo.heap.size 3 1 u10 (mkL k (fun k => ys.getD k 0 / 2)).length ((mkL k (fun k => ys.getD k 0 / 2)).map (Value.int .i64)) := by rw [mkL_len]; exact ownH
            have b0 : Below wr.heap.size wr (wr.alloc (.cells #[.int .i64 y2] 3)) := (Below.refl _ _).alloc (Nat.le_refl _) _
            have hbis := hbi.size
            clear ownH
            go_wp2_with (at_builtin; refine wpList_push rfl _ _ rfl wo.heap.size u10 (mkL k (fun k => ys.getD k 0 / 2)) y2 wr.heap.size rfl rfl (own_below own1 b0) (push_cell _ _) (by rw [mkL_len]; omega) (by simp; omega) ?_)
            intro v8 w8 ho8 hg8 _
            have ho9 : w8.ownsRow wo.heap.size 3 1 v8 (k + 1) ((mkL (k + 1) (fun k => ys.getD k 0 / 2)).map (Value.int .i64)) := by
              rw [mkL_len] at ho8
              rw [HNX.out, List.map_append]
              exact ho8
            have hb8 : Below wo.heap.size wo w8 := (hbi.trans (b0.mono hbi.size)).grown hg8 (Nat.le_trans hbi.size b0.size) (fun q hq => (own1.lt q hq).1)
            clear ho8 hg8 own1 c0 b0 htd
            go_wp2
            go_roundw
            case rel => exact ⟨k + 1, by go_num, by omega, ho9, hb8⟩
            case measure => simp [intOf]; omega
        obtain ⟨ov, cv, e, hc1, hr1⟩ := HRY.out wr hbr
        cases e
        obtain ⟨gy, fy, rfl, hgy, hjy⟩ := hr1 (by omega)
        have c0 := hjy k hlt
        have hv := HVAL.out k hlt
        have HNX : Hid (mkL (k + 1) (fun k => ys.getD k 0 / 2 * 2) = mkL k (fun k => ys.getD k 0 / 2 * 2) ++ [ys.getD k 0 / 2 * 2]) := by show _ = _; rw [mkL_succ]
        obtain ⟨y2, hy2⟩ : ∃ y2, ys.getD k 0 / 2 = y2 := ⟨_, rfl⟩
        have hy2b : 0 ≤ y2 ∧ y2 ≤ 499 := by omega
        have htd : (ys.getD k 0).tdiv 2 = y2 := by rw [Int.tdiv_eq_ediv_of_nonneg hv.1]; exact hy2
        rw [hy2] at HNX
        clear hy2
        generalize ys.getD k 0 = y1 at c0 hv htd
        clear hr1 hjy
        have b0 : Below wr.heap.size wr (wr.alloc (.cells #[.int .i64 (y2 * 2)] 3)) := (Below.refl _ _).alloc (Nat.le_refl _) _
        have hyo : ∀ j, u6.ownBlock = some j → gA + 1 ≤ j := fun j hj => (PP.r.lt j hj).1
        go_wp2_with (at_builtin; refine wpList_push rfl _ _ rfl (gA + 1) u6 (mkL k (fun k => ys.getD k 0 / 2 * 2)) (y2 * 2) wr.heap.size rfl rfl (PP.below b0).r (push_cell _ _) (by rw [mkL_len]; omega) (Nat.le_trans hsz b0.size) ?_)
        intro v8 w8 ho8 hg8 hat8
        have ho9 : w8.ownsRow (gA + 1) 3 1 v8 (mkL (k + 1) (fun k => ys.getD k 0 / 2 * 2)).length ((mkL (k + 1) (fun k => ys.getD k 0 / 2 * 2)).map (Value.int .i64)) := by rw [HNX.out]; simpa using ho8
        have P1 := (PP.below b0).right ho9 hg8 (hat8.imp_right fun h => by rw [World.size_alloc]; exact h)
        have KA1 := (KA.below b0).kept hg8 (fun e => by have := hyo gA e; omega)
        have hb8 : Below w1.heap.size w1 w8 := (hbr.trans (b0.mono hbr.size)).grown hg8 (Nat.le_trans hbr.size b0.size) (fun q hq => by have := hyo q hq; omega)
        have hs8 : gA + 1 ≤ w8.heap.size := Nat.le_trans (Nat.le_trans hsz b0.size) hg8.size
        clear ho8 ho9 hat8 hg8 PP KA c0 b0 hsz hbr HBR htd
        go_wp2
        go_roundw
        case rel => exact ⟨k + 1, by go_num, by omega, P1, KA1, hs8, hb8⟩
        case measure => simp [intOf]; omega
    obtain ⟨ov, cv, e, hc1, hr1⟩ := HRY.out wr hbr
    cases e
    obtain ⟨gy, fy, rfl, hgy, hjy⟩ := hr1 (by omega)
    obtain ⟨ix, hix⟩ : ∃ ix : Nat, ys.length - 1 - k = ix := ⟨_, rfl⟩
    have c0 := hjy ix (by omega)
    have c1 := hjy k hlt
    have HNX : Hid (mkL (k + 1) gr = mkL k gr ++ [ys.getD ix 0]) := by show _ = _; rw [mkL_succ, HGR.out, hix]
    have HPN : Hid (posTo ys (k + 1) = posTo ys k + if 0 < ys.getD k 0 then 1 else 0) := rfl
    have hixi : (ys.length : Int) - 1 - (k : Int) = (ix : Int) := by omega
    generalize ys.getD ix 0 = y0 at c0 HNX
    generalize ys.getD k 0 = y1 at c1 HPN
    clear hr1 hjy hix
    have b0 : Below wr.heap.size wr (wr.alloc (.cells #[.int .i64 y0] 3)) := (Below.refl _ _).alloc (Nat.le_refl _) _
    have c1b : (wr.alloc (.cells #[.int .i64 y0] 3)).cell? ⟨gy, fy + k, none⟩ = some (.int .i64 y1) := (b0.cell (p := ⟨gy, fy + k, none⟩) hgy).trans c1
    have hyo : ∀ j, u5.ownBlock = some j → gA + 1 ≤ j := fun j hj => (PP.l.lt j hj).1
    have hgy1 : gy < w1.heap.size := by
      obtain ⟨ov9, cv9, e9, -, hr9⟩ := HRY.out w1 (Below.refl _ _)
      cases e9
      obtain ⟨gy9, fy9, e9, hgy9, -⟩ := hr9 (by omega)
      cases e9
      exact hgy9
    go_wp2_with (at_builtin; refine wpList_push rfl _ _ rfl (gA + 1) u5 (mkL k gr) y0 wr.heap.size rfl rfl (PP.below b0).l (push_cell _ _) (by rw [mkL_len]; omega) (Nat.le_trans hsz b0.size) ?_)
    intro v8 w8 ho8 hg8 hat8
    have ho9 : w8.ownsRow (gA + 1) 3 1 v8 (mkL (k + 1) gr).length ((mkL (k + 1) gr).map (Value.int .i64)) := by rw [HNX.out]; simpa using ho8
    have P1 := (PP.below b0).left ho9 hg8 (hat8.imp_right fun h => by rw [World.size_alloc]; exact h)
    have KA1 := (KA.below b0).kept hg8 (fun e => by have := hyo gA e; omega)
    have c1c : w8.cell? ⟨gy, fy + k, none⟩ = some (.int .i64 y1) := (far10 hg8 ⟨gy, fy + k, none⟩ (by show gy < _; rw [World.size_alloc]; omega) (fun e => by have := hyo gy e.symm; omega)).trans c1b
    have hb8 : Below w1.heap.size w1 w8 := (hbr.trans (b0.mono hbr.size)).grown hg8 (Nat.le_trans hbr.size b0.size) (fun q hq => by have := hyo q hq; omega)
    have hs8 : gA + 1 ≤ w8.heap.size := Nat.le_trans (Nat.le_trans hsz b0.size) hg8.size
    clear ho8 ho9 hat8 hg8 PP KA c0 c1 c1b b0 hsz hbr HBR
    by_cases hpos : 0 < y1
    · have hp2 : posTo ys (k + 1) = posTo ys k + 1 := by rw [HPN.out, if_pos hpos]
      have HP2 : Hid _ := hp2
      clear hp2
      go_wp2
      go_roundw
      case rel => exact ⟨k + 1, by go_num, by rw [HP2.out]; go_num, by omega, P1, KA1, hs8, hb8⟩
      case measure => simp [intOf]; omega
    · have hp2 : posTo ys (k + 1) = posTo ys k := by rw [HPN.out, if_neg hpos]; rfl
      have HP2 : Hid _ := hp2
      clear hp2
      go_wp2
      go_roundw
      case rel => exact ⟨k + 1, by go_num, by rw [HP2.out], by omega, P1, KA1, hs8, hb8⟩
      case measure => simp [intOf]; omega
end Go.Proofs.Yteadkdllmeeocaa
