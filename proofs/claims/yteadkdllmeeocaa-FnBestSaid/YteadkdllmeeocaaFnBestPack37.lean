/- Texts of this claim, put together: part 37. -/
import Derived.Test.YteadkdllmeeocaaFnBestPack34
import Derived.Test.YteadkdllmeeocaaFnBestPack35
import Derived.Test.YteadkdllmeeocaaFnBestPack36
import Derived.Test.YteadkdllmeeocaaFnBestPack24
import Derived.Test.YteadkdllmeeocaaFnBestPack15
import Derived.Test.YteadkdllmeeocaaFnBestPack9
import Derived.Test.YteadkdllmeeocaaFnBestPack12
import Derived.Test.YteadkdllmeeocaaFnBestPack3
/- What a branch has of each class, by the program. -/
namespace Go.Proofs.Yteadkdllmeeocaa
open Go.RowKit
set_option maxRecDepth 100000
set_option linter.unusedSimpArgs false
theorem totals_none {s : SchemaD} {t : StatsD} {f : ForkD} {i : Int} (h : totalsOk s t f i = false) : branchTotals s t f i = [] := by unfold branchTotals; rw [if_neg (by rw [h]; exact Bool.false_ne_true)]
theorem counted_none {s : SchemaD} {t : StatsD} {f : ForkD} {i : Int} (h : (statsOk s t && decide (t.cells.length ≠ 0)) = false) : (statsOk s t && (decide (t.cells.length ≠ 0) && (forkOk s f && decide (0 ≤ i ∧ i ≤ branches s f - 1)))) = false := by
  rw [← Bool.and_assoc, h, Bool.false_and]
theorem statsOk_schema {s : SchemaD} {t : StatsD} (h : statsOk s t = true) : schemaOk s = true := (statsOk_parts h).1
theorem fork_bins {s : SchemaD} {f : ForkD} (h : forkOk s f = true) : 1 ≤ bins (forkAttr s f) := by
  have h1 := fork_attr h
  have h2 := ok_kind h1
  unfold bins
  rw [if_pos h1]
  split <;> omega
set_option maxHeartbeats 6400000 in
theorem implBranchTotals_any (vs vt : Value) (s : SchemaD) (t : StatsD) (f : ForkD) (i : Int) (w : World) (hs : SchemaAt w vs s) (ht : StatsAt w vt t) (hn : okSch s) (hb : okSt t) :
    Calls Try.prog 38 #[vs, vt, forkV f, .int .i64 i] w fun e w' => ∃ v, e = .returned v ∧ OwnI w w' v (branchTotals s t f i) := by
  unfold forkV
  have HS : Hid (∀ W, Below w.heap.size w W → SchemaAt W vs s) := fun W h => hs.later h
  have HT : Hid (∀ W, Below w.heap.size w W → StatsAt W vt t) := fun W h => ht.later h
  have HOK : Hid (okSch s) := hn
  have HOT : Hid (okSt t) := hb
  have CQ : Hid (∀ W, Below w.heap.size w W → Calls Try.prog 58 #[vs, forkV f] W fun e w' => e = .returned (.tuple #[questionV s f, .bool (forkOk s f)]) ∧ Below W.heap.size W w') := fun W hW => questionOf_any vs s f W (hs.later hW) hn
  unfold forkV at CQ
  obtain ⟨va, vc, rfl, ra, rc⟩ := hs
  obtain ⟨oa, ka, rfl, -, -⟩ := id ra
  obtain ⟨oc, kc, rfl, -, -⟩ := id rc
  obtain ⟨vx, vy, rfl, rx, ry⟩ := ht
  obtain ⟨ox, kx, rfl, -, -⟩ := id rx
  obtain ⟨oy, ky, rfl, -, -⟩ := id ry
  clear ra rc rx ry
  have la := hn.attrs
  clear hn hb
  obtain ⟨KS, KT, KF, B⟩ := blk_3 33 36 38 w #[.slice oa s.attrs.length ka, .slice oc s.classes.length kc] #[.slice ox t.totals.length kx, .slice oy t.cells.length ky] #[.int .i64 f.attr, .int .i64 f.pos]
  go_enter Try.func38, Try.ntmps38
  have cc := CQ.out _ B
  have kS0 : (((w.alloc (.cells #[.slice oa s.attrs.length ka, .slice oc s.classes.length kc] 33)).alloc (.cells #[.slice ox t.totals.length kx, .slice oy t.cells.length ky] 36)).alloc (.cells #[.int .i64 f.attr, .int .i64 f.pos] 38)).cell? ⟨w.heap.size, 0, none⟩ = some (.slice oa s.attrs.length ka) := KS.cell 0
  have kS1 : (((w.alloc (.cells #[.slice oa s.attrs.length ka, .slice oc s.classes.length kc] 33)).alloc (.cells #[.slice ox t.totals.length kx, .slice oy t.cells.length ky] 36)).alloc (.cells #[.int .i64 f.attr, .int .i64 f.pos] 38)).cell? ⟨w.heap.size, 1, none⟩ = some (.slice oc s.classes.length kc) := KS.cell 1
  have kF0 : (((w.alloc (.cells #[.slice oa s.attrs.length ka, .slice oc s.classes.length kc] 33)).alloc (.cells #[.slice ox t.totals.length kx, .slice oy t.cells.length ky] 36)).alloc (.cells #[.int .i64 f.attr, .int .i64 f.pos] 38)).cell? ⟨w.heap.size + 1 + 1, 0, none⟩ = some (.int .i64 f.attr) := KF.cell 0
  have kF1 : (((w.alloc (.cells #[.slice oa s.attrs.length ka, .slice oc s.classes.length kc] 33)).alloc (.cells #[.slice ox t.totals.length kx, .slice oy t.cells.length ky] 36)).alloc (.cells #[.int .i64 f.attr, .int .i64 f.pos] 38)).cell? ⟨w.heap.size + 1 + 1, 1, none⟩ = some (.int .i64 f.pos) := KF.cell 1
  go_wp2_with fail
  refine cc.mono ?_
  clear cc
  clear kS0 kS1 kF0 kF1
  rintro e w1 ⟨rfl, hb⟩
  replace KS := KS.below hb
  replace KT := KT.below hb
  replace KF := KF.below hb
  replace B := B.trans (hb.mono B.size)
  clear hb
  clear CQ
  cases hk : forkOk s f with
  | false =>
    have HE : Hid (branchTotals s t f i = []) := totals_none (by unfold totalsOk; rw [hk]; simp)
    go_wp2
    go_ret
    exact ⟨_, rfl, by rw [HE.out]; exact World.ownsRow_nil _ _ _ _, B⟩
  | true =>
    have HQ : Hid (forkOk s f = true) := hk
    clear hk
    have cc := counted_any _ _ s t _ (HS.out _ B) (HT.out _ B) HOK.out HOT.out
    have kS0 : w1.cell? ⟨w.heap.size, 0, none⟩ = some (.slice oa s.attrs.length ka) := KS.cell 0
    have kS1 : w1.cell? ⟨w.heap.size, 1, none⟩ = some (.slice oc s.classes.length kc) := KS.cell 1
    have kT0 : w1.cell? ⟨w.heap.size + 1, 0, none⟩ = some (.slice ox t.totals.length kx) := KT.cell 0
    have kT1 : w1.cell? ⟨w.heap.size + 1, 1, none⟩ = some (.slice oy t.cells.length ky) := KT.cell 1
    go_wp2_with fail
    refine cc.mono ?_
    clear cc
    clear kS0 kS1 kT0 kT1
    rintro e w2 ⟨rfl, hb⟩
    replace KS := KS.below hb
    replace KT := KT.below hb
    replace KF := KF.below hb
    replace B := B.trans (hb.mono B.size)
    clear hb
    cases hk : (statsOk s t && decide (t.cells.length ≠ 0)) with
    | false =>
      have HE : Hid (branchTotals s t f i = []) := totals_none (by unfold totalsOk; exact counted_none hk)
      go_wp2
      go_ret
      exact ⟨_, rfl, by rw [HE.out]; exact World.ownsRow_nil _ _ _ _, B⟩
    | true =>
      have HST : Hid (statsOk s t = true) := (counted_yes hk).1
      have HN0 : Hid (t.cells.length ≠ 0) := (counted_yes hk).2
      clear hk
      by_cases hi : i < 0
      ·
        have HE : Hid (branchTotals s t f i = []) := totals_none (by unfold totalsOk; rw [decide_eq_false (show ¬ (0 ≤ i ∧ i ≤ branches s f - 1) by omega)]; simp)
        go_wp2
        go_ret
        exact ⟨_, rfl, by rw [HE.out]; exact World.ownsRow_nil _ _ _ _, B⟩
      have cc := branchesOf_any s f w2
      go_wp2_with fail
      refine cc.mono ?_
      clear cc
      rintro e w3 ⟨rfl, hb⟩
      replace KS := KS.below hb
      replace KT := KT.below hb
      replace KF := KF.below hb
      replace B := B.trans (hb.mono B.size)
      clear hb
      have HBR : Hid (∀ z, z = branches s f → (0 ≤ i ∧ i ≤ z - 1) = (0 ≤ i ∧ i ≤ branches s f - 1)) := fun z h => by rw [h]
      obtain ⟨nb, hnb⟩ : ∃ nb, branches s f = nb := ⟨_, rfl⟩
      rw [hnb]
      have HNB : Hid (branches s f = nb) := hnb
      clear hnb HBR
      by_cases hi2 : nb ≤ i
      ·
        have HE : Hid (branchTotals s t f i = []) := totals_none (by unfold totalsOk; rw [decide_eq_false (show ¬ (0 ≤ i ∧ i ≤ branches s f - 1) by rw [HNB.out]; omega)]; simp)
        go_wp2
        go_ret
        exact ⟨_, rfl, by rw [HE.out]; exact World.ownsRow_nil _ _ _ _, B⟩
      have HTO : totalsOk s t f i = true := by
        unfold totalsOk
        rw [HST.out, decide_eq_true HN0.out, HQ.out, decide_eq_true (show 0 ≤ i ∧ i ≤ branches s f - 1 by rw [HNB.out]; omega)]; rfl
      obtain ⟨-, ⟨a, hfa, hal, hat⟩, -, -⟩ := fork_parts HQ.out
      obtain ⟨hac, hlen, hcol⟩ := cells_right HST.out HN0.out hal
      have hm := sch_classes (statsOk_schema HST.out)
      have hn4 := small_bins (ad s.attrs a)
      have HRES : Hid (branchTotals s t f i = curL s f i (il t.cells a) s.classes.length ((bins (ad s.attrs a)).toNat * s.classes.length)) := by show _ = _; rw [curL_all HTO, hat, hfa]; rfl
      have HAB : Hid (bins (forkAttr s f) = bins (ad s.attrs a)) := by show _ = _; rw [hat]
      obtain ⟨m, hmm⟩ : ∃ m, s.classes.length = m := ⟨_, rfl⟩
      obtain ⟨n, hnn⟩ : ∃ n, (bins (ad s.attrs a)).toNat = n := ⟨_, rfl⟩
      have HBN : Hid (bins (ad s.attrs a) = (n : Int)) := by show _ = _; omega
      have hn5 : n ≤ 4 := by omega
      rw [hmm, hnn] at hcol hlen HRES
      rw [hmm] at hm
      have HCOL : Hid (∀ b k, b < n → k < m → inW (colAt (il t.cells a) m k b) = true) := hcol
      clear hcol hnn hn4 HTO hat
      obtain ⟨c, hc⟩ : ∃ c, il t.cells a = c := ⟨_, rfl⟩
      rw [hc] at hlen HRES HCOL
      have hnm : n * m ≤ 12 := by have := Nat.mul_le_mul hn5 hm.2; omega
      have HMM : Hid (s.classes.length = m) := hmm
      have HCC : Hid (il t.cells a = c) := hc
      rw [hmm] at KS
      clear hmm hc
      by_cases hp : f.pos = -1
      · have hqv := questionV_yes HQ.out
        rw [if_pos hp] at hqv
        have CBR : Hid (∀ b W, Calls Try.prog 117 #[.agg #[.int .i64 (bins (forkAttr s f))], .int .i64 b] W fun e w' => e = .returned (.int .i64 (qBranch s f b)) ∧ Below W.heap.size W w') := fun b W => ((branch_any s f b W HQ.out (fun _ h => And.intro rfl h)).1 hp).2
        clear hp
        generalize questionV s f = qv at hqv ⊢
        subst hqv
        have kS1 : w3.cell? ⟨w.heap.size, 1, none⟩ = some (.slice oc m kc) := KS.cell 1
        have hib : decide (i < 0) = false := decide_eq_false (show ¬ i < 0 by omega)
        have hnbb : decide (nb ≤ i) = false := decide_eq_false (show ¬ nb ≤ i by omega)
        have hsz := B.size
        go_wp2_with (at_make; refine wpList_make_ints rfl _ rfl w3.heap.size m _ rfl rfl (by omega) (Nat.le_refl _) ?_)
        intro w6 hown hg
        clear kS1 hi hi2 hib hnbb
        have bM : Below w3.heap.size w3 w6 := (Below.refl _ _).grown hg (Nat.le_refl _) (fun k hk => by cases hk)
        clear hg
        have HK : Hid (∀ W, Below w3.heap.size w3 W → Blk 33 W w.heap.size #[.slice oa s.attrs.length ka, .slice oc m kc] ∧ Blk 36 W (w.heap.size + 1) #[.slice ox t.totals.length kx, .slice oy t.cells.length ky] ∧ Blk 38 W (w.heap.size + 1 + 1) #[.int .i64 f.attr, .int .i64 f.pos]) := fun W h => ⟨KS.below h, KT.below h, KF.below h⟩
        have HB5 : Hid (Below w.heap.size w w3) := B
        clear KS KT KF B
        obtain ⟨vx', vy', e', -, ry⟩ := HT.out w (Below.refl _ _)
        cases e'
        obtain ⟨oy', ky', e', -, hry⟩ := ry
        cases e'
        obtain ⟨gy, fy, rfl, hgy, hjy⟩ := hry (by omega)
        obtain ⟨u, hcu, hru⟩ := hjy a hac
        rw [HCC.out] at hru
        obtain ⟨og, kg, rfl, -, hrr⟩ := hru
        have hcp : 0 < c.length := by
          rw [hlen]
          exact Nat.mul_pos (by have := fork_bins HQ.out; rw [HAB.out, HBN.out] at this; omega) (by omega)
        obtain ⟨gb, ob, rfl, hgb, hjc⟩ := hrr hcp
        have HCJ : Hid (∀ W, Below w.heap.size w W → ∀ j, j < c.length → W.cell? ⟨gb, ob + j, none⟩ = some (.int .i64 (c.getD j 0))) := fun W h j hj => (h.cell (p := ⟨gb, ob + j, none⟩) hgb).trans (hjc j hj)
        have hcu6 := ((HB5.out.trans (bM.mono hsz)).cell (p := ⟨gy, fy + a, none⟩) hgy).trans hcu
        clear hjy hry hjc hrr hcu
        have kT1 : w6.cell? ⟨w.heap.size + 1, 1, none⟩ = some (.slice (some ⟨gy, fy, none⟩) t.cells.length ky) := (HK.out _ bM).2.1.cell 1
        have kF0 : w6.cell? ⟨w.heap.size + 1 + 1, 0, none⟩ = some (.int .i64 (a : Int)) := by rw [← hfa]; exact (HK.out _ bM).2.2.cell 0
        have HFA : Hid (f.attr = (a : Int)) := hfa
        clear hfa
        replace hown : w6.ownsRow w3.heap.size 3 1 (.slice (some ⟨w3.heap.size, 0, none⟩) m m) m ((curL s f i c m 0).map (Value.int .i64)) := by rw [curL_zero, List.map_replicate]; exact hown
        generalize hgo : w3.heap.size = go at hown ⊢
        have HGO : Hid (w3.heap.size = go) := hgo
        clear hgo
        go_wp2
        go_loopw [50] (fun idx wr => ∃ p : Nat, idx = .int .i64 p ∧ p ≤ c.length ∧ wr.ownsRow go 3 1 (.slice (some ⟨go, 0, none⟩) m m) m ((curL s f i c m p).map (Value.int .i64)) ∧ Hid (Below w3.heap.size w3 wr)) (fun idx _ => c.length - (intOf idx).toNat)
        case atStart => exact ⟨0, rfl, by omega, hown, bM⟩
        case round =>
          clear hown bM kT1 kF0 hcu6
          obtain ⟨p, rfl, hp, hown, HBR⟩ := hrel
          have hbr := HBR.out
          by_cases hlt : p < c.length
          rotate_left
          · obtain rfl : p = c.length := by omega
            go_wp2
            go_ret
            have hfin : branchTotals s t f i = curL s f i c m c.length := by rw [HRES.out, hlen]
            exact ⟨_, rfl, by rw [hfin, curL_len]; exact own_base hown (by rw [← HGO.out]; exact hsz), HB5.out.trans (hbr.mono hsz)⟩
          have B := HB5.out.trans (hbr.mono hsz)
          have hcx := HCJ.out wr B p hlt
          have hx := place_col (show 0 < m by omega) (show p < n * m by omega) HCOL.out
          obtain ⟨hpb, hpr, -⟩ := place_parts (show 0 < m by omega) (show p < n * m by omega)
          have hz := plSum_le (s := s) (f := f) (i := i) (k := p % m) (show 0 < m by omega) HCOL.out p (by omega)
          have HHIT : Hid (branchOf s f ((p / m : Nat) : Int) = i → curL s f i c m (p + 1) = (curL s f i c m p).set (p % m) (plSum s f i c m (p % m) p + c.getD p 0)) := fun h => curL_hit (by omega) h
          have HMISS : Hid (¬ branchOf s f ((p / m : Nat) : Int) = i → curL s f i c m (p + 1) = curL s f i c m p) := fun h => curL_miss h
          have HAT : Hid ((curL s f i c m p).getD (p % m) 0 = plSum s f i c m (p % m) p) := curL_at hpr
          have HBO : Hid (branchOf s f ((p / m : Nat) : Int) = qBranch s f ((p / m : Nat) : Int)) := branchOf_yes HQ.out (Int.natCast_nonneg _) (by rw [HAB.out, HBN.out]; exact Int.ofNat_lt.2 hpb)
          have cc := keyAt_any p m wr (by omega) (by omega) (by omega)
          generalize c.getD p 0 = x at hcx hx HHIT
          generalize plSum s f i c m (p % m) p = z at hz HHIT HAT
          generalize p / m = b at cc HBO HHIT HMISS hpb
          generalize p % m = r at cc hpr HHIT HAT
          rw [HBO.out] at HHIT HMISS
          have kS1 : wr.cell? ⟨w.heap.size, 1, none⟩ = some (.slice oc m kc) := (HK.out _ hbr).1.cell 1
          go_wp2_with fail
          refine cc.mono ?_
          clear cc kS1 hcx HBO
          rintro e w7 ⟨rfl, hb⟩
          replace hown := own_below hown hb
          replace hbr := hbr.trans (hb.mono hbr.size)
          clear hb B
          have bK : Below w7.heap.size w7 (w7.alloc (.cells #[.int .i64 (b : Int), .int .i64 (r : Int)] 86)) := (Below.refl _ _).alloc (Nat.le_refl _) _
          have KK := Blk.new 86 w7 #[.int .i64 (b : Int), .int .i64 (r : Int)]
          replace hown := own_below hown bK
          replace hbr := hbr.trans (bK.mono hbr.size)
          have hpk : w7.heap.size < (w7.alloc (.cells #[.int .i64 (b : Int), .int .i64 (r : Int)] 86)).heap.size := by simp
          clear bK
          have cc := CBR.out (b : Int) (w7.alloc (.cells #[.int .i64 (b : Int), .int .i64 (r : Int)] 86))
          generalize qBranch s f (b : Int) = y at cc HHIT HMISS
          have kK0 : (w7.alloc (.cells #[.int .i64 (b : Int), .int .i64 (r : Int)] 86)).cell? ⟨w7.heap.size, 0, none⟩ = some (.int .i64 (b : Int)) := KK.cell 0
          go_wp2_with fail
          refine cc.mono ?_
          clear cc kK0
          rintro e w8 ⟨rfl, hb⟩
          replace hown := own_below hown hb
          replace hbr := hbr.trans (hb.mono hbr.size)
          replace KK := KK.below hb
          clear hb
          by_cases hyi : y = i
          · have hq : (y == i) = true := by rw [hyi]; exact beq_self_eq_true i
            have HNX := HHIT.out hyi
            have HNXT : Hid (curL s f i c m (p + 1) = (curL s f i c m p).set r (z + x)) := HNX
            clear HNX hyi HHIT HMISS
            have hrl : r < (curL s f i c m p).length := by rw [curL_len]; exact hpr
            have kK1 : w8.cell? ⟨w7.heap.size, 1, none⟩ = some (.int .i64 (r : Int)) := KK.cell 1
            have hcO : w8.cell? ⟨go, r, none⟩ = some (.int .i64 z) := by rw [hown.cellAt r (by omega), getD_mapI _ r hrl, HAT.out]
            have hfO : w8.frozen? ⟨go, r, none⟩ = false := hown.frozenAt r
            have hst := hown.stored r (.int .i64 (z + x))
            clear KK hrl
            go_wp2
            go_roundw
            case rel =>
              refine ⟨p + 1, by go_num, by omega, ?_, hbr.grown hst.2 hbr.size (fun k hk => by cases hk; exact Nat.le_of_eq HGO.out)⟩
              rw [HNXT.out, List.map_set]
              exact hst.1
            case measure => simp [intOf]; omega
          · have hq : (y == i) = false := by rw [beq_eq_false_iff_ne]; exact hyi
            have HNX := HMISS.out hyi
            have HNXT : Hid (curL s f i c m (p + 1) = curL s f i c m p) := HNX
            clear HNX hyi HHIT HMISS KK
            go_wp2
            go_roundw
            case rel =>
              refine ⟨p + 1, by go_num, by omega, ?_, hbr⟩
              rw [HNXT.out]
              exact hown
            case measure => simp [intOf]; omega
      by_cases hv : 0 < (forkAttr s f).vals.length
      · have hqv := questionV_yes HQ.out
        rw [if_neg hp, if_pos hv] at hqv
        have CBR : Hid (∀ b W, Calls Try.prog 118 #[.agg #[.int .i64 f.pos], .int .i64 b] W fun e w' => e = .returned (.int .i64 (qBranch s f b)) ∧ Below W.heap.size W w') := fun b W => ((branch_any s f b W HQ.out (fun _ h => And.intro rfl h)).2.1 hp hv).2
        clear hp hv
        generalize questionV s f = qv at hqv ⊢
        subst hqv
        have kS1 : w3.cell? ⟨w.heap.size, 1, none⟩ = some (.slice oc m kc) := KS.cell 1
        have hib : decide (i < 0) = false := decide_eq_false (show ¬ i < 0 by omega)
        have hnbb : decide (nb ≤ i) = false := decide_eq_false (show ¬ nb ≤ i by omega)
        have hsz := B.size
        go_wp2_with (at_make; refine wpList_make_ints rfl _ rfl w3.heap.size m _ rfl rfl (by omega) (Nat.le_refl _) ?_)
        intro w6 hown hg
        clear kS1 hi hi2 hib hnbb
        have bM : Below w3.heap.size w3 w6 := (Below.refl _ _).grown hg (Nat.le_refl _) (fun k hk => by cases hk)
        clear hg
        have HK : Hid (∀ W, Below w3.heap.size w3 W → Blk 33 W w.heap.size #[.slice oa s.attrs.length ka, .slice oc m kc] ∧ Blk 36 W (w.heap.size + 1) #[.slice ox t.totals.length kx, .slice oy t.cells.length ky] ∧ Blk 38 W (w.heap.size + 1 + 1) #[.int .i64 f.attr, .int .i64 f.pos]) := fun W h => ⟨KS.below h, KT.below h, KF.below h⟩
        have HB5 : Hid (Below w.heap.size w w3) := B
        clear KS KT KF B
        obtain ⟨vx', vy', e', -, ry⟩ := HT.out w (Below.refl _ _)
        cases e'
        obtain ⟨oy', ky', e', -, hry⟩ := ry
        cases e'
        obtain ⟨gy, fy, rfl, hgy, hjy⟩ := hry (by omega)
        obtain ⟨u, hcu, hru⟩ := hjy a hac
        rw [HCC.out] at hru
        obtain ⟨og, kg, rfl, -, hrr⟩ := hru
        have hcp : 0 < c.length := by
          rw [hlen]
          exact Nat.mul_pos (by have := fork_bins HQ.out; rw [HAB.out, HBN.out] at this; omega) (by omega)
        obtain ⟨gb, ob, rfl, hgb, hjc⟩ := hrr hcp
        have HCJ : Hid (∀ W, Below w.heap.size w W → ∀ j, j < c.length → W.cell? ⟨gb, ob + j, none⟩ = some (.int .i64 (c.getD j 0))) := fun W h j hj => (h.cell (p := ⟨gb, ob + j, none⟩) hgb).trans (hjc j hj)
        have hcu6 := ((HB5.out.trans (bM.mono hsz)).cell (p := ⟨gy, fy + a, none⟩) hgy).trans hcu
        clear hjy hry hjc hrr hcu
        have kT1 : w6.cell? ⟨w.heap.size + 1, 1, none⟩ = some (.slice (some ⟨gy, fy, none⟩) t.cells.length ky) := (HK.out _ bM).2.1.cell 1
        have kF0 : w6.cell? ⟨w.heap.size + 1 + 1, 0, none⟩ = some (.int .i64 (a : Int)) := by rw [← hfa]; exact (HK.out _ bM).2.2.cell 0
        have HFA : Hid (f.attr = (a : Int)) := hfa
        clear hfa
        replace hown : w6.ownsRow w3.heap.size 3 1 (.slice (some ⟨w3.heap.size, 0, none⟩) m m) m ((curL s f i c m 0).map (Value.int .i64)) := by rw [curL_zero, List.map_replicate]; exact hown
        generalize hgo : w3.heap.size = go at hown ⊢
        have HGO : Hid (w3.heap.size = go) := hgo
        clear hgo
        go_wp2
        go_loopw [50] (fun idx wr => ∃ p : Nat, idx = .int .i64 p ∧ p ≤ c.length ∧ wr.ownsRow go 3 1 (.slice (some ⟨go, 0, none⟩) m m) m ((curL s f i c m p).map (Value.int .i64)) ∧ Hid (Below w3.heap.size w3 wr)) (fun idx _ => c.length - (intOf idx).toNat)
        case atStart => exact ⟨0, rfl, by omega, hown, bM⟩
        case round =>
          clear hown bM kT1 kF0 hcu6
          obtain ⟨p, rfl, hp, hown, HBR⟩ := hrel
          have hbr := HBR.out
          by_cases hlt : p < c.length
          rotate_left
          · obtain rfl : p = c.length := by omega
            go_wp2
            go_ret
            have hfin : branchTotals s t f i = curL s f i c m c.length := by rw [HRES.out, hlen]
            exact ⟨_, rfl, by rw [hfin, curL_len]; exact own_base hown (by rw [← HGO.out]; exact hsz), HB5.out.trans (hbr.mono hsz)⟩
          have B := HB5.out.trans (hbr.mono hsz)
          have hcx := HCJ.out wr B p hlt
          have hx := place_col (show 0 < m by omega) (show p < n * m by omega) HCOL.out
          obtain ⟨hpb, hpr, -⟩ := place_parts (show 0 < m by omega) (show p < n * m by omega)
          have hz := plSum_le (s := s) (f := f) (i := i) (k := p % m) (show 0 < m by omega) HCOL.out p (by omega)
          have HHIT : Hid (branchOf s f ((p / m : Nat) : Int) = i → curL s f i c m (p + 1) = (curL s f i c m p).set (p % m) (plSum s f i c m (p % m) p + c.getD p 0)) := fun h => curL_hit (by omega) h
          have HMISS : Hid (¬ branchOf s f ((p / m : Nat) : Int) = i → curL s f i c m (p + 1) = curL s f i c m p) := fun h => curL_miss h
          have HAT : Hid ((curL s f i c m p).getD (p % m) 0 = plSum s f i c m (p % m) p) := curL_at hpr
          have HBO : Hid (branchOf s f ((p / m : Nat) : Int) = qBranch s f ((p / m : Nat) : Int)) := branchOf_yes HQ.out (Int.natCast_nonneg _) (by rw [HAB.out, HBN.out]; exact Int.ofNat_lt.2 hpb)
          have cc := keyAt_any p m wr (by omega) (by omega) (by omega)
          generalize c.getD p 0 = x at hcx hx HHIT
          generalize plSum s f i c m (p % m) p = z at hz HHIT HAT
          generalize p / m = b at cc HBO HHIT HMISS hpb
          generalize p % m = r at cc hpr HHIT HAT
          rw [HBO.out] at HHIT HMISS
          have kS1 : wr.cell? ⟨w.heap.size, 1, none⟩ = some (.slice oc m kc) := (HK.out _ hbr).1.cell 1
          go_wp2_with fail
          refine cc.mono ?_
          clear cc kS1 hcx HBO
          rintro e w7 ⟨rfl, hb⟩
          replace hown := own_below hown hb
          replace hbr := hbr.trans (hb.mono hbr.size)
          clear hb B
          have bK : Below w7.heap.size w7 (w7.alloc (.cells #[.int .i64 (b : Int), .int .i64 (r : Int)] 86)) := (Below.refl _ _).alloc (Nat.le_refl _) _
          have KK := Blk.new 86 w7 #[.int .i64 (b : Int), .int .i64 (r : Int)]
          replace hown := own_below hown bK
          replace hbr := hbr.trans (bK.mono hbr.size)
          have hpk : w7.heap.size < (w7.alloc (.cells #[.int .i64 (b : Int), .int .i64 (r : Int)] 86)).heap.size := by simp
          clear bK
          have cc := CBR.out (b : Int) (w7.alloc (.cells #[.int .i64 (b : Int), .int .i64 (r : Int)] 86))
          generalize qBranch s f (b : Int) = y at cc HHIT HMISS
          have kK0 : (w7.alloc (.cells #[.int .i64 (b : Int), .int .i64 (r : Int)] 86)).cell? ⟨w7.heap.size, 0, none⟩ = some (.int .i64 (b : Int)) := KK.cell 0
          go_wp2_with fail
          refine cc.mono ?_
          clear cc kK0
          rintro e w8 ⟨rfl, hb⟩
          replace hown := own_below hown hb
          replace hbr := hbr.trans (hb.mono hbr.size)
          replace KK := KK.below hb
          clear hb
          by_cases hyi : y = i
          · have hq : (y == i) = true := by rw [hyi]; exact beq_self_eq_true i
            have HNX := HHIT.out hyi
            have HNXT : Hid (curL s f i c m (p + 1) = (curL s f i c m p).set r (z + x)) := HNX
            clear HNX hyi HHIT HMISS
            have hrl : r < (curL s f i c m p).length := by rw [curL_len]; exact hpr
            have kK1 : w8.cell? ⟨w7.heap.size, 1, none⟩ = some (.int .i64 (r : Int)) := KK.cell 1
            have hcO : w8.cell? ⟨go, r, none⟩ = some (.int .i64 z) := by rw [hown.cellAt r (by omega), getD_mapI _ r hrl, HAT.out]
            have hfO : w8.frozen? ⟨go, r, none⟩ = false := hown.frozenAt r
            have hst := hown.stored r (.int .i64 (z + x))
            clear KK hrl
            go_wp2
            go_roundw
            case rel =>
              refine ⟨p + 1, by go_num, by omega, ?_, hbr.grown hst.2 hbr.size (fun k hk => by cases hk; exact Nat.le_of_eq HGO.out)⟩
              rw [HNXT.out, List.map_set]
              exact hst.1
            case measure => simp [intOf]; omega
          · have hq : (y == i) = false := by rw [beq_eq_false_iff_ne]; exact hyi
            have HNX := HMISS.out hyi
            have HNXT : Hid (curL s f i c m (p + 1) = curL s f i c m p) := HNX
            clear HNX hyi HHIT HMISS KK
            go_wp2
            go_roundw
            case rel =>
              refine ⟨p + 1, by go_num, by omega, ?_, hbr⟩
              rw [HNXT.out]
              exact hown
            case measure => simp [intOf]; omega
      · have hqv := questionV_yes HQ.out
        rw [if_neg hp, if_neg hv] at hqv
        have CBR : Hid (∀ b W, Calls Try.prog 120 #[.agg #[.int .i64 f.pos], .int .i64 b] W fun e w' => e = .returned (.int .i64 (qBranch s f b)) ∧ Below W.heap.size W w') := fun b W => ((branch_any s f b W HQ.out (fun _ h => And.intro rfl h)).2.2 hp hv).2
        clear hp hv
        generalize questionV s f = qv at hqv ⊢
        subst hqv
        have kS1 : w3.cell? ⟨w.heap.size, 1, none⟩ = some (.slice oc m kc) := KS.cell 1
        have hib : decide (i < 0) = false := decide_eq_false (show ¬ i < 0 by omega)
        have hnbb : decide (nb ≤ i) = false := decide_eq_false (show ¬ nb ≤ i by omega)
        have hsz := B.size
        go_wp2_with (at_make; refine wpList_make_ints rfl _ rfl w3.heap.size m _ rfl rfl (by omega) (Nat.le_refl _) ?_)
        intro w6 hown hg
        clear kS1 hi hi2 hib hnbb
        have bM : Below w3.heap.size w3 w6 := (Below.refl _ _).grown hg (Nat.le_refl _) (fun k hk => by cases hk)
        clear hg
        have HK : Hid (∀ W, Below w3.heap.size w3 W → Blk 33 W w.heap.size #[.slice oa s.attrs.length ka, .slice oc m kc] ∧ Blk 36 W (w.heap.size + 1) #[.slice ox t.totals.length kx, .slice oy t.cells.length ky] ∧ Blk 38 W (w.heap.size + 1 + 1) #[.int .i64 f.attr, .int .i64 f.pos]) := fun W h => ⟨KS.below h, KT.below h, KF.below h⟩
        have HB5 : Hid (Below w.heap.size w w3) := B
        clear KS KT KF B
        obtain ⟨vx', vy', e', -, ry⟩ := HT.out w (Below.refl _ _)
        cases e'
        obtain ⟨oy', ky', e', -, hry⟩ := ry
        cases e'
        obtain ⟨gy, fy, rfl, hgy, hjy⟩ := hry (by omega)
        obtain ⟨u, hcu, hru⟩ := hjy a hac
        rw [HCC.out] at hru
        obtain ⟨og, kg, rfl, -, hrr⟩ := hru
        have hcp : 0 < c.length := by
          rw [hlen]
          exact Nat.mul_pos (by have := fork_bins HQ.out; rw [HAB.out, HBN.out] at this; omega) (by omega)
        obtain ⟨gb, ob, rfl, hgb, hjc⟩ := hrr hcp
        have HCJ : Hid (∀ W, Below w.heap.size w W → ∀ j, j < c.length → W.cell? ⟨gb, ob + j, none⟩ = some (.int .i64 (c.getD j 0))) := fun W h j hj => (h.cell (p := ⟨gb, ob + j, none⟩) hgb).trans (hjc j hj)
        have hcu6 := ((HB5.out.trans (bM.mono hsz)).cell (p := ⟨gy, fy + a, none⟩) hgy).trans hcu
        clear hjy hry hjc hrr hcu
        have kT1 : w6.cell? ⟨w.heap.size + 1, 1, none⟩ = some (.slice (some ⟨gy, fy, none⟩) t.cells.length ky) := (HK.out _ bM).2.1.cell 1
        have kF0 : w6.cell? ⟨w.heap.size + 1 + 1, 0, none⟩ = some (.int .i64 (a : Int)) := by rw [← hfa]; exact (HK.out _ bM).2.2.cell 0
        have HFA : Hid (f.attr = (a : Int)) := hfa
        clear hfa
        replace hown : w6.ownsRow w3.heap.size 3 1 (.slice (some ⟨w3.heap.size, 0, none⟩) m m) m ((curL s f i c m 0).map (Value.int .i64)) := by rw [curL_zero, List.map_replicate]; exact hown
        generalize hgo : w3.heap.size = go at hown ⊢
        have HGO : Hid (w3.heap.size = go) := hgo
        clear hgo
        go_wp2
        go_loopw [50] (fun idx wr => ∃ p : Nat, idx = .int .i64 p ∧ p ≤ c.length ∧ wr.ownsRow go 3 1 (.slice (some ⟨go, 0, none⟩) m m) m ((curL s f i c m p).map (Value.int .i64)) ∧ Hid (Below w3.heap.size w3 wr)) (fun idx _ => c.length - (intOf idx).toNat)
        case atStart => exact ⟨0, rfl, by omega, hown, bM⟩
        case round =>
          clear hown bM kT1 kF0 hcu6
          obtain ⟨p, rfl, hp, hown, HBR⟩ := hrel
          have hbr := HBR.out
          by_cases hlt : p < c.length
          rotate_left
          · obtain rfl : p = c.length := by omega
            go_wp2
            go_ret
            have hfin : branchTotals s t f i = curL s f i c m c.length := by rw [HRES.out, hlen]
            exact ⟨_, rfl, by rw [hfin, curL_len]; exact own_base hown (by rw [← HGO.out]; exact hsz), HB5.out.trans (hbr.mono hsz)⟩
          have B := HB5.out.trans (hbr.mono hsz)
          have hcx := HCJ.out wr B p hlt
          have hx := place_col (show 0 < m by omega) (show p < n * m by omega) HCOL.out
          obtain ⟨hpb, hpr, -⟩ := place_parts (show 0 < m by omega) (show p < n * m by omega)
          have hz := plSum_le (s := s) (f := f) (i := i) (k := p % m) (show 0 < m by omega) HCOL.out p (by omega)
          have HHIT : Hid (branchOf s f ((p / m : Nat) : Int) = i → curL s f i c m (p + 1) = (curL s f i c m p).set (p % m) (plSum s f i c m (p % m) p + c.getD p 0)) := fun h => curL_hit (by omega) h
          have HMISS : Hid (¬ branchOf s f ((p / m : Nat) : Int) = i → curL s f i c m (p + 1) = curL s f i c m p) := fun h => curL_miss h
          have HAT : Hid ((curL s f i c m p).getD (p % m) 0 = plSum s f i c m (p % m) p) := curL_at hpr
          have HBO : Hid (branchOf s f ((p / m : Nat) : Int) = qBranch s f ((p / m : Nat) : Int)) := branchOf_yes HQ.out (Int.natCast_nonneg _) (by rw [HAB.out, HBN.out]; exact Int.ofNat_lt.2 hpb)
          have cc := keyAt_any p m wr (by omega) (by omega) (by omega)
          generalize c.getD p 0 = x at hcx hx HHIT
          generalize plSum s f i c m (p % m) p = z at hz HHIT HAT
          generalize p / m = b at cc HBO HHIT HMISS hpb
          generalize p % m = r at cc hpr HHIT HAT
          rw [HBO.out] at HHIT HMISS
          have kS1 : wr.cell? ⟨w.heap.size, 1, none⟩ = some (.slice oc m kc) := (HK.out _ hbr).1.cell 1
          go_wp2_with fail
          refine cc.mono ?_
          clear cc kS1 hcx HBO
          rintro e w7 ⟨rfl, hb⟩
          replace hown := own_below hown hb
          replace hbr := hbr.trans (hb.mono hbr.size)
          clear hb B
          have bK : Below w7.heap.size w7 (w7.alloc (.cells #[.int .i64 (b : Int), .int .i64 (r : Int)] 86)) := (Below.refl _ _).alloc (Nat.le_refl _) _
          have KK := Blk.new 86 w7 #[.int .i64 (b : Int), .int .i64 (r : Int)]
          replace hown := own_below hown bK
          replace hbr := hbr.trans (bK.mono hbr.size)
          have hpk : w7.heap.size < (w7.alloc (.cells #[.int .i64 (b : Int), .int .i64 (r : Int)] 86)).heap.size := by simp
          clear bK
          have cc := CBR.out (b : Int) (w7.alloc (.cells #[.int .i64 (b : Int), .int .i64 (r : Int)] 86))
          generalize qBranch s f (b : Int) = y at cc HHIT HMISS
          have kK0 : (w7.alloc (.cells #[.int .i64 (b : Int), .int .i64 (r : Int)] 86)).cell? ⟨w7.heap.size, 0, none⟩ = some (.int .i64 (b : Int)) := KK.cell 0
          go_wp2_with fail
          refine cc.mono ?_
          clear cc kK0
          rintro e w8 ⟨rfl, hb⟩
          replace hown := own_below hown hb
          replace hbr := hbr.trans (hb.mono hbr.size)
          replace KK := KK.below hb
          clear hb
          by_cases hyi : y = i
          · have hq : (y == i) = true := by rw [hyi]; exact beq_self_eq_true i
            have HNX := HHIT.out hyi
            have HNXT : Hid (curL s f i c m (p + 1) = (curL s f i c m p).set r (z + x)) := HNX
            clear HNX hyi HHIT HMISS
            have hrl : r < (curL s f i c m p).length := by rw [curL_len]; exact hpr
            have kK1 : w8.cell? ⟨w7.heap.size, 1, none⟩ = some (.int .i64 (r : Int)) := KK.cell 1
            have hcO : w8.cell? ⟨go, r, none⟩ = some (.int .i64 z) := by rw [hown.cellAt r (by omega), getD_mapI _ r hrl, HAT.out]
            have hfO : w8.frozen? ⟨go, r, none⟩ = false := hown.frozenAt r
            have hst := hown.stored r (.int .i64 (z + x))
            clear KK hrl
            go_wp2
            go_roundw
            case rel =>
              refine ⟨p + 1, by go_num, by omega, ?_, hbr.grown hst.2 hbr.size (fun k hk => by cases hk; exact Nat.le_of_eq HGO.out)⟩
              rw [HNXT.out, List.map_set]
              exact hst.1
            case measure => simp [intOf]; omega
          · have hq : (y == i) = false := by rw [beq_eq_false_iff_ne]; exact hyi
            have HNX := HMISS.out hyi
            have HNXT : Hid (curL s f i c m (p + 1) = curL s f i c m p) := HNX
            clear HNX hyi HHIT HMISS KK
            go_wp2
            go_roundw
            case rel =>
              refine ⟨p + 1, by go_num, by omega, ?_, hbr⟩
              rw [HNXT.out]
              exact hown
            case measure => simp [intOf]; omega
end Go.Proofs.Yteadkdllmeeocaa
/- Two structs in new blocks. -/
namespace Go.Proofs.Yteadkdllmeeocaa
open Go.RowKit
set_option maxRecDepth 100000
set_option linter.unusedSimpArgs false
theorem two_below (w : World) (c d : Array Value) : Below w.heap.size w ((w.alloc (.cells c 33)).alloc (.cells d 38)) := ((Below.refl _ _).alloc (Nat.le_refl _) _).alloc (by simp) _
end Go.Proofs.Yteadkdllmeeocaa
/- Whether a question is right, by the program. -/
namespace Go.Proofs.Yteadkdllmeeocaa
open Go.RowKit
set_option maxRecDepth 100000
set_option linter.unusedSimpArgs false
set_option maxHeartbeats 400000 in
theorem implForkOk_any (vs : Value) (s : SchemaD) (f : ForkD) (w : World) (hs : SchemaAt w vs s) (hn : okSch s) :
    Calls Try.prog 35 #[vs, forkV f] w fun e w' => e = .returned (.bool (forkOk s f)) ∧ Below w.heap.size w w' := by
  have CQ : Hid (∀ W, Below w.heap.size w W → Calls Try.prog 58 #[vs, forkV f] W fun e w' => e = .returned (.tuple #[questionV s f, .bool (forkOk s f)]) ∧ Below W.heap.size W w') := fun W hW => questionOf_any vs s f W (hs.later hW) hn
  unfold forkV at CQ ⊢
  obtain ⟨va, vc, rfl, -, -⟩ := hs
  have B0 := two_below w #[va, vc] #[.int .i64 f.attr, .int .i64 f.pos]
  have cc := CQ.out _ B0
  clear CQ hn
  go_enter Try.func35, Try.ntmps35
  go_wp2_with fail
  refine cc.mono ?_
  clear cc
  rintro e w1 ⟨rfl, hb⟩
  have B := B0.trans (hb.mono B0.size)
  go_wp2
  go_ret
  exact ⟨rfl, B⟩
end Go.Proofs.Yteadkdllmeeocaa
/- How many branches a question has, by the program. -/
namespace Go.Proofs.Yteadkdllmeeocaa
open Go.RowKit
set_option maxRecDepth 100000
set_option linter.unusedSimpArgs false
set_option maxHeartbeats 400000 in
theorem implBranches_any (vs : Value) (s : SchemaD) (f : ForkD) (w : World) (hs : SchemaAt w vs s) (hn : okSch s) :
    Calls Try.prog 37 #[vs, forkV f] w fun e w' => e = .returned (.int .i64 (branches s f)) ∧ Below w.heap.size w w' := by
  have CQ : Hid (∀ W, Below w.heap.size w W → Calls Try.prog 58 #[vs, forkV f] W fun e w' => e = .returned (.tuple #[questionV s f, .bool (forkOk s f)]) ∧ Below W.heap.size W w') := fun W hW => questionOf_any vs s f W (hs.later hW) hn
  unfold forkV at CQ ⊢
  obtain ⟨va, vc, rfl, -, -⟩ := hs
  have B0 := two_below w #[va, vc] #[.int .i64 f.attr, .int .i64 f.pos]
  have cc := CQ.out _ B0
  clear CQ hn
  go_enter Try.func37, Try.ntmps37
  go_wp2_with fail
  refine cc.mono ?_
  clear cc
  rintro e w1 ⟨rfl, hb⟩
  have B := B0.trans (hb.mono B0.size)
  clear hb B0
  have cc := branchesOf_any s f w1
  go_wp2_with fail
  refine cc.mono ?_
  clear cc
  rintro e w2 ⟨rfl, hb⟩
  have B := B.trans (hb.mono B.size)
  go_wp2
  go_ret
  exact ⟨rfl, B⟩
end Go.Proofs.Yteadkdllmeeocaa
