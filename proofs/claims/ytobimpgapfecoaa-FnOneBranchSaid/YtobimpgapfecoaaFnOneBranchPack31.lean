/- Texts of this claim, put together: part 31. -/
import Derived.Test.YtobimpgapfecoaaFnOneBranchPack29
import Derived.Test.YtobimpgapfecoaaFnOneBranchPack28
import Derived.Test.YtobimpgapfecoaaFnOneBranchPack30
import Derived.Test.YtobimpgapfecoaaFnOneBranchPack24
import Derived.Test.YtobimpgapfecoaaFnOneBranchPack14
import Derived.Test.YtobimpgapfecoaaFnOneBranchPack8
import Derived.Test.YtobimpgapfecoaaFnOneBranchPack11
import Derived.Test.YtobimpgapfecoaaFnOneBranchPack23
import Derived.Test.YtobimpgapfecoaaFnOneBranchPack27
import Derived.Test.YtobimpgapfecoaaFnOneBranchPack6
import Derived.Test.YtobimpgapfecoaaFnOneBranchPack21
import Derived.Test.YtobimpgapfecoaaFnOneBranchPack19
import Derived.BigGuardPart
/- What a branch has of each class, by the program. -/
namespace Go.Proofs.Ytobimpgapfecoaa
open Go.RowKit
set_option maxRecDepth 100000
set_option linter.unusedSimpArgs false
theorem totals_none {s : SchemaD} {t : StatsD} {f : ForkD} {i : Int} (h : totalsOk s t f i = false) : branchTotals s t f i = [] := by unfold branchTotals; rw [if_neg (by rw [h]; exact Bool.false_ne_true)]
theorem counted_none {s : SchemaD} {t : StatsD} {f : ForkD} {i : Int} (h : (statsOk s t && decide (t.cells.length ≠ 0)) = false) : (statsOk s t && (decide (t.cells.length ≠ 0) && (forkOk s f && decide (0 ≤ i ∧ i ≤ branches s f - 1)))) = false := by
  rw [← Bool.and_assoc, h, Bool.false_and]
theorem statsOk_schema {s : SchemaD} {t : StatsD} (h : statsOk s t = true) : schemaOk s = true := (statsOk_parts h).1
theorem fork_bins {s : SchemaD} {f : ForkD} (h : forkOk s f = true) : 1 ≤ bins (forkAttr s f) := by
  have h1 := fork_attr h
  have h2 := ok_kind h1
  unfold bins
  rw [if_pos h1]
  split <;> omega
set_option maxHeartbeats 6400000 in
theorem implBranchTotals_any (vs vt : Value) (s : SchemaD) (t : StatsD) (f : ForkD) (i : Int) (w : World) (hs : SchemaAt w vs s) (ht : StatsAt w vt t) (hn : okSch s) (hb : okSt t) :
    Calls Try.prog 29 #[vs, vt, forkV f, .int .i64 i] w fun e w' => ∃ v, e = .returned v ∧ OwnI w w' v (branchTotals s t f i) := by
  unfold forkV
  have HS : Hid (∀ W, Below w.heap.size w W → SchemaAt W vs s) := fun W h => hs.later h
  have HT : Hid (∀ W, Below w.heap.size w W → StatsAt W vt t) := fun W h => ht.later h
  have HOK : Hid (okSch s) := hn
  have HOT : Hid (okSt t) := hb
  have CQ : Hid (∀ W, Below w.heap.size w W → Calls Try.prog 66 #[vs, forkV f] W fun e w' => e = .returned (.tuple #[questionV s f, .bool (forkOk s f)]) ∧ Below W.heap.size W w') := fun W hW => questionOf_any vs s f W (hs.later hW) hn
  unfold forkV at CQ
  obtain ⟨va, vc, rfl, ra, rc⟩ := hs
  obtain ⟨oa, ka, rfl, -, -⟩ := id ra
  obtain ⟨oc, kc, rfl, -, -⟩ := id rc
  obtain ⟨vx, vy, rfl, rx, ry⟩ := ht
  obtain ⟨ox, kx, rfl, -, -⟩ := id rx
  obtain ⟨oy, ky, rfl, -, -⟩ := id ry
  clear ra rc rx ry
  have la := hn.attrs
  clear hn hb
  obtain ⟨KS, KT, KF, B⟩ := blk_3 27 31 48 w #[.slice oa s.attrs.length ka, .slice oc s.classes.length kc] #[.slice ox t.totals.length kx, .slice oy t.cells.length ky] #[.int .i64 f.attr, .int .i64 f.pos]
  go_enter Try.func29, Try.ntmps29
  have cc := CQ.out _ B
  have kS0 : (((w.alloc (.cells #[.slice oa s.attrs.length ka, .slice oc s.classes.length kc] 27)).alloc (.cells #[.slice ox t.totals.length kx, .slice oy t.cells.length ky] 31)).alloc (.cells #[.int .i64 f.attr, .int .i64 f.pos] 48)).cell? ⟨w.heap.size, 0, none⟩ = some (.slice oa s.attrs.length ka) := KS.cell 0
  have kS1 : (((w.alloc (.cells #[.slice oa s.attrs.length ka, .slice oc s.classes.length kc] 27)).alloc (.cells #[.slice ox t.totals.length kx, .slice oy t.cells.length ky] 31)).alloc (.cells #[.int .i64 f.attr, .int .i64 f.pos] 48)).cell? ⟨w.heap.size, 1, none⟩ = some (.slice oc s.classes.length kc) := KS.cell 1
  have kF0 : (((w.alloc (.cells #[.slice oa s.attrs.length ka, .slice oc s.classes.length kc] 27)).alloc (.cells #[.slice ox t.totals.length kx, .slice oy t.cells.length ky] 31)).alloc (.cells #[.int .i64 f.attr, .int .i64 f.pos] 48)).cell? ⟨w.heap.size + 1 + 1, 0, none⟩ = some (.int .i64 f.attr) := KF.cell 0
  have kF1 : (((w.alloc (.cells #[.slice oa s.attrs.length ka, .slice oc s.classes.length kc] 27)).alloc (.cells #[.slice ox t.totals.length kx, .slice oy t.cells.length ky] 31)).alloc (.cells #[.int .i64 f.attr, .int .i64 f.pos] 48)).cell? ⟨w.heap.size + 1 + 1, 1, none⟩ = some (.int .i64 f.pos) := KF.cell 1
  go_wp2_with fail
  refine cc.mono ?_
  clear cc
  clear kS0 kS1 kF0 kF1
  rintro e w1 ⟨rfl, hb⟩
  replace KS := KS.below hb
  replace KT := KT.below hb
  replace KF := KF.below hb
  replace B := B.trans (hb.mono B.size)
  clear hb
  clear CQ
  cases hk : forkOk s f with
  | false =>
    have HE : Hid (branchTotals s t f i = []) := totals_none (by unfold totalsOk; rw [hk]; simp)
    go_wp2
    go_ret
    exact ⟨_, rfl, by rw [HE.out]; exact World.ownsRow_nil _ _ _ _, B⟩
  | true =>
    have HQ : Hid (forkOk s f = true) := hk
    clear hk
    have cc := counted_any _ _ s t _ (HS.out _ B) (HT.out _ B) HOK.out HOT.out
    have kS0 : w1.cell? ⟨w.heap.size, 0, none⟩ = some (.slice oa s.attrs.length ka) := KS.cell 0
    have kS1 : w1.cell? ⟨w.heap.size, 1, none⟩ = some (.slice oc s.classes.length kc) := KS.cell 1
    have kT0 : w1.cell? ⟨w.heap.size + 1, 0, none⟩ = some (.slice ox t.totals.length kx) := KT.cell 0
    have kT1 : w1.cell? ⟨w.heap.size + 1, 1, none⟩ = some (.slice oy t.cells.length ky) := KT.cell 1
    go_wp2_with fail
    refine cc.mono ?_
    clear cc
    clear kS0 kS1 kT0 kT1
    rintro e w2 ⟨rfl, hb⟩
    replace KS := KS.below hb
    replace KT := KT.below hb
    replace KF := KF.below hb
    replace B := B.trans (hb.mono B.size)
    clear hb
    cases hk : (statsOk s t && decide (t.cells.length ≠ 0)) with
    | false =>
      have HE : Hid (branchTotals s t f i = []) := totals_none (by unfold totalsOk; exact counted_none hk)
      go_wp2
      go_ret
      exact ⟨_, rfl, by rw [HE.out]; exact World.ownsRow_nil _ _ _ _, B⟩
    | true =>
      have HST : Hid (statsOk s t = true) := (counted_yes hk).1
      have HN0 : Hid (t.cells.length ≠ 0) := (counted_yes hk).2
      clear hk
      by_cases hi : i < 0
      ·
        have HE : Hid (branchTotals s t f i = []) := totals_none (by unfold totalsOk; rw [decide_eq_false (show ¬ (0 ≤ i ∧ i ≤ branches s f - 1) by omega)]; simp)
        go_wp2
        go_ret
        exact ⟨_, rfl, by rw [HE.out]; exact World.ownsRow_nil _ _ _ _, B⟩
      have cc := branchesOf_any s f w2
      go_wp2_with fail
      refine cc.mono ?_
      clear cc
      rintro e w3 ⟨rfl, hb⟩
      replace KS := KS.below hb
      replace KT := KT.below hb
      replace KF := KF.below hb
      replace B := B.trans (hb.mono B.size)
      clear hb
      have HBR : Hid (∀ z, z = branches s f → (0 ≤ i ∧ i ≤ z - 1) = (0 ≤ i ∧ i ≤ branches s f - 1)) := fun z h => by rw [h]
      obtain ⟨nb, hnb⟩ : ∃ nb, branches s f = nb := ⟨_, rfl⟩
      rw [hnb]
      have HNB : Hid (branches s f = nb) := hnb
      clear hnb HBR
      by_cases hi2 : nb ≤ i
      ·
        have HE : Hid (branchTotals s t f i = []) := totals_none (by unfold totalsOk; rw [decide_eq_false (show ¬ (0 ≤ i ∧ i ≤ branches s f - 1) by rw [HNB.out]; omega)]; simp)
        go_wp2
        go_ret
        exact ⟨_, rfl, by rw [HE.out]; exact World.ownsRow_nil _ _ _ _, B⟩
      have HTO : totalsOk s t f i = true := by
        unfold totalsOk
        rw [HST.out, decide_eq_true HN0.out, HQ.out, decide_eq_true (show 0 ≤ i ∧ i ≤ branches s f - 1 by rw [HNB.out]; omega)]; rfl
      obtain ⟨-, ⟨a, hfa, hal, hat⟩, -, -⟩ := fork_parts HQ.out
      obtain ⟨hac, hlen, hcol⟩ := cells_right HST.out HN0.out hal
      have hm := sch_classes (statsOk_schema HST.out)
      have hn4 := small_bins (ad s.attrs a)
      have HRES : Hid (branchTotals s t f i = curL s f i (il t.cells a) s.classes.length ((bins (ad s.attrs a)).toNat * s.classes.length)) := by show _ = _; rw [curL_all HTO, hat, hfa]; rfl
      have HAB : Hid (bins (forkAttr s f) = bins (ad s.attrs a)) := by show _ = _; rw [hat]
      obtain ⟨m, hmm⟩ : ∃ m, s.classes.length = m := ⟨_, rfl⟩
      obtain ⟨n, hnn⟩ : ∃ n, (bins (ad s.attrs a)).toNat = n := ⟨_, rfl⟩
      have HBN : Hid (bins (ad s.attrs a) = (n : Int)) := by show _ = _; omega
      have hn5 : n ≤ 4 := by omega
      rw [hmm, hnn] at hcol hlen HRES
      rw [hmm] at hm
      have HCOL : Hid (∀ b k, b < n → k < m → inW (colAt (il t.cells a) m k b) = true) := hcol
      clear hcol hnn hn4 HTO hat
      obtain ⟨c, hc⟩ : ∃ c, il t.cells a = c := ⟨_, rfl⟩
      rw [hc] at hlen HRES HCOL
      have hnm : n * m ≤ 12 := by have := Nat.mul_le_mul hn5 hm.2; omega
      have HMM : Hid (s.classes.length = m) := hmm
      have HCC : Hid (il t.cells a = c) := hc
      rw [hmm] at KS
      clear hmm hc
      by_cases hp : f.pos = -1
      · have hqv := questionV_yes HQ.out
        rw [if_pos hp] at hqv
        have CBR : Hid (∀ b W, Calls Try.prog 135 #[.agg #[.int .i64 (bins (forkAttr s f))], .int .i64 b] W fun e w' => e = .returned (.int .i64 (qBranch s f b)) ∧ Below W.heap.size W w') := fun b W => ((branch_any s f b W HQ.out (fun _ h => And.intro rfl h)).1 hp).2
        clear hp
        generalize questionV s f = qv at hqv ⊢
        subst hqv
        have kS1 : w3.cell? ⟨w.heap.size, 1, none⟩ = some (.slice oc m kc) := KS.cell 1
        have hib : decide (i < 0) = false := decide_eq_false (show ¬ i < 0 by omega)
        have hnbb : decide (nb ≤ i) = false := decide_eq_false (show ¬ nb ≤ i by omega)
        have hsz := B.size
        go_wp2_with (at_make; refine wpList_make_ints rfl _ rfl w3.heap.size m _ rfl rfl (by omega) (Nat.le_refl _) ?_)
        intro w6 hown hg
        clear kS1 hi hi2 hib hnbb
        have bM : Below w3.heap.size w3 w6 := (Below.refl _ _).grown hg (Nat.le_refl _) (fun k hk => by cases hk)
        clear hg
        have HK : Hid (∀ W, Below w3.heap.size w3 W → Blk 27 W w.heap.size #[.slice oa s.attrs.length ka, .slice oc m kc] ∧ Blk 31 W (w.heap.size + 1) #[.slice ox t.totals.length kx, .slice oy t.cells.length ky] ∧ Blk 48 W (w.heap.size + 1 + 1) #[.int .i64 f.attr, .int .i64 f.pos]) := fun W h => ⟨KS.below h, KT.below h, KF.below h⟩
        have HB5 : Hid (Below w.heap.size w w3) := B
        clear KS KT KF B
        obtain ⟨vx', vy', e', -, ry⟩ := HT.out w (Below.refl _ _)
        cases e'
        obtain ⟨oy', ky', e', -, hry⟩ := ry
        cases e'
        obtain ⟨gy, fy, rfl, hgy, hjy⟩ := hry (by omega)
        obtain ⟨u, hcu, hru⟩ := hjy a hac
        rw [HCC.out] at hru
        obtain ⟨og, kg, rfl, -, hrr⟩ := hru
        have hcp : 0 < c.length := by
          rw [hlen]
          exact Nat.mul_pos (by have := fork_bins HQ.out; rw [HAB.out, HBN.out] at this; omega) (by omega)
        obtain ⟨gb, ob, rfl, hgb, hjc⟩ := hrr hcp
        have HCJ : Hid (∀ W, Below w.heap.size w W → ∀ j, j < c.length → W.cell? ⟨gb, ob + j, none⟩ = some (.int .i64 (c.getD j 0))) := fun W h j hj => (h.cell (p := ⟨gb, ob + j, none⟩) hgb).trans (hjc j hj)
        have hcu6 := ((HB5.out.trans (bM.mono hsz)).cell (p := ⟨gy, fy + a, none⟩) hgy).trans hcu
        clear hjy hry hjc hrr hcu
        have kT1 : w6.cell? ⟨w.heap.size + 1, 1, none⟩ = some (.slice (some ⟨gy, fy, none⟩) t.cells.length ky) := (HK.out _ bM).2.1.cell 1
        have kF0 : w6.cell? ⟨w.heap.size + 1 + 1, 0, none⟩ = some (.int .i64 (a : Int)) := by rw [← hfa]; exact (HK.out _ bM).2.2.cell 0
        have HFA : Hid (f.attr = (a : Int)) := hfa
        clear hfa
        replace hown : w6.ownsRow w3.heap.size 3 1 (.slice (some ⟨w3.heap.size, 0, none⟩) m m) m ((curL s f i c m 0).map (Value.int .i64)) := by rw [curL_zero, List.map_replicate]; exact hown
        generalize hgo : w3.heap.size = go at hown ⊢
        have HGO : Hid (w3.heap.size = go) := hgo
        clear hgo
        go_wp2
        go_loopw [50] (fun idx wr => ∃ p : Nat, idx = .int .i64 p ∧ p ≤ c.length ∧ wr.ownsRow go 3 1 (.slice (some ⟨go, 0, none⟩) m m) m ((curL s f i c m p).map (Value.int .i64)) ∧ Hid (Below w3.heap.size w3 wr)) (fun idx _ => c.length - (intOf idx).toNat)
        case atStart => exact ⟨0, rfl, by omega, hown, bM⟩
        case round =>
          clear hown bM kT1 kF0 hcu6
          obtain ⟨p, rfl, hp, hown, HBR⟩ := hrel
          have hbr := HBR.out
          by_cases hlt : p < c.length
          rotate_left
          · obtain rfl : p = c.length := by omega
            go_wp2
            go_ret
            have hfin : branchTotals s t f i = curL s f i c m c.length := by rw [HRES.out, hlen]
            exact ⟨_, rfl, by rw [hfin, curL_len]; exact own_base hown (by rw [← HGO.out]; exact hsz), HB5.out.trans (hbr.mono hsz)⟩
          have B := HB5.out.trans (hbr.mono hsz)
          have hcx := HCJ.out wr B p hlt
          have hx := place_col (show 0 < m by omega) (show p < n * m by omega) HCOL.out
          obtain ⟨hpb, hpr, -⟩ := place_parts (show 0 < m by omega) (show p < n * m by omega)
          have hz := plSum_le (s := s) (f := f) (i := i) (k := p % m) (show 0 < m by omega) HCOL.out p (by omega)
          have HHIT : Hid (branchOf s f ((p / m : Nat) : Int) = i → curL s f i c m (p + 1) = (curL s f i c m p).set (p % m) (plSum s f i c m (p % m) p + c.getD p 0)) := fun h => curL_hit (by omega) h
          have HMISS : Hid (¬ branchOf s f ((p / m : Nat) : Int) = i → curL s f i c m (p + 1) = curL s f i c m p) := fun h => curL_miss h
          have HAT : Hid ((curL s f i c m p).getD (p % m) 0 = plSum s f i c m (p % m) p) := curL_at hpr
          have HBO : Hid (branchOf s f ((p / m : Nat) : Int) = qBranch s f ((p / m : Nat) : Int)) := branchOf_yes HQ.out (Int.natCast_nonneg _) (by rw [HAB.out, HBN.out]; exact Int.ofNat_lt.2 hpb)
          have cc := keyAt_any p m wr (by omega) (by omega) (by omega)
          generalize c.getD p 0 = x at hcx hx HHIT
          generalize plSum s f i c m (p % m) p = z at hz HHIT HAT
          generalize p / m = b at cc HBO HHIT HMISS hpb
          generalize p % m = r at cc hpr HHIT HAT
          rw [HBO.out] at HHIT HMISS
          have kS1 : wr.cell? ⟨w.heap.size, 1, none⟩ = some (.slice oc m kc) := (HK.out _ hbr).1.cell 1
          go_wp2_with fail
          refine cc.mono ?_
          clear cc kS1 hcx HBO
          rintro e w7 ⟨rfl, hb⟩
          replace hown := own_below hown hb
          replace hbr := hbr.trans (hb.mono hbr.size)
          clear hb B
          have bK : Below w7.heap.size w7 (w7.alloc (.cells #[.int .i64 (b : Int), .int .i64 (r : Int)] 87)) := (Below.refl _ _).alloc (Nat.le_refl _) _
          have KK := Blk.new 87 w7 #[.int .i64 (b : Int), .int .i64 (r : Int)]
          replace hown := own_below hown bK
          replace hbr := hbr.trans (bK.mono hbr.size)
          have hpk : w7.heap.size < (w7.alloc (.cells #[.int .i64 (b : Int), .int .i64 (r : Int)] 87)).heap.size := by simp
          clear bK
          have cc := CBR.out (b : Int) (w7.alloc (.cells #[.int .i64 (b : Int), .int .i64 (r : Int)] 87))
          generalize qBranch s f (b : Int) = y at cc HHIT HMISS
          have kK0 : (w7.alloc (.cells #[.int .i64 (b : Int), .int .i64 (r : Int)] 87)).cell? ⟨w7.heap.size, 0, none⟩ = some (.int .i64 (b : Int)) := KK.cell 0
          go_wp2_with fail
          refine cc.mono ?_
          clear cc kK0
          rintro e w8 ⟨rfl, hb⟩
          replace hown := own_below hown hb
          replace hbr := hbr.trans (hb.mono hbr.size)
          replace KK := KK.below hb
          clear hb
          by_cases hyi : y = i
          · have hq : (y == i) = true := by rw [hyi]; exact beq_self_eq_true i
            have HNX := HHIT.out hyi
            have HNXT : Hid (curL s f i c m (p + 1) = (curL s f i c m p).set r (z + x)) := HNX
            clear HNX hyi HHIT HMISS
            have hrl : r < (curL s f i c m p).length := by rw [curL_len]; exact hpr
            have kK1 : w8.cell? ⟨w7.heap.size, 1, none⟩ = some (.int .i64 (r : Int)) := KK.cell 1
            have hcO : w8.cell? ⟨go, r, none⟩ = some (.int .i64 z) := by rw [hown.cellAt r (by omega), getD_mapI _ r hrl, HAT.out]
            have hfO : w8.frozen? ⟨go, r, none⟩ = false := hown.frozenAt r
            have hst := hown.stored r (.int .i64 (z + x))
            clear KK hrl
            go_wp2
            go_roundw
            case rel =>
              refine ⟨p + 1, by go_num, by omega, ?_, hbr.grown hst.2 hbr.size (fun k hk => by cases hk; exact Nat.le_of_eq HGO.out)⟩
              rw [HNXT.out, List.map_set]
              exact hst.1
            case measure => simp [intOf]; omega
          · have hq : (y == i) = false := by rw [beq_eq_false_iff_ne]; exact hyi
            have HNX := HMISS.out hyi
            have HNXT : Hid (curL s f i c m (p + 1) = curL s f i c m p) := HNX
            clear HNX hyi HHIT HMISS KK
            go_wp2
            go_roundw
            case rel =>
              refine ⟨p + 1, by go_num, by omega, ?_, hbr⟩
              rw [HNXT.out]
              exact hown
            case measure => simp [intOf]; omega
      by_cases hv : 0 < (forkAttr s f).vals.length
      · have hqv := questionV_yes HQ.out
        rw [if_neg hp, if_pos hv] at hqv
        have CBR : Hid (∀ b W, Calls Try.prog 136 #[.agg #[.int .i64 f.pos], .int .i64 b] W fun e w' => e = .returned (.int .i64 (qBranch s f b)) ∧ Below W.heap.size W w') := fun b W => ((branch_any s f b W HQ.out (fun _ h => And.intro rfl h)).2.1 hp hv).2
        clear hp hv
        generalize questionV s f = qv at hqv ⊢
        subst hqv
        have kS1 : w3.cell? ⟨w.heap.size, 1, none⟩ = some (.slice oc m kc) := KS.cell 1
        have hib : decide (i < 0) = false := decide_eq_false (show ¬ i < 0 by omega)
        have hnbb : decide (nb ≤ i) = false := decide_eq_false (show ¬ nb ≤ i by omega)
        have hsz := B.size
        go_wp2_with (at_make; refine wpList_make_ints rfl _ rfl w3.heap.size m _ rfl rfl (by omega) (Nat.le_refl _) ?_)
        intro w6 hown hg
        clear kS1 hi hi2 hib hnbb
        have bM : Below w3.heap.size w3 w6 := (Below.refl _ _).grown hg (Nat.le_refl _) (fun k hk => by cases hk)
        clear hg
        have HK : Hid (∀ W, Below w3.heap.size w3 W → Blk 27 W w.heap.size #[.slice oa s.attrs.length ka, .slice oc m kc] ∧ Blk 31 W (w.heap.size + 1) #[.slice ox t.totals.length kx, .slice oy t.cells.length ky] ∧ Blk 48 W (w.heap.size + 1 + 1) #[.int .i64 f.attr, .int .i64 f.pos]) := fun W h => ⟨KS.below h, KT.below h, KF.below h⟩
        have HB5 : Hid (Below w.heap.size w w3) := B
        clear KS KT KF B
        obtain ⟨vx', vy', e', -, ry⟩ := HT.out w (Below.refl _ _)
        cases e'
        obtain ⟨oy', ky', e', -, hry⟩ := ry
        cases e'
        obtain ⟨gy, fy, rfl, hgy, hjy⟩ := hry (by omega)
        obtain ⟨u, hcu, hru⟩ := hjy a hac
        rw [HCC.out] at hru
        obtain ⟨og, kg, rfl, -, hrr⟩ := hru
        have hcp : 0 < c.length := by
          rw [hlen]
          exact Nat.mul_pos (by have := fork_bins HQ.out; rw [HAB.out, HBN.out] at this; omega) (by omega)
        obtain ⟨gb, ob, rfl, hgb, hjc⟩ := hrr hcp
        have HCJ : Hid (∀ W, Below w.heap.size w W → ∀ j, j < c.length → W.cell? ⟨gb, ob + j, none⟩ = some (.int .i64 (c.getD j 0))) := fun W h j hj => (h.cell (p := ⟨gb, ob + j, none⟩) hgb).trans (hjc j hj)
        have hcu6 := ((HB5.out.trans (bM.mono hsz)).cell (p := ⟨gy, fy + a, none⟩) hgy).trans hcu
        clear hjy hry hjc hrr hcu
        have kT1 : w6.cell? ⟨w.heap.size + 1, 1, none⟩ = some (.slice (some ⟨gy, fy, none⟩) t.cells.length ky) := (HK.out _ bM).2.1.cell 1
        have kF0 : w6.cell? ⟨w.heap.size + 1 + 1, 0, none⟩ = some (.int .i64 (a : Int)) := by rw [← hfa]; exact (HK.out _ bM).2.2.cell 0
        have HFA : Hid (f.attr = (a : Int)) := hfa
        clear hfa
        replace hown : w6.ownsRow w3.heap.size 3 1 (.slice (some ⟨w3.heap.size, 0, none⟩) m m) m ((curL s f i c m 0).map (Value.int .i64)) := by rw [curL_zero, List.map_replicate]; exact hown
        generalize hgo : w3.heap.size = go at hown ⊢
        have HGO : Hid (w3.heap.size = go) := hgo
        clear hgo
        go_wp2
        go_loopw [50] (fun idx wr => ∃ p : Nat, idx = .int .i64 p ∧ p ≤ c.length ∧ wr.ownsRow go 3 1 (.slice (some ⟨go, 0, none⟩) m m) m ((curL s f i c m p).map (Value.int .i64)) ∧ Hid (Below w3.heap.size w3 wr)) (fun idx _ => c.length - (intOf idx).toNat)
        case atStart => exact ⟨0, rfl, by omega, hown, bM⟩
        case round =>
          clear hown bM kT1 kF0 hcu6
          obtain ⟨p, rfl, hp, hown, HBR⟩ := hrel
          have hbr := HBR.out
          by_cases hlt : p < c.length
          rotate_left
          · obtain rfl : p = c.length := by omega
            go_wp2
            go_ret
            have hfin : branchTotals s t f i = curL s f i c m c.length := by rw [HRES.out, hlen]
            exact ⟨_, rfl, by rw [hfin, curL_len]; exact own_base hown (by rw [← HGO.out]; exact hsz), HB5.out.trans (hbr.mono hsz)⟩
          have B := HB5.out.trans (hbr.mono hsz)
          have hcx := HCJ.out wr B p hlt
          have hx := place_col (show 0 < m by omega) (show p < n * m by omega) HCOL.out
          obtain ⟨hpb, hpr, -⟩ := place_parts (show 0 < m by omega) (show p < n * m by omega)
          have hz := plSum_le (s := s) (f := f) (i := i) (k := p % m) (show 0 < m by omega) HCOL.out p (by omega)
          have HHIT : Hid (branchOf s f ((p / m : Nat) : Int) = i → curL s f i c m (p + 1) = (curL s f i c m p).set (p % m) (plSum s f i c m (p % m) p + c.getD p 0)) := fun h => curL_hit (by omega) h
          have HMISS : Hid (¬ branchOf s f ((p / m : Nat) : Int) = i → curL s f i c m (p + 1) = curL s f i c m p) := fun h => curL_miss h
          have HAT : Hid ((curL s f i c m p).getD (p % m) 0 = plSum s f i c m (p % m) p) := curL_at hpr
          have HBO : Hid (branchOf s f ((p / m : Nat) : Int) = qBranch s f ((p / m : Nat) : Int)) := branchOf_yes HQ.out (Int.natCast_nonneg _) (by rw [HAB.out, HBN.out]; exact Int.ofNat_lt.2 hpb)
          have cc := keyAt_any p m wr (by omega) (by omega) (by omega)
          generalize c.getD p 0 = x at hcx hx HHIT
          generalize plSum s f i c m (p % m) p = z at hz HHIT HAT
          generalize p / m = b at cc HBO HHIT HMISS hpb
          generalize p % m = r at cc hpr HHIT HAT
          rw [HBO.out] at HHIT HMISS
          have kS1 : wr.cell? ⟨w.heap.size, 1, none⟩ = some (.slice oc m kc) := (HK.out _ hbr).1.cell 1
          go_wp2_with fail
          refine cc.mono ?_
          clear cc kS1 hcx HBO
          rintro e w7 ⟨rfl, hb⟩
          replace hown := own_below hown hb
          replace hbr := hbr.trans (hb.mono hbr.size)
          clear hb B
          have bK : Below w7.heap.size w7 (w7.alloc (.cells #[.int .i64 (b : Int), .int .i64 (r : Int)] 87)) := (Below.refl _ _).alloc (Nat.le_refl _) _
          have KK := Blk.new 87 w7 #[.int .i64 (b : Int), .int .i64 (r : Int)]
          replace hown := own_below hown bK
          replace hbr := hbr.trans (bK.mono hbr.size)
          have hpk : w7.heap.size < (w7.alloc (.cells #[.int .i64 (b : Int), .int .i64 (r : Int)] 87)).heap.size := by simp
          clear bK
          have cc := CBR.out (b : Int) (w7.alloc (.cells #[.int .i64 (b : Int), .int .i64 (r : Int)] 87))
          generalize qBranch s f (b : Int) = y at cc HHIT HMISS
          have kK0 : (w7.alloc (.cells #[.int .i64 (b : Int), .int .i64 (r : Int)] 87)).cell? ⟨w7.heap.size, 0, none⟩ = some (.int .i64 (b : Int)) := KK.cell 0
          go_wp2_with fail
          refine cc.mono ?_
          clear cc kK0
          rintro e w8 ⟨rfl, hb⟩
          replace hown := own_below hown hb
          replace hbr := hbr.trans (hb.mono hbr.size)
          replace KK := KK.below hb
          clear hb
          by_cases hyi : y = i
          · have hq : (y == i) = true := by rw [hyi]; exact beq_self_eq_true i
            have HNX := HHIT.out hyi
            have HNXT : Hid (curL s f i c m (p + 1) = (curL s f i c m p).set r (z + x)) := HNX
            clear HNX hyi HHIT HMISS
            have hrl : r < (curL s f i c m p).length := by rw [curL_len]; exact hpr
            have kK1 : w8.cell? ⟨w7.heap.size, 1, none⟩ = some (.int .i64 (r : Int)) := KK.cell 1
            have hcO : w8.cell? ⟨go, r, none⟩ = some (.int .i64 z) := by rw [hown.cellAt r (by omega), getD_mapI _ r hrl, HAT.out]
            have hfO : w8.frozen? ⟨go, r, none⟩ = false := hown.frozenAt r
            have hst := hown.stored r (.int .i64 (z + x))
            clear KK hrl
            go_wp2
            go_roundw
            case rel =>
              refine ⟨p + 1, by go_num, by omega, ?_, hbr.grown hst.2 hbr.size (fun k hk => by cases hk; exact Nat.le_of_eq HGO.out)⟩
              rw [HNXT.out, List.map_set]
              exact hst.1
            case measure => simp [intOf]; omega
          · have hq : (y == i) = false := by rw [beq_eq_false_iff_ne]; exact hyi
            have HNX := HMISS.out hyi
            have HNXT : Hid (curL s f i c m (p + 1) = curL s f i c m p) := HNX
            clear HNX hyi HHIT HMISS KK
            go_wp2
            go_roundw
            case rel =>
              refine ⟨p + 1, by go_num, by omega, ?_, hbr⟩
              rw [HNXT.out]
              exact hown
            case measure => simp [intOf]; omega
      · have hqv := questionV_yes HQ.out
        rw [if_neg hp, if_neg hv] at hqv
        have CBR : Hid (∀ b W, Calls Try.prog 138 #[.agg #[.int .i64 f.pos], .int .i64 b] W fun e w' => e = .returned (.int .i64 (qBranch s f b)) ∧ Below W.heap.size W w') := fun b W => ((branch_any s f b W HQ.out (fun _ h => And.intro rfl h)).2.2 hp hv).2
        clear hp hv
        generalize questionV s f = qv at hqv ⊢
        subst hqv
        have kS1 : w3.cell? ⟨w.heap.size, 1, none⟩ = some (.slice oc m kc) := KS.cell 1
        have hib : decide (i < 0) = false := decide_eq_false (show ¬ i < 0 by omega)
        have hnbb : decide (nb ≤ i) = false := decide_eq_false (show ¬ nb ≤ i by omega)
        have hsz := B.size
        go_wp2_with (at_make; refine wpList_make_ints rfl _ rfl w3.heap.size m _ rfl rfl (by omega) (Nat.le_refl _) ?_)
        intro w6 hown hg
        clear kS1 hi hi2 hib hnbb
        have bM : Below w3.heap.size w3 w6 := (Below.refl _ _).grown hg (Nat.le_refl _) (fun k hk => by cases hk)
        clear hg
        have HK : Hid (∀ W, Below w3.heap.size w3 W → Blk 27 W w.heap.size #[.slice oa s.attrs.length ka, .slice oc m kc] ∧ Blk 31 W (w.heap.size + 1) #[.slice ox t.totals.length kx, .slice oy t.cells.length ky] ∧ Blk 48 W (w.heap.size + 1 + 1) #[.int .i64 f.attr, .int .i64 f.pos]) := fun W h => ⟨KS.below h, KT.below h, KF.below h⟩
        have HB5 : Hid (Below w.heap.size w w3) := B
        clear KS KT KF B
        obtain ⟨vx', vy', e', -, ry⟩ := HT.out w (Below.refl _ _)
        cases e'
        obtain ⟨oy', ky', e', -, hry⟩ := ry
        cases e'
        obtain ⟨gy, fy, rfl, hgy, hjy⟩ := hry (by omega)
        obtain ⟨u, hcu, hru⟩ := hjy a hac
        rw [HCC.out] at hru
        obtain ⟨og, kg, rfl, -, hrr⟩ := hru
        have hcp : 0 < c.length := by
          rw [hlen]
          exact Nat.mul_pos (by have := fork_bins HQ.out; rw [HAB.out, HBN.out] at this; omega) (by omega)
        obtain ⟨gb, ob, rfl, hgb, hjc⟩ := hrr hcp
        have HCJ : Hid (∀ W, Below w.heap.size w W → ∀ j, j < c.length → W.cell? ⟨gb, ob + j, none⟩ = some (.int .i64 (c.getD j 0))) := fun W h j hj => (h.cell (p := ⟨gb, ob + j, none⟩) hgb).trans (hjc j hj)
        have hcu6 := ((HB5.out.trans (bM.mono hsz)).cell (p := ⟨gy, fy + a, none⟩) hgy).trans hcu
        clear hjy hry hjc hrr hcu
        have kT1 : w6.cell? ⟨w.heap.size + 1, 1, none⟩ = some (.slice (some ⟨gy, fy, none⟩) t.cells.length ky) := (HK.out _ bM).2.1.cell 1
        have kF0 : w6.cell? ⟨w.heap.size + 1 + 1, 0, none⟩ = some (.int .i64 (a : Int)) := by rw [← hfa]; exact (HK.out _ bM).2.2.cell 0
        have HFA : Hid (f.attr = (a : Int)) := hfa
        clear hfa
        replace hown : w6.ownsRow w3.heap.size 3 1 (.slice (some ⟨w3.heap.size, 0, none⟩) m m) m ((curL s f i c m 0).map (Value.int .i64)) := by rw [curL_zero, List.map_replicate]; exact hown
        generalize hgo : w3.heap.size = go at hown ⊢
        have HGO : Hid (w3.heap.size = go) := hgo
        clear hgo
        go_wp2
        go_loopw [50] (fun idx wr => ∃ p : Nat, idx = .int .i64 p ∧ p ≤ c.length ∧ wr.ownsRow go 3 1 (.slice (some ⟨go, 0, none⟩) m m) m ((curL s f i c m p).map (Value.int .i64)) ∧ Hid (Below w3.heap.size w3 wr)) (fun idx _ => c.length - (intOf idx).toNat)
        case atStart => exact ⟨0, rfl, by omega, hown, bM⟩
        case round =>
          clear hown bM kT1 kF0 hcu6
          obtain ⟨p, rfl, hp, hown, HBR⟩ := hrel
          have hbr := HBR.out
          by_cases hlt : p < c.length
          rotate_left
          · obtain rfl : p = c.length := by omega
            go_wp2
            go_ret
            have hfin : branchTotals s t f i = curL s f i c m c.length := by rw [HRES.out, hlen]
            exact ⟨_, rfl, by rw [hfin, curL_len]; exact own_base hown (by rw [← HGO.out]; exact hsz), HB5.out.trans (hbr.mono hsz)⟩
          have B := HB5.out.trans (hbr.mono hsz)
          have hcx := HCJ.out wr B p hlt
          have hx := place_col (show 0 < m by omega) (show p < n * m by omega) HCOL.out
          obtain ⟨hpb, hpr, -⟩ := place_parts (show 0 < m by omega) (show p < n * m by omega)
          have hz := plSum_le (s := s) (f := f) (i := i) (k := p % m) (show 0 < m by omega) HCOL.out p (by omega)
          have HHIT : Hid (branchOf s f ((p / m : Nat) : Int) = i → curL s f i c m (p + 1) = (curL s f i c m p).set (p % m) (plSum s f i c m (p % m) p + c.getD p 0)) := fun h => curL_hit (by omega) h
          have HMISS : Hid (¬ branchOf s f ((p / m : Nat) : Int) = i → curL s f i c m (p + 1) = curL s f i c m p) := fun h => curL_miss h
          have HAT : Hid ((curL s f i c m p).getD (p % m) 0 = plSum s f i c m (p % m) p) := curL_at hpr
          have HBO : Hid (branchOf s f ((p / m : Nat) : Int) = qBranch s f ((p / m : Nat) : Int)) := branchOf_yes HQ.out (Int.natCast_nonneg _) (by rw [HAB.out, HBN.out]; exact Int.ofNat_lt.2 hpb)
          have cc := keyAt_any p m wr (by omega) (by omega) (by omega)
          generalize c.getD p 0 = x at hcx hx HHIT
          generalize plSum s f i c m (p % m) p = z at hz HHIT HAT
          generalize p / m = b at cc HBO HHIT HMISS hpb
          generalize p % m = r at cc hpr HHIT HAT
          rw [HBO.out] at HHIT HMISS
          have kS1 : wr.cell? ⟨w.heap.size, 1, none⟩ = some (.slice oc m kc) := (HK.out _ hbr).1.cell 1
          go_wp2_with fail
          refine cc.mono ?_
          clear cc kS1 hcx HBO
          rintro e w7 ⟨rfl, hb⟩
          replace hown := own_below hown hb
          replace hbr := hbr.trans (hb.mono hbr.size)
          clear hb B
          have bK : Below w7.heap.size w7 (w7.alloc (.cells #[.int .i64 (b : Int), .int .i64 (r : Int)] 87)) := (Below.refl _ _).alloc (Nat.le_refl _) _
          have KK := Blk.new 87 w7 #[.int .i64 (b : Int), .int .i64 (r : Int)]
          replace hown := own_below hown bK
          replace hbr := hbr.trans (bK.mono hbr.size)
          have hpk : w7.heap.size < (w7.alloc (.cells #[.int .i64 (b : Int), .int .i64 (r : Int)] 87)).heap.size := by simp
          clear bK
          have cc := CBR.out (b : Int) (w7.alloc (.cells #[.int .i64 (b : Int), .int .i64 (r : Int)] 87))
          generalize qBranch s f (b : Int) = y at cc HHIT HMISS
          have kK0 : (w7.alloc (.cells #[.int .i64 (b : Int), .int .i64 (r : Int)] 87)).cell? ⟨w7.heap.size, 0, none⟩ = some (.int .i64 (b : Int)) := KK.cell 0
          go_wp2_with fail
          refine cc.mono ?_
          clear cc kK0
          rintro e w8 ⟨rfl, hb⟩
          replace hown := own_below hown hb
          replace hbr := hbr.trans (hb.mono hbr.size)
          replace KK := KK.below hb
          clear hb
          by_cases hyi : y = i
          · have hq : (y == i) = true := by rw [hyi]; exact beq_self_eq_true i
            have HNX := HHIT.out hyi
            have HNXT : Hid (curL s f i c m (p + 1) = (curL s f i c m p).set r (z + x)) := HNX
            clear HNX hyi HHIT HMISS
            have hrl : r < (curL s f i c m p).length := by rw [curL_len]; exact hpr
            have kK1 : w8.cell? ⟨w7.heap.size, 1, none⟩ = some (.int .i64 (r : Int)) := KK.cell 1
            have hcO : w8.cell? ⟨go, r, none⟩ = some (.int .i64 z) := by rw [hown.cellAt r (by omega), getD_mapI _ r hrl, HAT.out]
            have hfO : w8.frozen? ⟨go, r, none⟩ = false := hown.frozenAt r
            have hst := hown.stored r (.int .i64 (z + x))
            clear KK hrl
            go_wp2
            go_roundw
            case rel =>
              refine ⟨p + 1, by go_num, by omega, ?_, hbr.grown hst.2 hbr.size (fun k hk => by cases hk; exact Nat.le_of_eq HGO.out)⟩
              rw [HNXT.out, List.map_set]
              exact hst.1
            case measure => simp [intOf]; omega
          · have hq : (y == i) = false := by rw [beq_eq_false_iff_ne]; exact hyi
            have HNX := HMISS.out hyi
            have HNXT : Hid (curL s f i c m (p + 1) = curL s f i c m p) := HNX
            clear HNX hyi HHIT HMISS KK
            go_wp2
            go_roundw
            case rel =>
              refine ⟨p + 1, by go_num, by omega, ?_, hbr⟩
              rw [HNXT.out]
              exact hown
            case measure => simp [intOf]; omega
end Go.Proofs.Ytobimpgapfecoaa
/- For every code the law FnOneBranch returns true (the walk). -/
namespace Go.Proofs.Ytobimpgapfecoaa
open Go.RowKit
set_option maxRecDepth 100000
set_option linter.unusedSimpArgs false
set_option maxHeartbeats 6400000 in
theorem one_in (a0 : Option Addr) (len0 cap0 : Nat) (z0 : List Int) (w : World) (h0 : IsRow .u8 w a0 len0 cap0 z0) (hlen : len0 ≤ 1048576) :
    Calls Try.prog 6 #[.slice a0 len0 cap0] w fun e w' => e = .returned (.bool true) ∧ Below w.heap.size w w' := by
  have c1 := big_any a0 len0 cap0 w (by omega)
  rw [decide_eq_false (by omega)] at c1
  have mixed : Try.prog.follows .mixedOrders = true := by kernel_rfl
  go_enter Try.func6, Try.ntmps6
  go_wp2_with fail
  refine c1.mono ?_
  clear c1
  rintro e w0 ⟨rfl, e0⟩
  rw [e0]; clear e0 w0
  go_wp2_with fail
  refine (drawTotals_any a0 len0 cap0 z0 w h0 hlen).mono ?_
  clear h0
  rintro e w1 ⟨vs, d, ve, x, f, z, rfl, hx, htn, he, htx, B⟩
  have HOK : Hid (okSch d) := htn.ok8
  have HOX : Hid (okSt x) := htx.ok (by omega)
  have ld := htn.attrs
  have lx := HOX.out.cells
  clear htn htx
  obtain ⟨fa, fp⟩ := f
  simp only [forkV]
  obtain ⟨y1, y2, rfl, rr1, rr2⟩ := id hx
  obtain ⟨oa, oka, rfl, -, -⟩ := id rr1
  obtain ⟨oc, okc, rfl, -, -⟩ := id rr2
  clear rr1 rr2
  obtain ⟨y1, y2, rfl, rr1, rr2⟩ := id he
  obtain ⟨q1, qk1, rfl, -, -⟩ := id rr1
  obtain ⟨q2, qk2, rfl, -, -⟩ := id rr2
  clear rr1 rr2
  obtain ⟨KS, KT, KF, BN⟩ := blk_3 27 31 48 w1 #[.slice none 0 0, .slice none 0 0] #[.slice none 0 0, .slice none 0 0] #[.int .i64 0, .int .i64 0]
  have ZS := KS
  replace KS := KS.setRow #[.slice oa d.attrs.length oka, .slice oc d.classes.length okc]
  replace KT := Blk.setRow_other KT #[.slice oa d.attrs.length oka, .slice oc d.classes.length okc] (show w1.heap.size + 1 ≠ w1.heap.size by omega)
  replace KF := Blk.setRow_other KF #[.slice oa d.attrs.length oka, .slice oc d.classes.length okc] (show w1.heap.size + 1 + 1 ≠ w1.heap.size by omega)
  have ZT := KT
  replace KS := Blk.setRow_other KS #[.slice q1 x.totals.length qk1, .slice q2 x.cells.length qk2] (show w1.heap.size ≠ w1.heap.size + 1 by omega)
  replace KT := KT.setRow #[.slice q1 x.totals.length qk1, .slice q2 x.cells.length qk2]
  replace KF := Blk.setRow_other KF #[.slice q1 x.totals.length qk1, .slice q2 x.cells.length qk2] (show w1.heap.size + 1 + 1 ≠ w1.heap.size + 1 by omega)
  have ZF := KF
  replace KS := Blk.setRow_other KS #[.int .i64 fa, .int .i64 fp] (show w1.heap.size ≠ w1.heap.size + 1 + 1 by omega)
  replace KT := Blk.setRow_other KT #[.int .i64 fa, .int .i64 fp] (show w1.heap.size + 1 ≠ w1.heap.size + 1 + 1 by omega)
  replace KF := KF.setRow #[.int .i64 fa, .int .i64 fp]
  have BM : Below w1.heap.size w1 ((((((w1.alloc (.cells #[.slice none 0 0, .slice none 0 0] 27)).alloc (.cells #[.slice none 0 0, .slice none 0 0] 31)).alloc (.cells #[.int .i64 0, .int .i64 0] 48)).setRow w1.heap.size #[.slice oa d.attrs.length oka, .slice oc d.classes.length okc]).setRow (w1.heap.size + 1) #[.slice q1 x.totals.length qk1, .slice q2 x.cells.length qk2]).setRow (w1.heap.size + 1 + 1) #[.int .i64 fa, .int .i64 fp]) := (below_row (below_row (below_row BN (by omega) #[.slice oa d.attrs.length oka, .slice oc d.classes.length okc]) (by omega) #[.slice q1 x.totals.length qk1, .slice q2 x.cells.length qk2]) (by omega) #[.int .i64 fa, .int .i64 fp])
  replace hx := hx.later BM
  replace he := he.later BM
  replace B := B.trans (BM.mono B.size)
  clear BM BN
  have cc := implBranches_any _ d ⟨fa, fp⟩ ((((((w1.alloc (.cells #[.slice none 0 0, .slice none 0 0] 27)).alloc (.cells #[.slice none 0 0, .slice none 0 0] 31)).alloc (.cells #[.int .i64 0, .int .i64 0] 48)).setRow w1.heap.size #[.slice oa d.attrs.length oka, .slice oc d.classes.length okc]).setRow (w1.heap.size + 1) #[.slice q1 x.totals.length qk1, .slice q2 x.cells.length qk2]).setRow (w1.heap.size + 1 + 1) #[.int .i64 fa, .int .i64 fp]) hx HOK.out
  simp only [forkV] at cc
  have kS0 : ((((((w1.alloc (.cells #[.slice none 0 0, .slice none 0 0] 27)).alloc (.cells #[.slice none 0 0, .slice none 0 0] 31)).alloc (.cells #[.int .i64 0, .int .i64 0] 48)).setRow w1.heap.size #[.slice oa d.attrs.length oka, .slice oc d.classes.length okc]).setRow (w1.heap.size + 1) #[.slice q1 x.totals.length qk1, .slice q2 x.cells.length qk2]).setRow (w1.heap.size + 1 + 1) #[.int .i64 fa, .int .i64 fp]).cell? ⟨w1.heap.size, 0, none⟩ = some (.slice oa d.attrs.length oka) := KS.cell 0
  have kS1 : ((((((w1.alloc (.cells #[.slice none 0 0, .slice none 0 0] 27)).alloc (.cells #[.slice none 0 0, .slice none 0 0] 31)).alloc (.cells #[.int .i64 0, .int .i64 0] 48)).setRow w1.heap.size #[.slice oa d.attrs.length oka, .slice oc d.classes.length okc]).setRow (w1.heap.size + 1) #[.slice q1 x.totals.length qk1, .slice q2 x.cells.length qk2]).setRow (w1.heap.size + 1 + 1) #[.int .i64 fa, .int .i64 fp]).cell? ⟨w1.heap.size, 1, none⟩ = some (.slice oc d.classes.length okc) := KS.cell 1
  have kT0 : ((((((w1.alloc (.cells #[.slice none 0 0, .slice none 0 0] 27)).alloc (.cells #[.slice none 0 0, .slice none 0 0] 31)).alloc (.cells #[.int .i64 0, .int .i64 0] 48)).setRow w1.heap.size #[.slice oa d.attrs.length oka, .slice oc d.classes.length okc]).setRow (w1.heap.size + 1) #[.slice q1 x.totals.length qk1, .slice q2 x.cells.length qk2]).setRow (w1.heap.size + 1 + 1) #[.int .i64 fa, .int .i64 fp]).cell? ⟨w1.heap.size + 1, 0, none⟩ = some (.slice q1 x.totals.length qk1) := KT.cell 0
  have kT1 : ((((((w1.alloc (.cells #[.slice none 0 0, .slice none 0 0] 27)).alloc (.cells #[.slice none 0 0, .slice none 0 0] 31)).alloc (.cells #[.int .i64 0, .int .i64 0] 48)).setRow w1.heap.size #[.slice oa d.attrs.length oka, .slice oc d.classes.length okc]).setRow (w1.heap.size + 1) #[.slice q1 x.totals.length qk1, .slice q2 x.cells.length qk2]).setRow (w1.heap.size + 1 + 1) #[.int .i64 fa, .int .i64 fp]).cell? ⟨w1.heap.size + 1, 1, none⟩ = some (.slice q2 x.cells.length qk2) := KT.cell 1
  have kF0 : ((((((w1.alloc (.cells #[.slice none 0 0, .slice none 0 0] 27)).alloc (.cells #[.slice none 0 0, .slice none 0 0] 31)).alloc (.cells #[.int .i64 0, .int .i64 0] 48)).setRow w1.heap.size #[.slice oa d.attrs.length oka, .slice oc d.classes.length okc]).setRow (w1.heap.size + 1) #[.slice q1 x.totals.length qk1, .slice q2 x.cells.length qk2]).setRow (w1.heap.size + 1 + 1) #[.int .i64 fa, .int .i64 fp]).cell? ⟨w1.heap.size + 1 + 1, 0, none⟩ = some (.int .i64 fa) := KF.cell 0
  have kF1 : ((((((w1.alloc (.cells #[.slice none 0 0, .slice none 0 0] 27)).alloc (.cells #[.slice none 0 0, .slice none 0 0] 31)).alloc (.cells #[.int .i64 0, .int .i64 0] 48)).setRow w1.heap.size #[.slice oa d.attrs.length oka, .slice oc d.classes.length okc]).setRow (w1.heap.size + 1) #[.slice q1 x.totals.length qk1, .slice q2 x.cells.length qk2]).setRow (w1.heap.size + 1 + 1) #[.int .i64 fa, .int .i64 fp]).cell? ⟨w1.heap.size + 1 + 1, 1, none⟩ = some (.int .i64 fp) := KF.cell 1
  go_wp2_with (first | (with_reducible refine wp_sc_store rfl _ _ rfl ?_; refine ⟨_, rfl, _, _, _, _, _, _, rfl, _, _, ZS, ?_⟩) | (with_reducible refine wp_st_store rfl _ _ rfl ?_; refine ⟨_, rfl, _, _, _, _, _, _, rfl, _, _, ZT, ?_⟩) | (with_reducible refine wp_fk_store rfl _ _ rfl ?_; refine ⟨_, rfl, _, _, rfl, _, _, ZF, ?_⟩))
  clear kS0 kS1 kT0 kT1 kF0 kF1
  clear ZS ZT ZF
  refine cc.mono ?_
  clear cc
  rintro e w2 ⟨rfl, hb⟩
  replace hx := hx.later hb
  replace he := he.later hb
  replace B := B.trans (hb.mono B.size)
  replace KS := KS.below hb
  replace KT := KT.below hb
  replace KF := KF.below hb
  clear hb
  have cc := specForkOk_any _ d ⟨fa, fp⟩ w2 hx HOK.out
  simp only [forkV] at cc
  have kS0 : w2.cell? ⟨w1.heap.size, 0, none⟩ = some (.slice oa d.attrs.length oka) := KS.cell 0
  have kS1 : w2.cell? ⟨w1.heap.size, 1, none⟩ = some (.slice oc d.classes.length okc) := KS.cell 1
  have kF0 : w2.cell? ⟨w1.heap.size + 1 + 1, 0, none⟩ = some (.int .i64 fa) := KF.cell 0
  have kF1 : w2.cell? ⟨w1.heap.size + 1 + 1, 1, none⟩ = some (.int .i64 fp) := KF.cell 1
  go_wp2_with fail
  refine cc.mono ?_
  clear cc
  clear kS0 kS1 kF0 kF1
  rintro e w3 ⟨rfl, hb⟩
  replace hx := hx.later hb
  replace he := he.later hb
  replace B := B.trans (hb.mono B.size)
  replace KS := KS.below hb
  replace KT := KT.below hb
  replace KF := KF.below hb
  clear hb
  cases hk : forkOk d ⟨fa, fp⟩ with
  | false =>
    have hz : branches d ⟨fa, fp⟩ = 0 := by unfold branches; rw [hk]; rfl
    rw [hz]
    have cc := implForkOk_any _ d ⟨fa, fp⟩ w3 hx HOK.out
    simp only [forkV] at cc
    have kS0 : w3.cell? ⟨w1.heap.size, 0, none⟩ = some (.slice oa d.attrs.length oka) := KS.cell 0
    have kS1 : w3.cell? ⟨w1.heap.size, 1, none⟩ = some (.slice oc d.classes.length okc) := KS.cell 1
    have kF0 : w3.cell? ⟨w1.heap.size + 1 + 1, 0, none⟩ = some (.int .i64 fa) := KF.cell 0
    have kF1 : w3.cell? ⟨w1.heap.size + 1 + 1, 1, none⟩ = some (.int .i64 fp) := KF.cell 1
    go_wp2_with fail
    refine cc.mono ?_
    clear cc
    clear kS0 kS1 kF0 kF1
    rintro e w4 ⟨rfl, hb⟩
    replace hx := hx.later hb
    replace he := he.later hb
    replace B := B.trans (hb.mono B.size)
    replace KS := KS.below hb
    replace KT := KT.below hb
    replace KF := KF.below hb
    clear hb
    rw [hk]
    go_wp2
    go_ret
    exact ⟨rfl, B⟩
  | true =>
    obtain ⟨-, ⟨k, hfa, -, -⟩, -, -⟩ := fork_parts hk
    have hfa2 : fa = (k : Int) := hfa
    clear hfa
    subst hfa2
    obtain ⟨hal, N, nb, hN, hnb, hN2, hNn, hn4, hbo, hk0, hN0, hbo0⟩ := one_facts hk
    have HQ : Hid (forkOk d ⟨(k : Int), fp⟩ = true) := hk
    have HQ0 : Hid (forkOk d ⟨(k : Int), -1⟩ = true) := hk0
    have HN : Hid (branches d ⟨(k : Int), fp⟩ = (N : Int)) := hN
    have HN0 : Hid (branches d ⟨(k : Int), -1⟩ = (nb : Int)) := hN0
    have HBN : Hid (bins (ad d.attrs k) = (nb : Int)) := hnb
    have HBO : Hid (∀ b : Nat, b < nb → ∃ j : Nat, branchOf d ⟨(k : Int), fp⟩ (b : Int) = (j : Int) ∧ j < N) := hbo
    have HBO0 : Hid (∀ b : Nat, b < nb → branchOf d ⟨(k : Int), -1⟩ (b : Int) = (b : Int)) := hbo0
    rw [hN]
    clear hN hN0 hnb hbo hbo0 hk0 hk
    obtain ⟨ga, fa, y1, z1, y2, z2, rfl, hat⟩ := attr_at hx hal
    obtain ⟨c0, c1, c2, hA⟩ := hat _ (Below.refl _ _)
    have cc := specBins_any _ _ _ hA (HOK.out.each _ (ad_mem hal))
    rw [HBN.out] at cc
    clear hat hA
    have kS0 : w3.cell? ⟨w1.heap.size, 0, none⟩ = some (.slice (some ⟨ga, fa, none⟩) d.attrs.length oka) := KS.cell 0
    have kS1 : w3.cell? ⟨w1.heap.size, 1, none⟩ = some (.slice oc d.classes.length okc) := KS.cell 1
    have kF0 : w3.cell? ⟨w1.heap.size + 1 + 1, 0, none⟩ = some (.int .i64 (k : Int)) := KF.cell 0
    have kF1 : w3.cell? ⟨w1.heap.size + 1 + 1, 1, none⟩ = some (.int .i64 fp) := KF.cell 1
    go_wp2_with fail
    refine cc.mono ?_
    clear cc c0 c1 c2
    clear kS0 kS1 kF0 kF1
    rintro e w4 ⟨rfl, hb⟩
    replace hx := hx.later hb
    replace he := he.later hb
    replace B := B.trans (hb.mono B.size)
    replace KS := KS.below hb
    replace KT := KT.below hb
    replace KF := KF.below hb
    clear hb
    have HB0 : Hid (∀ W, Below w4.heap.size w4 W → (Blk 27 W (w1.heap.size) #[.slice (some ⟨ga, fa, none⟩) d.attrs.length oka, .slice oc d.classes.length okc] ∧ Blk 31 W (w1.heap.size + 1) #[.slice q1 x.totals.length qk1, .slice q2 x.cells.length qk2] ∧ Blk 48 W (w1.heap.size + 1 + 1) #[.int .i64 (k : Int), .int .i64 fp]) ∧ SchemaAt W (.agg #[.slice (some ⟨ga, fa, none⟩) d.attrs.length oka, .slice oc d.classes.length okc]) d ∧ StatsAt W (.agg #[.slice q1 x.totals.length qk1, .slice q2 x.cells.length qk2]) x) := fun W h => ⟨⟨KS.below h, KT.below h, KF.below h⟩, hx.later h, he.later h⟩
    have HBB : Hid (Below w.heap.size w w4) := B
    clear KS KT KF hx he B
    go_wp2
    go_loopw [9] (fun i wr => ∃ b : Nat, i = .int .i64 b ∧ b ≤ nb ∧ Below w4.heap.size w4 wr) (fun i _ => nb - (intOf i).toNat)
    case atStart => exact ⟨0, rfl, by omega, Below.refl _ _⟩
    case round =>
      obtain ⟨b, rfl, hb, hbr⟩ := hrel
      by_cases hlt : b < nb
      · obtain ⟨⟨KS, KT, KF⟩, hx, he⟩ := HB0.out wr hbr
        obtain ⟨j, hj, hjN⟩ := HBO.out b hlt
        have cc := implBranchOf_any _ d ⟨(k : Int), fp⟩ (b : Int) wr hx HOK.out
        simp only [forkV] at cc
        rw [hj] at cc
        clear hj hx he
        have kS0 : wr.cell? ⟨w1.heap.size, 0, none⟩ = some (.slice (some ⟨ga, fa, none⟩) d.attrs.length oka) := KS.cell 0
        have kS1 : wr.cell? ⟨w1.heap.size, 1, none⟩ = some (.slice oc d.classes.length okc) := KS.cell 1
        have kF0 : wr.cell? ⟨w1.heap.size + 1 + 1, 0, none⟩ = some (.int .i64 (k : Int)) := KF.cell 0
        have kF1 : wr.cell? ⟨w1.heap.size + 1 + 1, 1, none⟩ = some (.int .i64 fp) := KF.cell 1
        clear KS KT KF
        go_wp2_with fail
        refine cc.mono ?_
        clear cc
        clear kS0 kS1 kF0 kF1
        rintro e w20 ⟨rfl, hb2⟩
        replace hbr := hbr.trans (hb2.mono hbr.size)
        clear hb2
        go_wp2
        go_roundw
        case rel => exact ⟨b + 1, by go_num, by omega, hbr⟩
        case measure => simp [intOf]; omega
      obtain rfl : b = nb := by omega
      obtain ⟨⟨KS, KT, KF⟩, hx, he⟩ := HB0.out wr hbr
      have B := HBB.out.trans (hbr.mono HBB.out.size)
      clear hb hlt hbr HB0 HBB
      have cc := specStatsOk_any _ _ d x wr hx he HOK.out HOX.out
      have kS0 : wr.cell? ⟨w1.heap.size, 0, none⟩ = some (.slice (some ⟨ga, fa, none⟩) d.attrs.length oka) := KS.cell 0
      have kS1 : wr.cell? ⟨w1.heap.size, 1, none⟩ = some (.slice oc d.classes.length okc) := KS.cell 1
      have kT0 : wr.cell? ⟨w1.heap.size + 1, 0, none⟩ = some (.slice q1 x.totals.length qk1) := KT.cell 0
      have kT1 : wr.cell? ⟨w1.heap.size + 1, 1, none⟩ = some (.slice q2 x.cells.length qk2) := KT.cell 1
      go_wp2_with fail
      refine cc.mono ?_
      clear cc
      clear kS0 kS1 kT0 kT1
      rintro e w31 ⟨rfl, hb⟩
      replace hx := hx.later hb
      replace he := he.later hb
      replace B := B.trans (hb.mono B.size)
      replace KS := KS.below hb
      replace KT := KT.below hb
      replace KF := KF.below hb
      clear hb
      cases hk : statsOk d x with
      | false =>
        have HNIL : Hid (branchTotals d x ⟨(k : Int), fp⟩ 0 = []) := by show _ = _; unfold branchTotals totalsOk; rw [hk]; rfl
        have cc := implBranchTotals_any _ _ d x ⟨(k : Int), fp⟩ 0 w31 hx he HOK.out HOX.out
        simp only [forkV] at cc
        rw [HNIL.out] at cc
        have kS0 : w31.cell? ⟨w1.heap.size, 0, none⟩ = some (.slice (some ⟨ga, fa, none⟩) d.attrs.length oka) := KS.cell 0
        have kS1 : w31.cell? ⟨w1.heap.size, 1, none⟩ = some (.slice oc d.classes.length okc) := KS.cell 1
        have kT0 : w31.cell? ⟨w1.heap.size + 1, 0, none⟩ = some (.slice q1 x.totals.length qk1) := KT.cell 0
        have kT1 : w31.cell? ⟨w1.heap.size + 1, 1, none⟩ = some (.slice q2 x.cells.length qk2) := KT.cell 1
        have kF0 : w31.cell? ⟨w1.heap.size + 1 + 1, 0, none⟩ = some (.int .i64 (k : Int)) := KF.cell 0
        have kF1 : w31.cell? ⟨w1.heap.size + 1 + 1, 1, none⟩ = some (.int .i64 fp) := KF.cell 1
        go_wp2_with fail
        refine cc.mono ?_
        clear cc
        clear kS0 kS1 kT0 kT1 kF0 kF1
        rintro e w32 ⟨vx, rfl, ho, hb⟩
        replace hx := hx.later hb
        replace he := he.later hb
        replace B := B.trans (hb.mono B.size)
        replace KS := KS.below hb
        replace KT := KT.below hb
        replace KF := KF.below hb
        obtain ⟨ov, kv, rfl⟩ := own_slice9 ho
        clear hb ho
        go_wp2
        go_ret
        exact ⟨rfl, B⟩
      | true =>
        have HST : Hid (statsOk d x = true) := hk
        clear hk
        by_cases h0 : x.cells.length = 0
        · have hq : ((x.cells.length : Int) == 0) = true := by rw [h0]; rfl
          have HH0 : Hid (x.cells.length = 0) := h0
          clear h0
          have HNIL : Hid (branchTotals d x ⟨(k : Int), fp⟩ 0 = []) := by show _ = _; unfold branchTotals totalsOk; rw [decide_eq_false (fun h => h HH0.out)]; simp
          have cc := implBranchTotals_any _ _ d x ⟨(k : Int), fp⟩ 0 w31 hx he HOK.out HOX.out
          simp only [forkV] at cc
          rw [HNIL.out] at cc
          have kS0 : w31.cell? ⟨w1.heap.size, 0, none⟩ = some (.slice (some ⟨ga, fa, none⟩) d.attrs.length oka) := KS.cell 0
          have kS1 : w31.cell? ⟨w1.heap.size, 1, none⟩ = some (.slice oc d.classes.length okc) := KS.cell 1
          have kT0 : w31.cell? ⟨w1.heap.size + 1, 0, none⟩ = some (.slice q1 x.totals.length qk1) := KT.cell 0
          have kT1 : w31.cell? ⟨w1.heap.size + 1, 1, none⟩ = some (.slice q2 x.cells.length qk2) := KT.cell 1
          have kF0 : w31.cell? ⟨w1.heap.size + 1 + 1, 0, none⟩ = some (.int .i64 (k : Int)) := KF.cell 0
          have kF1 : w31.cell? ⟨w1.heap.size + 1 + 1, 1, none⟩ = some (.int .i64 fp) := KF.cell 1
          go_wp2_with fail
          refine cc.mono ?_
          clear cc
          clear kS0 kS1 kT0 kT1 kF0 kF1
          rintro e w32 ⟨vx, rfl, ho, hb⟩
          replace hx := hx.later hb
          replace he := he.later hb
          replace B := B.trans (hb.mono B.size)
          replace KS := KS.below hb
          replace KT := KT.below hb
          replace KF := KF.below hb
          obtain ⟨ov, kv, rfl⟩ := own_slice9 ho
          clear hb ho
          go_wp2
          go_ret
          exact ⟨rfl, B⟩
        have hq : ((x.cells.length : Int) == 0) = false := by rw [beq_eq_false_iff_ne]; omega
        obtain ⟨hac, hlen, hcol⟩ := cells_right HST.out h0 hal
        have hm := sch_classes (statsOk_parts HST.out).1
        obtain ⟨m, hmm⟩ : ∃ m, d.classes.length = m := ⟨_, rfl⟩
        have hnt : (bins (ad d.attrs k)).toNat = b := by rw [HBN.out]; rfl
        rw [hmm, hnt] at hcol
        rw [hmm] at hm
        obtain ⟨c, hc⟩ : ∃ c, il x.cells k = c := ⟨_, rfl⟩
        rw [hc] at hcol
        have HCOL : Hid (∀ i k, i < b → k < m → inW (colAt c m k i) = true) := hcol
        have HTOT : Hid (∀ (F : ForkD) (i M : Nat), F.attr = (k : Int) → forkOk d F = true → branches d F = (M : Int) → i < M → (branchTotals d x F (i : Int)).length = m ∧ ∀ q, q < m → (branchTotals d x F (i : Int)).getD q 0 = brSum d F (i : Int) c m q b) := fun F i M h1 h2 h3 h4 => by
          have h5 := totals_at (totalsOk_mk HST.out h0 h2 h3 h4)
          have h6 : forkAttr d F = ad d.attrs k := by unfold forkAttr; rw [h1]; rfl
          rw [hmm, h1, h6, hnt] at h5
          have h7 : ((k : Int)).toNat = k := rfl
          rw [h7, hc] at h5
          exact h5
        have HMM : Hid (d.classes.length = m) := hmm
        rw [hmm] at KS
        clear hcol hlen hac hnt hmm hc h0
        have hsz := B.size
        have HB1 : Hid (∀ W, Below w31.heap.size w31 W → (Blk 27 W (w1.heap.size) #[.slice (some ⟨ga, fa, none⟩) d.attrs.length oka, .slice oc m okc] ∧ Blk 31 W (w1.heap.size + 1) #[.slice q1 x.totals.length qk1, .slice q2 x.cells.length qk2] ∧ Blk 48 W (w1.heap.size + 1 + 1) #[.int .i64 (k : Int), .int .i64 fp]) ∧ SchemaAt W (.agg #[.slice (some ⟨ga, fa, none⟩) d.attrs.length oka, .slice oc m okc]) d ∧ StatsAt W (.agg #[.slice q1 x.totals.length qk1, .slice q2 x.cells.length qk2]) x) := fun W h => ⟨⟨KS.below h, KT.below h, KF.below h⟩, by have := hx.later h; rwa [HMM.out] at this, he.later h⟩
        have HBB : Hid (Below w.heap.size w w31) := B
        have kS1 : w31.cell? ⟨w1.heap.size, 1, none⟩ = some (.slice oc m okc) := KS.cell 1
        have kT1 : w31.cell? ⟨w1.heap.size + 1, 1, none⟩ = some (.slice q2 x.cells.length qk2) := KT.cell 1
        go_wp2_with (at_make; refine wpList_make_ints rfl _ rfl w31.heap.size m _ rfl rfl (by omega) (Nat.le_refl _) ?_)
        intro wa ownA hga
        clear kS1 kT1 KS KT KF hx he B
        have bA : Below w31.heap.size w31 wa := (Below.refl _ _).grown hga (Nat.le_refl _) (fun k hk => by cases hk)
        clear hga
        have kS1 : wa.cell? ⟨w1.heap.size, 1, none⟩ = some (.slice oc m okc) := (HB1.out _ bA).1.1.cell 1
        go_wp2_with (at_make; refine wpList_make_ints rfl _ rfl w31.heap.size m _ rfl rfl (by omega) bA.size ?_)
        intro wb ownB hgb
        have hgAB : w31.heap.size < wa.heap.size := (ownA.lt _ rfl).2
        replace ownA := ownA.kept hgb (.inr (by intro e; cases e))
        have hbr : Below w31.heap.size w31 wb := bA.grown hgb bA.size (fun k hk => by cases hk)
        have hasz := bA.size
        clear hgb kS1 bA
        replace ownA : wb.ownsRow w31.heap.size 3 1 (.slice (some ⟨w31.heap.size, 0, none⟩) m m) m ((mixL d ⟨(k : Int), fp⟩ c m b 0 0).map (Value.int .i64)) := by rw [mixL_zero, List.map_replicate]; exact ownA
        replace ownB : wb.ownsRow w31.heap.size 3 1 (.slice (some ⟨wa.heap.size, 0, none⟩) m m) m ((mixL d ⟨(k : Int), -1⟩ c m b 0 0).map (Value.int .i64)) := by rw [mixL_zero, List.map_replicate]; exact ownB
        generalize hgoA : w31.heap.size = gA at ownA ownB hgAB ⊢
        generalize wa.heap.size = gB at ownB hgAB ⊢
        have HGA : Hid (w31.heap.size = gA) := hgoA
        clear hgoA hasz
        go_wp2
        go_loopw [13] (fun i wr => ∃ j : Nat, i = .int .i64 j ∧ j ≤ N ∧ wr.ownsRow gA 3 1 (.slice (some ⟨gA, 0, none⟩) m m) m ((mixL d ⟨(k : Int), fp⟩ c m b j 0).map (Value.int .i64)) ∧ wr.ownsRow gA 3 1 (.slice (some ⟨gB, 0, none⟩) m m) m ((mixL d ⟨(k : Int), -1⟩ c m b 0 0).map (Value.int .i64)) ∧ Hid (Below w31.heap.size w31 wr)) (fun i _ => N - (intOf i).toNat)
        case atStart => exact ⟨0, rfl, by omega, ownA, ownB, hbr⟩
        case round =>
          clear ownA ownB hbr
          obtain ⟨j, rfl, hj, ownA, ownB, HBR⟩ := hrel
          have hbr := HBR.out
          by_cases hlt : j < N
          rotate_left
          · have hjN : j = N := by omega
            rw [hjN] at ownA
            clear hjN
            go_wp2
            clear hlt hj
            go_loopw [16] (fun i wr => ∃ j : Nat, i = .int .i64 j ∧ j ≤ b ∧ wr.ownsRow gA 3 1 (.slice (some ⟨gB, 0, none⟩) m m) m ((mixL d ⟨(k : Int), -1⟩ c m b j 0).map (Value.int .i64)) ∧ wr.ownsRow gA 3 1 (.slice (some ⟨gA, 0, none⟩) m m) m ((mixL d ⟨(k : Int), fp⟩ c m b N 0).map (Value.int .i64)) ∧ Hid (Below w31.heap.size w31 wr)) (fun i _ => b - (intOf i).toNat)
            case atStart => exact ⟨0, rfl, by omega, ownB, ownA, hbr⟩
            case round =>
              clear ownA ownB hbr
              obtain ⟨j, rfl, hj, ownB, ownA, HBR⟩ := hrel
              have hbr := HBR.out
              by_cases hlt : j < b
              rotate_left
              · have hjN : j = b := by omega
                rw [hjN] at ownB
                clear hjN
                have hsame : mixL d ⟨(k : Int), fp⟩ c m b N 0 = mixL d ⟨(k : Int), -1⟩ c m b b 0 := mixL_same HBO.out (fun i hi => ⟨i, HBO0.out i hi, hi⟩)
                rw [hsame] at ownA
                have cc := same_any _ _ _ _ wr (RowI.of_own ownA (mixL_len _ _ _ _ _ _ _)) (RowI.of_own ownB (mixL_len _ _ _ _ _ _ _)) (by rw [mixL_len]; omega) (by rw [mixL_len]; omega)
                rw [decide_eq_true rfl] at cc
                clear hsame ownA ownB
                go_wp2_with fail
                refine cc.mono ?_
                clear cc
                rintro e wz ⟨rfl, hb⟩
                have B := (HBB.out.trans (hbr.mono hsz)).trans (hb.mono (by have := HBB.out.size; have := hbr.size; omega))
                go_wp2
                go_ret
                exact ⟨rfl, B⟩
              have hgAr : gA < wr.heap.size ∧ gB < wr.heap.size := ⟨(ownA.lt _ rfl).2, (ownB.lt _ rfl).2⟩
              obtain ⟨⟨KS, KT, KF⟩, hx, he⟩ := HB1.out wr hbr
              have cc := implBranchTotals_any _ _ d x ⟨(k : Int), -1⟩ (j : Int) wr hx he HOK.out HOX.out
              simp only [forkV] at cc
              obtain ⟨hxl, hxq⟩ := HTOT.out ⟨(k : Int), -1⟩ j b rfl HQ0.out HN0.out hlt
              have HXQ : Hid (∀ q, q < m → (branchTotals d x ⟨(k : Int), -1⟩ (j : Int)).getD q 0 = brSum d ⟨(k : Int), -1⟩ (j : Int) c m q b) := hxq
              clear hxq
              generalize branchTotals d x ⟨(k : Int), -1⟩ (j : Int) = xs at cc hxl HXQ
              clear hx he
              have kS0 : wr.cell? ⟨w1.heap.size, 0, none⟩ = some (.slice (some ⟨ga, fa, none⟩) d.attrs.length oka) := KS.cell 0
              have kS1 : wr.cell? ⟨w1.heap.size, 1, none⟩ = some (.slice oc m okc) := KS.cell 1
              have kT0 : wr.cell? ⟨w1.heap.size + 1, 0, none⟩ = some (.slice q1 x.totals.length qk1) := KT.cell 0
              have kT1 : wr.cell? ⟨w1.heap.size + 1, 1, none⟩ = some (.slice q2 x.cells.length qk2) := KT.cell 1
              have kF0 : wr.cell? ⟨w1.heap.size + 1 + 1, 0, none⟩ = some (.int .i64 (k : Int)) := KF.cell 0
              have kF1 : wr.cell? ⟨w1.heap.size + 1 + 1, 1, none⟩ = some (.int .i64 fp) := KF.cell 1
              clear KS KT KF
              go_wp2_with fail
              refine cc.mono ?_
              clear cc
              clear kS0 kS1 kT0 kT1 kF0 kF1
              rintro e wx ⟨vx, rfl, ox, hb⟩
              replace ownA := own_below ownA hb
              replace ownB := own_below ownB hb
              have hwrz := hbr.size
              replace hbr := hbr.trans (hb.mono hbr.size)
              clear hb
              obtain ⟨gx, hvx, hxc, hxb⟩ : ∃ gx, (∃ kx, vx = .slice (some ⟨gx, 0, none⟩) m kx) ∧ (∀ q, q < m → wx.cell? ⟨gx, q, none⟩ = some (.int .i64 (xs.getD q 0))) ∧ wr.heap.size ≤ gx := by
                rcases id ox.2 with ⟨e, h1⟩ | ⟨gx, c1, c2, e, _⟩
                · omega
                · subst e
                  refine ⟨gx, ⟨c1, by rw [hxl]⟩, fun q hq => ?_, (ox.lt gx rfl).1⟩
                  rw [ox.cellAt q (by omega)]
                  exact getD_mapI xs q (by omega)
              obtain ⟨kx, rfl⟩ := hvx
              clear ox hxl
              have HXC : Hid (∀ q, q < m → wx.cell? ⟨gx, q, none⟩ = some (.int .i64 (brSum d ⟨(k : Int), -1⟩ (j : Int) c m q b))) := fun q hq => by rw [hxc q hq, HXQ.out q hq]
              clear hxc HXQ
              go_wp2
              go_loopw [18] (fun i wr => ∃ q : Nat, i = .int .i64 q ∧ q ≤ m ∧ wr.ownsRow gA 3 1 (.slice (some ⟨gB, 0, none⟩) m m) m ((mixL d ⟨(k : Int), -1⟩ c m b j q).map (Value.int .i64)) ∧ wr.ownsRow gA 3 1 (.slice (some ⟨gA, 0, none⟩) m m) m ((mixL d ⟨(k : Int), fp⟩ c m b N 0).map (Value.int .i64)) ∧ (∀ t, t < m → wr.cell? ⟨gx, t, none⟩ = some (.int .i64 (brSum d ⟨(k : Int), -1⟩ (j : Int) c m t b))) ∧ Hid (Below w31.heap.size w31 wr)) (fun i _ => m - (intOf i).toNat)
              case atStart => exact ⟨0, rfl, by omega, ownB, ownA, HXC.out, hbr⟩
              case round =>
                clear ownA ownB hbr
                obtain ⟨q, rfl, hq, ownB, ownA, hxc, HBR2⟩ := hrel
                have hbr := HBR2.out
                have HXC2 : Hid _ := hxc
                clear hxc
                by_cases hqt : q < m
                rotate_left
                · have hqm : q = m := by omega
                  rw [hqm] at ownB
                  clear hqm
                  go_wp2
                  go_roundw
                  case rel => exact ⟨j + 1, by go_num, by omega, by rw [← mixL_next]; exact ownB, ownA, hbr⟩
                  case measure => simp [intOf]; omega
                have hbs := brSum_le (s := d) (f := ⟨(k : Int), -1⟩) (i := (j : Int)) b (fun i hi => HCOL.out i q hi hqt)
                have hac := accB_le (s := d) (f := ⟨(k : Int), -1⟩) (fun i hi => HCOL.out i q hi hqt) j
                have hjb : (j : Int) * ((b : Int) * 999) ≤ 15984 := by
                  have h1 := Nat.mul_le_mul (show j ≤ 4 by omega) (Nat.mul_le_mul_right 999 hn4)
                  have h2 : (j : Int) * ((b : Int) * 999) = ((j * (b * 999) : Nat) : Int) := by rw [Int.natCast_mul, Int.natCast_mul]; rfl
                  rw [h2]; omega
                have HNX : Hid (mixL d ⟨(k : Int), -1⟩ c m b j (q + 1) = (mixL d ⟨(k : Int), -1⟩ c m b j q).set q (accB d ⟨(k : Int), -1⟩ c m b q j + brSum d ⟨(k : Int), -1⟩ (j : Int) c m q b)) := mixL_step hqt
                have HAT : Hid ((mixL d ⟨(k : Int), -1⟩ c m b j q).getD q 0 = accB d ⟨(k : Int), -1⟩ c m b q j) := by show _ = _; rw [mixL_at hqt, if_neg (by omega)]
                have hrl : q < (mixL d ⟨(k : Int), -1⟩ c m b j q).length := by rw [mixL_len]; exact hqt
                have hcx : wr.drew.cell? ⟨gx, q, none⟩ = some (.int .i64 (brSum d ⟨(k : Int), -1⟩ (j : Int) c m q b)) := HXC2.out q hqt
                have bd : Below wr.heap.size wr wr.drew := below_drewN (Below.refl _ _) 1
                have HXC3 : Hid (∀ t, t < m → wr.drew.cell? ⟨gx, t, none⟩ = some (.int .i64 (brSum d ⟨(k : Int), -1⟩ (j : Int) c m t b))) := HXC2.out
                replace ownB := own_below ownB bd
                replace ownA := own_below ownA bd
                replace hbr := hbr.trans (bd.mono hbr.size)
                have hco : wr.drew.cell? ⟨gB, q, none⟩ = some (.int .i64 (accB d ⟨(k : Int), -1⟩ c m b q j)) := by rw [ownB.cellAt q (by omega), getD_mapI _ q hrl, HAT.out]
                have hfo : wr.drew.frozen? ⟨gB, q, none⟩ = false := ownB.frozenAt q
                have hst := ownB.stored q (.int .i64 (accB d ⟨(k : Int), -1⟩ c m b q j + brSum d ⟨(k : Int), -1⟩ (j : Int) c m q b))
                have hot := ownA.kept hst.2 (.inr (by intro e; have e2 : some gA = some gB := e; injection e2 with e2; omega))
                have hbs2 := hbr.grown hst.2 hbr.size (fun t ht => by cases ht; have := HGA.out; omega)
                have HXC4 : Hid (∀ t, t < m → (wr.drew.setCell ⟨gB, q, none⟩ (.int .i64 (accB d ⟨(k : Int), -1⟩ c m b q j + brSum d ⟨(k : Int), -1⟩ (j : Int) c m q b))).cell? ⟨gx, t, none⟩ = some (.int .i64 (brSum d ⟨(k : Int), -1⟩ (j : Int) c m t b))) := fun t ht => by
                  rw [World.cell?_setCell_far _ _ _ _ (by show gB ≠ gx; omega)]
                  exact HXC3.out t ht
                generalize accB d ⟨(k : Int), -1⟩ c m b q j = za at hac HNX hco hst hot hbs2 HXC4
                generalize hZB : brSum d ⟨(k : Int), -1⟩ (j : Int) c m q b = zb at hbs HNX hcx hst hot hbs2 HXC4
                clear hZB bd HAT hrl ownB ownA hbr HXC2 HXC3
                go_wp2_with fail
                refine region_L (S := fun w' => w'.cell? ⟨gx, q, none⟩ = some (.int .i64 zb) ∧ w'.cell? ⟨gB, q, none⟩ = some (.int .i64 za)) (last := 12) mixed ?_
                have hS : wr.drew.cell? ⟨gx, q, none⟩ = some (.int .i64 zb) ∧ wr.drew.cell? ⟨gB, q, none⟩ = some (.int .i64 za) := ⟨hcx, hco⟩
                clear hcx
                generalize wr.drew = w3 at hfo hst hot hbs2 HXC4 hS hco ⊢
                refine firstL 0 (.slice (some ⟨gB, 0, none⟩) m m) rfl (by kernel_rfl) (by kernel_rfl) (by kernel_rfl) (fun _ _ _ h => h) (by kernel_rfl) (.inl ⟨by rfl, fun w _ => by rfl⟩) hS ?_
                try simp only [Act.put, List.setIfInBounds_toArray, List.set_cons_zero, List.set_cons_succ]
                refine firstL 1 (.int .i64 ((q : Int))) rfl (by kernel_rfl) (by kernel_rfl) (by kernel_rfl) (fun _ _ _ h => h) (by kernel_rfl) (.inl ⟨by rfl, fun w _ => by rfl⟩) hS ?_
                try simp only [Act.put, List.setIfInBounds_toArray, List.set_cons_zero, List.set_cons_succ]
                refine firstL 2 (.slice (some ⟨gB, 0, none⟩) m m) rfl (by kernel_rfl) (by kernel_rfl) (by kernel_rfl) (fun _ _ _ h => h) (by kernel_rfl) (.inl ⟨by rfl, fun w _ => by rfl⟩) hS ?_
                try simp only [Act.put, List.setIfInBounds_toArray, List.set_cons_zero, List.set_cons_succ]
                refine firstL 3 (.int .i64 ((q : Int))) rfl (by kernel_rfl) (by kernel_rfl) (by kernel_rfl) (fun _ _ _ h => h) (by kernel_rfl) (.inl ⟨by rfl, fun w _ => by rfl⟩) hS ?_
                try simp only [Act.put, List.setIfInBounds_toArray, List.set_cons_zero, List.set_cons_succ]
                refine firstL 4 (.pointer (some ⟨gB, q, none⟩)) rfl (by kernel_rfl) (by kernel_rfl) (by kernel_rfl) (fun _ _ _ h => h) (by kernel_rfl) (.inl ⟨by rfl, fun w hw => by (unfold execOp; go_simp; all_goals omega)⟩) hS ?_
                try simp only [Act.put, List.setIfInBounds_toArray, List.set_cons_zero, List.set_cons_succ]
                refine firstL 5 (.int .i64 za) rfl (by kernel_rfl) (by kernel_rfl) (by kernel_rfl) (fun _ _ _ h => h) (by kernel_rfl) (.inl ⟨by rfl, fun w hw => by (have h0 := hw.2; unfold execOp; go_simp)⟩) hS ?_
                try simp only [Act.put, List.setIfInBounds_toArray, List.set_cons_zero, List.set_cons_succ]
                refine firstL 6 (.slice (some ⟨gx, 0, none⟩) m kx) rfl (by kernel_rfl) (by kernel_rfl) (by kernel_rfl) (fun _ _ _ h => h) (by kernel_rfl) (.inl ⟨by rfl, fun w _ => by rfl⟩) hS ?_
                try simp only [Act.put, List.setIfInBounds_toArray, List.set_cons_zero, List.set_cons_succ]
                refine firstL 7 (.int .i64 ((q : Int))) rfl (by kernel_rfl) (by kernel_rfl) (by kernel_rfl) (fun _ _ _ h => h) (by kernel_rfl) (.inl ⟨by rfl, fun w _ => by rfl⟩) hS ?_
                try simp only [Act.put, List.setIfInBounds_toArray, List.set_cons_zero, List.set_cons_succ]
                refine firstL 8 (.pointer (some ⟨gx, q, none⟩)) rfl (by kernel_rfl) (by kernel_rfl) (by kernel_rfl) (fun _ _ _ h => h) (by kernel_rfl) (.inl ⟨by rfl, fun w hw => by (unfold execOp; go_simp; all_goals omega)⟩) hS ?_
                try simp only [Act.put, List.setIfInBounds_toArray, List.set_cons_zero, List.set_cons_succ]
                refine firstL 9 (.int .i64 zb) rfl (by kernel_rfl) (by kernel_rfl) (by kernel_rfl) (fun _ _ _ h => h) (by kernel_rfl) (.inl ⟨by rfl, fun w hw => by (have h0 := hw.1; unfold execOp; go_simp)⟩) hS ?_
                try simp only [Act.put, List.setIfInBounds_toArray, List.set_cons_zero, List.set_cons_succ]
                refine firstL 10 (.int .i64 (za + zb)) rfl (by kernel_rfl) (by kernel_rfl) (by kernel_rfl) (fun _ _ _ h => h) (by kernel_rfl) (.inl ⟨by rfl, fun w hw => by (unfold execOp; go_simp; all_goals (rw [IntKind.wrap_i64] <;> omega))⟩) hS ?_
                try simp only [Act.put, List.setIfInBounds_toArray, List.set_cons_zero, List.set_cons_succ]
                refine firstL 11 (.pointer (some ⟨gB, q, none⟩)) rfl (by kernel_rfl) (by kernel_rfl) (by kernel_rfl) (fun _ _ _ h => h) (by kernel_rfl) (.inl ⟨by rfl, fun w hw => by (unfold execOp; go_simp; all_goals omega)⟩) hS ?_
                try simp only [Act.put, List.setIfInBounds_toArray, List.set_cons_zero, List.set_cons_succ]
                clear hS
                refine lastL rfl (by kernel_rfl) (by kernel_rfl) (by rfl) ?_
                go_simp
                go_wp2
                go_roundw
                case rel =>
                  refine ⟨q + 1, by go_num, by omega, ?_, hot, HXC4.out, hbs2⟩
                  rw [HNX.out, List.map_set]
                  exact hst.1
                case measure => simp [intOf]; omega
          have hgAr : gA < wr.heap.size ∧ gB < wr.heap.size := ⟨(ownA.lt _ rfl).2, (ownB.lt _ rfl).2⟩
          obtain ⟨⟨KS, KT, KF⟩, hx, he⟩ := HB1.out wr hbr
          have cc := implBranchTotals_any _ _ d x ⟨(k : Int), fp⟩ (j : Int) wr hx he HOK.out HOX.out
          simp only [forkV] at cc
          obtain ⟨hxl, hxq⟩ := HTOT.out ⟨(k : Int), fp⟩ j N rfl HQ.out HN.out hlt
          have HXQ : Hid (∀ q, q < m → (branchTotals d x ⟨(k : Int), fp⟩ (j : Int)).getD q 0 = brSum d ⟨(k : Int), fp⟩ (j : Int) c m q b) := hxq
          clear hxq
          generalize branchTotals d x ⟨(k : Int), fp⟩ (j : Int) = xs at cc hxl HXQ
          clear hx he
          have kS0 : wr.cell? ⟨w1.heap.size, 0, none⟩ = some (.slice (some ⟨ga, fa, none⟩) d.attrs.length oka) := KS.cell 0
          have kS1 : wr.cell? ⟨w1.heap.size, 1, none⟩ = some (.slice oc m okc) := KS.cell 1
          have kT0 : wr.cell? ⟨w1.heap.size + 1, 0, none⟩ = some (.slice q1 x.totals.length qk1) := KT.cell 0
          have kT1 : wr.cell? ⟨w1.heap.size + 1, 1, none⟩ = some (.slice q2 x.cells.length qk2) := KT.cell 1
          have kF0 : wr.cell? ⟨w1.heap.size + 1 + 1, 0, none⟩ = some (.int .i64 (k : Int)) := KF.cell 0
          have kF1 : wr.cell? ⟨w1.heap.size + 1 + 1, 1, none⟩ = some (.int .i64 fp) := KF.cell 1
          clear KS KT KF
          go_wp2_with fail
          refine cc.mono ?_
          clear cc
          clear kS0 kS1 kT0 kT1 kF0 kF1
          rintro e wx ⟨vx, rfl, ox, hb⟩
          replace ownA := own_below ownA hb
          replace ownB := own_below ownB hb
          have hwrz := hbr.size
          replace hbr := hbr.trans (hb.mono hbr.size)
          clear hb
          obtain ⟨gx, hvx, hxc, hxb⟩ : ∃ gx, (∃ kx, vx = .slice (some ⟨gx, 0, none⟩) m kx) ∧ (∀ q, q < m → wx.cell? ⟨gx, q, none⟩ = some (.int .i64 (xs.getD q 0))) ∧ wr.heap.size ≤ gx := by
            rcases id ox.2 with ⟨e, h1⟩ | ⟨gx, c1, c2, e, _⟩
            · omega
            · subst e
              refine ⟨gx, ⟨c1, by rw [hxl]⟩, fun q hq => ?_, (ox.lt gx rfl).1⟩
              rw [ox.cellAt q (by omega)]
              exact getD_mapI xs q (by omega)
          obtain ⟨kx, rfl⟩ := hvx
          clear ox hxl
          have HXC : Hid (∀ q, q < m → wx.cell? ⟨gx, q, none⟩ = some (.int .i64 (brSum d ⟨(k : Int), fp⟩ (j : Int) c m q b))) := fun q hq => by rw [hxc q hq, HXQ.out q hq]
          clear hxc HXQ
          go_wp2
          go_loopw [15] (fun i wr => ∃ q : Nat, i = .int .i64 q ∧ q ≤ m ∧ wr.ownsRow gA 3 1 (.slice (some ⟨gA, 0, none⟩) m m) m ((mixL d ⟨(k : Int), fp⟩ c m b j q).map (Value.int .i64)) ∧ wr.ownsRow gA 3 1 (.slice (some ⟨gB, 0, none⟩) m m) m ((mixL d ⟨(k : Int), -1⟩ c m b 0 0).map (Value.int .i64)) ∧ (∀ t, t < m → wr.cell? ⟨gx, t, none⟩ = some (.int .i64 (brSum d ⟨(k : Int), fp⟩ (j : Int) c m t b))) ∧ Hid (Below w31.heap.size w31 wr)) (fun i _ => m - (intOf i).toNat)
          case atStart => exact ⟨0, rfl, by omega, ownA, ownB, HXC.out, hbr⟩
          case round =>
            clear ownA ownB hbr
            obtain ⟨q, rfl, hq, ownA, ownB, hxc, HBR2⟩ := hrel
            have hbr := HBR2.out
            have HXC2 : Hid _ := hxc
            clear hxc
            by_cases hqt : q < m
            rotate_left
            · have hqm : q = m := by omega
              rw [hqm] at ownA
              clear hqm
              go_wp2
              go_roundw
              case rel => exact ⟨j + 1, by go_num, by omega, by rw [← mixL_next]; exact ownA, ownB, hbr⟩
              case measure => simp [intOf]; omega
            have hbs := brSum_le (s := d) (f := ⟨(k : Int), fp⟩) (i := (j : Int)) b (fun i hi => HCOL.out i q hi hqt)
            have hac := accB_le (s := d) (f := ⟨(k : Int), fp⟩) (fun i hi => HCOL.out i q hi hqt) j
            have hjb : (j : Int) * ((b : Int) * 999) ≤ 15984 := by
              have h1 := Nat.mul_le_mul (show j ≤ 4 by omega) (Nat.mul_le_mul_right 999 hn4)
              have h2 : (j : Int) * ((b : Int) * 999) = ((j * (b * 999) : Nat) : Int) := by rw [Int.natCast_mul, Int.natCast_mul]; rfl
              rw [h2]; omega
            have HNX : Hid (mixL d ⟨(k : Int), fp⟩ c m b j (q + 1) = (mixL d ⟨(k : Int), fp⟩ c m b j q).set q (accB d ⟨(k : Int), fp⟩ c m b q j + brSum d ⟨(k : Int), fp⟩ (j : Int) c m q b)) := mixL_step hqt
            have HAT : Hid ((mixL d ⟨(k : Int), fp⟩ c m b j q).getD q 0 = accB d ⟨(k : Int), fp⟩ c m b q j) := by show _ = _; rw [mixL_at hqt, if_neg (by omega)]
            have hrl : q < (mixL d ⟨(k : Int), fp⟩ c m b j q).length := by rw [mixL_len]; exact hqt
            have hcx : wr.drew.cell? ⟨gx, q, none⟩ = some (.int .i64 (brSum d ⟨(k : Int), fp⟩ (j : Int) c m q b)) := HXC2.out q hqt
            have bd : Below wr.heap.size wr wr.drew := below_drewN (Below.refl _ _) 1
            have HXC3 : Hid (∀ t, t < m → wr.drew.cell? ⟨gx, t, none⟩ = some (.int .i64 (brSum d ⟨(k : Int), fp⟩ (j : Int) c m t b))) := HXC2.out
            replace ownA := own_below ownA bd
            replace ownB := own_below ownB bd
            replace hbr := hbr.trans (bd.mono hbr.size)
            have hco : wr.drew.cell? ⟨gA, q, none⟩ = some (.int .i64 (accB d ⟨(k : Int), fp⟩ c m b q j)) := by rw [ownA.cellAt q (by omega), getD_mapI _ q hrl, HAT.out]
            have hfo : wr.drew.frozen? ⟨gA, q, none⟩ = false := ownA.frozenAt q
            have hst := ownA.stored q (.int .i64 (accB d ⟨(k : Int), fp⟩ c m b q j + brSum d ⟨(k : Int), fp⟩ (j : Int) c m q b))
            have hot := ownB.kept hst.2 (.inr (by intro e; have e2 : some gB = some gA := e; injection e2 with e2; omega))
            have hbs2 := hbr.grown hst.2 hbr.size (fun t ht => by cases ht; have := HGA.out; omega)
            have HXC4 : Hid (∀ t, t < m → (wr.drew.setCell ⟨gA, q, none⟩ (.int .i64 (accB d ⟨(k : Int), fp⟩ c m b q j + brSum d ⟨(k : Int), fp⟩ (j : Int) c m q b))).cell? ⟨gx, t, none⟩ = some (.int .i64 (brSum d ⟨(k : Int), fp⟩ (j : Int) c m t b))) := fun t ht => by
              rw [World.cell?_setCell_far _ _ _ _ (by show gA ≠ gx; omega)]
              exact HXC3.out t ht
            generalize accB d ⟨(k : Int), fp⟩ c m b q j = za at hac HNX hco hst hot hbs2 HXC4
            generalize hZB : brSum d ⟨(k : Int), fp⟩ (j : Int) c m q b = zb at hbs HNX hcx hst hot hbs2 HXC4
            clear hZB bd HAT hrl ownA ownB hbr HXC2 HXC3
            go_wp2_with fail
            refine region_L (S := fun w' => w'.cell? ⟨gx, q, none⟩ = some (.int .i64 zb) ∧ w'.cell? ⟨gA, q, none⟩ = some (.int .i64 za)) (last := 12) mixed ?_
            have hS : wr.drew.cell? ⟨gx, q, none⟩ = some (.int .i64 zb) ∧ wr.drew.cell? ⟨gA, q, none⟩ = some (.int .i64 za) := ⟨hcx, hco⟩
            clear hcx
            generalize wr.drew = w3 at hfo hst hot hbs2 HXC4 hS hco ⊢
            refine firstL 0 (.slice (some ⟨gA, 0, none⟩) m m) rfl (by kernel_rfl) (by kernel_rfl) (by kernel_rfl) (fun _ _ _ h => h) (by kernel_rfl) (.inl ⟨by rfl, fun w _ => by rfl⟩) hS ?_
            try simp only [Act.put, List.setIfInBounds_toArray, List.set_cons_zero, List.set_cons_succ]
            refine firstL 1 (.int .i64 ((q : Int))) rfl (by kernel_rfl) (by kernel_rfl) (by kernel_rfl) (fun _ _ _ h => h) (by kernel_rfl) (.inl ⟨by rfl, fun w _ => by rfl⟩) hS ?_
            try simp only [Act.put, List.setIfInBounds_toArray, List.set_cons_zero, List.set_cons_succ]
            refine firstL 2 (.slice (some ⟨gA, 0, none⟩) m m) rfl (by kernel_rfl) (by kernel_rfl) (by kernel_rfl) (fun _ _ _ h => h) (by kernel_rfl) (.inl ⟨by rfl, fun w _ => by rfl⟩) hS ?_
            try simp only [Act.put, List.setIfInBounds_toArray, List.set_cons_zero, List.set_cons_succ]
            refine firstL 3 (.int .i64 ((q : Int))) rfl (by kernel_rfl) (by kernel_rfl) (by kernel_rfl) (fun _ _ _ h => h) (by kernel_rfl) (.inl ⟨by rfl, fun w _ => by rfl⟩) hS ?_
            try simp only [Act.put, List.setIfInBounds_toArray, List.set_cons_zero, List.set_cons_succ]
            refine firstL 4 (.pointer (some ⟨gA, q, none⟩)) rfl (by kernel_rfl) (by kernel_rfl) (by kernel_rfl) (fun _ _ _ h => h) (by kernel_rfl) (.inl ⟨by rfl, fun w hw => by (unfold execOp; go_simp; all_goals omega)⟩) hS ?_
            try simp only [Act.put, List.setIfInBounds_toArray, List.set_cons_zero, List.set_cons_succ]
            refine firstL 5 (.int .i64 za) rfl (by kernel_rfl) (by kernel_rfl) (by kernel_rfl) (fun _ _ _ h => h) (by kernel_rfl) (.inl ⟨by rfl, fun w hw => by (have h0 := hw.2; unfold execOp; go_simp)⟩) hS ?_
            try simp only [Act.put, List.setIfInBounds_toArray, List.set_cons_zero, List.set_cons_succ]
            refine firstL 6 (.slice (some ⟨gx, 0, none⟩) m kx) rfl (by kernel_rfl) (by kernel_rfl) (by kernel_rfl) (fun _ _ _ h => h) (by kernel_rfl) (.inl ⟨by rfl, fun w _ => by rfl⟩) hS ?_
            try simp only [Act.put, List.setIfInBounds_toArray, List.set_cons_zero, List.set_cons_succ]
            refine firstL 7 (.int .i64 ((q : Int))) rfl (by kernel_rfl) (by kernel_rfl) (by kernel_rfl) (fun _ _ _ h => h) (by kernel_rfl) (.inl ⟨by rfl, fun w _ => by rfl⟩) hS ?_
            try simp only [Act.put, List.setIfInBounds_toArray, List.set_cons_zero, List.set_cons_succ]
            refine firstL 8 (.pointer (some ⟨gx, q, none⟩)) rfl (by kernel_rfl) (by kernel_rfl) (by kernel_rfl) (fun _ _ _ h => h) (by kernel_rfl) (.inl ⟨by rfl, fun w hw => by (unfold execOp; go_simp; all_goals omega)⟩) hS ?_
            try simp only [Act.put, List.setIfInBounds_toArray, List.set_cons_zero, List.set_cons_succ]
            refine firstL 9 (.int .i64 zb) rfl (by kernel_rfl) (by kernel_rfl) (by kernel_rfl) (fun _ _ _ h => h) (by kernel_rfl) (.inl ⟨by rfl, fun w hw => by (have h0 := hw.1; unfold execOp; go_simp)⟩) hS ?_
            try simp only [Act.put, List.setIfInBounds_toArray, List.set_cons_zero, List.set_cons_succ]
            refine firstL 10 (.int .i64 (za + zb)) rfl (by kernel_rfl) (by kernel_rfl) (by kernel_rfl) (fun _ _ _ h => h) (by kernel_rfl) (.inl ⟨by rfl, fun w hw => by (unfold execOp; go_simp; all_goals (rw [IntKind.wrap_i64] <;> omega))⟩) hS ?_
            try simp only [Act.put, List.setIfInBounds_toArray, List.set_cons_zero, List.set_cons_succ]
            refine firstL 11 (.pointer (some ⟨gA, q, none⟩)) rfl (by kernel_rfl) (by kernel_rfl) (by kernel_rfl) (fun _ _ _ h => h) (by kernel_rfl) (.inl ⟨by rfl, fun w hw => by (unfold execOp; go_simp; all_goals omega)⟩) hS ?_
            try simp only [Act.put, List.setIfInBounds_toArray, List.set_cons_zero, List.set_cons_succ]
            clear hS
            refine lastL rfl (by kernel_rfl) (by kernel_rfl) (by rfl) ?_
            go_simp
            go_wp2
            go_roundw
            case rel =>
              refine ⟨q + 1, by go_num, by omega, ?_, hot, HXC4.out, hbs2⟩
              rw [HNX.out, List.map_set]
              exact hst.1
            case measure => simp [intOf]; omega
end Go.Proofs.Ytobimpgapfecoaa
