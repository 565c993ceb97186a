/- Texts of this claim, put together: part 22. -/
import Derived.Test.YtfflodcapcamcabBranchTotalsPack13
import Derived.Test.YtfflodcapcamcabBranchTotalsPack18
import Derived.Test.YtfflodcapcamcabBranchTotalsPack20
import Derived.Test.YtfflodcapcamcabBranchTotalsPack19
import Derived.Test.YtfflodcapcamcabBranchTotalsPack21
import Derived.Test.YtfflodcapcamcabBranchTotalsPack8
import Derived.Test.YtfflodcapcamcabBranchTotalsPack4
import Derived.Test.YtfflodcapcamcabBranchTotalsPack17
import Derived.Test.YtfflodcapcamcabBranchTotalsPack3
import Derived.Test.YtfflodcapcamcabBranchTotalsPack9
/- The total of counts, by the specification. (What is plain.) -/
namespace Go.Proofs.Ytfflodcapcamcab
open Go.RowKit
set_option maxRecDepth 100000
set_option linter.unusedSimpArgs false
def statsTotal (s : SchemaD) (t : StatsD) : Int := if statsOk s t = true then sumL t.totals else 0
theorem statsOk_parts {s : SchemaD} {t : StatsD} (h : statsOk s t = true) : schemaOk s = true ∧ t.totals.length = s.classes.length ∧ t.totals.all inW = true ∧ sumL t.totals ≤ 999 := by
  unfold statsOk at h
  rw [Bool.and_eq_true, Bool.and_eq_true, Bool.and_eq_true, Bool.and_eq_true, decide_eq_true_eq, decide_eq_true_eq] at h
  exact ⟨h.1, h.2.1, h.2.2.1, h.2.2.2.1⟩
theorem allW_at {l : List Int} (h : l.all inW = true) {k : Nat} (hk : k < l.length) : 0 ≤ l.getD k 0 ∧ l.getD k 0 ≤ 999 := by
  rw [List.all_eq_true] at h
  have := of_decide_eq_true (h _ (List.getElem_mem hk))
  rwa [List.getD_eq_getElem?_getD, List.getElem?_eq_getElem hk]
end Go.Proofs.Ytfflodcapcamcab
/- What a branch has of each class, by the program. -/
namespace Go.Proofs.Ytfflodcapcamcab
open Go.RowKit
set_option maxRecDepth 100000
set_option linter.unusedSimpArgs false
theorem totals_none {s : SchemaD} {t : StatsD} {f : ForkD} {i : Int} (h : totalsOk s t f i = false) : branchTotals s t f i = [] := by unfold branchTotals; rw [if_neg (by rw [h]; exact Bool.false_ne_true)]
theorem statsOk_schema {s : SchemaD} {t : StatsD} (h : statsOk s t = true) : schemaOk s = true := (statsOk_parts h).1
theorem fork_bins {s : SchemaD} {f : ForkD} (h : forkOk s f = true) : 1 ≤ bins (forkAttr s f) := by
  have h1 := fork_attr h
  have h2 := ok_kind h1
  unfold bins
  rw [if_pos h1]
  split <;> omega
set_option maxHeartbeats 6400000 in
theorem implBranchTotals_any (vs vt : Value) (s : SchemaD) (t : StatsD) (f : ForkD) (i : Int) (w : World) (hs : SchemaAt w vs s) (ht : StatsAt w vt t) (hn : okSch s) (hb : okSt t) :
    Calls Try.prog 21 #[vs, vt, forkV f, .int .i64 i] w fun e w' => ∃ v, e = .returned v ∧ OwnI w w' v (branchTotals s t f i) := by
  unfold forkV
  have HS : Hid (∀ W, Below w.heap.size w W → SchemaAt W vs s) := fun W h => hs.later h
  have HT : Hid (∀ W, Below w.heap.size w W → StatsAt W vt t) := fun W h => ht.later h
  have HOK : Hid (okSch s) := hn
  have HOT : Hid (okSt t) := hb
  have CQ : Hid (∀ W, Below w.heap.size w W → Calls Try.prog 47 #[vs, forkV f] W fun e w' => e = .returned (.tuple #[questionV s f, .bool (forkOk s f)]) ∧ Below W.heap.size W w') := fun W hW => questionOf_any vs s f W (hs.later hW) hn
  unfold forkV at CQ
  obtain ⟨va, vc, rfl, ra, rc⟩ := hs
  obtain ⟨oa, ka, rfl, -, -⟩ := id ra
  obtain ⟨oc, kc, rfl, -, -⟩ := id rc
  obtain ⟨vx, vy, rfl, rx, ry⟩ := ht
  obtain ⟨ox, kx, rfl, -, -⟩ := id rx
  obtain ⟨oy, ky, rfl, -, -⟩ := id ry
  clear ra rc rx ry
  have la := hn.attrs
  clear hn hb
  obtain ⟨KS, KT, KF, B⟩ := blk_3 32 49 51 w #[.slice oa s.attrs.length ka, .slice oc s.classes.length kc] #[.slice ox t.totals.length kx, .slice oy t.cells.length ky] #[.int .i64 f.attr, .int .i64 f.pos]
  go_enter Try.func21, Try.ntmps21
  have cc := CQ.out _ B
  have kS0 : (((w.alloc (.cells #[.slice oa s.attrs.length ka, .slice oc s.classes.length kc] 32)).alloc (.cells #[.slice ox t.totals.length kx, .slice oy t.cells.length ky] 49)).alloc (.cells #[.int .i64 f.attr, .int .i64 f.pos] 51)).cell? ⟨w.heap.size, 0, none⟩ = some (.slice oa s.attrs.length ka) := KS.cell 0
  have kS1 : (((w.alloc (.cells #[.slice oa s.attrs.length ka, .slice oc s.classes.length kc] 32)).alloc (.cells #[.slice ox t.totals.length kx, .slice oy t.cells.length ky] 49)).alloc (.cells #[.int .i64 f.attr, .int .i64 f.pos] 51)).cell? ⟨w.heap.size, 1, none⟩ = some (.slice oc s.classes.length kc) := KS.cell 1
  have kF0 : (((w.alloc (.cells #[.slice oa s.attrs.length ka, .slice oc s.classes.length kc] 32)).alloc (.cells #[.slice ox t.totals.length kx, .slice oy t.cells.length ky] 49)).alloc (.cells #[.int .i64 f.attr, .int .i64 f.pos] 51)).cell? ⟨w.heap.size + 1 + 1, 0, none⟩ = some (.int .i64 f.attr) := KF.cell 0
  have kF1 : (((w.alloc (.cells #[.slice oa s.attrs.length ka, .slice oc s.classes.length kc] 32)).alloc (.cells #[.slice ox t.totals.length kx, .slice oy t.cells.length ky] 49)).alloc (.cells #[.int .i64 f.attr, .int .i64 f.pos] 51)).cell? ⟨w.heap.size + 1 + 1, 1, none⟩ = some (.int .i64 f.pos) := KF.cell 1
  go_wp2_with fail
  refine cc.mono ?_
  clear cc
  clear kS0 kS1 kF0 kF1
  rintro e w1 ⟨rfl, hb⟩
  replace KS := KS.below hb
  replace KT := KT.below hb
  replace KF := KF.below hb
  replace B := B.trans (hb.mono B.size)
  clear hb
  clear CQ
  cases hk : forkOk s f with
  | false =>
    have HE : Hid (branchTotals s t f i = []) := totals_none (by unfold totalsOk; rw [hk]; simp)
    go_wp2
    go_ret
    exact ⟨_, rfl, by rw [HE.out]; exact World.ownsRow_nil _ _ _ _, B⟩
  | true =>
    have HQ : Hid (forkOk s f = true) := hk
    clear hk
    have cc := implStatsOk_any _ _ s t _ (HS.out _ B) (HT.out _ B) HOK.out HOT.out
    have kS0 : w1.cell? ⟨w.heap.size, 0, none⟩ = some (.slice oa s.attrs.length ka) := KS.cell 0
    have kS1 : w1.cell? ⟨w.heap.size, 1, none⟩ = some (.slice oc s.classes.length kc) := KS.cell 1
    have kT0 : w1.cell? ⟨w.heap.size + 1, 0, none⟩ = some (.slice ox t.totals.length kx) := KT.cell 0
    have kT1 : w1.cell? ⟨w.heap.size + 1, 1, none⟩ = some (.slice oy t.cells.length ky) := KT.cell 1
    go_wp2_with fail
    refine cc.mono ?_
    clear cc
    clear kS0 kS1 kT0 kT1
    rintro e w2 ⟨rfl, hb⟩
    replace KS := KS.below hb
    replace KT := KT.below hb
    replace KF := KF.below hb
    replace B := B.trans (hb.mono B.size)
    clear hb
    cases hk : statsOk s t with
    | false =>
      have HE : Hid (branchTotals s t f i = []) := totals_none (by unfold totalsOk; rw [hk]; rfl)
      go_wp2
      go_ret
      exact ⟨_, rfl, by rw [HE.out]; exact World.ownsRow_nil _ _ _ _, B⟩
    | true =>
      have HST : Hid (statsOk s t = true) := hk
      clear hk
      have cc := thin_any _ t _ (HT.out _ B)
      have kT0 : w2.cell? ⟨w.heap.size + 1, 0, none⟩ = some (.slice ox t.totals.length kx) := KT.cell 0
      have kT1 : w2.cell? ⟨w.heap.size + 1, 1, none⟩ = some (.slice oy t.cells.length ky) := KT.cell 1
      go_wp2_with fail
      refine cc.mono ?_
      clear cc
      clear kT0 kT1
      rintro e w3 ⟨rfl, hb⟩
      replace KS := KS.below hb
      replace KT := KT.below hb
      replace KF := KF.below hb
      replace B := B.trans (hb.mono B.size)
      clear hb
      by_cases h0 : t.cells.length = 0
      ·
        have HE : Hid (branchTotals s t f i = []) := totals_none (by unfold totalsOk; rw [decide_eq_false (fun h => h h0)]; simp)
        rw [decide_eq_true h0]
        go_wp2
        go_ret
        exact ⟨_, rfl, by rw [HE.out]; exact World.ownsRow_nil _ _ _ _, B⟩
      rw [decide_eq_false h0]
      have HN0 : Hid (t.cells.length ≠ 0) := h0
      clear h0
      by_cases hi : i < 0
      ·
        have HE : Hid (branchTotals s t f i = []) := totals_none (by unfold totalsOk; rw [decide_eq_false (show ¬ (0 ≤ i ∧ i ≤ branches s f - 1) by omega)]; simp)
        go_wp2
        go_ret
        exact ⟨_, rfl, by rw [HE.out]; exact World.ownsRow_nil _ _ _ _, B⟩
      have cc := branchesOf_any s f w3
      go_wp2_with fail
      refine cc.mono ?_
      clear cc
      rintro e w4 ⟨rfl, hb⟩
      replace KS := KS.below hb
      replace KT := KT.below hb
      replace KF := KF.below hb
      replace B := B.trans (hb.mono B.size)
      clear hb
      have HBR : Hid (∀ z, z = branches s f → (0 ≤ i ∧ i ≤ z - 1) = (0 ≤ i ∧ i ≤ branches s f - 1)) := fun z h => by rw [h]
      obtain ⟨nb, hnb⟩ : ∃ nb, branches s f = nb := ⟨_, rfl⟩
      rw [hnb]
      have HNB : Hid (branches s f = nb) := hnb
      clear hnb HBR
      by_cases hi2 : nb ≤ i
      ·
        have HE : Hid (branchTotals s t f i = []) := totals_none (by unfold totalsOk; rw [decide_eq_false (show ¬ (0 ≤ i ∧ i ≤ branches s f - 1) by rw [HNB.out]; omega)]; simp)
        go_wp2
        go_ret
        exact ⟨_, rfl, by rw [HE.out]; exact World.ownsRow_nil _ _ _ _, B⟩
      have HTO : totalsOk s t f i = true := by
        unfold totalsOk
        rw [HST.out, decide_eq_true HN0.out, HQ.out, decide_eq_true (show 0 ≤ i ∧ i ≤ branches s f - 1 by rw [HNB.out]; omega)]; rfl
      obtain ⟨-, ⟨a, hfa, hal, hat⟩, -, -⟩ := fork_parts HQ.out
      obtain ⟨hac, hlen, hcol⟩ := cells_right HST.out HN0.out hal
      have hm := sch_classes (statsOk_schema HST.out)
      have hn4 := small_bins (ad s.attrs a)
      have HRES : Hid (branchTotals s t f i = curL s f i (il t.cells a) s.classes.length ((bins (ad s.attrs a)).toNat * s.classes.length)) := by show _ = _; rw [curL_all HTO, hat, hfa]; rfl
      have HAB : Hid (bins (forkAttr s f) = bins (ad s.attrs a)) := by show _ = _; rw [hat]
      obtain ⟨m, hmm⟩ : ∃ m, s.classes.length = m := ⟨_, rfl⟩
      obtain ⟨n, hnn⟩ : ∃ n, (bins (ad s.attrs a)).toNat = n := ⟨_, rfl⟩
      have HBN : Hid (bins (ad s.attrs a) = (n : Int)) := by show _ = _; omega
      have hn5 : n ≤ 4 := by omega
      rw [hmm, hnn] at hcol hlen HRES
      rw [hmm] at hm
      have HCOL : Hid (∀ b k, b < n → k < m → inW (colAt (il t.cells a) m k b) = true) := hcol
      clear hcol hnn hn4 HTO hat
      obtain ⟨c, hc⟩ : ∃ c, il t.cells a = c := ⟨_, rfl⟩
      rw [hc] at hlen HRES HCOL
      have hnm : n * m ≤ 12 := by have := Nat.mul_le_mul hn5 hm.2; omega
      have HMM : Hid (s.classes.length = m) := hmm
      have HCC : Hid (il t.cells a = c) := hc
      rw [hmm] at KS
      clear hmm hc
      by_cases hp : f.pos = -1
      · have hqv := questionV_yes HQ.out
        rw [if_pos hp] at hqv
        have CBR : Hid (∀ b W, Calls Try.prog 92 #[.agg #[.int .i64 (bins (forkAttr s f))], .int .i64 b] W fun e w' => e = .returned (.int .i64 (qBranch s f b)) ∧ Below W.heap.size W w') := fun b W => ((branch_any s f b W HQ.out (fun _ h => And.intro rfl h)).1 hp).2
        clear hp
        generalize questionV s f = qv at hqv ⊢
        subst hqv
        have kS1 : w4.cell? ⟨w.heap.size, 1, none⟩ = some (.slice oc m kc) := KS.cell 1
        have hib : decide (i < 0) = false := decide_eq_false (show ¬ i < 0 by omega)
        have hnbb : decide (nb ≤ i) = false := decide_eq_false (show ¬ nb ≤ i by omega)
        have hsz := B.size
        go_wp2_with (at_make; refine wpList_make_ints rfl _ rfl w4.heap.size m _ rfl rfl (by omega) (Nat.le_refl _) ?_)
        intro w6 hown hg
        clear kS1 hi hi2 hib hnbb
        have bM : Below w4.heap.size w4 w6 := (Below.refl _ _).grown hg (Nat.le_refl _) (fun k hk => by cases hk)
        clear hg
        have HK : Hid (∀ W, Below w4.heap.size w4 W → Blk 32 W w.heap.size #[.slice oa s.attrs.length ka, .slice oc m kc] ∧ Blk 49 W (w.heap.size + 1) #[.slice ox t.totals.length kx, .slice oy t.cells.length ky] ∧ Blk 51 W (w.heap.size + 1 + 1) #[.int .i64 f.attr, .int .i64 f.pos]) := fun W h => ⟨KS.below h, KT.below h, KF.below h⟩
        have HB5 : Hid (Below w.heap.size w w4) := B
        clear KS KT KF B
        obtain ⟨vx', vy', e', -, ry⟩ := HT.out w (Below.refl _ _)
        cases e'
        obtain ⟨oy', ky', e', -, hry⟩ := ry
        cases e'
        obtain ⟨gy, fy, rfl, hgy, hjy⟩ := hry (by omega)
        obtain ⟨u, hcu, hru⟩ := hjy a hac
        rw [HCC.out] at hru
        obtain ⟨og, kg, rfl, -, hrr⟩ := hru
        have hcp : 0 < c.length := by
          rw [hlen]
          exact Nat.mul_pos (by have := fork_bins HQ.out; rw [HAB.out, HBN.out] at this; omega) (by omega)
        obtain ⟨gb, ob, rfl, hgb, hjc⟩ := hrr hcp
        have HCJ : Hid (∀ W, Below w.heap.size w W → ∀ j, j < c.length → W.cell? ⟨gb, ob + j, none⟩ = some (.int .i64 (c.getD j 0))) := fun W h j hj => (h.cell (p := ⟨gb, ob + j, none⟩) hgb).trans (hjc j hj)
        have hcu6 := ((HB5.out.trans (bM.mono hsz)).cell (p := ⟨gy, fy + a, none⟩) hgy).trans hcu
        clear hjy hry hjc hrr hcu
        have kT1 : w6.cell? ⟨w.heap.size + 1, 1, none⟩ = some (.slice (some ⟨gy, fy, none⟩) t.cells.length ky) := (HK.out _ bM).2.1.cell 1
        have kF0 : w6.cell? ⟨w.heap.size + 1 + 1, 0, none⟩ = some (.int .i64 (a : Int)) := by rw [← hfa]; exact (HK.out _ bM).2.2.cell 0
        have HFA : Hid (f.attr = (a : Int)) := hfa
        clear hfa
        replace hown : w6.ownsRow w4.heap.size 3 1 (.slice (some ⟨w4.heap.size, 0, none⟩) m m) m ((curL s f i c m 0).map (Value.int .i64)) := by rw [curL_zero, List.map_replicate]; exact hown
        generalize hgo : w4.heap.size = go at hown ⊢
        have HGO : Hid (w4.heap.size = go) := hgo
        clear hgo
        go_wp2
        go_loopw [54] (fun idx wr => ∃ p : Nat, idx = .int .i64 p ∧ p ≤ c.length ∧ wr.ownsRow go 3 1 (.slice (some ⟨go, 0, none⟩) m m) m ((curL s f i c m p).map (Value.int .i64)) ∧ Hid (Below w4.heap.size w4 wr)) (fun idx _ => c.length - (intOf idx).toNat)
        case atStart => exact ⟨0, rfl, by omega, hown, bM⟩
        case round =>
          clear hown bM kT1 kF0 hcu6
          obtain ⟨p, rfl, hp, hown, HBR⟩ := hrel
          have hbr := HBR.out
          by_cases hlt : p < c.length
          rotate_left
          · obtain rfl : p = c.length := by omega
            go_wp2
            go_ret
            have hfin : branchTotals s t f i = curL s f i c m c.length := by rw [HRES.out, hlen]
            exact ⟨_, rfl, by rw [hfin, curL_len]; exact own_base hown (by rw [← HGO.out]; exact hsz), HB5.out.trans (hbr.mono hsz)⟩
          have B := HB5.out.trans (hbr.mono hsz)
          have hcx := HCJ.out wr B p hlt
          have hx := place_col (show 0 < m by omega) (show p < n * m by omega) HCOL.out
          obtain ⟨hpb, hpr, -⟩ := place_parts (show 0 < m by omega) (show p < n * m by omega)
          have hz := plSum_le (s := s) (f := f) (i := i) (k := p % m) (show 0 < m by omega) HCOL.out p (by omega)
          have HHIT : Hid (branchOf s f ((p / m : Nat) : Int) = i → curL s f i c m (p + 1) = (curL s f i c m p).set (p % m) (plSum s f i c m (p % m) p + c.getD p 0)) := fun h => curL_hit (by omega) h
          have HMISS : Hid (¬ branchOf s f ((p / m : Nat) : Int) = i → curL s f i c m (p + 1) = curL s f i c m p) := fun h => curL_miss h
          have HAT : Hid ((curL s f i c m p).getD (p % m) 0 = plSum s f i c m (p % m) p) := curL_at hpr
          have HBO : Hid (branchOf s f ((p / m : Nat) : Int) = qBranch s f ((p / m : Nat) : Int)) := branchOf_yes HQ.out (Int.natCast_nonneg _) (by rw [HAB.out, HBN.out]; exact Int.ofNat_lt.2 hpb)
          have cc := keyAt_any p m wr (by omega) (by omega) (by omega)
          generalize c.getD p 0 = x at hcx hx HHIT
          generalize plSum s f i c m (p % m) p = z at hz HHIT HAT
          generalize p / m = b at cc HBO HHIT HMISS hpb
          generalize p % m = r at cc hpr HHIT HAT
          rw [HBO.out] at HHIT HMISS
          have kS1 : wr.cell? ⟨w.heap.size, 1, none⟩ = some (.slice oc m kc) := (HK.out _ hbr).1.cell 1
          go_wp2_with fail
          refine cc.mono ?_
          clear cc kS1 hcx HBO
          rintro e w7 ⟨rfl, hb⟩
          replace hown := own_below hown hb
          replace hbr := hbr.trans (hb.mono hbr.size)
          clear hb B
          have bK : Below w7.heap.size w7 (w7.alloc (.cells #[.int .i64 (b : Int), .int .i64 (r : Int)] 83)) := (Below.refl _ _).alloc (Nat.le_refl _) _
          have KK := Blk.new 83 w7 #[.int .i64 (b : Int), .int .i64 (r : Int)]
          replace hown := own_below hown bK
          replace hbr := hbr.trans (bK.mono hbr.size)
          have hpk : w7.heap.size < (w7.alloc (.cells #[.int .i64 (b : Int), .int .i64 (r : Int)] 83)).heap.size := by simp
          clear bK
          have cc := CBR.out (b : Int) (w7.alloc (.cells #[.int .i64 (b : Int), .int .i64 (r : Int)] 83))
          generalize qBranch s f (b : Int) = y at cc HHIT HMISS
          have kK0 : (w7.alloc (.cells #[.int .i64 (b : Int), .int .i64 (r : Int)] 83)).cell? ⟨w7.heap.size, 0, none⟩ = some (.int .i64 (b : Int)) := KK.cell 0
          go_wp2_with fail
          refine cc.mono ?_
          clear cc kK0
          rintro e w8 ⟨rfl, hb⟩
          replace hown := own_below hown hb
          replace hbr := hbr.trans (hb.mono hbr.size)
          replace KK := KK.below hb
          clear hb
          by_cases hyi : y = i
          · have hq : (y == i) = true := by rw [hyi]; exact beq_self_eq_true i
            have HNX := HHIT.out hyi
            have HNXT : Hid (curL s f i c m (p + 1) = (curL s f i c m p).set r (z + x)) := HNX
            clear HNX hyi HHIT HMISS
            have hrl : r < (curL s f i c m p).length := by rw [curL_len]; exact hpr
            have kK1 : w8.cell? ⟨w7.heap.size, 1, none⟩ = some (.int .i64 (r : Int)) := KK.cell 1
            have hcO : w8.cell? ⟨go, r, none⟩ = some (.int .i64 z) := by rw [hown.cellAt r (by omega), getD_mapI _ r hrl, HAT.out]
            have hfO : w8.frozen? ⟨go, r, none⟩ = false := hown.frozenAt r
            have hst := hown.stored r (.int .i64 (z + x))
            clear KK hrl
            go_wp2
            go_roundw
            case rel =>
              refine ⟨p + 1, by go_num, by omega, ?_, hbr.grown hst.2 hbr.size (fun k hk => by cases hk; exact Nat.le_of_eq HGO.out)⟩
              rw [HNXT.out, List.map_set]
              exact hst.1
            case measure => simp [intOf]; omega
          · have hq : (y == i) = false := by rw [beq_eq_false_iff_ne]; exact hyi
            have HNX := HMISS.out hyi
            have HNXT : Hid (curL s f i c m (p + 1) = curL s f i c m p) := HNX
            clear HNX hyi HHIT HMISS KK
            go_wp2
            go_roundw
            case rel =>
              refine ⟨p + 1, by go_num, by omega, ?_, hbr⟩
              rw [HNXT.out]
              exact hown
            case measure => simp [intOf]; omega
      by_cases hv : 0 < (forkAttr s f).vals.length
      · have hqv := questionV_yes HQ.out
        rw [if_neg hp, if_pos hv] at hqv
        have CBR : Hid (∀ b W, Calls Try.prog 93 #[.agg #[.int .i64 f.pos], .int .i64 b] W fun e w' => e = .returned (.int .i64 (qBranch s f b)) ∧ Below W.heap.size W w') := fun b W => ((branch_any s f b W HQ.out (fun _ h => And.intro rfl h)).2.1 hp hv).2
        clear hp hv
        generalize questionV s f = qv at hqv ⊢
        subst hqv
        have kS1 : w4.cell? ⟨w.heap.size, 1, none⟩ = some (.slice oc m kc) := KS.cell 1
        have hib : decide (i < 0) = false := decide_eq_false (show ¬ i < 0 by omega)
        have hnbb : decide (nb ≤ i) = false := decide_eq_false (show ¬ nb ≤ i by omega)
        have hsz := B.size
        go_wp2_with (at_make; refine wpList_make_ints rfl _ rfl w4.heap.size m _ rfl rfl (by omega) (Nat.le_refl _) ?_)
        intro w6 hown hg
        clear kS1 hi hi2 hib hnbb
        have bM : Below w4.heap.size w4 w6 := (Below.refl _ _).grown hg (Nat.le_refl _) (fun k hk => by cases hk)
        clear hg
        have HK : Hid (∀ W, Below w4.heap.size w4 W → Blk 32 W w.heap.size #[.slice oa s.attrs.length ka, .slice oc m kc] ∧ Blk 49 W (w.heap.size + 1) #[.slice ox t.totals.length kx, .slice oy t.cells.length ky] ∧ Blk 51 W (w.heap.size + 1 + 1) #[.int .i64 f.attr, .int .i64 f.pos]) := fun W h => ⟨KS.below h, KT.below h, KF.below h⟩
        have HB5 : Hid (Below w.heap.size w w4) := B
        clear KS KT KF B
        obtain ⟨vx', vy', e', -, ry⟩ := HT.out w (Below.refl _ _)
        cases e'
        obtain ⟨oy', ky', e', -, hry⟩ := ry
        cases e'
        obtain ⟨gy, fy, rfl, hgy, hjy⟩ := hry (by omega)
        obtain ⟨u, hcu, hru⟩ := hjy a hac
        rw [HCC.out] at hru
        obtain ⟨og, kg, rfl, -, hrr⟩ := hru
        have hcp : 0 < c.length := by
          rw [hlen]
          exact Nat.mul_pos (by have := fork_bins HQ.out; rw [HAB.out, HBN.out] at this; omega) (by omega)
        obtain ⟨gb, ob, rfl, hgb, hjc⟩ := hrr hcp
        have HCJ : Hid (∀ W, Below w.heap.size w W → ∀ j, j < c.length → W.cell? ⟨gb, ob + j, none⟩ = some (.int .i64 (c.getD j 0))) := fun W h j hj => (h.cell (p := ⟨gb, ob + j, none⟩) hgb).trans (hjc j hj)
        have hcu6 := ((HB5.out.trans (bM.mono hsz)).cell (p := ⟨gy, fy + a, none⟩) hgy).trans hcu
        clear hjy hry hjc hrr hcu
        have kT1 : w6.cell? ⟨w.heap.size + 1, 1, none⟩ = some (.slice (some ⟨gy, fy, none⟩) t.cells.length ky) := (HK.out _ bM).2.1.cell 1
        have kF0 : w6.cell? ⟨w.heap.size + 1 + 1, 0, none⟩ = some (.int .i64 (a : Int)) := by rw [← hfa]; exact (HK.out _ bM).2.2.cell 0
        have HFA : Hid (f.attr = (a : Int)) := hfa
        clear hfa
        replace hown : w6.ownsRow w4.heap.size 3 1 (.slice (some ⟨w4.heap.size, 0, none⟩) m m) m ((curL s f i c m 0).map (Value.int .i64)) := by rw [curL_zero, List.map_replicate]; exact hown
        generalize hgo : w4.heap.size = go at hown ⊢
        have HGO : Hid (w4.heap.size = go) := hgo
        clear hgo
        go_wp2
        go_loopw [54] (fun idx wr => ∃ p : Nat, idx = .int .i64 p ∧ p ≤ c.length ∧ wr.ownsRow go 3 1 (.slice (some ⟨go, 0, none⟩) m m) m ((curL s f i c m p).map (Value.int .i64)) ∧ Hid (Below w4.heap.size w4 wr)) (fun idx _ => c.length - (intOf idx).toNat)
        case atStart => exact ⟨0, rfl, by omega, hown, bM⟩
        case round =>
          clear hown bM kT1 kF0 hcu6
          obtain ⟨p, rfl, hp, hown, HBR⟩ := hrel
          have hbr := HBR.out
          by_cases hlt : p < c.length
          rotate_left
          · obtain rfl : p = c.length := by omega
            go_wp2
            go_ret
            have hfin : branchTotals s t f i = curL s f i c m c.length := by rw [HRES.out, hlen]
            exact ⟨_, rfl, by rw [hfin, curL_len]; exact own_base hown (by rw [← HGO.out]; exact hsz), HB5.out.trans (hbr.mono hsz)⟩
          have B := HB5.out.trans (hbr.mono hsz)
          have hcx := HCJ.out wr B p hlt
          have hx := place_col (show 0 < m by omega) (show p < n * m by omega) HCOL.out
          obtain ⟨hpb, hpr, -⟩ := place_parts (show 0 < m by omega) (show p < n * m by omega)
          have hz := plSum_le (s := s) (f := f) (i := i) (k := p % m) (show 0 < m by omega) HCOL.out p (by omega)
          have HHIT : Hid (branchOf s f ((p / m : Nat) : Int) = i → curL s f i c m (p + 1) = (curL s f i c m p).set (p % m) (plSum s f i c m (p % m) p + c.getD p 0)) := fun h => curL_hit (by omega) h
          have HMISS : Hid (¬ branchOf s f ((p / m : Nat) : Int) = i → curL s f i c m (p + 1) = curL s f i c m p) := fun h => curL_miss h
          have HAT : Hid ((curL s f i c m p).getD (p % m) 0 = plSum s f i c m (p % m) p) := curL_at hpr
          have HBO : Hid (branchOf s f ((p / m : Nat) : Int) = qBranch s f ((p / m : Nat) : Int)) := branchOf_yes HQ.out (Int.natCast_nonneg _) (by rw [HAB.out, HBN.out]; exact Int.ofNat_lt.2 hpb)
          have cc := keyAt_any p m wr (by omega) (by omega) (by omega)
          generalize c.getD p 0 = x at hcx hx HHIT
          generalize plSum s f i c m (p % m) p = z at hz HHIT HAT
          generalize p / m = b at cc HBO HHIT HMISS hpb
          generalize p % m = r at cc hpr HHIT HAT
          rw [HBO.out] at HHIT HMISS
          have kS1 : wr.cell? ⟨w.heap.size, 1, none⟩ = some (.slice oc m kc) := (HK.out _ hbr).1.cell 1
          go_wp2_with fail
          refine cc.mono ?_
          clear cc kS1 hcx HBO
          rintro e w7 ⟨rfl, hb⟩
          replace hown := own_below hown hb
          replace hbr := hbr.trans (hb.mono hbr.size)
          clear hb B
          have bK : Below w7.heap.size w7 (w7.alloc (.cells #[.int .i64 (b : Int), .int .i64 (r : Int)] 83)) := (Below.refl _ _).alloc (Nat.le_refl _) _
          have KK := Blk.new 83 w7 #[.int .i64 (b : Int), .int .i64 (r : Int)]
          replace hown := own_below hown bK
          replace hbr := hbr.trans (bK.mono hbr.size)
          have hpk : w7.heap.size < (w7.alloc (.cells #[.int .i64 (b : Int), .int .i64 (r : Int)] 83)).heap.size := by simp
          clear bK
          have cc := CBR.out (b : Int) (w7.alloc (.cells #[.int .i64 (b : Int), .int .i64 (r : Int)] 83))
          generalize qBranch s f (b : Int) = y at cc HHIT HMISS
          have kK0 : (w7.alloc (.cells #[.int .i64 (b : Int), .int .i64 (r : Int)] 83)).cell? ⟨w7.heap.size, 0, none⟩ = some (.int .i64 (b : Int)) := KK.cell 0
          go_wp2_with fail
          refine cc.mono ?_
          clear cc kK0
          rintro e w8 ⟨rfl, hb⟩
          replace hown := own_below hown hb
          replace hbr := hbr.trans (hb.mono hbr.size)
          replace KK := KK.below hb
          clear hb
          by_cases hyi : y = i
          · have hq : (y == i) = true := by rw [hyi]; exact beq_self_eq_true i
            have HNX := HHIT.out hyi
            have HNXT : Hid (curL s f i c m (p + 1) = (curL s f i c m p).set r (z + x)) := HNX
            clear HNX hyi HHIT HMISS
            have hrl : r < (curL s f i c m p).length := by rw [curL_len]; exact hpr
            have kK1 : w8.cell? ⟨w7.heap.size, 1, none⟩ = some (.int .i64 (r : Int)) := KK.cell 1
            have hcO : w8.cell? ⟨go, r, none⟩ = some (.int .i64 z) := by rw [hown.cellAt r (by omega), getD_mapI _ r hrl, HAT.out]
            have hfO : w8.frozen? ⟨go, r, none⟩ = false := hown.frozenAt r
            have hst := hown.stored r (.int .i64 (z + x))
            clear KK hrl
            go_wp2
            go_roundw
            case rel =>
              refine ⟨p + 1, by go_num, by omega, ?_, hbr.grown hst.2 hbr.size (fun k hk => by cases hk; exact Nat.le_of_eq HGO.out)⟩
              rw [HNXT.out, List.map_set]
              exact hst.1
            case measure => simp [intOf]; omega
          · have hq : (y == i) = false := by rw [beq_eq_false_iff_ne]; exact hyi
            have HNX := HMISS.out hyi
            have HNXT : Hid (curL s f i c m (p + 1) = curL s f i c m p) := HNX
            clear HNX hyi HHIT HMISS KK
            go_wp2
            go_roundw
            case rel =>
              refine ⟨p + 1, by go_num, by omega, ?_, hbr⟩
              rw [HNXT.out]
              exact hown
            case measure => simp [intOf]; omega
      · have hqv := questionV_yes HQ.out
        rw [if_neg hp, if_neg hv] at hqv
        have CBR : Hid (∀ b W, Calls Try.prog 95 #[.agg #[.int .i64 f.pos], .int .i64 b] W fun e w' => e = .returned (.int .i64 (qBranch s f b)) ∧ Below W.heap.size W w') := fun b W => ((branch_any s f b W HQ.out (fun _ h => And.intro rfl h)).2.2 hp hv).2
        clear hp hv
        generalize questionV s f = qv at hqv ⊢
        subst hqv
        have kS1 : w4.cell? ⟨w.heap.size, 1, none⟩ = some (.slice oc m kc) := KS.cell 1
        have hib : decide (i < 0) = false := decide_eq_false (show ¬ i < 0 by omega)
        have hnbb : decide (nb ≤ i) = false := decide_eq_false (show ¬ nb ≤ i by omega)
        have hsz := B.size
        go_wp2_with (at_make; refine wpList_make_ints rfl _ rfl w4.heap.size m _ rfl rfl (by omega) (Nat.le_refl _) ?_)
        intro w6 hown hg
        clear kS1 hi hi2 hib hnbb
        have bM : Below w4.heap.size w4 w6 := (Below.refl _ _).grown hg (Nat.le_refl _) (fun k hk => by cases hk)
        clear hg
        have HK : Hid (∀ W, Below w4.heap.size w4 W → Blk 32 W w.heap.size #[.slice oa s.attrs.length ka, .slice oc m kc] ∧ Blk 49 W (w.heap.size + 1) #[.slice ox t.totals.length kx, .slice oy t.cells.length ky] ∧ Blk 51 W (w.heap.size + 1 + 1) #[.int .i64 f.attr, .int .i64 f.pos]) := fun W h => ⟨KS.below h, KT.below h, KF.below h⟩
        have HB5 : Hid (Below w.heap.size w w4) := B
        clear KS KT KF B
        obtain ⟨vx', vy', e', -, ry⟩ := HT.out w (Below.refl _ _)
        cases e'
        obtain ⟨oy', ky', e', -, hry⟩ := ry
        cases e'
        obtain ⟨gy, fy, rfl, hgy, hjy⟩ := hry (by omega)
        obtain ⟨u, hcu, hru⟩ := hjy a hac
        rw [HCC.out] at hru
        obtain ⟨og, kg, rfl, -, hrr⟩ := hru
        have hcp : 0 < c.length := by
          rw [hlen]
          exact Nat.mul_pos (by have := fork_bins HQ.out; rw [HAB.out, HBN.out] at this; omega) (by omega)
        obtain ⟨gb, ob, rfl, hgb, hjc⟩ := hrr hcp
        have HCJ : Hid (∀ W, Below w.heap.size w W → ∀ j, j < c.length → W.cell? ⟨gb, ob + j, none⟩ = some (.int .i64 (c.getD j 0))) := fun W h j hj => (h.cell (p := ⟨gb, ob + j, none⟩) hgb).trans (hjc j hj)
        have hcu6 := ((HB5.out.trans (bM.mono hsz)).cell (p := ⟨gy, fy + a, none⟩) hgy).trans hcu
        clear hjy hry hjc hrr hcu
        have kT1 : w6.cell? ⟨w.heap.size + 1, 1, none⟩ = some (.slice (some ⟨gy, fy, none⟩) t.cells.length ky) := (HK.out _ bM).2.1.cell 1
        have kF0 : w6.cell? ⟨w.heap.size + 1 + 1, 0, none⟩ = some (.int .i64 (a : Int)) := by rw [← hfa]; exact (HK.out _ bM).2.2.cell 0
        have HFA : Hid (f.attr = (a : Int)) := hfa
        clear hfa
        replace hown : w6.ownsRow w4.heap.size 3 1 (.slice (some ⟨w4.heap.size, 0, none⟩) m m) m ((curL s f i c m 0).map (Value.int .i64)) := by rw [curL_zero, List.map_replicate]; exact hown
        generalize hgo : w4.heap.size = go at hown ⊢
        have HGO : Hid (w4.heap.size = go) := hgo
        clear hgo
        go_wp2
        go_loopw [54] (fun idx wr => ∃ p : Nat, idx = .int .i64 p ∧ p ≤ c.length ∧ wr.ownsRow go 3 1 (.slice (some ⟨go, 0, none⟩) m m) m ((curL s f i c m p).map (Value.int .i64)) ∧ Hid (Below w4.heap.size w4 wr)) (fun idx _ => c.length - (intOf idx).toNat)
        case atStart => exact ⟨0, rfl, by omega, hown, bM⟩
        case round =>
          clear hown bM kT1 kF0 hcu6
          obtain ⟨p, rfl, hp, hown, HBR⟩ := hrel
          have hbr := HBR.out
          by_cases hlt : p < c.length
          rotate_left
          · obtain rfl : p = c.length := by omega
            go_wp2
            go_ret
            have hfin : branchTotals s t f i = curL s f i c m c.length := by rw [HRES.out, hlen]
            exact ⟨_, rfl, by rw [hfin, curL_len]; exact own_base hown (by rw [← HGO.out]; exact hsz), HB5.out.trans (hbr.mono hsz)⟩
          have B := HB5.out.trans (hbr.mono hsz)
          have hcx := HCJ.out wr B p hlt
          have hx := place_col (show 0 < m by omega) (show p < n * m by omega) HCOL.out
          obtain ⟨hpb, hpr, -⟩ := place_parts (show 0 < m by omega) (show p < n * m by omega)
          have hz := plSum_le (s := s) (f := f) (i := i) (k := p % m) (show 0 < m by omega) HCOL.out p (by omega)
          have HHIT : Hid (branchOf s f ((p / m : Nat) : Int) = i → curL s f i c m (p + 1) = (curL s f i c m p).set (p % m) (plSum s f i c m (p % m) p + c.getD p 0)) := fun h => curL_hit (by omega) h
          have HMISS : Hid (¬ branchOf s f ((p / m : Nat) : Int) = i → curL s f i c m (p + 1) = curL s f i c m p) := fun h => curL_miss h
          have HAT : Hid ((curL s f i c m p).getD (p % m) 0 = plSum s f i c m (p % m) p) := curL_at hpr
          have HBO : Hid (branchOf s f ((p / m : Nat) : Int) = qBranch s f ((p / m : Nat) : Int)) := branchOf_yes HQ.out (Int.natCast_nonneg _) (by rw [HAB.out, HBN.out]; exact Int.ofNat_lt.2 hpb)
          have cc := keyAt_any p m wr (by omega) (by omega) (by omega)
          generalize c.getD p 0 = x at hcx hx HHIT
          generalize plSum s f i c m (p % m) p = z at hz HHIT HAT
          generalize p / m = b at cc HBO HHIT HMISS hpb
          generalize p % m = r at cc hpr HHIT HAT
          rw [HBO.out] at HHIT HMISS
          have kS1 : wr.cell? ⟨w.heap.size, 1, none⟩ = some (.slice oc m kc) := (HK.out _ hbr).1.cell 1
          go_wp2_with fail
          refine cc.mono ?_
          clear cc kS1 hcx HBO
          rintro e w7 ⟨rfl, hb⟩
          replace hown := own_below hown hb
          replace hbr := hbr.trans (hb.mono hbr.size)
          clear hb B
          have bK : Below w7.heap.size w7 (w7.alloc (.cells #[.int .i64 (b : Int), .int .i64 (r : Int)] 83)) := (Below.refl _ _).alloc (Nat.le_refl _) _
          have KK := Blk.new 83 w7 #[.int .i64 (b : Int), .int .i64 (r : Int)]
          replace hown := own_below hown bK
          replace hbr := hbr.trans (bK.mono hbr.size)
          have hpk : w7.heap.size < (w7.alloc (.cells #[.int .i64 (b : Int), .int .i64 (r : Int)] 83)).heap.size := by simp
          clear bK
          have cc := CBR.out (b : Int) (w7.alloc (.cells #[.int .i64 (b : Int), .int .i64 (r : Int)] 83))
          generalize qBranch s f (b : Int) = y at cc HHIT HMISS
          have kK0 : (w7.alloc (.cells #[.int .i64 (b : Int), .int .i64 (r : Int)] 83)).cell? ⟨w7.heap.size, 0, none⟩ = some (.int .i64 (b : Int)) := KK.cell 0
          go_wp2_with fail
          refine cc.mono ?_
          clear cc kK0
          rintro e w8 ⟨rfl, hb⟩
          replace hown := own_below hown hb
          replace hbr := hbr.trans (hb.mono hbr.size)
          replace KK := KK.below hb
          clear hb
          by_cases hyi : y = i
          · have hq : (y == i) = true := by rw [hyi]; exact beq_self_eq_true i
            have HNX := HHIT.out hyi
            have HNXT : Hid (curL s f i c m (p + 1) = (curL s f i c m p).set r (z + x)) := HNX
            clear HNX hyi HHIT HMISS
            have hrl : r < (curL s f i c m p).length := by rw [curL_len]; exact hpr
            have kK1 : w8.cell? ⟨w7.heap.size, 1, none⟩ = some (.int .i64 (r : Int)) := KK.cell 1
            have hcO : w8.cell? ⟨go, r, none⟩ = some (.int .i64 z) := by rw [hown.cellAt r (by omega), getD_mapI _ r hrl, HAT.out]
            have hfO : w8.frozen? ⟨go, r, none⟩ = false := hown.frozenAt r
            have hst := hown.stored r (.int .i64 (z + x))
            clear KK hrl
            go_wp2
            go_roundw
            case rel =>
              refine ⟨p + 1, by go_num, by omega, ?_, hbr.grown hst.2 hbr.size (fun k hk => by cases hk; exact Nat.le_of_eq HGO.out)⟩
              rw [HNXT.out, List.map_set]
              exact hst.1
            case measure => simp [intOf]; omega
          · have hq : (y == i) = false := by rw [beq_eq_false_iff_ne]; exact hyi
            have HNX := HMISS.out hyi
            have HNXT : Hid (curL s f i c m (p + 1) = curL s f i c m p) := HNX
            clear HNX hyi HHIT HMISS KK
            go_wp2
            go_roundw
            case rel =>
              refine ⟨p + 1, by go_num, by omega, ?_, hbr⟩
              rw [HNXT.out]
              exact hown
            case measure => simp [intOf]; omega
end Go.Proofs.Ytfflodcapcamcab
/- Whether a schema is right, by the specification. -/
namespace Go.Proofs.Ytfflodcapcamcab
open Go.RowKit
set_option maxRecDepth 100000

theorem sch_no1 {s : SchemaD} (h : ¬ ((1 : Int) ≤ s.attrs.length ∧ (s.attrs.length : Int) ≤ 5)) : schemaOk s = false := by
  unfold schemaOk; rw [decide_eq_false (by omega)]; rfl
theorem sch_no2 {s : SchemaD} (h : ¬ ((2 : Int) ≤ s.classes.length ∧ (s.classes.length : Int) ≤ 3)) : schemaOk s = false := by
  unfold schemaOk choices; rw [decide_eq_false h]; simp
theorem sch_no3 {s : SchemaD} (h : wordsOk s.classes = false) : schemaOk s = false := by
  unfold schemaOk choices; rw [h]; simp
theorem sch_yes {s : SchemaD} (h : (1 : Int) ≤ s.attrs.length ∧ (s.attrs.length : Int) ≤ 5) (h2 : (2 : Int) ≤ s.classes.length ∧ (s.classes.length : Int) ≤ 3) (h3 : wordsOk s.classes = true) : schemaOk s = attrsOk s.attrs := by
  unfold schemaOk choices; rw [decide_eq_true (p := 1 ≤ s.attrs.length ∧ s.attrs.length ≤ 5) (by omega), decide_eq_true h2, h3]; rfl

set_option maxHeartbeats 1600000 in
theorem specSchemaOk_any (v : Value) (s : SchemaD) (w : World) (h : SchemaAt w v s) (hn : okSch s) :
    Calls Try.prog 55 #[v] w fun e w' => e = .returned (.bool (schemaOk s)) ∧ Below w.heap.size w w' := by
  obtain ⟨va, vc, rfl, ha, hc⟩ := h
  obtain ⟨oa, ca, rfl, hca, har⟩ := id ha
  obtain ⟨oc, cc, rfl, hcc, hcr⟩ := id hc
  have HAR : Hid (RowA w (.slice oa s.attrs.length ca) s.attrs) := ha
  have HCR : Hid (RowS w (.slice oc s.classes.length cc) s.classes) := hc
  have HO : Hid (okSch s) := hn
  have la := hn.attrs
  clear ha hc har hcr hn
  by_cases h1 : (1 : Int) ≤ s.attrs.length ∧ (s.attrs.length : Int) ≤ 5
  rotate_left
  · have HF : Hid (schemaOk s = false) := sch_no1 h1
    go_enter Try.func55, Try.ntmps55
    go_wp2_with fail
    refine (in_any _ _ _ _).mono ?_
    rintro e w1 ⟨rfl, rfl⟩
    rw [decide_eq_false h1]
    clear h1
    go_wp2
    go_ret
    exact ⟨by rw [HF.out]; rfl, (Below.refl _ _).alloc (Nat.le_refl _) _⟩
  by_cases h2 : (2 : Int) ≤ s.classes.length ∧ (s.classes.length : Int) ≤ 3
  rotate_left
  · have HF : Hid (schemaOk s = false) := sch_no2 h2
    go_enter Try.func55, Try.ntmps55
    go_wp2_with fail
    refine (in_any _ _ _ _).mono ?_
    rintro e w1 ⟨rfl, rfl⟩
    rw [decide_eq_true h1]
    clear h1
    go_wp2_with fail
    refine (in_any _ _ _ _).mono ?_
    rintro e w1 ⟨rfl, rfl⟩
    rw [decide_eq_false h2]
    clear h2
    go_wp2
    go_ret
    exact ⟨by rw [HF.out]; rfl, (Below.refl _ _).alloc (Nat.le_refl _) _⟩
  obtain ⟨K0, B0⟩ := blk_1 32 w #[.slice oa s.attrs.length ca, .slice oc s.classes.length cc]
  have c := specWords_any _ s.classes _ (HCR.out.later B0) HO.out.classes
  cases hw : wordsOk s.classes with
  | false =>
    have HF : Hid (schemaOk s = false) := sch_no3 hw
    rw [hw] at c
    clear hw
    go_enter Try.func55, Try.ntmps55
    go_wp2_with fail
    refine (in_any _ _ _ _).mono ?_
    rintro e w1 ⟨rfl, rfl⟩
    rw [decide_eq_true h1]
    clear h1
    go_wp2_with fail
    refine (in_any _ _ _ _).mono ?_
    rintro e w1 ⟨rfl, rfl⟩
    rw [decide_eq_true h2]
    clear h2
    go_wp2_with fail
    refine c.mono ?_
    rintro e w1 ⟨rfl, hb1⟩
    clear c K0
    go_wp2
    go_ret
    exact ⟨by rw [HF.out]; rfl, B0.trans (hb1.mono B0.size)⟩
  | true =>
    have HW : Hid (schemaOk s = attrsOk s.attrs) := sch_yes h1 h2 hw
    rw [hw] at c
    clear hw
    obtain ⟨ls, has⟩ : ∃ ls, s.attrs = ls := ⟨_, rfl⟩
    obtain ⟨g, o, rfl, hg, hj⟩ : ∃ g o, oa = some ⟨g, o, none⟩ ∧ g < w.heap.size ∧ ∀ j, j < ls.length → CellsA w g (o + j * 3) (ad ls j) := by
      obtain ⟨oa', cap', e, _, hr⟩ := HAR.out
      obtain ⟨g, o, e', hg, hj⟩ := hr (by omega)
      injection e with e1 e2 e3
      exact ⟨g, o, by rw [e1, e'], hg, by rw [← has]; exact hj⟩
    have HJ : Hid (∀ j, j < ls.length → CellsA w g (o + j * 3) (ad ls j)) := hj
    have HE : Hid (∀ j, j < ls.length → okA (ad ls j)) := fun j hj => HO.out.each _ (by rw [has]; exact ad_mem hj)
    have HAS : Hid (s.attrs = ls) := has
    clear hj HAR HCR HO
    rw [has] at h1 la hca K0 B0 c
    go_enter Try.func55, Try.ntmps55
    rw [has]
    clear has
    go_wp2_with fail
    refine (in_any _ _ _ _).mono ?_
    rintro e w1 ⟨rfl, rfl⟩
    rw [decide_eq_true h1]
    go_wp2_with fail
    refine (in_any _ _ _ _).mono ?_
    rintro e w1 ⟨rfl, rfl⟩
    rw [decide_eq_true h2]
    clear h2
    go_wp2_with fail
    refine c.mono ?_
    rintro e w1 ⟨rfl, hb1⟩
    clear c
    have HB1 : Hid (Blk 32 w1 w.heap.size #[.slice (some ⟨g, o, none⟩) ls.length ca, .slice oc s.classes.length cc]) := K0.below hb1
    have B1 := B0.trans (hb1.mono B0.size)
    clear hb1 K0 B0 h1
    go_wp2
    go_loopw [3, 4] (fun i _ wr => ∃ k : Nat, i = .int .i64 k ∧ k ≤ ls.length ∧ (∀ j, j < k → attrAt ls j = true) ∧ Below w1.heap.size w1 wr) (fun i _ _ => ls.length - (intOf i).toNat)
    case atStart => exact ⟨0, rfl, by omega, by omega, Below.refl _ _⟩
    case round =>
      obtain ⟨k, rfl, hk, hal, hb⟩ := hrel
      have HA : Hid (∀ j, j < k → attrAt ls j = true) := hal
      clear hal
      have K : wr.cell? ⟨w.heap.size, 0, none⟩ = some (.slice (some ⟨g, o, none⟩) ls.length ca) := (HB1.out.below hb).cell 0
      have hbw := B1.trans (hb.mono B1.size)
      by_cases hlt : k < ls.length
      · obtain ⟨vc, vv, q0, q1, q2, r1, r2⟩ := (HJ.out k hlt).later hbw hg
        obtain ⟨o1, c1, rfl, -, -⟩ := id r1
        obtain ⟨o2, c2, rfl, -, -⟩ := id r2
        have hx : AttrAt wr (.agg #[.string (ad ls k).name, .slice o1 (ad ls k).cuts.length c1, .slice o2 (ad ls k).vals.length c2]) (ad ls k) := ⟨_, _, rfl, r1, r2⟩
        have c := specAttrOk_any _ (ad ls k) _ hx (HE.out k hlt)
        clear r1 r2 hx
        cases hw : attrOk (ad ls k) with
        | false =>
          have HF : Hid (attrsOk ls = false) := attrs_no k hlt (attrAt_no1 hw)
          rw [hw] at c
          clear hw
          go_wp2_with fail
          refine c.mono ?_
          rintro e w2 ⟨rfl, hb2⟩
          clear c
          go_wp2
          go_ret
          exact ⟨by rw [HW.out, HAS.out, HF.out]; rfl, hbw.trans (hb2.mono hbw.size)⟩
        | true =>
          have HWK : Hid (attrOk (ad ls k) = true) := hw
          rw [hw] at c
          clear hw
          go_wp2_with fail
          refine c.mono ?_
          rintro e w2 ⟨rfl, hb2⟩
          clear c K q0 q1 q2
          have hb3 : Below w1.heap.size w1 w2 := hb.trans (hb2.mono hb.size)
          have hbx : Below w.heap.size w w2 := hbw.trans (hb2.mono hbw.size)
          have K : w2.cell? ⟨w.heap.size, 0, none⟩ = some (.slice (some ⟨g, o, none⟩) ls.length ca) := (HB1.out.below hb3).cell 0
          have q0 : w2.cell? ⟨g, o + k * 3, none⟩ = some (.string (ad ls k).name) := by
            obtain ⟨_, _, q, _⟩ := (HJ.out k hlt).later hbx hg; exact q
          clear hb hb2 hbw
          go_wp2
          go_loopw [4] (fun i wr => ∃ m q : Nat, i = .int .i64 m ∧ m ≤ k ∧ (∀ j, j < m → (ad ls k).name ≠ (ad ls j).name) ∧ wr = w2.drewN q) (fun i _ => k - (intOf i).toNat)
          case atStart => exact ⟨0, 0, rfl, by omega, by omega, rfl⟩
          case round =>
            obtain ⟨m, q, rfl, hm, hne, rfl⟩ := hrel
            have HN : Hid (∀ j, j < m → (ad ls k).name ≠ (ad ls j).name) := hne
            clear hne
            by_cases hmk : m < k
            · have hml : m < ls.length := by omega
              have hcm : w2.cell? ⟨g, o + m * 3, none⟩ = some (.string (ad ls m).name) := by
                obtain ⟨_, _, q, _⟩ := (HJ.out m hml).later hbx hg; exact q
              by_cases he : (ad ls k).name = (ad ls m).name
              · have HF : Hid (attrsOk ls = false) := attrs_no k hlt (attrAt_no2 (hasT_yes (k := m) (by rw [nmsB_len hk]; omega) (by rw [nmsB_at hmk hk]; exact he)))
                have hq : ((ad ls k).name.toList == (ad ls m).name.toList) = true := by rw [← he]; simp
                clear he
                generalize (ad ls k).name = u at q0 hq
                generalize (ad ls m).name = u' at hcm hq
                go_wp2
                go_quiet (fail)
                all_goals go_wp2
                all_goals go_ret
                all_goals exact ⟨by rw [HW.out, HAS.out, HF.out]; rfl, below_drewN (below_drewN hbx _) _⟩
              · have hq : ((ad ls k).name.toList == (ad ls m).name.toList) = false := by
                  rw [beq_eq_false_iff_ne]; exact fun h => he (bytes_eq_iff.1 h)
                have HE' : Hid ((ad ls k).name ≠ (ad ls m).name) := he
                clear he
                generalize hu : (ad ls k).name = u at q0 hq
                generalize hu' : (ad ls m).name = u' at hcm hq
                have HU : Hid ((ad ls k).name = u) := hu
                clear hu hu'
                go_wp2
                go_quiet (fail)
                all_goals go_wp2
                all_goals go_roundw
                case rel =>
                  refine ⟨m + 1, _, by go_num, by omega, ?_, by first | rfl | (simp only [World.drewN_drewN]; rfl)⟩
                  intro j hj
                  rw [← HU.out]
                  by_cases e : j = m
                  · subst e; exact HE'.out
                  · exact HN.out j (by omega)
                case measure => simp [intOf]; omega
            · have HF : Hid (attrAt ls k = true) := attrAt_yes HWK.out (hasT_no fun j hj => by
                have hj' : j < k := by rw [nmsB_len hk] at hj; exact hj
                rw [nmsB_at hj' hk]; exact HN.out j (by omega))
              go_wp2
              go_roundw
              case rel =>
                refine ⟨k + 1, by go_num, by omega, ?_, below_drewN hb3 _⟩
                intro j hj
                by_cases e : j = k
                · subst e; exact HF.out
                · exact HA.out j (by omega)
              case measure => simp [intOf]; omega
      · have HF : Hid (attrsOk ls = true) := attrs_yes fun j hj => HA.out j (by omega)
        go_wp2
        go_ret
        exact ⟨by rw [HW.out, HAS.out, HF.out]; rfl, hbw⟩
end Go.Proofs.Ytfflodcapcamcab
/- How many bins an attribute has, by the specification. -/
namespace Go.Proofs.Ytfflodcapcamcab
open Go.RowKit
set_option maxRecDepth 100000
set_option maxHeartbeats 400000 in
theorem specBins_any (v : Value) (a : AttrD) (w : World) (h : AttrAt w v a) (hn : okA a) :
    Calls Try.prog 44 #[v] w fun e w' => e = .returned (.int .i64 (bins a)) ∧ Below w.heap.size w w' := by
  have c := fun W (hW : Below w.heap.size w W) => specAttrOk_any v a W (h.later hW) hn
  have lc := hn.cuts
  have lv := hn.vals.1
  obtain ⟨vc, vv, rfl, hc, hv⟩ := h
  obtain ⟨oc, cc, rfl, hcc, hcr⟩ := hc
  obtain ⟨ov, cv, rfl, hvc, hvr⟩ := hv
  clear hcr hvr hn
  have HB : Hid (∀ o, Below w.heap.size w (w.alloc o)) := fun o => (Below.refl _ _).alloc (Nat.le_refl _) _
  cases hok : attrOk a with
  | false =>
    have HF : Hid (bins a = 0) := by unfold bins; rw [hok]; rfl
    rw [hok] at c
    clear hok
    go_enter Try.func44, Try.ntmps44
    go_wp2_with fail
    refine (c _ (HB.out _)).mono ?_
    rintro e w1 ⟨rfl, hb1⟩
    go_wp2
    go_ret
    exact ⟨by rw [HF.out]; rfl, (HB.out _).trans (hb1.mono (by simp))⟩
  | true =>
    rw [hok] at c
    have hkind := ok_kind hok
    by_cases h0 : 0 < a.cuts.length
    · have HF : Hid (bins a = a.cuts.length + 1) := by unfold bins; rw [hok, if_pos rfl, if_pos (by omega)]; rfl
      clear hok hkind
      go_enter Try.func44, Try.ntmps44
      go_wp2_with fail
      refine (c _ (HB.out _)).mono ?_
      rintro e w1 ⟨rfl, hb1⟩
      have K := (Blk.new _ _ _).below hb1
      have B1 := (HB.out _).trans (hb1.mono (by simp))
      have k1 : w1.cell? ⟨w.heap.size, 1, none⟩ = some (.slice oc a.cuts.length cc) := K.cell 1
      have k2 : w1.cell? ⟨w.heap.size, 2, none⟩ = some (.slice ov a.vals.length cv) := K.cell 2
      clear c hb1 K
      go_wp2
      go_ret
      exact ⟨by rw [HF.out]; first | rfl | (congr 1; go_num), B1⟩
    · have HF : Hid (bins a = a.vals.length) := by unfold bins; rw [hok, if_pos rfl, if_neg (by omega)]; rfl
      clear hok hkind
      go_enter Try.func44, Try.ntmps44
      go_wp2_with fail
      refine (c _ (HB.out _)).mono ?_
      rintro e w1 ⟨rfl, hb1⟩
      have K := (Blk.new _ _ _).below hb1
      have B1 := (HB.out _).trans (hb1.mono (by simp))
      have k1 : w1.cell? ⟨w.heap.size, 1, none⟩ = some (.slice oc a.cuts.length cc) := K.cell 1
      have k2 : w1.cell? ⟨w.heap.size, 2, none⟩ = some (.slice ov a.vals.length cv) := K.cell 2
      clear c hb1 K
      go_wp2
      go_ret
      exact ⟨by rw [HF.out]; rfl, B1⟩
end Go.Proofs.Ytfflodcapcamcab
