/- Texts of this claim, put together: part 37. -/
import Derived.Test.YteadkdllmeeocaaFnScaledPack6
import Derived.Test.YteadkdllmeeocaaFnScaledPack23
import Derived.Test.YteadkdllmeeocaaFnScaledPack20
import Derived.Test.YteadkdllmeeocaaFnScaledPack14
import Derived.Test.YteadkdllmeeocaaFnScaledPack8
import Derived.Test.YteadkdllmeeocaaFnScaledPack11
import Derived.Test.YteadkdllmeeocaaFnScaledPack19
/- How many branches a question has, by the specification. -/
namespace Go.Proofs.Yteadkdllmeeocaa
open Go.RowKit
set_option maxRecDepth 100000
set_option linter.unusedSimpArgs false
set_option maxHeartbeats 3200000 in
theorem specBranches_any (vs : Value) (s : SchemaD) (f : ForkD) (w : World) (hs : SchemaAt w vs s) (hn : okSch s) :
    Calls Try.prog 18 #[vs, forkV f] w fun e w' => e = .returned (.int .i64 (branches s f)) ∧ Below w.heap.size w w' := by
  unfold forkV
  have HS : Hid (∀ W, Below w.heap.size w W → SchemaAt W vs s) := fun W h => hs.later h
  have HOK : Hid (okSch s) := hn
  obtain ⟨va, vc, rfl, ra, -⟩ := hs
  obtain ⟨oa, ka, rfl, -, -⟩ := id ra
  clear ra hn
  have la := HOK.out.attrs
  obtain ⟨KS, KF, B⟩ := blk_2 33 38 w #[.slice oa s.attrs.length ka, vc] #[.int .i64 f.attr, .int .i64 f.pos]
  have cc := specForkOk_any _ s f _ (HS.out _ B) HOK.out
  unfold forkV at cc
  generalize hW : ((w.alloc (.cells #[.slice oa s.attrs.length ka, vc] 33)).alloc (.cells #[.int .i64 f.attr, .int .i64 f.pos] 38)) = w0 at KS KF B cc
  cases hk : forkOk s f with
  | false =>
    have HE : branches s f = 0 := by unfold branches; rw [hk]; rfl
    rw [hk] at cc
    rw [HE]
    clear hk HE
    go_enter Try.func18, Try.ntmps18
    have kS0 : w0.cell? ⟨w.heap.size, 0, none⟩ = some (.slice oa s.attrs.length ka) := KS.cell 0
    have kS1 : w0.cell? ⟨w.heap.size, 1, none⟩ = some (vc) := KS.cell 1
    have kF0 : w0.cell? ⟨w.heap.size + 1, 0, none⟩ = some (.int .i64 f.attr) := KF.cell 0
    have kF1 : w0.cell? ⟨w.heap.size + 1, 1, none⟩ = some (.int .i64 f.pos) := KF.cell 1
    go_wp2_with fail
    refine cc.mono ?_
    clear cc hW
    clear kS0 kS1 kF0 kF1
    rintro e w1 ⟨rfl, hb⟩
    replace KS := KS.below hb
    replace KF := KF.below hb
    replace B := B.trans (hb.mono B.size)
    go_wp2
    go_ret
    exact ⟨rfl, B⟩
  | true =>
    have HE : branches s f = if f.pos = -1 then bins (forkAttr s f) else 2 := by unfold branches; rw [if_pos hk]
    obtain ⟨-, ⟨k, hfa, hlt, hat⟩, hp0, hp1⟩ := fork_parts hk
    rw [hk] at cc
    rw [HE, hat]
    clear hk HE hp1 hat
    generalize f.attr = fa0 at *
    subst hfa
    by_cases hp : f.pos = -1
    · rw [if_pos hp]
      have hpe : (f.pos == -1) = true := by rw [hp]; rfl
      clear hp hp0
      go_enter Try.func18, Try.ntmps18
      have kS0 : w0.cell? ⟨w.heap.size, 0, none⟩ = some (.slice oa s.attrs.length ka) := KS.cell 0
      have kS1 : w0.cell? ⟨w.heap.size, 1, none⟩ = some (vc) := KS.cell 1
      have kF0 : w0.cell? ⟨w.heap.size + 1, 0, none⟩ = some (.int .i64 (k : Int)) := KF.cell 0
      have kF1 : w0.cell? ⟨w.heap.size + 1, 1, none⟩ = some (.int .i64 f.pos) := KF.cell 1
      go_wp2_with fail
      refine cc.mono ?_
      clear cc hW
      clear kS0 kS1 kF0 kF1
      rintro e w1 ⟨rfl, hb⟩
      replace KS := KS.below hb
      replace KF := KF.below hb
      replace B := B.trans (hb.mono B.size)
      clear hb
      obtain ⟨ga, fa, y1, z1, y2, z2, rfl, hat⟩ := attr_at (HS.out _ B) hlt
      obtain ⟨c0, c1, c2, hA⟩ := hat _ (Below.refl _ _)
      clear hat
      have cB := specBins_any _ _ _ hA (HOK.out.each _ (ad_mem hlt))
      have kS0 : w1.cell? ⟨w.heap.size, 0, none⟩ = some (.slice (some ⟨ga, fa, none⟩) s.attrs.length ka) := KS.cell 0
      have kS1 : w1.cell? ⟨w.heap.size, 1, none⟩ = some (vc) := KS.cell 1
      have kF0 : w1.cell? ⟨w.heap.size + 1, 0, none⟩ = some (.int .i64 (k : Int)) := KF.cell 0
      have kF1 : w1.cell? ⟨w.heap.size + 1, 1, none⟩ = some (.int .i64 f.pos) := KF.cell 1
      go_wp2_with fail
      refine cB.mono ?_
      rintro e w2 ⟨rfl, hb⟩
      go_wp2
      go_ret
      exact ⟨rfl, B.trans (hb.mono B.size)⟩
    · rw [if_neg hp]
      have hpe : (f.pos == -1) = false := by rw [beq_eq_false_iff_ne]; exact hp
      clear hp hp0
      go_enter Try.func18, Try.ntmps18
      have kS0 : w0.cell? ⟨w.heap.size, 0, none⟩ = some (.slice oa s.attrs.length ka) := KS.cell 0
      have kS1 : w0.cell? ⟨w.heap.size, 1, none⟩ = some (vc) := KS.cell 1
      have kF0 : w0.cell? ⟨w.heap.size + 1, 0, none⟩ = some (.int .i64 (k : Int)) := KF.cell 0
      have kF1 : w0.cell? ⟨w.heap.size + 1, 1, none⟩ = some (.int .i64 f.pos) := KF.cell 1
      go_wp2_with fail
      refine cc.mono ?_
      clear cc hW
      clear kS0 kS1 kF0 kF1
      rintro e w1 ⟨rfl, hb⟩
      replace KS := KS.below hb
      replace KF := KF.below hb
      replace B := B.trans (hb.mono B.size)
      clear hb
      have kF0 : w1.cell? ⟨w.heap.size + 1, 0, none⟩ = some (.int .i64 (k : Int)) := KF.cell 0
      have kF1 : w1.cell? ⟨w.heap.size + 1, 1, none⟩ = some (.int .i64 f.pos) := KF.cell 1
      go_wp2
      go_ret
      exact ⟨rfl, B⟩
end Go.Proofs.Yteadkdllmeeocaa
/- Which branch a bin has, by the specification. -/
namespace Go.Proofs.Yteadkdllmeeocaa
open Go.RowKit
set_option maxRecDepth 100000
set_option linter.unusedSimpArgs false
theorem bit_any (on : Bool) (w : World) : Calls Try.prog 65 #[.bool on] w fun e w' => e = .returned (.int .i64 (if on = true then 1 else 0)) ∧ w' = w := by
  cases on with
  | true =>
    go_enter Try.func65, Try.ntmps65
    go_wp2
    go_ret
    exact ⟨rfl, rfl⟩
  | false =>
    go_enter Try.func65, Try.ntmps65
    go_wp2
    go_ret
    exact ⟨rfl, rfl⟩
set_option maxHeartbeats 3200000 in
theorem specBranchOf_any (vs : Value) (s : SchemaD) (f : ForkD) (b : Int) (w : World) (hs : SchemaAt w vs s) (hn : okSch s) :
    Calls Try.prog 43 #[vs, forkV f, .int .i64 b] w fun e w' => e = .returned (.int .i64 (branchOf s f b)) ∧ Below w.heap.size w w' := by
  unfold forkV
  have HS : Hid (∀ W, Below w.heap.size w W → SchemaAt W vs s) := fun W h => hs.later h
  have HOK : Hid (okSch s) := hn
  obtain ⟨va, vc, rfl, ra, -⟩ := hs
  obtain ⟨oa, ka, rfl, -, -⟩ := id ra
  clear ra hn
  have la := HOK.out.attrs
  obtain ⟨KS, KF, B⟩ := blk_2 33 38 w #[.slice oa s.attrs.length ka, vc] #[.int .i64 f.attr, .int .i64 f.pos]
  have cc := specForkOk_any _ s f _ (HS.out _ B) HOK.out
  unfold forkV at cc
  generalize hW : ((w.alloc (.cells #[.slice oa s.attrs.length ka, vc] 33)).alloc (.cells #[.int .i64 f.attr, .int .i64 f.pos] 38)) = w0 at KS KF B cc
  cases hk : forkOk s f with
  | false =>
    have HE : branchOf s f b = -1 := by unfold branchOf; rw [if_neg (by rw [hk]; intro h; cases h.1)]
    rw [hk] at cc
    rw [HE]
    clear hk HE
    go_enter Try.func43, Try.ntmps43
    have kS0 : w0.cell? ⟨w.heap.size, 0, none⟩ = some (.slice oa s.attrs.length ka) := KS.cell 0
    have kS1 : w0.cell? ⟨w.heap.size, 1, none⟩ = some (vc) := KS.cell 1
    have kF0 : w0.cell? ⟨w.heap.size + 1, 0, none⟩ = some (.int .i64 f.attr) := KF.cell 0
    have kF1 : w0.cell? ⟨w.heap.size + 1, 1, none⟩ = some (.int .i64 f.pos) := KF.cell 1
    go_wp2_with fail
    refine cc.mono ?_
    clear cc hW
    clear kS0 kS1 kF0 kF1
    rintro e w1 ⟨rfl, hb⟩
    replace KS := KS.below hb
    replace KF := KF.below hb
    replace B := B.trans (hb.mono B.size)
    go_wp2
    go_ret
    exact ⟨rfl, B⟩
  | true =>
    obtain ⟨-, ⟨k, hfa, hlt, hat⟩, hp0, hp1⟩ := fork_parts hk
    have HE : Hid (branchOf s f b = if 0 ≤ b ∧ b ≤ bins (ad s.attrs k) - 1 then (if f.pos = -1 then b else if 0 < (ad s.attrs k).cuts.length then (if f.pos < b then 1 else 0) else (if b = f.pos then 0 else 1)) else -1) := by
      show _ = _
      unfold branchOf
      rw [hat]
      by_cases hb : 0 ≤ b ∧ b ≤ bins (ad s.attrs k) - 1
      · rw [if_pos ⟨hk, hb⟩, if_pos hb]
      · rw [if_neg fun h => hb h.2, if_neg hb]
    rw [hk] at cc
    clear hk hp1 hat
    generalize branchOf s f b = br at HE ⊢
    generalize f.attr = fa0 at *
    subst hfa
    go_enter Try.func43, Try.ntmps43
    have kS0 : w0.cell? ⟨w.heap.size, 0, none⟩ = some (.slice oa s.attrs.length ka) := KS.cell 0
    have kS1 : w0.cell? ⟨w.heap.size, 1, none⟩ = some (vc) := KS.cell 1
    have kF0 : w0.cell? ⟨w.heap.size + 1, 0, none⟩ = some (.int .i64 (k : Int)) := KF.cell 0
    have kF1 : w0.cell? ⟨w.heap.size + 1, 1, none⟩ = some (.int .i64 f.pos) := KF.cell 1
    go_wp2_with fail
    refine cc.mono ?_
    clear cc hW
    clear kS0 kS1 kF0 kF1
    rintro e w1 ⟨rfl, hb⟩
    replace KS := KS.below hb
    replace KF := KF.below hb
    replace B := B.trans (hb.mono B.size)
    clear hb
    obtain ⟨ga, fa, y1, z1, y2, z2, rfl, hat⟩ := attr_at (HS.out _ B) hlt
    have HAT : Hid _ := hat
    clear hat
    obtain ⟨c0, c1, c2, hA⟩ := HAT.out _ (Below.refl _ _)
    have cB := specBins_any _ _ _ hA (HOK.out.each _ (ad_mem hlt))
    clear hA
    have hb4 := small_bins (ad s.attrs k)
    generalize bins (ad s.attrs k) = nb at cB HE hb4
    have kS0 : w1.cell? ⟨w.heap.size, 0, none⟩ = some (.slice (some ⟨ga, fa, none⟩) s.attrs.length ka) := KS.cell 0
    have kS1 : w1.cell? ⟨w.heap.size, 1, none⟩ = some (vc) := KS.cell 1
    have kF0 : w1.cell? ⟨w.heap.size + 1, 0, none⟩ = some (.int .i64 (k : Int)) := KF.cell 0
    have kF1 : w1.cell? ⟨w.heap.size + 1, 1, none⟩ = some (.int .i64 f.pos) := KF.cell 1
    go_wp2_with fail
    refine cB.mono ?_
    clear cB
    clear kS0 kS1 kF0 kF1
    rintro e w2 ⟨rfl, hb⟩
    have c1 := (HAT.out _ hb).2.1
    clear c0 c2 HAT
    replace KS := KS.below hb
    replace KF := KF.below hb
    replace B := B.trans (hb.mono B.size)
    clear hb
    have cI := in_any b 0 (nb - 1) w2
    have kS0 : w2.cell? ⟨w.heap.size, 0, none⟩ = some (.slice (some ⟨ga, fa, none⟩) s.attrs.length ka) := KS.cell 0
    have kS1 : w2.cell? ⟨w.heap.size, 1, none⟩ = some (vc) := KS.cell 1
    have kF0 : w2.cell? ⟨w.heap.size + 1, 0, none⟩ = some (.int .i64 (k : Int)) := KF.cell 0
    have kF1 : w2.cell? ⟨w.heap.size + 1, 1, none⟩ = some (.int .i64 f.pos) := KF.cell 1
    go_wp2_with fail
    refine cI.mono ?_
    clear cI
    rintro e w3 ⟨rfl, e3⟩
    rw [e3]
    clear e3 w3
    by_cases hb : 0 ≤ b ∧ b ≤ nb - 1
    rotate_left
    · have hbd : decide (0 ≤ b ∧ b ≤ nb - 1) = false := decide_eq_false hb
      have HE2 : Hid (br = -1) := by show _ = _; rw [HE.out, if_neg hb]
      clear HE
      rw [hbd]
      go_wp2
      go_ret
      exact ⟨by rw [HE2.out]; rfl, B⟩
    have hbd : decide (0 ≤ b ∧ b ≤ nb - 1) = true := decide_eq_true hb
    rw [hbd]
    clear hbd
    by_cases hp : f.pos = -1
    · have HE2 : Hid (br = b) := by show _ = _; rw [HE.out, if_pos hb, if_pos hp]
      have hpe : (f.pos == -1) = true := by rw [hp]; rfl
      clear HE hb
      go_wp2
      go_ret
      exact ⟨by rw [HE2.out]; rfl, B⟩
    have hpe : (f.pos == -1) = false := by rw [beq_eq_false_iff_ne]; exact hp
    by_cases hc : 0 < (ad s.attrs k).cuts.length
    · have hci : (0 : Int) < ((ad s.attrs k).cuts.length : Int) := by omega
      by_cases h : f.pos < b
      · have HE2 : Hid (br = 1) := by show _ = _; rw [HE.out, if_pos hb, if_neg hp, if_pos hc, if_pos h]
        have hq : f.pos < b := h
        have cT := bit_any true w2
        clear HE hb
        go_wp2_with fail
        refine cT.mono ?_
        rintro e w4 ⟨rfl, e4⟩
        rw [e4]
        go_wp2
        go_ret
        exact ⟨by rw [HE2.out]; rfl, B⟩
      · have HE2 : Hid (br = 0) := by show _ = _; rw [HE.out, if_pos hb, if_neg hp, if_pos hc, if_neg h]
        have hq : ¬ f.pos < b := h
        have cT := bit_any (decide (f.pos < b)) w2
        clear HE hb
        go_wp2_with fail
        refine cT.mono ?_
        rintro e w4 ⟨rfl, e4⟩
        rw [e4, decide_eq_false (show ¬ f.pos < b by omega)]
        go_wp2
        go_ret
        exact ⟨by rw [HE2.out]; rfl, B⟩
    · have hci : ¬ (0 : Int) < ((ad s.attrs k).cuts.length : Int) := by omega
      by_cases h : b = f.pos
      · have HE2 : Hid (br = 0) := by show _ = _; rw [HE.out, if_pos hb, if_neg hp, if_neg hc, if_pos h]
        have hq : (b != f.pos) = false := by simp [h]
        have cT := bit_any false w2
        clear HE hb
        go_wp2_with fail
        refine cT.mono ?_
        rintro e w4 ⟨rfl, e4⟩
        rw [e4]
        go_wp2
        go_ret
        exact ⟨by rw [HE2.out]; rfl, B⟩
      · have HE2 : Hid (br = 1) := by show _ = _; rw [HE.out, if_pos hb, if_neg hp, if_neg hc, if_neg h]
        have hq : (b != f.pos) = true := bne_iff_ne.2 h
        have cT := bit_any true w2
        clear HE hb
        go_wp2_with fail
        refine cT.mono ?_
        rintro e w4 ⟨rfl, e4⟩
        rw [e4]
        go_wp2
        go_ret
        exact ⟨by rw [HE2.out]; rfl, B⟩
end Go.Proofs.Yteadkdllmeeocaa
/- What a branch has of each class, in plain words: bin by bin. -/
namespace Go.Proofs.Yteadkdllmeeocaa
open Go.RowKit
set_option maxRecDepth 100000
theorem bin_place {m b k : Nat} (hk : k < m) : (b * m + k) % m = k ∧ (b * m + k) / m = b := by
  refine ⟨?_, ?_⟩
  · rw [Nat.mul_comm, Nat.mul_add_mod]; exact Nat.mod_eq_of_lt hk
  · rw [Nat.mul_comm, Nat.mul_add_div (by omega), Nat.div_eq_of_lt hk]; omega
theorem curL_step {s : SchemaD} {f : ForkD} {i : Int} {c : List Int} {m b k : Nat} (hk : k < m) (hb : branchOf s f (b : Int) = i) : curL s f i c m (b * m + (k + 1)) = (curL s f i c m (b * m + k)).set k (plSum s f i c m k (b * m + k) + c.getD (b * m + k) 0) := by
  obtain ⟨h1, h2⟩ := bin_place (b := b) hk
  have h := curL_hit (s := s) (f := f) (i := i) (c := c) (m := m) (p := b * m + k) (by omega) (by rw [h2]; exact hb)
  rw [h1] at h
  exact h
theorem curL_skip {s : SchemaD} {f : ForkD} {i : Int} {c : List Int} {m b : Nat} (_hm : 0 < m) (hb : branchOf s f (b : Int) ≠ i) : curL s f i c m ((b + 1) * m) = curL s f i c m (b * m) := by
  have h : ∀ r, r ≤ m → curL s f i c m (b * m + r) = curL s f i c m (b * m) := by
    intro r
    induction r with
    | zero => intro _; rfl
    | succ r ih =>
      intro hr
      obtain ⟨-, h2⟩ := bin_place (b := b) (show r < m by omega)
      have h3 := curL_miss (s := s) (f := f) (i := i) (c := c) (m := m) (p := b * m + r) (by rw [h2]; exact hb)
      rw [← Nat.add_assoc, h3]
      exact ih (by omega)
  rw [Nat.succ_mul]
  exact h m (Nat.le_refl _)
theorem branches_le {s : SchemaD} {f : ForkD} (_h : forkOk s f = true) : 0 ≤ branches s f ∧ branches s f ≤ 4 := by
  have := small_bins (forkAttr s f)
  unfold branches
  split <;> split <;> omega
end Go.Proofs.Yteadkdllmeeocaa
/- What a branch has of each class, by the specification. -/
namespace Go.Proofs.Yteadkdllmeeocaa
open Go.RowKit
set_option maxRecDepth 100000
set_option linter.unusedSimpArgs false
theorem totals_noneS {s : SchemaD} {t : StatsD} {f : ForkD} {i : Int} (h : totalsOk s t f i = false) : branchTotals s t f i = [] := by unfold branchTotals; rw [if_neg (by rw [h]; exact Bool.false_ne_true)]
set_option maxHeartbeats 6400000 in
theorem specBranchTotals_any (vs vt : Value) (s : SchemaD) (t : StatsD) (f : ForkD) (i : Int) (w : World) (hs : SchemaAt w vs s) (ht : StatsAt w vt t) (hn : okSch s) (hb : okSt t) :
    Calls Try.prog 19 #[vs, vt, forkV f, .int .i64 i] w fun e w' => ∃ v, e = .returned v ∧ OwnI w w' v (branchTotals s t f i) := by
  unfold forkV
  have mixed : Try.prog.follows .mixedOrders = true := by kernel_rfl
  have HS : Hid (∀ W, Below w.heap.size w W → SchemaAt W vs s) := fun W h => hs.later h
  have HT : Hid (∀ W, Below w.heap.size w W → StatsAt W vt t) := fun W h => ht.later h
  have HOK : Hid (okSch s) := hn
  have HOT : Hid (okSt t) := hb
  have HFOK : Hid (∀ W, Below w.heap.size w W → Calls Try.prog 17 #[vs, .agg #[.int .i64 f.attr, .int .i64 f.pos]] W fun e w' => e = .returned (.bool (forkOk s f)) ∧ Below W.heap.size W w') := fun W hW => specForkOk_any vs s f W (hs.later hW) hn
  have HBRS : Hid (∀ W, Below w.heap.size w W → Calls Try.prog 18 #[vs, .agg #[.int .i64 f.attr, .int .i64 f.pos]] W fun e w' => e = .returned (.int .i64 (branches s f)) ∧ Below W.heap.size W w') := fun W hW => specBranches_any vs s f W (hs.later hW) hn
  have HBOF : Hid (∀ (b : Int) W, Below w.heap.size w W → Calls Try.prog 43 #[vs, .agg #[.int .i64 f.attr, .int .i64 f.pos], .int .i64 b] W fun e w' => e = .returned (.int .i64 (branchOf s f b)) ∧ Below W.heap.size W w') := fun b W hW => specBranchOf_any vs s f b W (hs.later hW) hn
  obtain ⟨va, vc, rfl, ra, rc⟩ := hs
  obtain ⟨oa, ka, rfl, -, -⟩ := id ra
  obtain ⟨oc, kc, rfl, -, -⟩ := id rc
  obtain ⟨vx, vy, rfl, rx, ry⟩ := ht
  obtain ⟨ox, kx, rfl, -, -⟩ := id rx
  obtain ⟨oy, ky, rfl, -, -⟩ := id ry
  clear ra rc rx ry
  have la := hn.attrs
  have ly := hb.cells
  clear hn hb
  obtain ⟨KS, KT, KF, B⟩ := blk_3 33 36 38 w #[.slice oa s.attrs.length ka, .slice oc s.classes.length kc] #[.slice ox t.totals.length kx, .slice oy t.cells.length ky] #[.int .i64 f.attr, .int .i64 f.pos]
  go_enter Try.func19, Try.ntmps19
  have cc := specStatsOk_any _ _ s t _ (HS.out _ B) (HT.out _ B) HOK.out HOT.out
  have kS0 : (((w.alloc (.cells #[.slice oa s.attrs.length ka, .slice oc s.classes.length kc] 33)).alloc (.cells #[.slice ox t.totals.length kx, .slice oy t.cells.length ky] 36)).alloc (.cells #[.int .i64 f.attr, .int .i64 f.pos] 38)).cell? ⟨w.heap.size, 0, none⟩ = some (.slice oa s.attrs.length ka) := KS.cell 0
  have kS1 : (((w.alloc (.cells #[.slice oa s.attrs.length ka, .slice oc s.classes.length kc] 33)).alloc (.cells #[.slice ox t.totals.length kx, .slice oy t.cells.length ky] 36)).alloc (.cells #[.int .i64 f.attr, .int .i64 f.pos] 38)).cell? ⟨w.heap.size, 1, none⟩ = some (.slice oc s.classes.length kc) := KS.cell 1
  have kT0 : (((w.alloc (.cells #[.slice oa s.attrs.length ka, .slice oc s.classes.length kc] 33)).alloc (.cells #[.slice ox t.totals.length kx, .slice oy t.cells.length ky] 36)).alloc (.cells #[.int .i64 f.attr, .int .i64 f.pos] 38)).cell? ⟨w.heap.size + 1, 0, none⟩ = some (.slice ox t.totals.length kx) := KT.cell 0
  have kT1 : (((w.alloc (.cells #[.slice oa s.attrs.length ka, .slice oc s.classes.length kc] 33)).alloc (.cells #[.slice ox t.totals.length kx, .slice oy t.cells.length ky] 36)).alloc (.cells #[.int .i64 f.attr, .int .i64 f.pos] 38)).cell? ⟨w.heap.size + 1, 1, none⟩ = some (.slice oy t.cells.length ky) := KT.cell 1
  go_wp2_with fail
  refine cc.mono ?_
  clear cc
  clear kS0 kS1 kT0 kT1
  rintro e w1 ⟨rfl, hb⟩
  replace KS := KS.below hb
  replace KT := KT.below hb
  replace KF := KF.below hb
  replace B := B.trans (hb.mono B.size)
  clear hb
  cases hk : statsOk s t with
  | false =>
    have HE : Hid (branchTotals s t f i = []) := totals_noneS (by unfold totalsOk; rw [hk]; rfl)
    go_wp2
    go_ret
    exact ⟨_, rfl, by rw [HE.out]; exact ownI_lit0 _ _ B.size, B.alloc B.size _⟩
  | true =>
    have HST : Hid (statsOk s t = true) := hk
    clear hk
    by_cases h0 : t.cells.length = 0
    ·
      have HE : Hid (branchTotals s t f i = []) := totals_noneS (by unfold totalsOk; rw [decide_eq_false (fun h => h h0)]; simp)
      have hq : ((t.cells.length : Int) == 0) = true := by rw [h0]; rfl
      have kT0 : w1.cell? ⟨w.heap.size + 1, 0, none⟩ = some (.slice ox t.totals.length kx) := KT.cell 0
      have kT1 : w1.cell? ⟨w.heap.size + 1, 1, none⟩ = some (.slice oy t.cells.length ky) := KT.cell 1
      go_wp2
      go_ret
      exact ⟨_, rfl, by rw [HE.out]; exact ownI_lit0 _ _ B.size, B.alloc B.size _⟩
    have hq : ((t.cells.length : Int) == 0) = false := by rw [beq_eq_false_iff_ne]; omega
    have HN0 : Hid (t.cells.length ≠ 0) := h0
    clear h0
    have cc := HFOK.out _ B
    have kS0 : w1.cell? ⟨w.heap.size, 0, none⟩ = some (.slice oa s.attrs.length ka) := KS.cell 0
    have kS1 : w1.cell? ⟨w.heap.size, 1, none⟩ = some (.slice oc s.classes.length kc) := KS.cell 1
    have kT0 : w1.cell? ⟨w.heap.size + 1, 0, none⟩ = some (.slice ox t.totals.length kx) := KT.cell 0
    have kT1 : w1.cell? ⟨w.heap.size + 1, 1, none⟩ = some (.slice oy t.cells.length ky) := KT.cell 1
    have kF0 : w1.cell? ⟨w.heap.size + 1 + 1, 0, none⟩ = some (.int .i64 f.attr) := KF.cell 0
    have kF1 : w1.cell? ⟨w.heap.size + 1 + 1, 1, none⟩ = some (.int .i64 f.pos) := KF.cell 1
    go_wp2_with fail
    refine cc.mono ?_
    clear cc
    clear kS0 kS1 kT0 kT1 kF0 kF1
    rintro e w2 ⟨rfl, hb⟩
    replace KS := KS.below hb
    replace KT := KT.below hb
    replace KF := KF.below hb
    replace B := B.trans (hb.mono B.size)
    clear hb
    cases hk : forkOk s f with
    | false =>
      have HE : Hid (branchTotals s t f i = []) := totals_noneS (by unfold totalsOk; rw [hk]; simp)
      go_wp2
      go_ret
      exact ⟨_, rfl, by rw [HE.out]; exact ownI_lit0 _ _ B.size, B.alloc B.size _⟩
    | true =>
      have HQ : Hid (forkOk s f = true) := hk
      clear hk
      have cc := HBRS.out _ B
      obtain ⟨nb, hnb⟩ : ∃ nb, branches s f = nb := ⟨_, rfl⟩
      rw [hnb] at cc
      have HNB : Hid (branches s f = nb) := hnb
      have hnbl : 0 ≤ nb ∧ nb ≤ 4 := by rw [← hnb]; exact branches_le HQ.out
      clear hnb
      have kS0 : w2.cell? ⟨w.heap.size, 0, none⟩ = some (.slice oa s.attrs.length ka) := KS.cell 0
      have kS1 : w2.cell? ⟨w.heap.size, 1, none⟩ = some (.slice oc s.classes.length kc) := KS.cell 1
      have kF0 : w2.cell? ⟨w.heap.size + 1 + 1, 0, none⟩ = some (.int .i64 f.attr) := KF.cell 0
      have kF1 : w2.cell? ⟨w.heap.size + 1 + 1, 1, none⟩ = some (.int .i64 f.pos) := KF.cell 1
      go_wp2_with fail
      refine cc.mono ?_
      clear cc
      clear kS0 kS1 kF0 kF1
      rintro e w3 ⟨rfl, hb⟩
      replace KS := KS.below hb
      replace KT := KT.below hb
      replace KF := KF.below hb
      replace B := B.trans (hb.mono B.size)
      clear hb
      have cc := in_any i 0 (nb - 1) w3
      go_wp2_with fail
      refine cc.mono ?_
      clear cc
      rintro e w9 ⟨rfl, e9⟩
      rw [e9]
      clear e9 w9
      by_cases hi : 0 ≤ i ∧ i ≤ nb - 1
      rotate_left
      ·
        have HE : Hid (branchTotals s t f i = []) := totals_noneS (by unfold totalsOk; rw [HNB.out, decide_eq_false hi]; simp)
        rw [decide_eq_false hi]
        go_wp2
        go_ret
        exact ⟨_, rfl, by rw [HE.out]; exact ownI_lit0 _ _ B.size, B.alloc B.size _⟩
      rw [decide_eq_true hi]
      have HTO : totalsOk s t f i = true := by
        unfold totalsOk
        rw [HST.out, decide_eq_true HN0.out, HQ.out, HNB.out, decide_eq_true hi]; rfl
      obtain ⟨-, ⟨a, hfa, hal, hat⟩, -, -⟩ := fork_parts HQ.out
      obtain ⟨hac, hlen, hcol⟩ := cells_right HST.out HN0.out hal
      have hm := sch_classes (statsOk_parts HST.out).1
      have hn4 := small_bins (ad s.attrs a)
      have HRES : Hid (branchTotals s t f i = curL s f i (il t.cells a) s.classes.length ((bins (ad s.attrs a)).toNat * s.classes.length)) := by show _ = _; rw [curL_all HTO, hat, hfa]; rfl
      obtain ⟨m, hmm⟩ : ∃ m, s.classes.length = m := ⟨_, rfl⟩
      obtain ⟨n, hnn⟩ : ∃ n, (bins (ad s.attrs a)).toNat = n := ⟨_, rfl⟩
      have HBN : Hid (bins (ad s.attrs a) = (n : Int)) := by show _ = _; omega
      have hn5 : n ≤ 4 := by omega
      rw [hmm, hnn] at hcol hlen HRES
      rw [hmm] at hm
      have HCOL : Hid (∀ b k, b < n → k < m → inW (colAt (il t.cells a) m k b) = true) := hcol
      clear hcol hnn hn4 hi HTO hat hnbl
      obtain ⟨c, hc⟩ : ∃ c, il t.cells a = c := ⟨_, rfl⟩
      rw [hc] at hlen HRES HCOL
      have hnm : n * m ≤ 12 := by have := Nat.mul_le_mul hn5 hm.2; omega
      have HCC : Hid (il t.cells a = c) := hc
      have HMM : Hid (s.classes.length = m) := hmm
      rw [hmm] at KS
      have hlow := KF.lt
      clear hmm hc
      have kS1 : w3.cell? ⟨w.heap.size, 1, none⟩ = some (.slice oc m kc) := KS.cell 1
      have hsz := B.size
      go_wp2_with (at_make; refine wpList_make_ints rfl _ rfl w3.heap.size m _ rfl rfl (by omega) (Nat.le_refl _) ?_)
      intro w6 hown hg
      clear kS1
      have bM : Below w3.heap.size w3 w6 := (Below.refl _ _).grown hg (Nat.le_refl _) (fun k hk => by cases hk)
      clear hg
      rw [hfa] at KF
      have HK : Hid (∀ W, Below w3.heap.size w3 W → Blk 33 W w.heap.size #[.slice oa s.attrs.length ka, .slice oc m kc] ∧ Blk 36 W (w.heap.size + 1) #[.slice ox t.totals.length kx, .slice oy t.cells.length ky] ∧ Blk 38 W (w.heap.size + 1 + 1) #[.int .i64 (a : Int), .int .i64 f.pos]) := fun W h => ⟨KS.below h, KT.below h, KF.below h⟩
      have HB5 : Hid (Below w.heap.size w w3) := B
      clear KS KT KF B
      have HBOF2 : Hid (∀ (b : Int) W, Below w.heap.size w W → Calls Try.prog 43 #[.agg #[.slice oa s.attrs.length ka, .slice oc m kc], .agg #[.int .i64 (a : Int), .int .i64 f.pos], .int .i64 b] W fun e w' => e = .returned (.int .i64 (branchOf s f b)) ∧ Below W.heap.size W w') := fun b W h => by have := HBOF.out b W h; rwa [hfa, HMM.out] at this
      obtain ⟨vx', vy', e', -, ry⟩ := HT.out w (Below.refl _ _)
      cases e'
      obtain ⟨oy', ky', e', -, hry⟩ := ry
      cases e'
      obtain ⟨gy, fy, rfl, hgy, hjy⟩ := hry (by omega)
      obtain ⟨u, hcu, hru⟩ := hjy a hac
      rw [HCC.out] at hru
      obtain ⟨og, kg, rfl, -, hrr⟩ := hru
      have HSA : Hid (∀ W, Below w.heap.size w W → SchemaAt W (.agg #[.slice oa s.attrs.length ka, .slice oc s.classes.length kc]) s) := HS
      have HCJ : Hid (∀ j, j < c.length → ∃ gb ob, og = some ⟨gb, ob, none⟩ ∧ ∀ W, Below w.heap.size w W → W.cell? ⟨gb, ob + j, none⟩ = some (.int .i64 (c.getD j 0))) := fun j hj => by
        obtain ⟨gb, ob, rfl, hgb, hjc⟩ := hrr (by omega)
        exact ⟨gb, ob, rfl, fun W h => (h.cell (p := ⟨gb, ob + j, none⟩) hgb).trans (hjc j hj)⟩
      have HCU : Hid (∀ W, Below w.heap.size w W → W.cell? ⟨gy, fy + a, none⟩ = some (.slice og c.length kg)) := fun W h => (h.cell (p := ⟨gy, fy + a, none⟩) hgy).trans hcu
      clear hjy hry hrr hcu HS HBOF HFOK HBRS HT hfa
      replace hown : w6.ownsRow w3.heap.size 3 1 (.slice (some ⟨w3.heap.size, 0, none⟩) m m) m ((curL s f i c m (0 * m)).map (Value.int .i64)) := by rw [Nat.zero_mul, curL_zero, List.map_replicate]; exact hown
      generalize hgo : w3.heap.size = go at hown ⊢
      have HGO : Hid (w3.heap.size = go) := hgo
      have hgw : w.heap.size + 1 + 1 < go := by rw [← hgo]; exact hlow
      clear hgo
      go_wp2
      go_loopw [10] (fun idx wr => ∃ b : Nat, idx = .int .i64 b ∧ b ≤ n ∧ wr.ownsRow go 3 1 (.slice (some ⟨go, 0, none⟩) m m) m ((curL s f i c m (b * m)).map (Value.int .i64)) ∧ Hid (Below w3.heap.size w3 wr)) (fun idx _ => n - (intOf idx).toNat)
      case atStart => exact ⟨0, rfl, by omega, hown, bM⟩
      case round =>
        clear hown bM
        obtain ⟨b, rfl, hbn, hown, HBR⟩ := hrel
        have hbr := HBR.out
        have B := HB5.out.trans (hbr.mono hsz)
        obtain ⟨ga, fa, y1, z1, y2, z2, rfl, hat⟩ := attr_at (HSA.out wr B) hal
        have HAT : Hid _ := hat
        obtain ⟨c0, c1, c2, hA⟩ := hat _ (Below.refl _ _)
        clear hat
        have cc := specBins_any _ _ _ hA (HOK.out.each _ (ad_mem hal))
        rw [HBN.out] at cc
        have kS0 : wr.cell? ⟨w.heap.size, 0, none⟩ = some (.slice (some ⟨ga, fa, none⟩) s.attrs.length ka) := (HK.out _ hbr).1.cell 0
        have kF0 : wr.cell? ⟨w.heap.size + 1 + 1, 0, none⟩ = some (.int .i64 (a : Int)) := (HK.out _ hbr).2.2.cell 0
        go_wp2_with fail
        refine cc.mono ?_
        clear cc kS0 kF0 c0 c1 c2 hA
        rintro e w7 ⟨rfl, hb⟩
        replace hown := own_below hown hb
        replace hbr := hbr.trans (hb.mono hbr.size)
        replace B := B.trans (hb.mono B.size)
        clear hb
        by_cases hlt : b < n
        rotate_left
        · obtain rfl : b = n := by omega
          go_wp2
          go_ret
          exact ⟨_, rfl, by rw [HRES.out, curL_len]; exact own_base hown (by rw [← HGO.out]; exact hsz), B⟩
        have cc := HBOF2.out (b : Int) w7 B
        have HSKIP : Hid (branchOf s f (b : Int) ≠ i → curL s f i c m ((b + 1) * m) = curL s f i c m (b * m)) := fun h => curL_skip (by omega) h
        have HHIT : Hid (branchOf s f (b : Int) = i → ∀ k, k < m → curL s f i c m (b * m + (k + 1)) = (curL s f i c m (b * m + k)).set k (plSum s f i c m k (b * m + k) + c.getD (b * m + k) 0)) := fun h k hk => curL_step hk h
        generalize branchOf s f (b : Int) = y at cc HSKIP HHIT
        have kS0 : w7.cell? ⟨w.heap.size, 0, none⟩ = some (.slice (some ⟨ga, fa, none⟩) s.attrs.length ka) := (HK.out _ hbr).1.cell 0
        have kS1 : w7.cell? ⟨w.heap.size, 1, none⟩ = some (.slice oc m kc) := (HK.out _ hbr).1.cell 1
        have kF0 : w7.cell? ⟨w.heap.size + 1 + 1, 0, none⟩ = some (.int .i64 (a : Int)) := (HK.out _ hbr).2.2.cell 0
        have kF1 : w7.cell? ⟨w.heap.size + 1 + 1, 1, none⟩ = some (.int .i64 f.pos) := (HK.out _ hbr).2.2.cell 1
        go_wp2_with fail
        refine cc.mono ?_
        clear cc kS0 kS1 kF0 kF1
        rintro e w8 ⟨rfl, hb⟩
        replace hown := own_below hown hb
        replace hbr := hbr.trans (hb.mono hbr.size)
        clear hb B
        by_cases hyi : y = i
        rotate_left
        · have hq2 : (y == i) = false := by rw [beq_eq_false_iff_ne]; exact hyi
          have HNX := HSKIP.out hyi
          have HNXT : Hid (curL s f i c m ((b + 1) * m) = curL s f i c m (b * m)) := HNX
          clear HNX hyi HHIT HSKIP
          go_wp2
          go_roundw
          case rel =>
            refine ⟨b + 1, by go_num, by omega, ?_, hbr⟩
            rw [HNXT.out]
            exact hown
          case measure => simp [intOf]; omega
        have hq2 : (y == i) = true := by rw [hyi]; exact beq_self_eq_true i
        have HHT : Hid (∀ k, k < m → curL s f i c m (b * m + (k + 1)) = (curL s f i c m (b * m + k)).set k (plSum s f i c m k (b * m + k) + c.getD (b * m + k) 0)) := HHIT.out hyi
        clear hyi HHIT HSKIP
        go_wp2
        go_loopw [11] (fun idx wr => ∃ k : Nat, idx = .int .i64 k ∧ k ≤ m ∧ wr.ownsRow go 3 1 (.slice (some ⟨go, 0, none⟩) m m) m ((curL s f i c m (b * m + k)).map (Value.int .i64)) ∧ Hid (Below w3.heap.size w3 wr)) (fun idx _ => m - (intOf idx).toNat)
        case atStart => exact ⟨0, rfl, by omega, hown, hbr⟩
        case round =>
          clear hown hbr
          obtain ⟨k, rfl, hkm, hown, HBR2⟩ := hrel
          have hbr := HBR2.out
          by_cases hkt : k < m
          rotate_left
          · obtain rfl : k = m := by omega
            go_wp2
            go_roundw
            case rel =>
              refine ⟨b + 1, by go_num, by omega, ?_, hbr⟩
              rw [Nat.succ_mul]
              exact hown
            case measure => simp [intOf]; omega
          have hpl : b * m + k < n * m := by have := Nat.mul_le_mul_right m (show b + 1 ≤ n by omega); rw [Nat.succ_mul] at this; omega
          have HQM : Hid ((b : Int) * (m : Int) = ((b * m : Nat) : Int)) := (Int.natCast_mul _ _).symm
          have hbm2 : b * m ≤ 12 := by omega
          have hx := place_col (show 0 < m by omega) hpl HCOL.out
          have hz := plSum_le (s := s) (f := f) (i := i) (k := k) (show 0 < m by omega) HCOL.out (b * m + k) (by omega)
          have HN := HHT.out k hkt
          have HNXT : Hid (curL s f i c m (b * m + (k + 1)) = (curL s f i c m (b * m + k)).set k (plSum s f i c m k (b * m + k) + c.getD (b * m + k) 0)) := HN
          have HVAT : Hid ((curL s f i c m (b * m + k)).getD k 0 = plSum s f i c m k (b * m + k)) := curL_at hkt
          obtain ⟨gb, ob, rfl, hcx⟩ := HCJ.out (b * m + k) (by omega)
          clear HN
          generalize plSum s f i c m k (b * m + k) = z at hz HNXT HVAT
          have bd : Below wr.heap.size wr wr.drew := below_drewN (Below.refl _ _) 1
          replace hown := own_below hown bd
          replace hbr := hbr.trans (bd.mono hbr.size)
          have B := HB5.out.trans (hbr.mono hsz)
          have kcx := hcx _ B
          have ku := HCU.out _ B
          obtain ⟨KS, KT, KF⟩ := HK.out _ hbr
          have hrl : k < (curL s f i c m (b * m + k)).length := by rw [curL_len]; exact hkt
          have hcO : wr.drew.cell? ⟨go, k, none⟩ = some (.int .i64 z) := by rw [hown.cellAt k (by omega), getD_mapI _ k hrl, HVAT.out]
          have hfO : wr.drew.frozen? ⟨go, k, none⟩ = false := hown.frozenAt k
          have hst := hown.stored k (.int .i64 (z + c.getD (b * m + k) 0))
          generalize c.getD (b * m + k) 0 = x at hx kcx HNXT hst
          clear hcx bd hrl B hown
          obtain ⟨q, hqe⟩ : ∃ q, b * m = q := ⟨_, rfl⟩
          rw [hqe] at HQM hbm2 kcx hpl
          obtain ⟨jj, hje⟩ : ∃ jj, q + k = jj := ⟨_, rfl⟩
          have HJJ : Hid ((q : Int) + (k : Int) = (jj : Int)) := by show _ = _; omega
          have hjl : jj < c.length ∧ jj ≤ 12 := by omega
          rw [hje] at kcx
          have HWR : Hid (IntKind.i64.wrap ((b : Int) * (m : Int)) = (q : Int)) := by show _ = _; rw [HQM.out, IntKind.wrap_i64]; omega
          have hq0 : 0 ≤ (b : Int) * (m : Int) ∧ (b : Int) * (m : Int) ≤ 12 := by rw [HQM.out]; omega
          clear hqe hje hpl
          go_wp2_with fail
          refine region_L (S := fun w' => Blk 33 w' w.heap.size #[.slice (some ⟨ga, fa, none⟩) s.attrs.length ka, .slice oc m kc] ∧ Blk 36 w' (w.heap.size + 1) #[.slice ox t.totals.length kx, .slice (some ⟨gy, fy, none⟩) t.cells.length ky] ∧ Blk 38 w' (w.heap.size + 1 + 1) #[.int .i64 (a : Int), .int .i64 f.pos] ∧ w'.cell? ⟨gy, fy + a, none⟩ = some (.slice (some ⟨gb, ob, none⟩) c.length kg) ∧ w'.cell? ⟨gb, ob + jj, none⟩ = some (.int .i64 x) ∧ w'.cell? ⟨go, k, none⟩ = some (.int .i64 z)) (last := 23) mixed ?_
          have hS : Blk 33 wr.drew w.heap.size #[.slice (some ⟨ga, fa, none⟩) s.attrs.length ka, .slice oc m kc] ∧ Blk 36 wr.drew (w.heap.size + 1) #[.slice ox t.totals.length kx, .slice (some ⟨gy, fy, none⟩) t.cells.length ky] ∧ Blk 38 wr.drew (w.heap.size + 1 + 1) #[.int .i64 (a : Int), .int .i64 f.pos] ∧ wr.drew.cell? ⟨gy, fy + a, none⟩ = some (.slice (some ⟨gb, ob, none⟩) c.length kg) ∧ wr.drew.cell? ⟨gb, ob + jj, none⟩ = some (.int .i64 x) ∧ wr.drew.cell? ⟨go, k, none⟩ = some (.int .i64 z) := ⟨KS, KT, KF, ku, kcx, hcO⟩
          clear KS KT KF ku kcx hcO
          generalize wr.drew = w3 at hbr hfO hst hS ⊢
          refine firstL 0 (.slice (some ⟨go, 0, none⟩) m m) rfl (by kernel_rfl) (by kernel_rfl) (by kernel_rfl) (fun _ _ _ h => h) (by kernel_rfl) (.inl ⟨by rfl, fun w _ => by rfl⟩) hS ?_
          try simp only [Act.put, List.setIfInBounds_toArray, List.set_cons_zero, List.set_cons_succ]
          refine firstL 1 (.int .i64 ((k : Int))) rfl (by kernel_rfl) (by kernel_rfl) (by kernel_rfl) (fun _ _ _ h => h) (by kernel_rfl) (.inl ⟨by rfl, fun w _ => by rfl⟩) hS ?_
          try simp only [Act.put, List.setIfInBounds_toArray, List.set_cons_zero, List.set_cons_succ]
          refine firstL 2 (.slice (some ⟨go, 0, none⟩) m m) rfl (by kernel_rfl) (by kernel_rfl) (by kernel_rfl) (fun _ _ _ h => h) (by kernel_rfl) (.inl ⟨by rfl, fun w _ => by rfl⟩) hS ?_
          try simp only [Act.put, List.setIfInBounds_toArray, List.set_cons_zero, List.set_cons_succ]
          refine firstL 3 (.int .i64 ((k : Int))) rfl (by kernel_rfl) (by kernel_rfl) (by kernel_rfl) (fun _ _ _ h => h) (by kernel_rfl) (.inl ⟨by rfl, fun w _ => by rfl⟩) hS ?_
          try simp only [Act.put, List.setIfInBounds_toArray, List.set_cons_zero, List.set_cons_succ]
          refine firstL 4 (.pointer (some ⟨go, k, none⟩)) rfl (by kernel_rfl) (by kernel_rfl) (by kernel_rfl) (fun _ _ _ h => h) (by kernel_rfl) (.inl ⟨by rfl, fun w hw => by (unfold execOp; go_simp; all_goals omega)⟩) hS ?_
          try simp only [Act.put, List.setIfInBounds_toArray, List.set_cons_zero, List.set_cons_succ]
          refine firstL 5 (.int .i64 z) rfl (by kernel_rfl) (by kernel_rfl) (by kernel_rfl) (fun _ _ _ h => h) (by kernel_rfl) (.inl ⟨by rfl, fun w hw => by (have h0 := hw.2.2.2.2.2; unfold execOp; go_simp)⟩) hS ?_
          try simp only [Act.put, List.setIfInBounds_toArray, List.set_cons_zero, List.set_cons_succ]
          refine firstL 6 (.pointer (some ⟨w.heap.size + 1, 1, none⟩)) rfl (by kernel_rfl) (by kernel_rfl) (by kernel_rfl) (fun _ _ _ h => h) (by kernel_rfl) (.inl ⟨by rfl, fun w hw => by (unfold execOp; go_simp)⟩) hS ?_
          try simp only [Act.put, List.setIfInBounds_toArray, List.set_cons_zero, List.set_cons_succ]
          refine firstL 7 (.slice (some ⟨gy, fy, none⟩) t.cells.length ky) rfl (by kernel_rfl) (by kernel_rfl) (by kernel_rfl) (fun _ _ _ h => h) (by kernel_rfl) (.inl ⟨by rfl, fun w hw => by (have h0 := (hw.2.1).cell 1; unfold execOp; go_simp)⟩) hS ?_
          try simp only [Act.put, List.setIfInBounds_toArray, List.set_cons_zero, List.set_cons_succ]
          refine firstL 8 (.pointer (some ⟨w.heap.size + 1 + 1, 0, none⟩)) rfl (by kernel_rfl) (by kernel_rfl) (by kernel_rfl) (fun _ _ _ h => h) (by kernel_rfl) (.inl ⟨by rfl, fun w hw => by (unfold execOp; go_simp)⟩) hS ?_
          try simp only [Act.put, List.setIfInBounds_toArray, List.set_cons_zero, List.set_cons_succ]
          refine firstL 9 (.int .i64 ((a : Int))) rfl (by kernel_rfl) (by kernel_rfl) (by kernel_rfl) (fun _ _ _ h => h) (by kernel_rfl) (.inl ⟨by rfl, fun w hw => by (have h0 := (hw.2.2.1).cell 0; unfold execOp; go_simp)⟩) hS ?_
          try simp only [Act.put, List.setIfInBounds_toArray, List.set_cons_zero, List.set_cons_succ]
          refine firstL 10 (.pointer (some ⟨gy, fy + a, none⟩)) rfl (by kernel_rfl) (by kernel_rfl) (by kernel_rfl) (fun _ _ _ h => h) (by kernel_rfl) (.inl ⟨by rfl, fun w hw => by (unfold execOp; go_simp; all_goals omega)⟩) hS ?_
          try simp only [Act.put, List.setIfInBounds_toArray, List.set_cons_zero, List.set_cons_succ]
          refine firstL 11 (.slice (some ⟨gb, ob, none⟩) c.length kg) rfl (by kernel_rfl) (by kernel_rfl) (by kernel_rfl) (fun _ _ _ h => h) (by kernel_rfl) (.inl ⟨by rfl, fun w hw => by (have h0 := hw.2.2.2.1; unfold execOp; go_simp)⟩) hS ?_
          try simp only [Act.put, List.setIfInBounds_toArray, List.set_cons_zero, List.set_cons_succ]
          refine firstL 12 (.int .i64 ((b : Int))) rfl (by kernel_rfl) (by kernel_rfl) (by kernel_rfl) (fun _ _ _ h => h) (by kernel_rfl) (.inl ⟨by rfl, fun w _ => by rfl⟩) hS ?_
          try simp only [Act.put, List.setIfInBounds_toArray, List.set_cons_zero, List.set_cons_succ]
          refine firstL 13 (.pointer (some ⟨w.heap.size, 1, none⟩)) rfl (by kernel_rfl) (by kernel_rfl) (by kernel_rfl) (fun _ _ _ h => h) (by kernel_rfl) (.inl ⟨by rfl, fun w hw => by (unfold execOp; go_simp)⟩) hS ?_
          try simp only [Act.put, List.setIfInBounds_toArray, List.set_cons_zero, List.set_cons_succ]
          refine firstL 14 (.slice oc m kc) rfl (by kernel_rfl) (by kernel_rfl) (by kernel_rfl) (fun _ _ _ h => h) (by kernel_rfl) (.inl ⟨by rfl, fun w hw => by (have h0 := (hw.1).cell 1; unfold execOp; go_simp)⟩) hS ?_
          try simp only [Act.put, List.setIfInBounds_toArray, List.set_cons_zero, List.set_cons_succ]
          refine firstL 15 (.int .i64 ((m : Int))) rfl (by kernel_rfl) (by kernel_rfl) (by kernel_rfl) (fun _ _ _ h => h) (by kernel_rfl) (.inl ⟨by rfl, fun w hw => by (unfold execOp; go_simp)⟩) hS ?_
          try simp only [Act.put, List.setIfInBounds_toArray, List.set_cons_zero, List.set_cons_succ]
          refine firstL 16 (.int .i64 ((q : Int))) rfl (by kernel_rfl) (by kernel_rfl) (by kernel_rfl) (fun _ _ _ h => h) (by kernel_rfl) (.inl ⟨by rfl, fun w hw => by (unfold execOp; go_simp; all_goals first | exact HWR.out | exact HQM.out)⟩) hS ?_
          try simp only [Act.put, List.setIfInBounds_toArray, List.set_cons_zero, List.set_cons_succ]
          refine firstL 17 (.int .i64 ((k : Int))) rfl (by kernel_rfl) (by kernel_rfl) (by kernel_rfl) (fun _ _ _ h => h) (by kernel_rfl) (.inl ⟨by rfl, fun w _ => by rfl⟩) hS ?_
          try simp only [Act.put, List.setIfInBounds_toArray, List.set_cons_zero, List.set_cons_succ]
          refine firstL 18 (.int .i64 ((jj : Int))) rfl (by kernel_rfl) (by kernel_rfl) (by kernel_rfl) (fun _ _ _ h => h) (by kernel_rfl) (.inl ⟨by rfl, fun w hw => by (unfold execOp; go_simp; all_goals first | exact HJJ.out | (rw [IntKind.wrap_i64, HJJ.out]; omega))⟩) hS ?_
          try simp only [Act.put, List.setIfInBounds_toArray, List.set_cons_zero, List.set_cons_succ]
          refine firstL 19 (.pointer (some ⟨gb, ob + jj, none⟩)) rfl (by kernel_rfl) (by kernel_rfl) (by kernel_rfl) (fun _ _ _ h => h) (by kernel_rfl) (.inl ⟨by rfl, fun w hw => by (unfold execOp; go_simp; all_goals omega)⟩) hS ?_
          try simp only [Act.put, List.setIfInBounds_toArray, List.set_cons_zero, List.set_cons_succ]
          refine firstL 20 (.int .i64 x) rfl (by kernel_rfl) (by kernel_rfl) (by kernel_rfl) (fun _ _ _ h => h) (by kernel_rfl) (.inl ⟨by rfl, fun w hw => by (have h0 := hw.2.2.2.2.1; unfold execOp; go_simp)⟩) hS ?_
          try simp only [Act.put, List.setIfInBounds_toArray, List.set_cons_zero, List.set_cons_succ]
          refine firstL 21 (.int .i64 (z + x)) rfl (by kernel_rfl) (by kernel_rfl) (by kernel_rfl) (fun _ _ _ h => h) (by kernel_rfl) (.inl ⟨by rfl, fun w hw => by (unfold execOp; go_simp; all_goals (rw [IntKind.wrap_i64] <;> omega))⟩) hS ?_
          try simp only [Act.put, List.setIfInBounds_toArray, List.set_cons_zero, List.set_cons_succ]
          refine firstL 22 (.pointer (some ⟨go, k, none⟩)) rfl (by kernel_rfl) (by kernel_rfl) (by kernel_rfl) (fun _ _ _ h => h) (by kernel_rfl) (.inl ⟨by rfl, fun w hw => by (unfold execOp; go_simp; all_goals omega)⟩) hS ?_
          try simp only [Act.put, List.setIfInBounds_toArray, List.set_cons_zero, List.set_cons_succ]
          have a4 := hS.2.2.2.2.2
          clear hS
          refine lastL rfl (by kernel_rfl) (by kernel_rfl) (by rfl) ?_
          go_simp
          have hbs := hbr.grown hst.2 hbr.size (fun j hj => by cases hj; exact Nat.le_of_eq HGO.out)
          go_wp2
          go_roundw
          case rel =>
            refine ⟨k + 1, by go_num, by omega, ?_, hbs⟩
            rw [HNXT.out, List.map_set]
            exact hst.1
          case measure => simp [intOf]; omega
end Go.Proofs.Yteadkdllmeeocaa
