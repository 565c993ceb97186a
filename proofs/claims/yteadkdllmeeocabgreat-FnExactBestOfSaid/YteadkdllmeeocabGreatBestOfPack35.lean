/- Texts of this claim, put together: part 35. -/
import Derived.Test.YteadkdllmeeocabGreatBestOfPack34
import Derived.Test.YteadkdllmeeocabGreatBestOfPack7
import Derived.Test.YteadkdllmeeocabGreatBestOfPack3
import Derived.WalkKit
import Derived.ProofKit
import Derived.OpenShut
import Derived.Lib.QuietBelow
/- How many branches a question has, by the specification. -/
namespace Go.Proofs.YteadkdllmeeocabGreat
open Go.RowKit
set_option maxRecDepth 100000
set_option linter.unusedSimpArgs false
set_option maxHeartbeats 3200000 in
theorem specBranches_any (vs : Value) (s : SchemaD) (f : ForkD) (w : World) (hs : SchemaAt w vs s) (hn : okSch s) :
    Calls Tryz.prog 40 #[vs, forkV f] w fun e w' => e = .returned (.int .i64 (branches s f)) ∧ Below w.heap.size w w' := by
  unfold forkV
  have HS : Hid (∀ W, Below w.heap.size w W → SchemaAt W vs s) := fun W h => hs.later h
  have HOK : Hid (okSch s) := hn
  obtain ⟨va, vc, rfl, ra, -⟩ := hs
  obtain ⟨oa, ka, rfl, -, -⟩ := id ra
  clear ra hn
  have la := HOK.out.attrs
  obtain ⟨KS, KF, B⟩ := blk_2 40 33 w #[.slice oa s.attrs.length ka, vc] #[.int .i64 f.attr, .int .i64 f.pos]
  have cc := specForkOk_any _ s f _ (HS.out _ B) HOK.out
  unfold forkV at cc
  generalize hW : ((w.alloc (.cells #[.slice oa s.attrs.length ka, vc] 40)).alloc (.cells #[.int .i64 f.attr, .int .i64 f.pos] 33)) = w0 at KS KF B cc
  cases hk : forkOk s f with
  | false =>
    have HE : branches s f = 0 := by unfold branches; rw [hk]; rfl
    rw [hk] at cc
    rw [HE]
    clear hk HE
    go_enter Tryz.func40, Tryz.ntmps40
    have kS0 : w0.cell? ⟨w.heap.size, 0, none⟩ = some (.slice oa s.attrs.length ka) := KS.cell 0
    have kS1 : w0.cell? ⟨w.heap.size, 1, none⟩ = some (vc) := KS.cell 1
    have kF0 : w0.cell? ⟨w.heap.size + 1, 0, none⟩ = some (.int .i64 f.attr) := KF.cell 0
    have kF1 : w0.cell? ⟨w.heap.size + 1, 1, none⟩ = some (.int .i64 f.pos) := KF.cell 1
    go_wp2_with fail
    refine cc.mono ?_
    clear cc hW
    clear kS0 kS1 kF0 kF1
    rintro e w1 ⟨rfl, hb⟩
    replace KS := KS.below hb
    replace KF := KF.below hb
    replace B := B.trans (hb.mono B.size)
    go_wp2
    go_ret
    exact ⟨rfl, B⟩
  | true =>
    have HE : branches s f = if f.pos = -1 then bins (forkAttr s f) else 2 := by unfold branches; rw [if_pos hk]
    obtain ⟨-, ⟨k, hfa, hlt, hat⟩, hp0, hp1⟩ := fork_parts hk
    rw [hk] at cc
    rw [HE, hat]
    clear hk HE hp1 hat
    generalize f.attr = fa0 at *
    subst hfa
    by_cases hp : f.pos = -1
    · rw [if_pos hp]
      have hpe : (f.pos == -1) = true := by rw [hp]; rfl
      clear hp hp0
      go_enter Tryz.func40, Tryz.ntmps40
      have kS0 : w0.cell? ⟨w.heap.size, 0, none⟩ = some (.slice oa s.attrs.length ka) := KS.cell 0
      have kS1 : w0.cell? ⟨w.heap.size, 1, none⟩ = some (vc) := KS.cell 1
      have kF0 : w0.cell? ⟨w.heap.size + 1, 0, none⟩ = some (.int .i64 (k : Int)) := KF.cell 0
      have kF1 : w0.cell? ⟨w.heap.size + 1, 1, none⟩ = some (.int .i64 f.pos) := KF.cell 1
      go_wp2_with fail
      refine cc.mono ?_
      clear cc hW
      clear kS0 kS1 kF0 kF1
      rintro e w1 ⟨rfl, hb⟩
      replace KS := KS.below hb
      replace KF := KF.below hb
      replace B := B.trans (hb.mono B.size)
      clear hb
      obtain ⟨ga, fa, y1, z1, y2, z2, rfl, hat⟩ := attr_at (HS.out _ B) hlt
      obtain ⟨c0, c1, c2, hA⟩ := hat _ (Below.refl _ _)
      clear hat
      have cB := specBins_any _ _ _ hA (HOK.out.each _ (ad_mem hlt))
      have kS0 : w1.cell? ⟨w.heap.size, 0, none⟩ = some (.slice (some ⟨ga, fa, none⟩) s.attrs.length ka) := KS.cell 0
      have kS1 : w1.cell? ⟨w.heap.size, 1, none⟩ = some (vc) := KS.cell 1
      have kF0 : w1.cell? ⟨w.heap.size + 1, 0, none⟩ = some (.int .i64 (k : Int)) := KF.cell 0
      have kF1 : w1.cell? ⟨w.heap.size + 1, 1, none⟩ = some (.int .i64 f.pos) := KF.cell 1
      go_wp2_with fail
      refine cB.mono ?_
      rintro e w2 ⟨rfl, hb⟩
      go_wp2
      go_ret
      exact ⟨rfl, B.trans (hb.mono B.size)⟩
    · rw [if_neg hp]
      have hpe : (f.pos == -1) = false := by rw [beq_eq_false_iff_ne]; exact hp
      clear hp hp0
      go_enter Tryz.func40, Tryz.ntmps40
      have kS0 : w0.cell? ⟨w.heap.size, 0, none⟩ = some (.slice oa s.attrs.length ka) := KS.cell 0
      have kS1 : w0.cell? ⟨w.heap.size, 1, none⟩ = some (vc) := KS.cell 1
      have kF0 : w0.cell? ⟨w.heap.size + 1, 0, none⟩ = some (.int .i64 (k : Int)) := KF.cell 0
      have kF1 : w0.cell? ⟨w.heap.size + 1, 1, none⟩ = some (.int .i64 f.pos) := KF.cell 1
      go_wp2_with fail
      refine cc.mono ?_
      clear cc hW
      clear kS0 kS1 kF0 kF1
      rintro e w1 ⟨rfl, hb⟩
      replace KS := KS.below hb
      replace KF := KF.below hb
      replace B := B.trans (hb.mono B.size)
      clear hb
      have kF0 : w1.cell? ⟨w.heap.size + 1, 0, none⟩ = some (.int .i64 (k : Int)) := KF.cell 0
      have kF1 : w1.cell? ⟨w.heap.size + 1, 1, none⟩ = some (.int .i64 f.pos) := KF.cell 1
      go_wp2
      go_ret
      exact ⟨rfl, B⟩
end Go.Proofs.YteadkdllmeeocabGreat
/- Which branch a bin has, by the specification. -/
namespace Go.Proofs.YteadkdllmeeocabGreat
open Go.RowKit
set_option maxRecDepth 100000
set_option linter.unusedSimpArgs false
theorem bit_any (on : Bool) (w : World) : Calls Tryz.prog 86 #[.bool on] w fun e w' => e = .returned (.int .i64 (if on = true then 1 else 0)) ∧ w' = w := by
  cases on with
  | true =>
    go_enter Tryz.func86, Tryz.ntmps86
    go_wp2
    go_ret
    exact ⟨rfl, rfl⟩
  | false =>
    go_enter Tryz.func86, Tryz.ntmps86
    go_wp2
    go_ret
    exact ⟨rfl, rfl⟩
set_option maxHeartbeats 3200000 in
theorem specBranchOf_any (vs : Value) (s : SchemaD) (f : ForkD) (b : Int) (w : World) (hs : SchemaAt w vs s) (hn : okSch s) :
    Calls Tryz.prog 66 #[vs, forkV f, .int .i64 b] w fun e w' => e = .returned (.int .i64 (branchOf s f b)) ∧ Below w.heap.size w w' := by
  unfold forkV
  have HS : Hid (∀ W, Below w.heap.size w W → SchemaAt W vs s) := fun W h => hs.later h
  have HOK : Hid (okSch s) := hn
  obtain ⟨va, vc, rfl, ra, -⟩ := hs
  obtain ⟨oa, ka, rfl, -, -⟩ := id ra
  clear ra hn
  have la := HOK.out.attrs
  obtain ⟨KS, KF, B⟩ := blk_2 40 33 w #[.slice oa s.attrs.length ka, vc] #[.int .i64 f.attr, .int .i64 f.pos]
  have cc := specForkOk_any _ s f _ (HS.out _ B) HOK.out
  unfold forkV at cc
  generalize hW : ((w.alloc (.cells #[.slice oa s.attrs.length ka, vc] 40)).alloc (.cells #[.int .i64 f.attr, .int .i64 f.pos] 33)) = w0 at KS KF B cc
  cases hk : forkOk s f with
  | false =>
    have HE : branchOf s f b = -1 := by unfold branchOf; rw [if_neg (by rw [hk]; intro h; cases h.1)]
    rw [hk] at cc
    rw [HE]
    clear hk HE
    go_enter Tryz.func66, Tryz.ntmps66
    have kS0 : w0.cell? ⟨w.heap.size, 0, none⟩ = some (.slice oa s.attrs.length ka) := KS.cell 0
    have kS1 : w0.cell? ⟨w.heap.size, 1, none⟩ = some (vc) := KS.cell 1
    have kF0 : w0.cell? ⟨w.heap.size + 1, 0, none⟩ = some (.int .i64 f.attr) := KF.cell 0
    have kF1 : w0.cell? ⟨w.heap.size + 1, 1, none⟩ = some (.int .i64 f.pos) := KF.cell 1
    go_wp2_with fail
    refine cc.mono ?_
    clear cc hW
    clear kS0 kS1 kF0 kF1
    rintro e w1 ⟨rfl, hb⟩
    replace KS := KS.below hb
    replace KF := KF.below hb
    replace B := B.trans (hb.mono B.size)
    go_wp2
    go_ret
    exact ⟨rfl, B⟩
  | true =>
    obtain ⟨-, ⟨k, hfa, hlt, hat⟩, hp0, hp1⟩ := fork_parts hk
    have HE : Hid (branchOf s f b = if 0 ≤ b ∧ b ≤ bins (ad s.attrs k) - 1 then (if f.pos = -1 then b else if 0 < (ad s.attrs k).cuts.length then (if f.pos < b then 1 else 0) else (if b = f.pos then 0 else 1)) else -1) := by
      show _ = _
      unfold branchOf
      rw [hat]
      by_cases hb : 0 ≤ b ∧ b ≤ bins (ad s.attrs k) - 1
      · rw [if_pos ⟨hk, hb⟩, if_pos hb]
      · rw [if_neg fun h => hb h.2, if_neg hb]
    rw [hk] at cc
    clear hk hp1 hat
    generalize branchOf s f b = br at HE ⊢
    generalize f.attr = fa0 at *
    subst hfa
    go_enter Tryz.func66, Tryz.ntmps66
    have kS0 : w0.cell? ⟨w.heap.size, 0, none⟩ = some (.slice oa s.attrs.length ka) := KS.cell 0
    have kS1 : w0.cell? ⟨w.heap.size, 1, none⟩ = some (vc) := KS.cell 1
    have kF0 : w0.cell? ⟨w.heap.size + 1, 0, none⟩ = some (.int .i64 (k : Int)) := KF.cell 0
    have kF1 : w0.cell? ⟨w.heap.size + 1, 1, none⟩ = some (.int .i64 f.pos) := KF.cell 1
    go_wp2_with fail
    refine cc.mono ?_
    clear cc hW
    clear kS0 kS1 kF0 kF1
    rintro e w1 ⟨rfl, hb⟩
    replace KS := KS.below hb
    replace KF := KF.below hb
    replace B := B.trans (hb.mono B.size)
    clear hb
    obtain ⟨ga, fa, y1, z1, y2, z2, rfl, hat⟩ := attr_at (HS.out _ B) hlt
    have HAT : Hid _ := hat
    clear hat
    obtain ⟨c0, c1, c2, hA⟩ := HAT.out _ (Below.refl _ _)
    have cB := specBins_any _ _ _ hA (HOK.out.each _ (ad_mem hlt))
    clear hA
    have hb4 := small_bins (ad s.attrs k)
    generalize bins (ad s.attrs k) = nb at cB HE hb4
    have kS0 : w1.cell? ⟨w.heap.size, 0, none⟩ = some (.slice (some ⟨ga, fa, none⟩) s.attrs.length ka) := KS.cell 0
    have kS1 : w1.cell? ⟨w.heap.size, 1, none⟩ = some (vc) := KS.cell 1
    have kF0 : w1.cell? ⟨w.heap.size + 1, 0, none⟩ = some (.int .i64 (k : Int)) := KF.cell 0
    have kF1 : w1.cell? ⟨w.heap.size + 1, 1, none⟩ = some (.int .i64 f.pos) := KF.cell 1
    go_wp2_with fail
    refine cB.mono ?_
    clear cB
    clear kS0 kS1 kF0 kF1
    rintro e w2 ⟨rfl, hb⟩
    have c1 := (HAT.out _ hb).2.1
    clear c0 c2 HAT
    replace KS := KS.below hb
    replace KF := KF.below hb
    replace B := B.trans (hb.mono B.size)
    clear hb
    have cI := in_any b 0 (nb - 1) w2
    have kS0 : w2.cell? ⟨w.heap.size, 0, none⟩ = some (.slice (some ⟨ga, fa, none⟩) s.attrs.length ka) := KS.cell 0
    have kS1 : w2.cell? ⟨w.heap.size, 1, none⟩ = some (vc) := KS.cell 1
    have kF0 : w2.cell? ⟨w.heap.size + 1, 0, none⟩ = some (.int .i64 (k : Int)) := KF.cell 0
    have kF1 : w2.cell? ⟨w.heap.size + 1, 1, none⟩ = some (.int .i64 f.pos) := KF.cell 1
    go_wp2_with fail
    refine cI.mono ?_
    clear cI
    rintro e w3 ⟨rfl, e3⟩
    rw [e3]
    clear e3 w3
    by_cases hb : 0 ≤ b ∧ b ≤ nb - 1
    rotate_left
    · have hbd : decide (0 ≤ b ∧ b ≤ nb - 1) = false := decide_eq_false hb
      have HE2 : Hid (br = -1) := by show _ = _; rw [HE.out, if_neg hb]
      clear HE
      rw [hbd]
      go_wp2
      go_ret
      exact ⟨by rw [HE2.out]; rfl, B⟩
    have hbd : decide (0 ≤ b ∧ b ≤ nb - 1) = true := decide_eq_true hb
    rw [hbd]
    clear hbd
    by_cases hp : f.pos = -1
    · have HE2 : Hid (br = b) := by show _ = _; rw [HE.out, if_pos hb, if_pos hp]
      have hpe : (f.pos == -1) = true := by rw [hp]; rfl
      clear HE hb
      go_wp2
      go_ret
      exact ⟨by rw [HE2.out]; rfl, B⟩
    have hpe : (f.pos == -1) = false := by rw [beq_eq_false_iff_ne]; exact hp
    by_cases hc : 0 < (ad s.attrs k).cuts.length
    · have hci : (0 : Int) < ((ad s.attrs k).cuts.length : Int) := by omega
      by_cases h : f.pos < b
      · have HE2 : Hid (br = 1) := by show _ = _; rw [HE.out, if_pos hb, if_neg hp, if_pos hc, if_pos h]
        have hq : f.pos < b := h
        have cT := bit_any true w2
        clear HE hb
        go_wp2_with fail
        refine cT.mono ?_
        rintro e w4 ⟨rfl, e4⟩
        rw [e4]
        go_wp2
        go_ret
        exact ⟨by rw [HE2.out]; rfl, B⟩
      · have HE2 : Hid (br = 0) := by show _ = _; rw [HE.out, if_pos hb, if_neg hp, if_pos hc, if_neg h]
        have hq : ¬ f.pos < b := h
        have cT := bit_any (decide (f.pos < b)) w2
        clear HE hb
        go_wp2_with fail
        refine cT.mono ?_
        rintro e w4 ⟨rfl, e4⟩
        rw [e4, decide_eq_false (show ¬ f.pos < b by omega)]
        go_wp2
        go_ret
        exact ⟨by rw [HE2.out]; rfl, B⟩
    · have hci : ¬ (0 : Int) < ((ad s.attrs k).cuts.length : Int) := by omega
      by_cases h : b = f.pos
      · have HE2 : Hid (br = 0) := by show _ = _; rw [HE.out, if_pos hb, if_neg hp, if_neg hc, if_pos h]
        have hq : (b != f.pos) = false := by simp [h]
        have cT := bit_any false w2
        clear HE hb
        go_wp2_with fail
        refine cT.mono ?_
        rintro e w4 ⟨rfl, e4⟩
        rw [e4]
        go_wp2
        go_ret
        exact ⟨by rw [HE2.out]; rfl, B⟩
      · have HE2 : Hid (br = 1) := by show _ = _; rw [HE.out, if_pos hb, if_neg hp, if_neg hc, if_neg h]
        have hq : (b != f.pos) = true := bne_iff_ne.2 h
        have cT := bit_any true w2
        clear HE hb
        go_wp2_with fail
        refine cT.mono ?_
        rintro e w4 ⟨rfl, e4⟩
        rw [e4]
        go_wp2
        go_ret
        exact ⟨by rw [HE2.out]; rfl, B⟩
end Go.Proofs.YteadkdllmeeocabGreat
/- How many bins, how great the cuts. -/
namespace Go.Proofs.YteadkdllmeeocabGreat
open Go.RowKit
set_option maxRecDepth 100000
theorem bins_le {a : AttrD} (hn : okA a) : 0 ≤ bins a ∧ bins a ≤ 1099511627777 := by
  unfold bins
  have := hn.cuts
  have := hn.vals.1
  split
  · split <;> omega
  · omega
theorem cuts_in {a : AttrD} (hk : attrOk a = true) : ∀ j, j < a.cuts.length → -9999 ≤ a.cuts.getD j 0 ∧ a.cuts.getD j 0 ≤ 9998 := by
  intro j hj
  unfold attrOk at hk
  rw [Bool.and_eq_true] at hk
  have h2 := hk.2
  rw [if_neg (by omega), Bool.and_eq_true, Bool.and_eq_true] at h2
  have h3 := h2.2.2
  unfold cutsRise at h3
  rw [List.all_eq_true] at h3
  exact cutAt_in (h3 j (List.mem_range.2 hj))
end Go.Proofs.YteadkdllmeeocabGreat
/- A call that changes nothing, in a region that draws its order. -/
namespace Go.Proofs.YteadkdllmeeocabGreat
open Go.RowKit
set_option maxRecDepth 100000
theorem regrown_same {P : Program} {f : FuncId} {args : Array Value} {w : World} {d : Nat} {os : Array Obj} {v : Value} (h : Calls P f args (Go.Sort.grow (redrawn w d) os) fun e w' => e = .returned v ∧ w' = Go.Sort.grow (redrawn w d) os) :
    Calls P f args (Go.Sort.grow (redrawn w d) os) fun e w'' => e = .returned v ∧ ∃ p : Regrown, w'' = Go.Sort.grow (redrawn w p.d) p.os :=
  h.mono fun _ _ ⟨he, hb⟩ => ⟨he, ⟨d, os⟩, hb⟩
end Go.Proofs.YteadkdllmeeocabGreat
