/- Texts of this claim, put together: part 26. -/
import Derived.Test.YtobimpgapfecoaaFnPromisePack6
import Derived.Test.YtobimpgapfecoaaFnPromisePack25
import Derived.Test.YtobimpgapfecoaaFnPromisePack8
import Derived.Lib.QuietBelow
import Derived.BigQuiet
import Derived.Test.YtobimpgapfecoaaFnPromisePack22
/- The total of counts, by the program. -/
namespace Go.Proofs.Ytobimpgapfecoaa
open Go.RowKit
set_option maxRecDepth 100000
set_option linter.unusedSimpArgs false
theorem ok_weights {s : SchemaD} {t : StatsD} (h : statsOk s t = true) : weightsOk t.totals = true := by
  obtain ⟨-, -, h1, h2⟩ := statsOk_parts h
  unfold weightsOk; rw [h1, decide_eq_true h2]; rfl
set_option maxHeartbeats 1600000 in
theorem implTotal_any (vs vt : Value) (s : SchemaD) (t : StatsD) (w : World) (hs : SchemaAt w vs s) (ht : StatsAt w vt t) (hn : okSch s) (hb : okSt t) :
    Calls Try.prog 16 #[vs, vt] w fun r w' => r = .returned (.int .i64 (statsTotal s t)) ∧ Below w.heap.size w w' := by
  have HS : Hid (∀ W, Below w.heap.size w W → SchemaAt W vs s) := fun W h => hs.later h
  have HT : Hid (∀ W, Below w.heap.size w W → StatsAt W vt t) := fun W h => ht.later h
  have HOK : Hid (okSch s) := hn
  have HOT : Hid (okSt t) := hb
  obtain ⟨va, vc, rfl, -, -⟩ := hs
  obtain ⟨vx, vy, rfl, rx, -⟩ := ht
  obtain ⟨ox, kx, rfl, -, -⟩ := id rx
  have lx := hb.totals
  clear rx hn hb
  have B0 : Below w.heap.size w ((w.alloc (.cells #[va, vc] 27)).alloc (.cells #[.slice ox t.totals.length kx, vy] 31)) := ((Below.refl _ _).alloc (Nat.le_refl _) _).alloc (by simp) _
  have K2 : Blk 31 ((w.alloc (.cells #[va, vc] 27)).alloc (.cells #[.slice ox t.totals.length kx, vy] 31)) (w.heap.size + 1) #[.slice ox t.totals.length kx, vy] := by
    have := Blk.new 31 (w.alloc (.cells #[va, vc] 27)) #[.slice ox t.totals.length kx, vy]
    rwa [show (w.alloc (.cells #[va, vc] 27)).heap.size = w.heap.size + 1 by simp] at this
  have e1 := implStatsOk_any _ _ s t _ (HS.out _ B0) (HT.out _ B0) HOK.out HOT.out
  cases hk : statsOk s t with
  | false =>
    have HE : Hid (statsTotal s t = 0) := by unfold statsTotal; rw [hk]; rfl
    rw [hk] at e1
    clear hk K2
    go_enter Try.func16, Try.ntmps16
    go_wp2_with fail
    refine e1.mono ?_
    clear e1
    rintro r w1 ⟨rfl, hb1⟩
    go_wp2
    go_ret
    exact ⟨by rw [HE.out]; rfl, B0.trans (hb1.mono (by simp; omega))⟩
  | true =>
    have HE : Hid (statsTotal s t = weightSum t.totals) := by show _ = _; unfold statsTotal weightSum; rw [hk, ok_weights hk]
    rw [hk] at e1
    clear hk
    go_enter Try.func16, Try.ntmps16
    go_wp2_with fail
    refine e1.mono ?_
    clear e1
    rintro r w1 ⟨rfl, hb1⟩
    have B1 := B0.trans (hb1.mono (by simp; omega))
    have k0 : w1.cell? ⟨w.heap.size + 1, 0, none⟩ = some (.slice ox t.totals.length kx) := (K2.below hb1).cell 0
    clear hb1 B0 K2
    obtain ⟨vx', vy', e', rX, -⟩ := HT.out w1 B1
    cases e'
    have cw := weightOf_any _ t.totals w1 rX lx
    generalize weightsOk t.totals = q at cw
    generalize weightSum t.totals = z at cw HE
    clear rX
    go_wp2_with fail
    refine cw.mono ?_
    clear cw
    rintro r w2 ⟨rfl, hb2⟩
    clear k0
    go_wp2
    go_ret
    exact ⟨by rw [HE.out]; rfl, B1.trans (hb2.mono B1.size)⟩
end Go.Proofs.Ytobimpgapfecoaa
/- What counts promise, by the program. -/
namespace Go.Proofs.Ytobimpgapfecoaa
open Go.RowKit
set_option maxRecDepth 100000
set_option linter.unusedSimpArgs false
set_option maxHeartbeats 1600000 in
theorem implPromise_any (vs vt : Value) (s : SchemaD) (t : StatsD) (w : World) (hs : SchemaAt w vs s) (ht : StatsAt w vt t) (hn : okSch s) (hb : okSt t) :
    Calls Try.prog 19 #[vs, vt] w fun r w' => r = .returned (.int .i64 (promise s t)) ∧ Below w.heap.size w w' := by
  have mixed : Try.prog.follows .mixedOrders = true := by kernel_rfl
  have HS : Hid (∀ W, Below w.heap.size w W → SchemaAt W vs s) := fun W h => hs.later h
  have HT : Hid (∀ W, Below w.heap.size w W → StatsAt W vt t) := fun W h => ht.later h
  have HOK : Hid (okSch s) := hn
  have HOT : Hid (okSt t) := hb
  obtain ⟨va, vc, rfl, -, -⟩ := hs
  obtain ⟨vx, vy, rfl, rx, -⟩ := ht
  obtain ⟨ox, kx, rfl, -, -⟩ := id rx
  have lx := hb.totals
  clear rx hn hb
  have B0 : Below w.heap.size w ((w.alloc (.cells #[va, vc] 27)).alloc (.cells #[.slice ox t.totals.length kx, vy] 31)) := ((Below.refl _ _).alloc (Nat.le_refl _) _).alloc (by simp) _
  have K1 := (Blk.new 27 w #[va, vc]).alloc (.cells #[.slice ox t.totals.length kx, vy] 31)
  have K2 : Blk 31 ((w.alloc (.cells #[va, vc] 27)).alloc (.cells #[.slice ox t.totals.length kx, vy] 31)) (w.heap.size + 1) #[.slice ox t.totals.length kx, vy] := by
    have := Blk.new 31 (w.alloc (.cells #[va, vc] 27)) #[.slice ox t.totals.length kx, vy]
    rwa [show (w.alloc (.cells #[va, vc] 27)).heap.size = w.heap.size + 1 by simp] at this
  have e1 := implStatsOk_any _ _ s t _ (HS.out _ B0) (HT.out _ B0) HOK.out HOT.out
  cases hk : statsOk s t with
  | false =>
    have HE : Hid (promise s t = 0) := by unfold promise; rw [hk]; rfl
    rw [hk] at e1
    clear hk K1 K2
    go_enter Try.func19, Try.ntmps19
    go_wp2_with fail
    refine e1.mono ?_
    clear e1
    rintro r w1 ⟨rfl, hb1⟩
    go_wp2
    go_ret
    exact ⟨by rw [HE.out]; rfl, B0.trans (hb1.mono (by simp; omega))⟩
  | true =>
    have HE : Hid (promise s t = statsTotal s t - t.totals.getD (topOf t.totals).toNat 0) := by unfold promise; rw [hk]; rfl
    obtain ⟨hp1, hp2, hp3, hp4⟩ := statsOk_parts hk
    have hc2 := sch_classes hp1
    have hl3 : 2 ≤ t.totals.length ∧ t.totals.length ≤ 3 := by omega
    have htot : 0 ≤ statsTotal s t ∧ statsTotal s t ≤ 999 := by unfold statsTotal; rw [if_pos hk]; exact ⟨sum_nonneg hp3, hp4⟩
    obtain ⟨ht0, ht1⟩ := topOf_range (show 0 < t.totals.length by omega)
    obtain ⟨p, hp⟩ := Int.eq_ofNat_of_zero_le ht0
    have hpl : p < t.totals.length := by omega
    obtain ⟨hx0, hx1⟩ := allW_at hp3 hpl
    have HE2 : Hid (promise s t = statsTotal s t - t.totals.getD p 0) := by rw [HE.out, hp]; rfl
    rw [hk] at e1
    clear hk hp1 hp2 hp3 hp4 hc2 HE ht0 ht1
    go_enter Try.func19, Try.ntmps19
    go_wp2_with fail
    refine e1.mono ?_
    clear e1
    rintro r w1 ⟨rfl, hb1⟩
    have B1 := B0.trans (hb1.mono (by simp; omega))
    have k1 := K1.below hb1
    have k2 := K2.below hb1
    clear hb1 B0 K1 K2
    obtain ⟨vx', vy', e', rX, -⟩ := HT.out w1 B1
    cases e'
    have cO := fun d os => Calls.regrown_of (implTop_any (.slice ox t.totals.length kx) t.totals (Go.Sort.grow (redrawn w1 d) os) (rX.later (below_regrown w1 d os)) lx)
    obtain ⟨ox', kx', e', -, hrX⟩ := rX
    cases e'
    obtain ⟨gx, fx, rfl, hgx, hjX⟩ := hrX (by omega)
    have b0 := hjX p hpl
    have HB : Hid (∀ d os, Below w.heap.size w (Go.Sort.grow (redrawn w1 d) os)) := fun d os => B1.trans ((below_regrown w1 d os).mono B1.size)
    have cT := fun d os => Calls.regrown_of (implTotal_any _ _ s t (Go.Sort.grow (redrawn w1 d) os) (HS.out _ (HB.out d os)) (HT.out _ (HB.out d os)) HOK.out HOT.out)
    have f2 := fun d os => cell_regrown b0 d os
    have c0 : w1.cell? ⟨w.heap.size + 1, 0, none⟩ = some (.slice (some ⟨gx, fx, none⟩) t.totals.length kx) := k2.cell 0
    have c1 : w1.cell? ⟨w.heap.size + 1, 1, none⟩ = some vy := k2.cell 1
    have c2 : w1.cell? ⟨w.heap.size, 0, none⟩ = some va := k1.cell 0
    have c3 : w1.cell? ⟨w.heap.size, 1, none⟩ = some vc := k1.cell 1
    have d0 := fun d os => cell_regrown c0 d os
    have d1 := fun d os => cell_regrown c1 d os
    have d2 := fun d os => cell_regrown c2 d os
    have d3 := fun d os => cell_regrown c3 d os
    rw [hp] at cO
    clear hjX hrX hgx b0 hp
    generalize t.totals.getD p 0 = x at f2 hx0 hx1 HE2
    generalize statsTotal s t = y at cT htot HE2
    obtain ⟨hy0, hy1⟩ := htot
    go_wp2
    refine wp_region_quiet_below mixed (by kernel_rfl) ?_
    repeat (go_big_quiet_step (first | with_reducible exact cT _ _ | with_reducible exact cO _ _))
    refine wpQuiet_nil ?_
    intro _ hw'
    obtain ⟨⟨dq, osq⟩, hw''⟩ := hw'
    subst hw''
    go_wp2
    go_ret
    exact ⟨by rw [HE2.out]; rfl, HB.out _ _⟩
end Go.Proofs.Ytobimpgapfecoaa
/- Whether counts are pure, by the specification. (What is plain.) -/
namespace Go.Proofs.Ytobimpgapfecoaa
open Go.RowKit
set_option maxRecDepth 100000
set_option linter.unusedSimpArgs false
def statsPure (s : SchemaD) (t : StatsD) : Bool := statsOk s t && decide (promise s t = 0)
end Go.Proofs.Ytobimpgapfecoaa
/- Whether counts are pure, by the program. -/
namespace Go.Proofs.Ytobimpgapfecoaa
open Go.RowKit
set_option maxRecDepth 100000
set_option linter.unusedSimpArgs false
set_option maxHeartbeats 1600000 in
theorem implPure_any (vs vt : Value) (s : SchemaD) (t : StatsD) (w : World) (hs : SchemaAt w vs s) (ht : StatsAt w vt t) (hn : okSch s) (hb : okSt t) :
    Calls Try.prog 20 #[vs, vt] w fun r w' => r = .returned (.bool (statsPure s t)) ∧ Below w.heap.size w w' := by
  have HS : Hid (∀ W, Below w.heap.size w W → SchemaAt W vs s) := fun W h => hs.later h
  have HT : Hid (∀ W, Below w.heap.size w W → StatsAt W vt t) := fun W h => ht.later h
  have HOK : Hid (okSch s) := hn
  have HOT : Hid (okSt t) := hb
  obtain ⟨va, vc, rfl, -, -⟩ := hs
  obtain ⟨vx, vy, rfl, -, -⟩ := ht
  clear hn hb
  have B0 : Below w.heap.size w ((w.alloc (.cells #[va, vc] 27)).alloc (.cells #[vx, vy] 31)) := ((Below.refl _ _).alloc (Nat.le_refl _) _).alloc (by simp) _
  have K1 := (Blk.new 27 w #[va, vc]).alloc (.cells #[vx, vy] 31)
  have K2 : Blk 31 ((w.alloc (.cells #[va, vc] 27)).alloc (.cells #[vx, vy] 31)) (w.heap.size + 1) #[vx, vy] := by
    have := Blk.new 31 (w.alloc (.cells #[va, vc] 27)) #[vx, vy]
    rwa [show (w.alloc (.cells #[va, vc] 27)).heap.size = w.heap.size + 1 by simp] at this
  have e1 := implStatsOk_any _ _ s t _ (HS.out _ B0) (HT.out _ B0) HOK.out HOT.out
  cases hk : statsOk s t with
  | false =>
    have HE : Hid (statsPure s t = false) := by unfold statsPure; rw [hk]; rfl
    rw [hk] at e1
    clear hk K1 K2
    go_enter Try.func20, Try.ntmps20
    go_wp2_with fail
    refine e1.mono ?_
    clear e1
    rintro r w1 ⟨rfl, hb1⟩
    go_wp2
    go_ret
    exact ⟨by rw [HE.out]; rfl, B0.trans (hb1.mono (by simp; omega))⟩
  | true =>
    have HE : Hid (statsPure s t = (promise s t == 0)) := by unfold statsPure; rw [hk]; rfl
    rw [hk] at e1
    clear hk
    go_enter Try.func20, Try.ntmps20
    go_wp2_with fail
    refine e1.mono ?_
    clear e1
    rintro r w1 ⟨rfl, hb1⟩
    have B1 := B0.trans (hb1.mono (by simp; omega))
    have k1 := K1.below hb1
    have k2 := K2.below hb1
    have e2 := implPromise_any _ _ s t w1 (HS.out _ B1) (HT.out _ B1) HOK.out HOT.out
    generalize promise s t = y at e2 HE
    clear hb1 B0 K1 K2
    have c0 : w1.cell? ⟨w.heap.size + 1, 0, none⟩ = some vx := k2.cell 0
    have c1 : w1.cell? ⟨w.heap.size + 1, 1, none⟩ = some vy := k2.cell 1
    have c2 : w1.cell? ⟨w.heap.size, 0, none⟩ = some va := k1.cell 0
    have c3 : w1.cell? ⟨w.heap.size, 1, none⟩ = some vc := k1.cell 1
    clear k1 k2
    go_wp2_with fail
    refine e2.mono ?_
    clear e2
    rintro r w2 ⟨rfl, hb2⟩
    by_cases hy : y = 0
    · subst hy
      go_wp2
      go_ret
      exact ⟨by rw [HE.out]; rfl, B1.trans (hb2.mono B1.size)⟩
    · have hq : (y == 0) = false := by rw [beq_eq_false_iff_ne]; exact hy
      go_wp2
      go_ret
      exact ⟨by rw [HE.out, hq]; rfl, B1.trans (hb2.mono B1.size)⟩
end Go.Proofs.Ytobimpgapfecoaa
