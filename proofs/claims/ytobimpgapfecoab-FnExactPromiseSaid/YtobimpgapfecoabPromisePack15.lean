/- Texts of this claim, put together: part 15. -/
import Derived.Test.YtobimpgapfecoabPromisePack7
import Derived.Test.YtobimpgapfecoabPromisePack9
import Derived.Lib.QuietBelow
import Derived.BigQuiet
import Derived.Test.YtobimpgapfecoabPromisePack14
import Derived.Test.YtobimpgapfecoabPromisePack6
import Derived.Test.YtobimpgapfecoabPromisePack3
import Derived.Test.YtobimpgapfecoabPromisePack11
/- The place of the greatest number, by the program. -/
namespace Go.Proofs.Ytobimpgapfecoab
open Go.RowKit
set_option maxRecDepth 100000
set_option linter.unusedSimpArgs false
set_option maxHeartbeats 800000 in
theorem implTop_any (v : Value) (l : List Int) (w : World) (h : RowI w v l) (hn : l.length ≤ 1099511627776) :
    Calls Try.prog 62 #[v] w fun e w' => e = .returned (.int .i64 (topOf l)) ∧ Below w.heap.size w w' := by
  obtain ⟨oa, cap, rfl, hc, hr⟩ := h
  have HR : Hid (0 < l.length → ∃ g o, oa = some ⟨g, o, none⟩ ∧ g < w.heap.size ∧ ∀ j, j < l.length → w.cell? ⟨g, o + j, none⟩ = some (.int .i64 (l.getD j 0))) := hr
  clear hr
  go_enter Try.func62, Try.ntmps62
  go_wp2
  go_loopw [3, 8] (fun a i wr => ∃ (k : Nat) (p : Int), i = .int .i64 k ∧ a = .int .i64 p ∧ k ≤ l.length ∧ -1 ≤ p ∧ p < (k : Int) ∧ Hid (topOf l = topFrom l p k (l.length - k)) ∧ wr = w) (fun _ i _ => l.length - (intOf i).toNat)
  case atStart => exact ⟨0, -1, rfl, rfl, by omega, by omega, by omega, rfl, rfl⟩
  case round =>
    obtain ⟨k, p, rfl, rfl, hk, hp0, hp1, HT, rfl⟩ := hrel
    by_cases hlt : k < l.length
    · obtain ⟨g, o, rfl, hg, hj⟩ := HR.out (by omega)
      have ha := hj k hlt
      by_cases hpn : p < 0
      · have HN : Hid (topOf l = topFrom l (k : Int) (k + 1) (l.length - (k + 1))) := by rw [HT.out, topFrom_step hlt, if_pos (.inl hpn)]; rfl
        clear hj
        go_wp2
        go_roundw
        case rel => exact ⟨k + 1, k, by go_num, rfl, by omega, by omega, by omega, HN, trivial⟩
        case measure => simp [intOf]; omega
      · obtain ⟨m, rfl⟩ := Int.eq_ofNat_of_zero_le (show 0 ≤ p by omega)
        have hb := hj m (by omega)
        have hml : m < l.length := by omega
        clear hj
        by_cases hgt : l.getD m 0 < l.getD k 0
        · have HN : Hid (topOf l = topFrom l (k : Int) (k + 1) (l.length - (k + 1))) := by rw [HT.out, topFrom_step hlt, if_pos (.inr hgt)]; rfl
          generalize l.getD m 0 = y at hb hgt
          generalize l.getD k 0 = x at ha hgt
          go_wp2
          go_roundw
          case rel => exact ⟨k + 1, k, by go_num, rfl, by omega, by omega, by omega, HN, trivial⟩
          case measure => simp [intOf]; omega
        · have HN : Hid (topOf l = topFrom l (m : Int) (k + 1) (l.length - (k + 1))) := by rw [HT.out, topFrom_step hlt, if_neg (fun h => h.elim (fun h => by omega) hgt)]; rfl
          generalize l.getD m 0 = y at hb hgt
          generalize l.getD k 0 = x at ha hgt
          go_wp2
          go_roundw
          case rel => exact ⟨k + 1, m, by go_num, rfl, by omega, by omega, by omega, HN, trivial⟩
          case measure => simp [intOf]; omega
    · have HN : Hid (topOf l = p) := by rw [HT.out, show l.length - k = 0 by omega]; rfl
      go_wp2
      go_ret
      exact ⟨by rw [HN.out]; rfl, Below.refl _ _⟩
end Go.Proofs.Ytobimpgapfecoab
/- What counts promise, by the program. -/
namespace Go.Proofs.Ytobimpgapfecoab
open Go.RowKit
set_option maxRecDepth 100000
set_option linter.unusedSimpArgs false
set_option maxHeartbeats 1600000 in
theorem implPromise_any (vs vt : Value) (s : SchemaD) (t : StatsD) (w : World) (hs : SchemaAt w vs s) (ht : StatsAt w vt t) (hn : okSch s) (hb : okSt t) :
    Calls Try.prog 26 #[vs, vt] w fun r w' => r = .returned (.int .i64 (promise s t)) ∧ Below w.heap.size w w' := by
  have mixed : Try.prog.follows .mixedOrders = true := by kernel_rfl
  have HS : Hid (∀ W, Below w.heap.size w W → SchemaAt W vs s) := fun W h => hs.later h
  have HT : Hid (∀ W, Below w.heap.size w W → StatsAt W vt t) := fun W h => ht.later h
  have HOK : Hid (okSch s) := hn
  have HOT : Hid (okSt t) := hb
  obtain ⟨va, vc, rfl, -, -⟩ := hs
  obtain ⟨vx, vy, rfl, rx, -⟩ := ht
  obtain ⟨ox, kx, rfl, -, -⟩ := id rx
  have lx := hb.totals
  clear rx hn hb
  have B0 : Below w.heap.size w ((w.alloc (.cells #[va, vc] 40)).alloc (.cells #[.slice ox t.totals.length kx, vy] 35)) := ((Below.refl _ _).alloc (Nat.le_refl _) _).alloc (by simp) _
  have K1 := (Blk.new 40 w #[va, vc]).alloc (.cells #[.slice ox t.totals.length kx, vy] 35)
  have K2 : Blk 35 ((w.alloc (.cells #[va, vc] 40)).alloc (.cells #[.slice ox t.totals.length kx, vy] 35)) (w.heap.size + 1) #[.slice ox t.totals.length kx, vy] := by
    have := Blk.new 35 (w.alloc (.cells #[va, vc] 40)) #[.slice ox t.totals.length kx, vy]
    rwa [show (w.alloc (.cells #[va, vc] 40)).heap.size = w.heap.size + 1 by simp] at this
  have e1 := implStatsOk_any _ _ s t _ (HS.out _ B0) (HT.out _ B0) HOK.out HOT.out
  cases hk : statsOk s t with
  | false =>
    have HE : Hid (promise s t = 0) := by unfold promise; rw [hk]; rfl
    rw [hk] at e1
    clear hk K1 K2
    go_enter Try.func26, Try.ntmps26
    go_wp2_with fail
    refine e1.mono ?_
    clear e1
    rintro r w1 ⟨rfl, hb1⟩
    go_wp2
    go_ret
    exact ⟨by rw [HE.out]; rfl, B0.trans (hb1.mono (by simp; omega))⟩
  | true =>
    have HE : Hid (promise s t = statsTotal s t - t.totals.getD (topOf t.totals).toNat 0) := by unfold promise; rw [hk]; rfl
    obtain ⟨hp1, hp2, hp3, hp4⟩ := statsOk_parts hk
    have hc2 := sch_classes hp1
    have hl3 : 2 ≤ t.totals.length ∧ t.totals.length ≤ 3 := by omega
    have htot : 0 ≤ statsTotal s t ∧ statsTotal s t ≤ 999 := by unfold statsTotal; rw [if_pos hk]; exact ⟨sum_nonneg hp3, hp4⟩
    obtain ⟨ht0, ht1⟩ := topOf_range (show 0 < t.totals.length by omega)
    obtain ⟨p, hp⟩ := Int.eq_ofNat_of_zero_le ht0
    have hpl : p < t.totals.length := by omega
    obtain ⟨hx0, hx1⟩ := allW_at hp3 hpl
    have HE2 : Hid (promise s t = statsTotal s t - t.totals.getD p 0) := by rw [HE.out, hp]; rfl
    rw [hk] at e1
    clear hk hp1 hp2 hp3 hp4 hc2 HE ht0 ht1
    go_enter Try.func26, Try.ntmps26
    go_wp2_with fail
    refine e1.mono ?_
    clear e1
    rintro r w1 ⟨rfl, hb1⟩
    have B1 := B0.trans (hb1.mono (by simp; omega))
    have k1 := K1.below hb1
    have k2 := K2.below hb1
    clear hb1 B0 K1 K2
    obtain ⟨vx', vy', e', rX, -⟩ := HT.out w1 B1
    cases e'
    have cO := fun d os => Calls.regrown_of (implTop_any (.slice ox t.totals.length kx) t.totals (Go.Sort.grow (redrawn w1 d) os) (rX.later (below_regrown w1 d os)) lx)
    obtain ⟨ox', kx', e', -, hrX⟩ := rX
    cases e'
    obtain ⟨gx, fx, rfl, hgx, hjX⟩ := hrX (by omega)
    have b0 := hjX p hpl
    have HB : Hid (∀ d os, Below w.heap.size w (Go.Sort.grow (redrawn w1 d) os)) := fun d os => B1.trans ((below_regrown w1 d os).mono B1.size)
    have cT := fun d os => Calls.regrown_of (implTotal_any _ _ s t (Go.Sort.grow (redrawn w1 d) os) (HS.out _ (HB.out d os)) (HT.out _ (HB.out d os)) HOK.out HOT.out)
    have f2 := fun d os => cell_regrown b0 d os
    have c0 : w1.cell? ⟨w.heap.size + 1, 0, none⟩ = some (.slice (some ⟨gx, fx, none⟩) t.totals.length kx) := k2.cell 0
    have c1 : w1.cell? ⟨w.heap.size + 1, 1, none⟩ = some vy := k2.cell 1
    have c2 : w1.cell? ⟨w.heap.size, 0, none⟩ = some va := k1.cell 0
    have c3 : w1.cell? ⟨w.heap.size, 1, none⟩ = some vc := k1.cell 1
    have d0 := fun d os => cell_regrown c0 d os
    have d1 := fun d os => cell_regrown c1 d os
    have d2 := fun d os => cell_regrown c2 d os
    have d3 := fun d os => cell_regrown c3 d os
    rw [hp] at cO
    clear hjX hrX hgx b0 hp
    generalize t.totals.getD p 0 = x at f2 hx0 hx1 HE2
    generalize statsTotal s t = y at cT htot HE2
    obtain ⟨hy0, hy1⟩ := htot
    go_wp2
    refine wp_region_quiet_below mixed (by kernel_rfl) ?_
    repeat (go_big_quiet_step (first | with_reducible exact cT _ _ | with_reducible exact cO _ _))
    refine wpQuiet_nil ?_
    intro _ hw'
    obtain ⟨⟨dq, osq⟩, hw''⟩ := hw'
    subst hw''
    go_wp2
    go_ret
    exact ⟨by rw [HE2.out]; rfl, HB.out _ _⟩
end Go.Proofs.Ytobimpgapfecoab
/- How many bins, how great the cuts. -/
namespace Go.Proofs.Ytobimpgapfecoab
open Go.RowKit
set_option maxRecDepth 100000
theorem bins_le {a : AttrD} (hn : okA a) : 0 ≤ bins a ∧ bins a ≤ 1099511627777 := by
  unfold bins
  have := hn.cuts
  have := hn.vals.1
  split
  · split <;> omega
  · omega
theorem cuts_in {a : AttrD} (hk : attrOk a = true) : ∀ j, j < a.cuts.length → -9999 ≤ a.cuts.getD j 0 ∧ a.cuts.getD j 0 ≤ 9998 := by
  intro j hj
  unfold attrOk at hk
  rw [Bool.and_eq_true] at hk
  have h2 := hk.2
  rw [if_neg (by omega), Bool.and_eq_true, Bool.and_eq_true] at h2
  have h3 := h2.2.2
  unfold cutsRise at h3
  rw [List.all_eq_true] at h3
  exact cutAt_in (h3 j (List.mem_range.2 hj))
end Go.Proofs.Ytobimpgapfecoab
/- How many bins an attribute has, by the specification. -/
namespace Go.Proofs.Ytobimpgapfecoab
open Go.RowKit
set_option maxRecDepth 100000
set_option maxHeartbeats 400000 in
theorem specBins_any (v : Value) (a : AttrD) (w : World) (h : AttrAt w v a) (hn : okA a) :
    Calls Try.prog 66 #[v] w fun e w' => e = .returned (.int .i64 (bins a)) ∧ Below w.heap.size w w' := by
  have c := fun W (hW : Below w.heap.size w W) => specAttrOk_any v a W (h.later hW) hn
  have lc := hn.cuts
  have lv := hn.vals.1
  obtain ⟨vc, vv, rfl, hc, hv⟩ := h
  obtain ⟨oc, cc, rfl, hcc, hcr⟩ := hc
  obtain ⟨ov, cv, rfl, hvc, hvr⟩ := hv
  clear hcr hvr hn
  have HB : Hid (∀ o, Below w.heap.size w (w.alloc o)) := fun o => (Below.refl _ _).alloc (Nat.le_refl _) _
  cases hok : attrOk a with
  | false =>
    have HF : Hid (bins a = 0) := by unfold bins; rw [hok]; rfl
    rw [hok] at c
    clear hok
    go_enter Try.func66, Try.ntmps66
    go_wp2_with fail
    refine (c _ (HB.out _)).mono ?_
    rintro e w1 ⟨rfl, hb1⟩
    go_wp2
    go_ret
    exact ⟨by rw [HF.out]; rfl, (HB.out _).trans (hb1.mono (by simp))⟩
  | true =>
    rw [hok] at c
    have hkind := ok_kind hok
    by_cases h0 : 0 < a.cuts.length
    · have HF : Hid (bins a = a.cuts.length + 1) := by unfold bins; rw [hok, if_pos rfl, if_pos (by omega)]; rfl
      clear hok hkind
      go_enter Try.func66, Try.ntmps66
      go_wp2_with fail
      refine (c _ (HB.out _)).mono ?_
      rintro e w1 ⟨rfl, hb1⟩
      have K := (Blk.new _ _ _).below hb1
      have B1 := (HB.out _).trans (hb1.mono (by simp))
      have k1 : w1.cell? ⟨w.heap.size, 1, none⟩ = some (.slice oc a.cuts.length cc) := K.cell 1
      have k2 : w1.cell? ⟨w.heap.size, 2, none⟩ = some (.slice ov a.vals.length cv) := K.cell 2
      clear c hb1 K
      go_wp2
      go_ret
      exact ⟨by rw [HF.out]; first | rfl | (congr 1; go_num), B1⟩
    · have HF : Hid (bins a = a.vals.length) := by unfold bins; rw [hok, if_pos rfl, if_neg (by omega)]; rfl
      clear hok hkind
      go_enter Try.func66, Try.ntmps66
      go_wp2_with fail
      refine (c _ (HB.out _)).mono ?_
      rintro e w1 ⟨rfl, hb1⟩
      have K := (Blk.new _ _ _).below hb1
      have B1 := (HB.out _).trans (hb1.mono (by simp))
      have k1 : w1.cell? ⟨w.heap.size, 1, none⟩ = some (.slice oc a.cuts.length cc) := K.cell 1
      have k2 : w1.cell? ⟨w.heap.size, 2, none⟩ = some (.slice ov a.vals.length cv) := K.cell 2
      clear c hb1 K
      go_wp2
      go_ret
      exact ⟨by rw [HF.out]; rfl, B1⟩
end Go.Proofs.Ytobimpgapfecoab
