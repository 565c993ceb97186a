/- Texts of this claim, put together: part 17. -/
import Derived.Test.YtobimpgapfecoabPromisePack7
import Derived.Test.YtobimpgapfecoabPromisePack9
import Derived.Test.YtobimpgapfecoabPromisePack16
import Derived.Test.YtobimpgapfecoabRows
import Derived.WalkKit
import Derived.ProofKit
import Derived.OpenShut
import Derived.Deep.RegionHeld3
import Derived.Test.YtobimpgapfecoabPromisePack3
/- The place of the greatest number, by the specification. -/
namespace Go.Proofs.Ytobimpgapfecoab
open Go.RowKit
set_option maxRecDepth 100000
set_option linter.unusedSimpArgs false
set_option maxHeartbeats 800000 in
theorem specTop_any (v : Value) (l : List Int) (w : World) (h : RowI w v l) (hn : l.length ≤ 1099511627776) :
    Calls Try.prog 61 #[v] w fun e w' => e = .returned (.int .i64 (topOf l)) ∧ Below w.heap.size w w' := by
  obtain ⟨oa, cap, rfl, hc, hr⟩ := h
  have HR : Hid (0 < l.length → ∃ g o, oa = some ⟨g, o, none⟩ ∧ g < w.heap.size ∧ ∀ j, j < l.length → w.cell? ⟨g, o + j, none⟩ = some (.int .i64 (l.getD j 0))) := hr
  clear hr
  go_enter Try.func61, Try.ntmps61
  go_wp2
  go_loopw [3, 4] (fun a i wr => ∃ (k : Nat) (p : Int) (q : Nat), i = .int .i64 k ∧ a = .int .i64 p ∧ k ≤ l.length ∧ -1 ≤ p ∧ p < (k : Int) ∧ Hid (topOf l = topFrom l p k (l.length - k)) ∧ wr = w.drewN q) (fun _ i _ => l.length - (intOf i).toNat)
  case atStart => exact ⟨0, -1, 0, rfl, rfl, by omega, by omega, by omega, rfl, rfl⟩
  case round =>
    obtain ⟨k, p, q, rfl, rfl, hk, hp0, hp1, HT, rfl⟩ := hrel
    by_cases hlt : k < l.length
    · obtain ⟨g, o, rfl, hg, hj⟩ := HR.out (by omega)
      have ha := hj k hlt
      by_cases hpn : p < 0
      · have HN : Hid (topOf l = topFrom l (k : Int) (k + 1) (l.length - (k + 1))) := by rw [HT.out, topFrom_step hlt, if_pos (.inl hpn)]; rfl
        clear hj
        go_wp2
        go_quiet (fail)
        all_goals go_wp2
        all_goals go_roundw
        case rel => exact ⟨k + 1, k, _, by go_num, rfl, by omega, by omega, by omega, HN, by first | rfl | (simp only [World.drewN_drewN]; rfl)⟩
        case measure => simp [intOf]; omega
      · obtain ⟨m, rfl⟩ := Int.eq_ofNat_of_zero_le (show 0 ≤ p by omega)
        have hb := hj m (by omega)
        have hml : m < l.length := by omega
        clear hj
        by_cases hgt : l.getD m 0 < l.getD k 0
        · have HN : Hid (topOf l = topFrom l (k : Int) (k + 1) (l.length - (k + 1))) := by rw [HT.out, topFrom_step hlt, if_pos (.inr hgt)]; rfl
          generalize l.getD m 0 = y at hb hgt
          generalize l.getD k 0 = x at ha hgt
          go_wp2
          go_quiet (fail)
          all_goals go_wp2
          all_goals go_roundw
          case rel => exact ⟨k + 1, k, _, by go_num, rfl, by omega, by omega, by omega, HN, by first | rfl | (simp only [World.drewN_drewN]; rfl)⟩
          case measure => simp [intOf]; omega
        · have HN : Hid (topOf l = topFrom l (m : Int) (k + 1) (l.length - (k + 1))) := by rw [HT.out, topFrom_step hlt, if_neg (fun h => h.elim (fun h => by omega) hgt)]; rfl
          generalize l.getD m 0 = y at hb hgt
          generalize l.getD k 0 = x at ha hgt
          go_wp2
          go_quiet (fail)
          all_goals go_wp2
          all_goals go_roundw
          case rel => exact ⟨k + 1, m, _, by go_num, rfl, by omega, by omega, by omega, HN, by first | rfl | (simp only [World.drewN_drewN]; rfl)⟩
          case measure => simp [intOf]; omega
    · have HN : Hid (topOf l = p) := by rw [HT.out, show l.length - k = 0 by omega]; rfl
      go_wp2
      go_ret
      exact ⟨by rw [HN.out]; rfl, below_drewN (Below.refl _ _) _⟩
end Go.Proofs.Ytobimpgapfecoab
/- What counts promise, by the specification. -/
namespace Go.Proofs.Ytobimpgapfecoab
open Go.RowKit
set_option maxRecDepth 100000
set_option linter.unusedSimpArgs false
set_option maxHeartbeats 1600000 in
theorem specPromise_any (vs vt : Value) (s : SchemaD) (t : StatsD) (w : World) (hs : SchemaAt w vs s) (ht : StatsAt w vt t) (hn : okSch s) (hb : okSt t) :
    Calls Try.prog 25 #[vs, vt] w fun r w' => r = .returned (.int .i64 (promise s t)) ∧ Below w.heap.size w w' := by
  have mixed : Try.prog.follows .mixedOrders = true := by kernel_rfl
  have HS : Hid (∀ W, Below w.heap.size w W → SchemaAt W vs s) := fun W h => hs.later h
  have HT : Hid (∀ W, Below w.heap.size w W → StatsAt W vt t) := fun W h => ht.later h
  have HOK : Hid (okSch s) := hn
  have HOT : Hid (okSt t) := hb
  obtain ⟨va, vc, rfl, -, -⟩ := hs
  obtain ⟨vx, vy, rfl, rx, -⟩ := ht
  obtain ⟨ox, kx, rfl, -, -⟩ := id rx
  have lx := hb.totals
  clear rx hn hb
  have B0 : Below w.heap.size w ((w.alloc (.cells #[va, vc] 40)).alloc (.cells #[.slice ox t.totals.length kx, vy] 35)) := ((Below.refl _ _).alloc (Nat.le_refl _) _).alloc (by simp) _
  have K1 := (Blk.new 40 w #[va, vc]).alloc (.cells #[.slice ox t.totals.length kx, vy] 35)
  have K2 : Blk 35 ((w.alloc (.cells #[va, vc] 40)).alloc (.cells #[.slice ox t.totals.length kx, vy] 35)) (w.heap.size + 1) #[.slice ox t.totals.length kx, vy] := by
    have := Blk.new 35 (w.alloc (.cells #[va, vc] 40)) #[.slice ox t.totals.length kx, vy]
    rwa [show (w.alloc (.cells #[va, vc] 40)).heap.size = w.heap.size + 1 by simp] at this
  have e1 := specStatsOk_any _ _ s t _ (HS.out _ B0) (HT.out _ B0) HOK.out HOT.out
  cases hk : statsOk s t with
  | false =>
    have HE : Hid (promise s t = 0) := by unfold promise; rw [hk]; rfl
    rw [hk] at e1
    clear hk K1 K2
    go_enter Try.func25, Try.ntmps25
    go_wp2_with fail
    refine e1.mono ?_
    clear e1
    rintro r w1 ⟨rfl, hb1⟩
    go_wp2
    go_ret
    exact ⟨by rw [HE.out]; rfl, B0.trans (hb1.mono (by simp; omega))⟩
  | true =>
    have HE : Hid (promise s t = statsTotal s t - t.totals.getD (topOf t.totals).toNat 0) := by unfold promise; rw [hk]; rfl
    obtain ⟨hp1, hp2, hp3, hp4⟩ := statsOk_parts hk
    have hc2 := sch_classes hp1
    have hl3 : 2 ≤ t.totals.length ∧ t.totals.length ≤ 3 := by omega
    have htot : 0 ≤ statsTotal s t ∧ statsTotal s t ≤ 999 := by unfold statsTotal; rw [if_pos hk]; exact ⟨sum_nonneg hp3, hp4⟩
    obtain ⟨ht0, ht1⟩ := topOf_range (show 0 < t.totals.length by omega)
    obtain ⟨p, hp⟩ := Int.eq_ofNat_of_zero_le ht0
    have hpl : p < t.totals.length := by omega
    obtain ⟨hx0, hx1⟩ := allW_at hp3 hpl
    have HE2 : Hid (promise s t = statsTotal s t - t.totals.getD p 0) := by rw [HE.out, hp]; rfl
    rw [hk] at e1
    clear hk hp1 hp2 hp3 hp4 hc2 HE ht0 ht1
    go_enter Try.func25, Try.ntmps25
    go_wp2_with fail
    refine e1.mono ?_
    clear e1
    rintro r w1 ⟨rfl, hb1⟩
    have B1 := B0.trans (hb1.mono (by simp; omega))
    have k1 := K1.below hb1
    have k2 := K2.below hb1
    clear hb1 B0 K1 K2
    obtain ⟨vx', vy', e', rX, -⟩ := HT.out w1 B1
    cases e'
    have cO := fun d os => Calls.regrown_of (specTop_any (.slice ox t.totals.length kx) t.totals (Go.Sort.grow (redrawn w1 d) os) (rX.later (below_regrown w1 d os)) lx)
    obtain ⟨ox', kx', e', -, hrX⟩ := rX
    cases e'
    obtain ⟨gx, fx, rfl, hgx, hjX⟩ := hrX (by omega)
    have b0 := hjX p hpl
    have HB : Hid (∀ d os, Below w.heap.size w (Go.Sort.grow (redrawn w1 d) os)) := fun d os => B1.trans ((below_regrown w1 d os).mono B1.size)
    have cT := fun d os => Calls.regrown_of (specTotal_any _ _ s t (Go.Sort.grow (redrawn w1 d) os) (HS.out _ (HB.out d os)) (HT.out _ (HB.out d os)) HOK.out HOT.out)
    have f2 := fun d os => cell_regrown b0 d os
    have c0 : w1.cell? ⟨w.heap.size + 1, 0, none⟩ = some (.slice (some ⟨gx, fx, none⟩) t.totals.length kx) := k2.cell 0
    have c1 : w1.cell? ⟨w.heap.size + 1, 1, none⟩ = some vy := k2.cell 1
    have c2 : w1.cell? ⟨w.heap.size, 0, none⟩ = some va := k1.cell 0
    have c3 : w1.cell? ⟨w.heap.size, 1, none⟩ = some vc := k1.cell 1
    have d0 := fun d os => cell_regrown c0 d os
    have d1 := fun d os => cell_regrown c1 d os
    have d2 := fun d os => cell_regrown c2 d os
    have d3 := fun d os => cell_regrown c3 d os
    rw [hp] at cO
    clear hjX hrX hgx b0 hp
    generalize t.totals.getD p 0 = x at f2 hx0 hx1 HE2
    generalize statsTotal s t = y at cT htot HE2
    obtain ⟨hy0, hy1⟩ := htot
    go_wp2
    refine wp_region_quiet_below mixed (by kernel_rfl) ?_
    repeat (go_big_quiet_step (first | with_reducible exact cT _ _ | with_reducible exact cO _ _))
    refine wpQuiet_nil ?_
    intro _ hw'
    obtain ⟨⟨dq, osq⟩, hw''⟩ := hw'
    subst hw''
    go_wp2
    go_ret
    exact ⟨by rw [HE2.out]; rfl, HB.out _ _⟩
end Go.Proofs.Ytobimpgapfecoab
/- In a region that draws its order: what may be taken first, what comes next. -/
namespace Go.Proofs.Ytobimpgapfecoab
open Go.RowKit
set_option maxRecDepth 100000

section
variable {Pr : Program} {ops : Array Oper} {Q : Exit → Act → World → Prop} {md : Region.Mode} {S : World → Prop}
/-- An operation that may come up now is taken first; it is read off the list, so that it stands written out. -/
theorem takeL (i : Nat) {oi : Oper} (v : Value) {fuel : Nat} {listed : Array Bool} {a : Act} {w : World} (hi : ops.toList[i]? = some oi)
    (hs : Region.noSelect ops = true) (hf : Region.free md ops listed i = true) (hr : (Region.ready md ops listed).contains i = true)
    (hQ : ∀ c a w, Q (.panic c) (a.put oi.dst v) w → Q (.panic c) a w) (hy : YieldsIf Pr ops S oi v a) (hS : S w)
    (h : wpAnyH Pr md ops Q S fuel (listed.setIfInBounds i true) (a.put oi.dst v) w) : wpAnyH Pr md ops Q S (fuel + 1) listed a w :=
  wpAnyH_take (by simpa using hi) hs hf hr hQ hy hS h
/-- The one operation that may come up now. -/
theorem nextL (i : Nat) {oi : Oper} {fuel : Nat} {listed : Array Bool} {a : Act} {w : World} (hi : ops.toList[i]? = some oi) (hr : Region.ready md ops listed = [i])
    (hw : Region.wanted oi (yielded ops a.tmps) = true)
    (h : ∀ K' : Act → World → Prop, (∀ a w, S w → (S w → wpAnyH Pr md ops Q S fuel (listed.setIfInBounds i true) a w) → K' a w) → Oper.wp Pr oi a w K' Q) : wpAnyH Pr md ops Q S (fuel + 1) listed a w := by
  refine wpAnyH_ready hr (by simp) (AllReadyH.cons (o := oi) (by simpa using hi) (fun K hK => ?_) AllReadyH.nil)
  rw [if_pos hw]
  exact h K hK.out
/-- Two may come up now, in either order. -/
theorem next2L (i j : Nat) {oi oj : Oper} {fuel : Nat} {listed : Array Bool} {a : Act} {w : World} (hi : ops.toList[i]? = some oi) (hj : ops.toList[j]? = some oj) (hr : Region.ready md ops listed = [i, j])
    (hw : Region.wanted oi (yielded ops a.tmps) = true) (hw2 : Region.wanted oj (yielded ops a.tmps) = true)
    (h : ∀ K' : Act → World → Prop, (∀ a w, S w → (S w → wpAnyH Pr md ops Q S fuel (listed.setIfInBounds i true) a w) → K' a w) → Oper.wp Pr oi a w K' Q)
    (h2 : ∀ K' : Act → World → Prop, (∀ a w, S w → (S w → wpAnyH Pr md ops Q S fuel (listed.setIfInBounds j true) a w) → K' a w) → Oper.wp Pr oj a w K' Q) : wpAnyH Pr md ops Q S (fuel + 1) listed a w := by
  refine wpAnyH_ready hr (by simp) (AllReadyH.cons (o := oi) (by simpa using hi) (fun K hK => ?_) (AllReadyH.cons (o := oj) (by simpa using hj) (fun K hK => ?_) AllReadyH.nil))
  · rw [if_pos hw]
    exact h K hK.out
  · rw [if_pos hw2]
    exact h2 K hK.out
end

section
variable {ops : Array Oper} {S : World → Prop} {op : Oper} {a : Act}
/-- The load of one integer. -/
theorem yields_int (hw : Region.wanted op (yielded ops a.tmps) = true) (x : Operand) (ho : op.op = .load 3 x) (p : Addr) (hx : a.eval x = .pointer (some p)) (n : Int)
    (hS : ∀ w, S w → w.cell? p = some (.int .i64 n)) : YieldsIf Try.prog ops S op (.int .i64 n) a :=
  .inl ⟨hw, fun w hw' => by
    have h := hS w hw'
    unfold execOp
    simp only [ho, hx]
    go_simp⟩
/-- A quotient. -/
theorem yields_quo (hw : Region.wanted op (yielded ops a.tmps) = true) (x y : Operand) (ho : op.op = .binOp .quo 3 x y 3) (m n : Int) (hx : a.eval x = .int .i64 m) (hy : a.eval y = .int .i64 n)
    (h0 : 0 ≤ m) (h1 : m ≤ 9223372036854775807) (h2 : 0 < n) : YieldsIf Try.prog ops S op (.int .i64 (m / n)) a :=
  .inl ⟨hw, fun w hw' => by
    have hle : m / n ≤ m := Int.ediv_le_self _ h0
    have hge : 0 ≤ m / n := Int.ediv_nonneg h0 (by omega)
    unfold execOp
    simp only [ho, hx, hy]
    go_simp
    have e : IntKind.i64.wrap (m.tdiv n) = m / n := by rw [IntKind.wrap_i64, Int.tdiv_eq_ediv_of_nonneg h0]; omega
    rw [if_neg (by omega), e]⟩
/-- Two texts, one behind the other. -/
theorem yields_cat (hw : Region.wanted op (yielded ops a.tmps) = true) (x y : Operand) (ho : op.op = .binOp .add 9 x y 9) (s t : ByteArray) (hx : a.eval x = .string s) (hy : a.eval y = .string t)
    (h : s.size + t.size ≤ 1000000) : YieldsIf Try.prog ops S op (.string (s ++ t)) a :=
  .inl ⟨hw, fun w hw' => by
    unfold execOp
    simp only [ho, hx, hy]
    go_simp
    omega⟩
end
end Go.Proofs.Ytobimpgapfecoab
/- In a region that draws its order: the load of a whole struct. -/
namespace Go.Proofs.Ytobimpgapfecoab
open Go.RowKit
set_option maxRecDepth 100000

theorem yields_row {ops : Array Oper} {S : World → Prop} {op : Oper} {a : Act} {T : TypeId} {d : Array Field} {cs : Array Value} (hu : Try.prog.underlying T = some (.struct d))
    (hi : (Try.prog.info? T).map (·.size) = some cs.size) (hw : Region.wanted op (yielded ops a.tmps) = true) (x : Operand) (ho : op.op = .load T x)
    (g : Nat) (hx : a.eval x = .pointer (some ⟨g, 0, none⟩)) (hS : ∀ w, S w → Blk T w g cs) : YieldsIf Try.prog ops S op (.agg cs) a :=
  .inl ⟨hw, fun w hw' => by
    unfold execOp
    simp only [ho, hx, Instr.loadAt, Instr.sureAddr, Sem.run_bind, Sem.run_pure, Result.andThen_ok, run_loadVar_row w g _ T _ _ _ (hS w hw') hu rfl hi]⟩
end Go.Proofs.Ytobimpgapfecoab
