/- Texts of this claim, put together: part 35. -/
import Derived.Test.YteadkdllmeeocaaFnScaledPack34
import Derived.Test.YteadkdllmeeocaaFnScaledPack5
import Derived.Test.YteadkdllmeeocaaFnScaledPack6
import Derived.Test.YteadkdllmeeocaaFnScaledPack3
import Derived.Test.YteadkdllmeeocaaFnScaledPack33
import Derived.Test.YteadkdllmeeocaaFnScaledPack23
import Derived.Test.YteadkdllmeeocaaFnScaledPack14
import Derived.Test.YteadkdllmeeocaaFnScaledPack8
import Derived.Test.YteadkdllmeeocaaFnScaledPack11
/- Whether counts are right and not thin, by the program. -/
namespace Go.Proofs.Yteadkdllmeeocaa
open Go.RowKit
set_option maxRecDepth 100000
set_option linter.unusedSimpArgs false
theorem counted_yes {s : SchemaD} {t : StatsD} (h : (statsOk s t && decide (t.cells.length ≠ 0)) = true) : statsOk s t = true ∧ t.cells.length ≠ 0 := by
  rw [Bool.and_eq_true, decide_eq_true_eq] at h
  exact h
theorem counted_any (vs vt : Value) (s : SchemaD) (t : StatsD) (w : World) (hs : SchemaAt w vs s) (ht : StatsAt w vt t) (hn : okSch s) (hb : okSt t) :
    Calls Try.prog 36 #[vs, vt] w fun e w' => e = .returned (.bool (statsOk s t && decide (t.cells.length ≠ 0))) ∧ Below w.heap.size w w' := by
  have c1 := fun W h => implStatsOk_any vs vt s t W (hs.later h) (ht.later h) hn hb
  have c2 := fun W h => thin_any vt t W (ht.later h)
  obtain ⟨va, vc, rfl, ra, rc⟩ := hs
  obtain ⟨oa, ka, rfl, -, -⟩ := id ra
  obtain ⟨oc, kc, rfl, -, -⟩ := id rc
  obtain ⟨vx, vy, rfl, rx, ry⟩ := ht
  obtain ⟨ox, kx, rfl, -, -⟩ := id rx
  obtain ⟨oy, ky, rfl, -, -⟩ := id ry
  clear ra rc rx ry hn hb
  obtain ⟨KS, KT, B⟩ := blk_2 33 36 w #[.slice oa s.attrs.length ka, .slice oc s.classes.length kc] #[.slice ox t.totals.length kx, .slice oy t.cells.length ky]
  have d1 := c1 _ B
  generalize hW : (w.alloc (.cells #[.slice oa s.attrs.length ka, .slice oc s.classes.length kc] 33)).alloc (.cells #[.slice ox t.totals.length kx, .slice oy t.cells.length ky] 36) = w1 at *
  clear c1
  have kS0 := KS.cell 0
  have kS1 := KS.cell 1
  have kT0 := KT.cell 0
  have kT1 := KT.cell 1
  have hl0 : (t.cells.length : Int) = 0 ↔ t.cells.length = 0 := by omega
  have ENDT : Hid (∀ W, Below w.heap.size w W → Calls Try.prog 60 #[.agg #[.slice ox t.totals.length kx, .slice oy t.cells.length ky]] W fun e w' => e = .returned (.bool (decide (t.cells.length = 0))) ∧ Below W.heap.size W w') := c2
  clear c2 hl0
  cases hk : statsOk s t with
  | false =>
    rw [hk] at d1
    clear hk ENDT
    go_enter Try.func36, Try.ntmps36
    go_wp2_with fail
    refine d1.mono ?_
    clear d1
    rintro e w2 ⟨rfl, hb⟩
    clear kS0 kS1 kT0 kT1
    go_wp2
    go_ret
    exact ⟨rfl, B.trans (hb.mono B.size)⟩
  | true =>
    rw [hk] at d1
    clear hk
    go_enter Try.func36, Try.ntmps36
    go_wp2_with fail
    refine d1.mono ?_
    clear d1
    rintro e w2 ⟨rfl, hb⟩
    replace B := B.trans (hb.mono B.size)
    replace KT := KT.below hb
    clear kS0 kS1 kT0 kT1 hb KS hW
    have kT0 := KT.cell 0
    have kT1 := KT.cell 1
    have d2 := ENDT.out _ B
    clear ENDT
    go_wp2_with fail
    refine d2.mono ?_
    clear d2
    rintro e w3 ⟨rfl, hb⟩
    clear kT0 kT1
    by_cases h0 : t.cells.length = 0
    · rw [decide_eq_true h0]
      have HE : Hid (decide (t.cells.length ≠ 0) = false) := decide_eq_false fun h => h h0
      clear h0
      go_wp2
      go_ret
      exact ⟨by rw [HE.out]; rfl, B.trans (hb.mono B.size)⟩
    · rw [decide_eq_false h0]
      have HE : Hid (decide (t.cells.length ≠ 0) = true) := decide_eq_true h0
      clear h0
      go_wp2
      go_ret
      exact ⟨by rw [HE.out]; rfl, B.trans (hb.mono B.size)⟩
end Go.Proofs.Yteadkdllmeeocaa
/- What is counted at a place of a list of cells, by the program. -/
namespace Go.Proofs.Yteadkdllmeeocaa
open Go.RowKit
set_option maxRecDepth 100000
set_option linter.unusedSimpArgs false
theorem buildKeyA (a b : Int) (w : World) : (Instr.build 86 #[(0, .int .i64 a), (1, .int .i64 b)]).run Try.prog w = .ok (.agg #[.int .i64 a, .int .i64 b]) w := run_build w 86 _ _ (by kernel_rfl)
theorem key_size : (Try.prog.info? 86).map (·.size) = some 2 := by kernel_rfl
theorem yields_remA {ops : Array Oper} {S : World → Prop} {op : Oper} {a : Act} (hw : Region.wanted op (yielded ops a.tmps) = true) (x y : Operand) (ho : op.op = .binOp .rem 3 x y 3) (m n : Nat) (hx : a.eval x = .int .i64 (m : Int)) (hy : a.eval y = .int .i64 (n : Int))
    (_ : m ≤ 1099511627776) (h2 : 0 < n) : YieldsIf Try.prog ops S op (.int .i64 ((m % n : Nat) : Int)) a :=
  .inl ⟨hw, fun w hw' => by
    have e0 : (m : Int).tmod (n : Int) = ((m % n : Nat) : Int) := rfl
    have hle : m % n ≤ m := Nat.mod_le _ _
    unfold execOp
    simp only [ho, hx, hy]
    go_simp
    omega⟩
set_option maxHeartbeats 1600000 in
theorem keyAt_any (k m : Nat) (w : World) (hk : k ≤ 1099511627776) (hm : 0 < m) (hm2 : m ≤ 1099511627776) :
    Calls Try.prog 62 #[.int .i64 (k : Int), .int .i64 (m : Int)] w fun e w' => e = .returned (.agg #[.int .i64 ((k / m : Nat) : Int), .int .i64 ((k % m : Nat) : Int)]) ∧ Below w.heap.size w w' := by
  have hquo : (k : Int) / (m : Int) = ((k / m : Nat) : Int) := rfl
  have K0 := Blk.new 86 w #[.int .i64 0, .int .i64 0]
  have B : Below w.heap.size w (w.alloc (.cells #[.int .i64 0, .int .i64 0] 86)) := (Below.refl _ _).alloc (Nat.le_refl _) _
  go_enter Try.func62, Try.ntmps62
  go_wp2_with fail
  refine wp_region_held_drew (S := fun w' => Below w.heap.size w w') (by kernel_rfl) B.drew ?_
  intro hS
  have K3 := K0.below (Below.refl _ _).drew
  clear K0 B
  generalize (w.alloc (.cells #[.int .i64 0, .int .i64 0] 86)).drew = w3 at hS K3 ⊢
  refine takeL 0 (.int .i64 (k : Int)) rfl (by kernel_rfl) (by kernel_rfl) (by kernel_rfl) (fun _ _ _ h => h) (.inl ⟨by rfl, fun w _ => by rfl⟩) hS ?_
  simp only [Act.put, List.setIfInBounds_toArray, List.set_cons_zero, List.set_cons_succ]
  refine takeL 1 (.int .i64 (m : Int)) rfl (by kernel_rfl) (by kernel_rfl) (by kernel_rfl) (fun _ _ _ h => h) (.inl ⟨by rfl, fun w _ => by rfl⟩) hS ?_
  simp only [Act.put, List.setIfInBounds_toArray, List.set_cons_zero, List.set_cons_succ]
  refine takeL 2 (.int .i64 ((k : Int) / (m : Int))) rfl (by kernel_rfl) (by kernel_rfl) (by kernel_rfl) (fun _ _ _ h => h) (yields_quo (by rfl) _ _ rfl (k : Int) (m : Int) rfl rfl (by omega) (by omega) (by omega)) hS ?_
  simp only [Act.put, List.setIfInBounds_toArray, List.set_cons_zero, List.set_cons_succ, hquo]
  refine takeL 3 (.int .i64 (k : Int)) rfl (by kernel_rfl) (by kernel_rfl) (by kernel_rfl) (fun _ _ _ h => h) (.inl ⟨by rfl, fun w _ => by rfl⟩) hS ?_
  simp only [Act.put, List.setIfInBounds_toArray, List.set_cons_zero, List.set_cons_succ]
  refine takeL 4 (.int .i64 (m : Int)) rfl (by kernel_rfl) (by kernel_rfl) (by kernel_rfl) (fun _ _ _ h => h) (.inl ⟨by rfl, fun w _ => by rfl⟩) hS ?_
  simp only [Act.put, List.setIfInBounds_toArray, List.set_cons_zero, List.set_cons_succ]
  refine takeL 5 (.int .i64 ((k % m : Nat) : Int)) rfl (by kernel_rfl) (by kernel_rfl) (by kernel_rfl) (fun _ _ _ h => h) (yields_remA (by rfl) _ _ rfl k m rfl rfl (by omega) hm) hS ?_
  simp only [Act.put, List.setIfInBounds_toArray, List.set_cons_zero, List.set_cons_succ]
  refine takeL 6 (.agg #[.int .i64 ((k / m : Nat) : Int), .int .i64 ((k % m : Nat) : Int)]) rfl (by kernel_rfl) (by kernel_rfl) (by kernel_rfl) (fun _ _ _ h => h) (.inl ⟨by rfl, fun w _ => by have e := buildKeyA ((k / m : Nat) : Int) ((k % m : Nat) : Int) w; unfold execOp; simp only [List.map_toArray, List.map_cons, List.map_nil, Sem.run_bind]; exact (congrArg (fun r => Result.andThen r fun z w' => (pure (Next.value z) : Sem Next).run Try.prog w') e)⟩) hS ?_
  simp only [Act.put, List.setIfInBounds_toArray, List.set_cons_zero, List.set_cons_succ]
  refine nextL 7 rfl (by kernel_rfl) (by rfl) fun K hK => ?_
  refine wp_store_row 86 _ _ rfl w.heap.size #[.int .i64 ((k / m : Nat) : Int), .int .i64 ((k % m : Nat) : Int)] rfl rfl _ _ K3 key_size rfl (by simp [Value.oneCell']) ?_
  have K4 := K3.setRow #[.int .i64 ((k / m : Nat) : Int), .int .i64 ((k % m : Nat) : Int)]
  have hb4 := below_row hS (Nat.le_refl _) #[.int .i64 ((k / m : Nat) : Int), .int .i64 ((k % m : Nat) : Int)]
  clear K3
  refine hK _ _ hb4 ?_
  clear hK K hS
  generalize w3.setRow w.heap.size #[.int .i64 ((k / m : Nat) : Int), .int .i64 ((k % m : Nat) : Int)] = w4 at hb4 K4 ⊢
  intro hS
  simp only [Act.put]
  refine wpAnyH_done (by kernel_rfl) ?_ _
  go_wp2
  exact bodyPost_ret (results_cell_row Try.results62 _ _ w.heap.size _ _ _ _ rfl K4 Try.underlying86 rfl key_size) rfl ⟨rfl, hb4⟩
end Go.Proofs.Yteadkdllmeeocaa
/- What a branch has of each class, by the program. -/
namespace Go.Proofs.Yteadkdllmeeocaa
open Go.RowKit
set_option maxRecDepth 100000
set_option linter.unusedSimpArgs false
theorem totals_none {s : SchemaD} {t : StatsD} {f : ForkD} {i : Int} (h : totalsOk s t f i = false) : branchTotals s t f i = [] := by unfold branchTotals; rw [if_neg (by rw [h]; exact Bool.false_ne_true)]
theorem counted_none {s : SchemaD} {t : StatsD} {f : ForkD} {i : Int} (h : (statsOk s t && decide (t.cells.length ≠ 0)) = false) : (statsOk s t && (decide (t.cells.length ≠ 0) && (forkOk s f && decide (0 ≤ i ∧ i ≤ branches s f - 1)))) = false := by
  rw [← Bool.and_assoc, h, Bool.false_and]
theorem statsOk_schema {s : SchemaD} {t : StatsD} (h : statsOk s t = true) : schemaOk s = true := (statsOk_parts h).1
theorem fork_bins {s : SchemaD} {f : ForkD} (h : forkOk s f = true) : 1 ≤ bins (forkAttr s f) := by
  have h1 := fork_attr h
  have h2 := ok_kind h1
  unfold bins
  rw [if_pos h1]
  split <;> omega
set_option maxHeartbeats 6400000 in
theorem implBranchTotals_any (vs vt : Value) (s : SchemaD) (t : StatsD) (f : ForkD) (i : Int) (w : World) (hs : SchemaAt w vs s) (ht : StatsAt w vt t) (hn : okSch s) (hb : okSt t) :
    Calls Try.prog 38 #[vs, vt, forkV f, .int .i64 i] w fun e w' => ∃ v, e = .returned v ∧ OwnI w w' v (branchTotals s t f i) := by
  unfold forkV
  have HS : Hid (∀ W, Below w.heap.size w W → SchemaAt W vs s) := fun W h => hs.later h
  have HT : Hid (∀ W, Below w.heap.size w W → StatsAt W vt t) := fun W h => ht.later h
  have HOK : Hid (okSch s) := hn
  have HOT : Hid (okSt t) := hb
  have CQ : Hid (∀ W, Below w.heap.size w W → Calls Try.prog 58 #[vs, forkV f] W fun e w' => e = .returned (.tuple #[questionV s f, .bool (forkOk s f)]) ∧ Below W.heap.size W w') := fun W hW => questionOf_any vs s f W (hs.later hW) hn
  unfold forkV at CQ
  obtain ⟨va, vc, rfl, ra, rc⟩ := hs
  obtain ⟨oa, ka, rfl, -, -⟩ := id ra
  obtain ⟨oc, kc, rfl, -, -⟩ := id rc
  obtain ⟨vx, vy, rfl, rx, ry⟩ := ht
  obtain ⟨ox, kx, rfl, -, -⟩ := id rx
  obtain ⟨oy, ky, rfl, -, -⟩ := id ry
  clear ra rc rx ry
  have la := hn.attrs
  clear hn hb
  obtain ⟨KS, KT, KF, B⟩ := blk_3 33 36 38 w #[.slice oa s.attrs.length ka, .slice oc s.classes.length kc] #[.slice ox t.totals.length kx, .slice oy t.cells.length ky] #[.int .i64 f.attr, .int .i64 f.pos]
  go_enter Try.func38, Try.ntmps38
  have cc := CQ.out _ B
  have kS0 : (((w.alloc (.cells #[.slice oa s.attrs.length ka, .slice oc s.classes.length kc] 33)).alloc (.cells #[.slice ox t.totals.length kx, .slice oy t.cells.length ky] 36)).alloc (.cells #[.int .i64 f.attr, .int .i64 f.pos] 38)).cell? ⟨w.heap.size, 0, none⟩ = some (.slice oa s.attrs.length ka) := KS.cell 0
  have kS1 : (((w.alloc (.cells #[.slice oa s.attrs.length ka, .slice oc s.classes.length kc] 33)).alloc (.cells #[.slice ox t.totals.length kx, .slice oy t.cells.length ky] 36)).alloc (.cells #[.int .i64 f.attr, .int .i64 f.pos] 38)).cell? ⟨w.heap.size, 1, none⟩ = some (.slice oc s.classes.length kc) := KS.cell 1
  have kF0 : (((w.alloc (.cells #[.slice oa s.attrs.length ka, .slice oc s.classes.length kc] 33)).alloc (.cells #[.slice ox t.totals.length kx, .slice oy t.cells.length ky] 36)).alloc (.cells #[.int .i64 f.attr, .int .i64 f.pos] 38)).cell? ⟨w.heap.size + 1 + 1, 0, none⟩ = some (.int .i64 f.attr) := KF.cell 0
  have kF1 : (((w.alloc (.cells #[.slice oa s.attrs.length ka, .slice oc s.classes.length kc] 33)).alloc (.cells #[.slice ox t.totals.length kx, .slice oy t.cells.length ky] 36)).alloc (.cells #[.int .i64 f.attr, .int .i64 f.pos] 38)).cell? ⟨w.heap.size + 1 + 1, 1, none⟩ = some (.int .i64 f.pos) := KF.cell 1
  go_wp2_with fail
  refine cc.mono ?_
  clear cc
  clear kS0 kS1 kF0 kF1
  rintro e w1 ⟨rfl, hb⟩
  replace KS := KS.below hb
  replace KT := KT.below hb
  replace KF := KF.below hb
  replace B := B.trans (hb.mono B.size)
  clear hb
  clear CQ
  cases hk : forkOk s f with
  | false =>
    have HE : Hid (branchTotals s t f i = []) := totals_none (by unfold totalsOk; rw [hk]; simp)
    go_wp2
    go_ret
    exact ⟨_, rfl, by rw [HE.out]; exact World.ownsRow_nil _ _ _ _, B⟩
  | true =>
    have HQ : Hid (forkOk s f = true) := hk
    clear hk
    have cc := counted_any _ _ s t _ (HS.out _ B) (HT.out _ B) HOK.out HOT.out
    have kS0 : w1.cell? ⟨w.heap.size, 0, none⟩ = some (.slice oa s.attrs.length ka) := KS.cell 0
    have kS1 : w1.cell? ⟨w.heap.size, 1, none⟩ = some (.slice oc s.classes.length kc) := KS.cell 1
    have kT0 : w1.cell? ⟨w.heap.size + 1, 0, none⟩ = some (.slice ox t.totals.length kx) := KT.cell 0
    have kT1 : w1.cell? ⟨w.heap.size + 1, 1, none⟩ = some (.slice oy t.cells.length ky) := KT.cell 1
    go_wp2_with fail
    refine cc.mono ?_
    clear cc
    clear kS0 kS1 kT0 kT1
    rintro e w2 ⟨rfl, hb⟩
    replace KS := KS.below hb
    replace KT := KT.below hb
    replace KF := KF.below hb
    replace B := B.trans (hb.mono B.size)
    clear hb
    cases hk : (statsOk s t && decide (t.cells.length ≠ 0)) with
    | false =>
      have HE : Hid (branchTotals s t f i = []) := totals_none (by unfold totalsOk; exact counted_none hk)
      go_wp2
      go_ret
      exact ⟨_, rfl, by rw [HE.out]; exact World.ownsRow_nil _ _ _ _, B⟩
    | true =>
      have HST : Hid (statsOk s t = true) := (counted_yes hk).1
      have HN0 : Hid (t.cells.length ≠ 0) := (counted_yes hk).2
      clear hk
      by_cases hi : i < 0
      ·
        have HE : Hid (branchTotals s t f i = []) := totals_none (by unfold totalsOk; rw [decide_eq_false (show ¬ (0 ≤ i ∧ i ≤ branches s f - 1) by omega)]; simp)
        go_wp2
        go_ret
        exact ⟨_, rfl, by rw [HE.out]; exact World.ownsRow_nil _ _ _ _, B⟩
      have cc := branchesOf_any s f w2
      go_wp2_with fail
      refine cc.mono ?_
      clear cc
      rintro e w3 ⟨rfl, hb⟩
      replace KS := KS.below hb
      replace KT := KT.below hb
      replace KF := KF.below hb
      replace B := B.trans (hb.mono B.size)
      clear hb
      have HBR : Hid (∀ z, z = branches s f → (0 ≤ i ∧ i ≤ z - 1) = (0 ≤ i ∧ i ≤ branches s f - 1)) := fun z h => by rw [h]
      obtain ⟨nb, hnb⟩ : ∃ nb, branches s f = nb := ⟨_, rfl⟩
      rw [hnb]
      have HNB : Hid (branches s f = nb) := hnb
      clear hnb HBR
      by_cases hi2 : nb ≤ i
      ·
        have HE : Hid (branchTotals s t f i = []) := totals_none (by unfold totalsOk; rw [decide_eq_false (show ¬ (0 ≤ i ∧ i ≤ branches s f - 1) by rw [HNB.out]; omega)]; simp)
        go_wp2
        go_ret
        exact ⟨_, rfl, by rw [HE.out]; exact World.ownsRow_nil _ _ _ _, B⟩
      have HTO : totalsOk s t f i = true := by
        unfold totalsOk
        rw [HST.out, decide_eq_true HN0.out, HQ.out, decide_eq_true (show 0 ≤ i ∧ i ≤ branches s f - 1 by rw [HNB.out]; omega)]; rfl
      obtain ⟨-, ⟨a, hfa, hal, hat⟩, -, -⟩ := fork_parts HQ.out
      obtain ⟨hac, hlen, hcol⟩ := cells_right HST.out HN0.out hal
      have hm := sch_classes (statsOk_schema HST.out)
      have hn4 := small_bins (ad s.attrs a)
      have HRES : Hid (branchTotals s t f i = curL s f i (il t.cells a) s.classes.length ((bins (ad s.attrs a)).toNat * s.classes.length)) := by show _ = _; rw [curL_all HTO, hat, hfa]; rfl
      have HAB : Hid (bins (forkAttr s f) = bins (ad s.attrs a)) := by show _ = _; rw [hat]
      obtain ⟨m, hmm⟩ : ∃ m, s.classes.length = m := ⟨_, rfl⟩
      obtain ⟨n, hnn⟩ : ∃ n, (bins (ad s.attrs a)).toNat = n := ⟨_, rfl⟩
      have HBN : Hid (bins (ad s.attrs a) = (n : Int)) := by show _ = _; omega
      have hn5 : n ≤ 4 := by omega
      rw [hmm, hnn] at hcol hlen HRES
      rw [hmm] at hm
      have HCOL : Hid (∀ b k, b < n → k < m → inW (colAt (il t.cells a) m k b) = true) := hcol
      clear hcol hnn hn4 HTO hat
      obtain ⟨c, hc⟩ : ∃ c, il t.cells a = c := ⟨_, rfl⟩
      rw [hc] at hlen HRES HCOL
      have hnm : n * m ≤ 12 := by have := Nat.mul_le_mul hn5 hm.2; omega
      have HMM : Hid (s.classes.length = m) := hmm
      have HCC : Hid (il t.cells a = c) := hc
      rw [hmm] at KS
      clear hmm hc
      by_cases hp : f.pos = -1
      · have hqv := questionV_yes HQ.out
        rw [if_pos hp] at hqv
        have CBR : Hid (∀ b W, Calls Try.prog 117 #[.agg #[.int .i64 (bins (forkAttr s f))], .int .i64 b] W fun e w' => e = .returned (.int .i64 (qBranch s f b)) ∧ Below W.heap.size W w') := fun b W => ((branch_any s f b W HQ.out (fun _ h => And.intro rfl h)).1 hp).2
        clear hp
        generalize questionV s f = qv at hqv ⊢
        subst hqv
        have kS1 : w3.cell? ⟨w.heap.size, 1, none⟩ = some (.slice oc m kc) := KS.cell 1
        have hib : decide (i < 0) = false := decide_eq_false (show ¬ i < 0 by omega)
        have hnbb : decide (nb ≤ i) = false := decide_eq_false (show ¬ nb ≤ i by omega)
        have hsz := B.size
        go_wp2_with (at_make; refine wpList_make_ints rfl _ rfl w3.heap.size m _ rfl rfl (by omega) (Nat.le_refl _) ?_)
        intro w6 hown hg
        clear kS1 hi hi2 hib hnbb
        have bM : Below w3.heap.size w3 w6 := (Below.refl _ _).grown hg (Nat.le_refl _) (fun k hk => by cases hk)
        clear hg
        have HK : Hid (∀ W, Below w3.heap.size w3 W → Blk 33 W w.heap.size #[.slice oa s.attrs.length ka, .slice oc m kc] ∧ Blk 36 W (w.heap.size + 1) #[.slice ox t.totals.length kx, .slice oy t.cells.length ky] ∧ Blk 38 W (w.heap.size + 1 + 1) #[.int .i64 f.attr, .int .i64 f.pos]) := fun W h => ⟨KS.below h, KT.below h, KF.below h⟩
        have HB5 : Hid (Below w.heap.size w w3) := B
        clear KS KT KF B
        obtain ⟨vx', vy', e', -, ry⟩ := HT.out w (Below.refl _ _)
        cases e'
        obtain ⟨oy', ky', e', -, hry⟩ := ry
        cases e'
        obtain ⟨gy, fy, rfl, hgy, hjy⟩ := hry (by omega)
        obtain ⟨u, hcu, hru⟩ := hjy a hac
        rw [HCC.out] at hru
        obtain ⟨og, kg, rfl, -, hrr⟩ := hru
        have hcp : 0 < c.length := by
          rw [hlen]
          exact Nat.mul_pos (by have := fork_bins HQ.out; rw [HAB.out, HBN.out] at this; omega) (by omega)
        obtain ⟨gb, ob, rfl, hgb, hjc⟩ := hrr hcp
        have HCJ : Hid (∀ W, Below w.heap.size w W → ∀ j, j < c.length → W.cell? ⟨gb, ob + j, none⟩ = some (.int .i64 (c.getD j 0))) := fun W h j hj => (h.cell (p := ⟨gb, ob + j, none⟩) hgb).trans (hjc j hj)
        have hcu6 := ((HB5.out.trans (bM.mono hsz)).cell (p := ⟨gy, fy + a, none⟩) hgy).trans hcu
        clear hjy hry hjc hrr hcu
        have kT1 : w6.cell? ⟨w.heap.size + 1, 1, none⟩ = some (.slice (some ⟨gy, fy, none⟩) t.cells.length ky) := (HK.out _ bM).2.1.cell 1
        have kF0 : w6.cell? ⟨w.heap.size + 1 + 1, 0, none⟩ = some (.int .i64 (a : Int)) := by rw [← hfa]; exact (HK.out _ bM).2.2.cell 0
        have HFA : Hid (f.attr = (a : Int)) := hfa
        clear hfa
        replace hown : w6.ownsRow w3.heap.size 3 1 (.slice (some ⟨w3.heap.size, 0, none⟩) m m) m ((curL s f i c m 0).map (Value.int .i64)) := by rw [curL_zero, List.map_replicate]; exact hown
        generalize hgo : w3.heap.size = go at hown ⊢
        have HGO : Hid (w3.heap.size = go) := hgo
        clear hgo
        go_wp2
        go_loopw [50] (fun idx wr => ∃ p : Nat, idx = .int .i64 p ∧ p ≤ c.length ∧ wr.ownsRow go 3 1 (.slice (some ⟨go, 0, none⟩) m m) m ((curL s f i c m p).map (Value.int .i64)) ∧ Hid (Below w3.heap.size w3 wr)) (fun idx _ => c.length - (intOf idx).toNat)
        case atStart => exact ⟨0, rfl, by omega, hown, bM⟩
        case round =>
          clear hown bM kT1 kF0 hcu6
          obtain ⟨p, rfl, hp, hown, HBR⟩ := hrel
          have hbr := HBR.out
          by_cases hlt : p < c.length
          rotate_left
          · obtain rfl : p = c.length := by omega
            go_wp2
            go_ret
            have hfin : branchTotals s t f i = curL s f i c m c.length := by rw [HRES.out, hlen]
            exact ⟨_, rfl, by rw [hfin, curL_len]; exact own_base hown (by rw [← HGO.out]; exact hsz), HB5.out.trans (hbr.mono hsz)⟩
          have B := HB5.out.trans (hbr.mono hsz)
          have hcx := HCJ.out wr B p hlt
          have hx := place_col (show 0 < m by omega) (show p < n * m by omega) HCOL.out
          obtain ⟨hpb, hpr, -⟩ := place_parts (show 0 < m by omega) (show p < n * m by omega)
          have hz := plSum_le (s := s) (f := f) (i := i) (k := p % m) (show 0 < m by omega) HCOL.out p (by omega)
          have HHIT : Hid (branchOf s f ((p / m : Nat) : Int) = i → curL s f i c m (p + 1) = (curL s f i c m p).set (p % m) (plSum s f i c m (p % m) p + c.getD p 0)) := fun h => curL_hit (by omega) h
          have HMISS : Hid (¬ branchOf s f ((p / m : Nat) : Int) = i → curL s f i c m (p + 1) = curL s f i c m p) := fun h => curL_miss h
          have HAT : Hid ((curL s f i c m p).getD (p % m) 0 = plSum s f i c m (p % m) p) := curL_at hpr
          have HBO : Hid (branchOf s f ((p / m : Nat) : Int) = qBranch s f ((p / m : Nat) : Int)) := branchOf_yes HQ.out (Int.natCast_nonneg _) (by rw [HAB.out, HBN.out]; exact Int.ofNat_lt.2 hpb)
          have cc := keyAt_any p m wr (by omega) (by omega) (by omega)
          generalize c.getD p 0 = x at hcx hx HHIT
          generalize plSum s f i c m (p % m) p = z at hz HHIT HAT
          generalize p / m = b at cc HBO HHIT HMISS hpb
          generalize p % m = r at cc hpr HHIT HAT
          rw [HBO.out] at HHIT HMISS
          have kS1 : wr.cell? ⟨w.heap.size, 1, none⟩ = some (.slice oc m kc) := (HK.out _ hbr).1.cell 1
          go_wp2_with fail
          refine cc.mono ?_
          clear cc kS1 hcx HBO
          rintro e w7 ⟨rfl, hb⟩
          replace hown := own_below hown hb
          replace hbr := hbr.trans (hb.mono hbr.size)
          clear hb B
          have bK : Below w7.heap.size w7 (w7.alloc (.cells #[.int .i64 (b : Int), .int .i64 (r : Int)] 86)) := (Below.refl _ _).alloc (Nat.le_refl _) _
          have KK := Blk.new 86 w7 #[.int .i64 (b : Int), .int .i64 (r : Int)]
          replace hown := own_below hown bK
          replace hbr := hbr.trans (bK.mono hbr.size)
          have hpk : w7.heap.size < (w7.alloc (.cells #[.int .i64 (b : Int), .int .i64 (r : Int)] 86)).heap.size := by simp
          clear bK
          have cc := CBR.out (b : Int) (w7.alloc (.cells #[.int .i64 (b : Int), .int .i64 (r : Int)] 86))
          generalize qBranch s f (b : Int) = y at cc HHIT HMISS
          have kK0 : (w7.alloc (.cells #[.int .i64 (b : Int), .int .i64 (r : Int)] 86)).cell? ⟨w7.heap.size, 0, none⟩ = some (.int .i64 (b : Int)) := KK.cell 0
          go_wp2_with fail
          refine cc.mono ?_
          clear cc kK0
          rintro e w8 ⟨rfl, hb⟩
          replace hown := own_below hown hb
          replace hbr := hbr.trans (hb.mono hbr.size)
          replace KK := KK.below hb
          clear hb
          by_cases hyi : y = i
          · have hq : (y == i) = true := by rw [hyi]; exact beq_self_eq_true i
            have HNX := HHIT.out hyi
            have HNXT : Hid (curL s f i c m (p + 1) = (curL s f i c m p).set r (z + x)) := HNX
            clear HNX hyi HHIT HMISS
            have hrl : r < (curL s f i c m p).length := by rw [curL_len]; exact hpr
            have kK1 : w8.cell? ⟨w7.heap.size, 1, none⟩ = some (.int .i64 (r : Int)) := KK.cell 1
            have hcO : w8.cell? ⟨go, r, none⟩ = some (.int .i64 z) := by rw [hown.cellAt r (by omega), getD_mapI _ r hrl, HAT.out]
            have hfO : w8.frozen? ⟨go, r, none⟩ = false := hown.frozenAt r
            have hst := hown.stored r (.int .i64 (z + x))
            clear KK hrl
            go_wp2
            go_roundw
            case rel =>
              refine ⟨p + 1, by go_num, by omega, ?_, hbr.grown hst.2 hbr.size (fun k hk => by cases hk; exact Nat.le_of_eq HGO.out)⟩
              rw [HNXT.out, List.map_set]
              exact hst.1
            case measure => simp [intOf]; omega
          · have hq : (y == i) = false := by rw [beq_eq_false_iff_ne]; exact hyi
            have HNX := HMISS.out hyi
            have HNXT : Hid (curL s f i c m (p + 1) = curL s f i c m p) := HNX
            clear HNX hyi HHIT HMISS KK
            go_wp2
            go_roundw
            case rel =>
              refine ⟨p + 1, by go_num, by omega, ?_, hbr⟩
              rw [HNXT.out]
              exact hown
            case measure => simp [intOf]; omega
      by_cases hv : 0 < (forkAttr s f).vals.length
      · have hqv := questionV_yes HQ.out
        rw [if_neg hp, if_pos hv] at hqv
        have CBR : Hid (∀ b W, Calls Try.prog 118 #[.agg #[.int .i64 f.pos], .int .i64 b] W fun e w' => e = .returned (.int .i64 (qBranch s f b)) ∧ Below W.heap.size W w') := fun b W => ((branch_any s f b W HQ.out (fun _ h => And.intro rfl h)).2.1 hp hv).2
        clear hp hv
        generalize questionV s f = qv at hqv ⊢
        subst hqv
        have kS1 : w3.cell? ⟨w.heap.size, 1, none⟩ = some (.slice oc m kc) := KS.cell 1
        have hib : decide (i < 0) = false := decide_eq_false (show ¬ i < 0 by omega)
        have hnbb : decide (nb ≤ i) = false := decide_eq_false (show ¬ nb ≤ i by omega)
        have hsz := B.size
        go_wp2_with (at_make; refine wpList_make_ints rfl _ rfl w3.heap.size m _ rfl rfl (by omega) (Nat.le_refl _) ?_)
        intro w6 hown hg
        clear kS1 hi hi2 hib hnbb
        have bM : Below w3.heap.size w3 w6 := (Below.refl _ _).grown hg (Nat.le_refl _) (fun k hk => by cases hk)
        clear hg
        have HK : Hid (∀ W, Below w3.heap.size w3 W → Blk 33 W w.heap.size #[.slice oa s.attrs.length ka, .slice oc m kc] ∧ Blk 36 W (w.heap.size + 1) #[.slice ox t.totals.length kx, .slice oy t.cells.length ky] ∧ Blk 38 W (w.heap.size + 1 + 1) #[.int .i64 f.attr, .int .i64 f.pos]) := fun W h => ⟨KS.below h, KT.below h, KF.below h⟩
        have HB5 : Hid (Below w.heap.size w w3) := B
        clear KS KT KF B
        obtain ⟨vx', vy', e', -, ry⟩ := HT.out w (Below.refl _ _)
        cases e'
        obtain ⟨oy', ky', e', -, hry⟩ := ry
        cases e'
        obtain ⟨gy, fy, rfl, hgy, hjy⟩ := hry (by omega)
        obtain ⟨u, hcu, hru⟩ := hjy a hac
        rw [HCC.out] at hru
        obtain ⟨og, kg, rfl, -, hrr⟩ := hru
        have hcp : 0 < c.length := by
          rw [hlen]
          exact Nat.mul_pos (by have := fork_bins HQ.out; rw [HAB.out, HBN.out] at this; omega) (by omega)
        obtain ⟨gb, ob, rfl, hgb, hjc⟩ := hrr hcp
        have HCJ : Hid (∀ W, Below w.heap.size w W → ∀ j, j < c.length → W.cell? ⟨gb, ob + j, none⟩ = some (.int .i64 (c.getD j 0))) := fun W h j hj => (h.cell (p := ⟨gb, ob + j, none⟩) hgb).trans (hjc j hj)
        have hcu6 := ((HB5.out.trans (bM.mono hsz)).cell (p := ⟨gy, fy + a, none⟩) hgy).trans hcu
        clear hjy hry hjc hrr hcu
        have kT1 : w6.cell? ⟨w.heap.size + 1, 1, none⟩ = some (.slice (some ⟨gy, fy, none⟩) t.cells.length ky) := (HK.out _ bM).2.1.cell 1
        have kF0 : w6.cell? ⟨w.heap.size + 1 + 1, 0, none⟩ = some (.int .i64 (a : Int)) := by rw [← hfa]; exact (HK.out _ bM).2.2.cell 0
        have HFA : Hid (f.attr = (a : Int)) := hfa
        clear hfa
        replace hown : w6.ownsRow w3.heap.size 3 1 (.slice (some ⟨w3.heap.size, 0, none⟩) m m) m ((curL s f i c m 0).map (Value.int .i64)) := by rw [curL_zero, List.map_replicate]; exact hown
        generalize hgo : w3.heap.size = go at hown ⊢
        have HGO : Hid (w3.heap.size = go) := hgo
        clear hgo
        go_wp2
        go_loopw [50] (fun idx wr => ∃ p : Nat, idx = .int .i64 p ∧ p ≤ c.length ∧ wr.ownsRow go 3 1 (.slice (some ⟨go, 0, none⟩) m m) m ((curL s f i c m p).map (Value.int .i64)) ∧ Hid (Below w3.heap.size w3 wr)) (fun idx _ => c.length - (intOf idx).toNat)
        case atStart => exact ⟨0, rfl, by omega, hown, bM⟩
        case round =>
          clear hown bM kT1 kF0 hcu6
          obtain ⟨p, rfl, hp, hown, HBR⟩ := hrel
          have hbr := HBR.out
          by_cases hlt : p < c.length
          rotate_left
          · obtain rfl : p = c.length := by omega
            go_wp2
            go_ret
            have hfin : branchTotals s t f i = curL s f i c m c.length := by rw [HRES.out, hlen]
            exact ⟨_, rfl, by rw [hfin, curL_len]; exact own_base hown (by rw [← HGO.out]; exact hsz), HB5.out.trans (hbr.mono hsz)⟩
          have B := HB5.out.trans (hbr.mono hsz)
          have hcx := HCJ.out wr B p hlt
          have hx := place_col (show 0 < m by omega) (show p < n * m by omega) HCOL.out
          obtain ⟨hpb, hpr, -⟩ := place_parts (show 0 < m by omega) (show p < n * m by omega)
          have hz := plSum_le (s := s) (f := f) (i := i) (k := p % m) (show 0 < m by omega) HCOL.out p (by omega)
          have HHIT : Hid (branchOf s f ((p / m : Nat) : Int) = i → curL s f i c m (p + 1) = (curL s f i c m p).set (p % m) (plSum s f i c m (p % m) p + c.getD p 0)) := fun h => curL_hit (by omega) h
          have HMISS : Hid (¬ branchOf s f ((p / m : Nat) : Int) = i → curL s f i c m (p + 1) = curL s f i c m p) := fun h => curL_miss h
          have HAT : Hid ((curL s f i c m p).getD (p % m) 0 = plSum s f i c m (p % m) p) := curL_at hpr
          have HBO : Hid (branchOf s f ((p / m : Nat) : Int) = qBranch s f ((p / m : Nat) : Int)) := branchOf_yes HQ.out (Int.natCast_nonneg _) (by rw [HAB.out, HBN.out]; exact Int.ofNat_lt.2 hpb)
          have cc := keyAt_any p m wr (by omega) (by omega) (by omega)
          generalize c.getD p 0 = x at hcx hx HHIT
          generalize plSum s f i c m (p % m) p = z at hz HHIT HAT
          generalize p / m = b at cc HBO HHIT HMISS hpb
          generalize p % m = r at cc hpr HHIT HAT
          rw [HBO.out] at HHIT HMISS
          have kS1 : wr.cell? ⟨w.heap.size, 1, none⟩ = some (.slice oc m kc) := (HK.out _ hbr).1.cell 1
          go_wp2_with fail
          refine cc.mono ?_
          clear cc kS1 hcx HBO
          rintro e w7 ⟨rfl, hb⟩
          replace hown := own_below hown hb
          replace hbr := hbr.trans (hb.mono hbr.size)
          clear hb B
          have bK : Below w7.heap.size w7 (w7.alloc (.cells #[.int .i64 (b : Int), .int .i64 (r : Int)] 86)) := (Below.refl _ _).alloc (Nat.le_refl _) _
          have KK := Blk.new 86 w7 #[.int .i64 (b : Int), .int .i64 (r : Int)]
          replace hown := own_below hown bK
          replace hbr := hbr.trans (bK.mono hbr.size)
          have hpk : w7.heap.size < (w7.alloc (.cells #[.int .i64 (b : Int), .int .i64 (r : Int)] 86)).heap.size := by simp
          clear bK
          have cc := CBR.out (b : Int) (w7.alloc (.cells #[.int .i64 (b : Int), .int .i64 (r : Int)] 86))
          generalize qBranch s f (b : Int) = y at cc HHIT HMISS
          have kK0 : (w7.alloc (.cells #[.int .i64 (b : Int), .int .i64 (r : Int)] 86)).cell? ⟨w7.heap.size, 0, none⟩ = some (.int .i64 (b : Int)) := KK.cell 0
          go_wp2_with fail
          refine cc.mono ?_
          clear cc kK0
          rintro e w8 ⟨rfl, hb⟩
          replace hown := own_below hown hb
          replace hbr := hbr.trans (hb.mono hbr.size)
          replace KK := KK.below hb
          clear hb
          by_cases hyi : y = i
          · have hq : (y == i) = true := by rw [hyi]; exact beq_self_eq_true i
            have HNX := HHIT.out hyi
            have HNXT : Hid (curL s f i c m (p + 1) = (curL s f i c m p).set r (z + x)) := HNX
            clear HNX hyi HHIT HMISS
            have hrl : r < (curL s f i c m p).length := by rw [curL_len]; exact hpr
            have kK1 : w8.cell? ⟨w7.heap.size, 1, none⟩ = some (.int .i64 (r : Int)) := KK.cell 1
            have hcO : w8.cell? ⟨go, r, none⟩ = some (.int .i64 z) := by rw [hown.cellAt r (by omega), getD_mapI _ r hrl, HAT.out]
            have hfO : w8.frozen? ⟨go, r, none⟩ = false := hown.frozenAt r
            have hst := hown.stored r (.int .i64 (z + x))
            clear KK hrl
            go_wp2
            go_roundw
            case rel =>
              refine ⟨p + 1, by go_num, by omega, ?_, hbr.grown hst.2 hbr.size (fun k hk => by cases hk; exact Nat.le_of_eq HGO.out)⟩
              rw [HNXT.out, List.map_set]
              exact hst.1
            case measure => simp [intOf]; omega
          · have hq : (y == i) = false := by rw [beq_eq_false_iff_ne]; exact hyi
            have HNX := HMISS.out hyi
            have HNXT : Hid (curL s f i c m (p + 1) = curL s f i c m p) := HNX
            clear HNX hyi HHIT HMISS KK
            go_wp2
            go_roundw
            case rel =>
              refine ⟨p + 1, by go_num, by omega, ?_, hbr⟩
              rw [HNXT.out]
              exact hown
            case measure => simp [intOf]; omega
      · have hqv := questionV_yes HQ.out
        rw [if_neg hp, if_neg hv] at hqv
        have CBR : Hid (∀ b W, Calls Try.prog 120 #[.agg #[.int .i64 f.pos], .int .i64 b] W fun e w' => e = .returned (.int .i64 (qBranch s f b)) ∧ Below W.heap.size W w') := fun b W => ((branch_any s f b W HQ.out (fun _ h => And.intro rfl h)).2.2 hp hv).2
        clear hp hv
        generalize questionV s f = qv at hqv ⊢
        subst hqv
        have kS1 : w3.cell? ⟨w.heap.size, 1, none⟩ = some (.slice oc m kc) := KS.cell 1
        have hib : decide (i < 0) = false := decide_eq_false (show ¬ i < 0 by omega)
        have hnbb : decide (nb ≤ i) = false := decide_eq_false (show ¬ nb ≤ i by omega)
        have hsz := B.size
        go_wp2_with (at_make; refine wpList_make_ints rfl _ rfl w3.heap.size m _ rfl rfl (by omega) (Nat.le_refl _) ?_)
        intro w6 hown hg
        clear kS1 hi hi2 hib hnbb
        have bM : Below w3.heap.size w3 w6 := (Below.refl _ _).grown hg (Nat.le_refl _) (fun k hk => by cases hk)
        clear hg
        have HK : Hid (∀ W, Below w3.heap.size w3 W → Blk 33 W w.heap.size #[.slice oa s.attrs.length ka, .slice oc m kc] ∧ Blk 36 W (w.heap.size + 1) #[.slice ox t.totals.length kx, .slice oy t.cells.length ky] ∧ Blk 38 W (w.heap.size + 1 + 1) #[.int .i64 f.attr, .int .i64 f.pos]) := fun W h => ⟨KS.below h, KT.below h, KF.below h⟩
        have HB5 : Hid (Below w.heap.size w w3) := B
        clear KS KT KF B
        obtain ⟨vx', vy', e', -, ry⟩ := HT.out w (Below.refl _ _)
        cases e'
        obtain ⟨oy', ky', e', -, hry⟩ := ry
        cases e'
        obtain ⟨gy, fy, rfl, hgy, hjy⟩ := hry (by omega)
        obtain ⟨u, hcu, hru⟩ := hjy a hac
        rw [HCC.out] at hru
        obtain ⟨og, kg, rfl, -, hrr⟩ := hru
        have hcp : 0 < c.length := by
          rw [hlen]
          exact Nat.mul_pos (by have := fork_bins HQ.out; rw [HAB.out, HBN.out] at this; omega) (by omega)
        obtain ⟨gb, ob, rfl, hgb, hjc⟩ := hrr hcp
        have HCJ : Hid (∀ W, Below w.heap.size w W → ∀ j, j < c.length → W.cell? ⟨gb, ob + j, none⟩ = some (.int .i64 (c.getD j 0))) := fun W h j hj => (h.cell (p := ⟨gb, ob + j, none⟩) hgb).trans (hjc j hj)
        have hcu6 := ((HB5.out.trans (bM.mono hsz)).cell (p := ⟨gy, fy + a, none⟩) hgy).trans hcu
        clear hjy hry hjc hrr hcu
        have kT1 : w6.cell? ⟨w.heap.size + 1, 1, none⟩ = some (.slice (some ⟨gy, fy, none⟩) t.cells.length ky) := (HK.out _ bM).2.1.cell 1
        have kF0 : w6.cell? ⟨w.heap.size + 1 + 1, 0, none⟩ = some (.int .i64 (a : Int)) := by rw [← hfa]; exact (HK.out _ bM).2.2.cell 0
        have HFA : Hid (f.attr = (a : Int)) := hfa
        clear hfa
        replace hown : w6.ownsRow w3.heap.size 3 1 (.slice (some ⟨w3.heap.size, 0, none⟩) m m) m ((curL s f i c m 0).map (Value.int .i64)) := by rw [curL_zero, List.map_replicate]; exact hown
        generalize hgo : w3.heap.size = go at hown ⊢
        have HGO : Hid (w3.heap.size = go) := hgo
        clear hgo
        go_wp2
        go_loopw [50] (fun idx wr => ∃ p : Nat, idx = .int .i64 p ∧ p ≤ c.length ∧ wr.ownsRow go 3 1 (.slice (some ⟨go, 0, none⟩) m m) m ((curL s f i c m p).map (Value.int .i64)) ∧ Hid (Below w3.heap.size w3 wr)) (fun idx _ => c.length - (intOf idx).toNat)
        case atStart => exact ⟨0, rfl, by omega, hown, bM⟩
        case round =>
          clear hown bM kT1 kF0 hcu6
          obtain ⟨p, rfl, hp, hown, HBR⟩ := hrel
          have hbr := HBR.out
          by_cases hlt : p < c.length
          rotate_left
          · obtain rfl : p = c.length := by omega
            go_wp2
            go_ret
            have hfin : branchTotals s t f i = curL s f i c m c.length := by rw [HRES.out, hlen]
            exact ⟨_, rfl, by rw [hfin, curL_len]; exact own_base hown (by rw [← HGO.out]; exact hsz), HB5.out.trans (hbr.mono hsz)⟩
          have B := HB5.out.trans (hbr.mono hsz)
          have hcx := HCJ.out wr B p hlt
          have hx := place_col (show 0 < m by omega) (show p < n * m by omega) HCOL.out
          obtain ⟨hpb, hpr, -⟩ := place_parts (show 0 < m by omega) (show p < n * m by omega)
          have hz := plSum_le (s := s) (f := f) (i := i) (k := p % m) (show 0 < m by omega) HCOL.out p (by omega)
          have HHIT : Hid (branchOf s f ((p / m : Nat) : Int) = i → curL s f i c m (p + 1) = (curL s f i c m p).set (p % m) (plSum s f i c m (p % m) p + c.getD p 0)) := fun h => curL_hit (by omega) h
          have HMISS : Hid (¬ branchOf s f ((p / m : Nat) : Int) = i → curL s f i c m (p + 1) = curL s f i c m p) := fun h => curL_miss h
          have HAT : Hid ((curL s f i c m p).getD (p % m) 0 = plSum s f i c m (p % m) p) := curL_at hpr
          have HBO : Hid (branchOf s f ((p / m : Nat) : Int) = qBranch s f ((p / m : Nat) : Int)) := branchOf_yes HQ.out (Int.natCast_nonneg _) (by rw [HAB.out, HBN.out]; exact Int.ofNat_lt.2 hpb)
          have cc := keyAt_any p m wr (by omega) (by omega) (by omega)
          generalize c.getD p 0 = x at hcx hx HHIT
          generalize plSum s f i c m (p % m) p = z at hz HHIT HAT
          generalize p / m = b at cc HBO HHIT HMISS hpb
          generalize p % m = r at cc hpr HHIT HAT
          rw [HBO.out] at HHIT HMISS
          have kS1 : wr.cell? ⟨w.heap.size, 1, none⟩ = some (.slice oc m kc) := (HK.out _ hbr).1.cell 1
          go_wp2_with fail
          refine cc.mono ?_
          clear cc kS1 hcx HBO
          rintro e w7 ⟨rfl, hb⟩
          replace hown := own_below hown hb
          replace hbr := hbr.trans (hb.mono hbr.size)
          clear hb B
          have bK : Below w7.heap.size w7 (w7.alloc (.cells #[.int .i64 (b : Int), .int .i64 (r : Int)] 86)) := (Below.refl _ _).alloc (Nat.le_refl _) _
          have KK := Blk.new 86 w7 #[.int .i64 (b : Int), .int .i64 (r : Int)]
          replace hown := own_below hown bK
          replace hbr := hbr.trans (bK.mono hbr.size)
          have hpk : w7.heap.size < (w7.alloc (.cells #[.int .i64 (b : Int), .int .i64 (r : Int)] 86)).heap.size := by simp
          clear bK
          have cc := CBR.out (b : Int) (w7.alloc (.cells #[.int .i64 (b : Int), .int .i64 (r : Int)] 86))
          generalize qBranch s f (b : Int) = y at cc HHIT HMISS
          have kK0 : (w7.alloc (.cells #[.int .i64 (b : Int), .int .i64 (r : Int)] 86)).cell? ⟨w7.heap.size, 0, none⟩ = some (.int .i64 (b : Int)) := KK.cell 0
          go_wp2_with fail
          refine cc.mono ?_
          clear cc kK0
          rintro e w8 ⟨rfl, hb⟩
          replace hown := own_below hown hb
          replace hbr := hbr.trans (hb.mono hbr.size)
          replace KK := KK.below hb
          clear hb
          by_cases hyi : y = i
          · have hq : (y == i) = true := by rw [hyi]; exact beq_self_eq_true i
            have HNX := HHIT.out hyi
            have HNXT : Hid (curL s f i c m (p + 1) = (curL s f i c m p).set r (z + x)) := HNX
            clear HNX hyi HHIT HMISS
            have hrl : r < (curL s f i c m p).length := by rw [curL_len]; exact hpr
            have kK1 : w8.cell? ⟨w7.heap.size, 1, none⟩ = some (.int .i64 (r : Int)) := KK.cell 1
            have hcO : w8.cell? ⟨go, r, none⟩ = some (.int .i64 z) := by rw [hown.cellAt r (by omega), getD_mapI _ r hrl, HAT.out]
            have hfO : w8.frozen? ⟨go, r, none⟩ = false := hown.frozenAt r
            have hst := hown.stored r (.int .i64 (z + x))
            clear KK hrl
            go_wp2
            go_roundw
            case rel =>
              refine ⟨p + 1, by go_num, by omega, ?_, hbr.grown hst.2 hbr.size (fun k hk => by cases hk; exact Nat.le_of_eq HGO.out)⟩
              rw [HNXT.out, List.map_set]
              exact hst.1
            case measure => simp [intOf]; omega
          · have hq : (y == i) = false := by rw [beq_eq_false_iff_ne]; exact hyi
            have HNX := HMISS.out hyi
            have HNXT : Hid (curL s f i c m (p + 1) = curL s f i c m p) := HNX
            clear HNX hyi HHIT HMISS KK
            go_wp2
            go_roundw
            case rel =>
              refine ⟨p + 1, by go_num, by omega, ?_, hbr⟩
              rw [HNXT.out]
              exact hown
            case measure => simp [intOf]; omega
end Go.Proofs.Yteadkdllmeeocaa
/- Two structs in new blocks. -/
namespace Go.Proofs.Yteadkdllmeeocaa
open Go.RowKit
set_option maxRecDepth 100000
set_option linter.unusedSimpArgs false
theorem two_below (w : World) (c d : Array Value) : Below w.heap.size w ((w.alloc (.cells c 33)).alloc (.cells d 38)) := ((Below.refl _ _).alloc (Nat.le_refl _) _).alloc (by simp) _
end Go.Proofs.Yteadkdllmeeocaa
