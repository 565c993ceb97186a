/- Texts of this claim, put together: part 19. -/
import Derived.Test.YteadkdllmeeocabGreatBestOfPack18
import Derived.Test.YteadkdllmeeocabGreatBestOfPack14
import Derived.Test.YteadkdllmeeocabGreatBestOfPack13
import Derived.Test.YteadkdllmeeocabGreatBestOfPack2
import Derived.Test.YteadkdllmeeocabGreatBestOfPack12
import Derived.Test.YteadkdllmeeocabGreatBestOfPack9
import Derived.OrdersHeld
import Derived.Test.YteadkdllmeeocabGreatBestOfPack17
import Derived.Test.YteadkdllmeeocabGreatBestOfPack3
/- Merit reckoned branch by branch, at a schema and its counts. -/
namespace Go.Proofs.YteadkdllmeeocabGreat
open Go.RowKit
set_option maxRecDepth 100000

theorem branchL_len (s : SchemaD) (t : StatsD) (f : ForkD) (i : Nat) : (branchL s t f i).length = i := by unfold branchL; simp
theorem branchL_take (s : SchemaD) (t : StatsD) (f : ForkD) {i N : Nat} (h : i ≤ N) : (branchL s t f N).take i = branchL s t f i := by
  unfold branchL
  rw [← List.map_take, List.take_range, Nat.min_eq_left h]
theorem branchL_il (s : SchemaD) (t : StatsD) (f : ForkD) {i N : Nat} (h : i < N) : il (branchL s t f N) i = branchTotals s t f (i : Int) := by
  unfold il branchL
  rw [List.getD_eq_getElem?_getD, List.getElem?_map, List.getElem?_range h]; rfl
theorem brs_of {s : SchemaD} {t : StatsD} {k : Nat} {p : Int} (h : meritOk s t ⟨(k : Int), p⟩ = true) {N : Nat} (hN : branches s ⟨(k : Int), p⟩ = (N : Int)) : Brs (branchL s t ⟨(k : Int), p⟩ N) (allB s t ⟨(k : Int), p⟩) s.classes.length := by
  obtain ⟨h1, h2, h3⟩ := meritOk_parts h
  have hm := sch_classes (statsOk_parts h1).1
  obtain ⟨a1, a2, a3, a4⟩ := all_facts h
  obtain ⟨-, N', nb, hN2, -, -, hN4, hn4, -⟩ := one_facts h3
  have hNN : N = N' := Int.ofNat.inj (hN.symm.trans hN2)
  have hb : ∀ l ∈ branchL s t ⟨(k : Int), p⟩ N, ∃ j, j < N ∧ l = branchTotals s t ⟨(k : Int), p⟩ (j : Int) := fun l hl => by
    unfold branchL at hl
    obtain ⟨j, hj, rfl⟩ := List.mem_map.1 hl
    exact ⟨j, List.mem_range.1 hj, rfl⟩
  refine ⟨by rw [branchL_len]; omega, by omega, fun l hl => ?_, fun l hl => ?_, a1, a2, a4, fun q hq => ?_⟩
  · obtain ⟨j, hj, rfl⟩ := hb l hl
    exact (br_facts h hN hj).1
  · obtain ⟨j, hj, rfl⟩ := hb l hl
    exact (br_facts h hN hj).2.1
  · have e : ∀ i, i ≤ N → sumL ((branchL s t ⟨(k : Int), p⟩ i).map fun l => l.getD q 0) = accB s ⟨(k : Int), p⟩ (il t.cells k) s.classes.length (bins (forkAttr s ⟨(k : Int), p⟩)).toNat q i := by
      intro i
      induction i with
      | zero => intro _; rfl
      | succ i ih =>
        intro hi
        rw [branchL_succ, List.map_append, List.map_singleton, sumL_snoc, ih (by omega), (totals_at (totalsOk_mk h1 h2 h3 hN (show i < N by omega))).2 q hq]
        rfl
    rw [e N (Nat.le_refl _)]
    unfold allB
    rw [mixL_at hq, if_neg (by omega), hN]
    rfl
/-- The program's way: what is left of the whole's impurity behind each branch. -/
theorem merit_run {s : SchemaD} {t : StatsD} {k : Nat} {p : Int} (h : meritOk s t ⟨(k : Int), p⟩ = true) {N : Nat} (hN : branches s ⟨(k : Int), p⟩ = (N : Int)) :
    giniN (allB s t ⟨(k : Int), p⟩) = leftN (heavy (branchL s t ⟨(k : Int), p⟩ 0)) (allB s t ⟨(k : Int), p⟩) ∧ giniD (allB s t ⟨(k : Int), p⟩) = leftD (heavy (branchL s t ⟨(k : Int), p⟩ 0)) (allB s t ⟨(k : Int), p⟩) ∧
    leftN (heavy (branchL s t ⟨(k : Int), p⟩ N)) (allB s t ⟨(k : Int), p⟩) = meritN s t ⟨(k : Int), p⟩ ∧ leftD (heavy (branchL s t ⟨(k : Int), p⟩ N)) (allB s t ⟨(k : Int), p⟩) = meritD s t ⟨(k : Int), p⟩ ∧
    ∀ i, i < N → ∀ a b c d, a = leftN (heavy (branchL s t ⟨(k : Int), p⟩ i)) (allB s t ⟨(k : Int), p⟩) → b = leftD (heavy (branchL s t ⟨(k : Int), p⟩ i)) (allB s t ⟨(k : Int), p⟩) → c = imN (branchTotals s t ⟨(k : Int), p⟩ (i : Int)) (sumL (allB s t ⟨(k : Int), p⟩)) → d = imD (branchTotals s t ⟨(k : Int), p⟩ (i : Int)) (sumL (allB s t ⟨(k : Int), p⟩)) →
      LessOk a b c d ∧ lowN (lessN a b c d) (lessD b d) = leftN (heavy (branchL s t ⟨(k : Int), p⟩ (i + 1))) (allB s t ⟨(k : Int), p⟩) ∧ lowD (lessN a b c d) (lessD b d) = leftD (heavy (branchL s t ⟨(k : Int), p⟩ (i + 1))) (allB s t ⟨(k : Int), p⟩) := by
  have B := brs_of h hN
  have hNn : (branches s ⟨(k : Int), p⟩).toNat = N := by rw [hN]; rfl
  have hst := B.start
  have ew : partN (heavy (branchL s t ⟨(k : Int), p⟩ N)) (sumL (allB s t ⟨(k : Int), p⟩)) (squares (allB s t ⟨(k : Int), p⟩)) = meritNum (heavy (branchL s t ⟨(k : Int), p⟩ N)) (allB s t ⟨(k : Int), p⟩) := partN_whole B
  rw [branchL_take _ _ _ (Nat.zero_le _)] at hst
  refine ⟨hst.1, hst.2, ?_, ?_, ?_⟩
  · unfold leftN meritN heavyB
    rw [if_pos h, hNn, ew]
  · unfold leftD meritD heavyB
    rw [if_pos h, hNn, ew]
  · rintro i hi a b c d rfl rfl rfl rfl
    have st := B.step (i := i) (by rw [branchL_len]; exact hi)
    rw [branchL_take _ _ _ (Nat.le_of_lt hi), branchL_take _ _ _ hi, branchL_il _ _ _ hi] at st
    exact st
end Go.Proofs.YteadkdllmeeocabGreat
/- The sum of squares, the sum and the impurity, by the program. -/
namespace Go.Proofs.YteadkdllmeeocabGreat
open Go.RowKit
set_option maxRecDepth 100000
set_option linter.unusedSimpArgs false
theorem implSum10_any (v : Value) (cs : List Int) (w : World) (h : RowI w v cs) (hn : cs.length ≤ 1048576) (hb : ∀ j, j < cs.length → inW (cs.getD j 0) = true) :
    Calls Tryz.prog 60 #[v] w fun e w' => e = .returned (.int .i64 (sumL cs)) ∧ w' = w := by
  obtain ⟨oa, cap, rfl, hc, hr⟩ := h
  have HJ : Hid (∀ k, k < cs.length → ∃ g o, oa = some ⟨g, o, none⟩ ∧ w.cell? ⟨g, o + k, none⟩ = some (.int .i64 (cs.getD k 0))) := fun k hk => by
    obtain ⟨g, o, e, hg, hj⟩ := hr (by omega)
    exact ⟨g, o, e, hj k hk⟩
  have HB : Hid (∀ j, j < cs.length → inW (cs.getD j 0) = true) := hb
  clear hr hb
  go_enter Tryz.func60, Tryz.ntmps60
  go_wp2
  go_loop [3, 8] (fun n i => ∃ k : Nat, i = .int .i64 k ∧ n = .int .i64 (sumL (cs.take k)) ∧ k ≤ cs.length) (fun _ i => cs.length - (intOf i).toNat)
  case atStart => exact ⟨0, rfl, rfl, by omega⟩
  case round =>
    obtain ⟨k, rfl, rfl, hk⟩ := hrel
    have HL := sum_bound10 k hk fun j hj => HB.out j (by omega)
    by_cases hlt : k < cs.length
    · obtain ⟨g, o, rfl, hcell⟩ := HJ.out k hlt
      have hin := of_decide_eq_true (HB.out k hlt)
      have HS : Hid (sumL (cs.take (k + 1)) = sumL (cs.take k) + cs.getD k 0) := sum_take10 hlt
      generalize cs.getD k 0 = c at hcell HS hin
      generalize sumL (cs.take k) = b at HL HS
      have h1 : b + c ≤ 1048576 * 999 + 999 := by omega
      go_wp2
      go_round
      case rel => exact ⟨k + 1, by go_num, by rw [HS.out], by omega⟩
      case measure => simp [intOf]; omega
    · have HE : Hid (sumL (cs.take k) = sumL cs) := by rw [List.take_of_length_le (by omega)]; rfl
      rw [HE.out]
      go_wp2
      go_ret
      exact ⟨rfl, rfl⟩
theorem implSquares_any (v : Value) (cs : List Int) (w : World) (h : RowI w v cs) (hn : cs.length ≤ 1099511627776) :
    Calls Tryz.prog 80 #[v] w fun e w' => e = .returned (.int .i64 (squares cs)) ∧ w' = w := by
  obtain ⟨oa, cap, rfl, hc, hr⟩ := h
  by_cases h3 : 3 < cs.length
  · rw [squares_long h3]
    clear hr
    go_enter Tryz.func80, Tryz.ntmps80
    go_wp2
    go_ret
    exact ⟨rfl, rfl⟩
  have HJ : Hid (∀ k, k < cs.length → ∃ g o, oa = some ⟨g, o, none⟩ ∧ w.cell? ⟨g, o + k, none⟩ = some (.int .i64 (cs.getD k 0))) := fun k hk => by
    obtain ⟨g, o, e, hg, hj⟩ := hr (by omega)
    exact ⟨g, o, e, hj k hk⟩
  clear hr
  have hq3 : decide (3 < cs.length) = false := decide_eq_false h3
  go_enter Tryz.func80, Tryz.ntmps80
  go_wp2
  clear hq3
  go_loop [3, 11] (fun n i => ∃ k : Nat, i = .int .i64 k ∧ n = .int .i64 (sqL (cs.take k)) ∧ k ≤ cs.length ∧ Hid (∀ j, j < k → inW (cs.getD j 0) = true)) (fun _ i => cs.length - (intOf i).toNat)
  case atStart => exact ⟨0, rfl, rfl, by omega, fun j hj => by omega⟩
  case round =>
    obtain ⟨k, rfl, rfl, hk, HB⟩ := hrel
    have HL := sq_bound k hk fun j hj => HB.out j hj
    by_cases hlt : k < cs.length
    rotate_left
    · have HE : Hid (sqL (cs.take k) = squares cs) := by
        show _ = _
        rw [squares_yes (by omega) (fun j hj => HB.out j (by omega))]
        rw [List.take_of_length_le (by omega), List.take_of_length_le (by omega)]
      rw [HE.out]
      go_wp2
      go_ret
      exact ⟨rfl, rfl⟩
    obtain ⟨g, o, rfl, hcell⟩ := HJ.out k hlt
    have HS : Hid (sqL (cs.take (k + 1)) = sqL (cs.take k) + cs.getD k 0 * cs.getD k 0) := sq_take hlt
    by_cases hin : 0 ≤ cs.getD k 0 ∧ cs.getD k 0 ≤ 999
    rotate_left
    · have HE : Hid (squares cs = -1) := squares_no hlt (decide_eq_false hin)
      clear HS
      generalize cs.getD k 0 = c at hcell hin
      by_cases h0 : c < 0
      · go_wp2
        go_ret
        exact ⟨by rw [HE.out]; rfl, rfl⟩
      · have h1 : ¬ c ≤ 999 := by omega
        go_wp2
        go_ret
        exact ⟨by rw [HE.out]; rfl, rfl⟩
    have HIN : Hid (inW (cs.getD k 0) = true) := decide_eq_true hin
    have hsq := sq_small HIN.out
    have HB2 : Hid (∀ j, j < k + 1 → inW (cs.getD j 0) = true) := fun j hj => by
      rcases Nat.lt_or_eq_of_le (Nat.le_of_lt_succ hj) with h | h
      · exact HB.out j h
      · rw [h]; exact HIN.out
    clear HB HIN
    generalize cs.getD k 0 = c at hcell hin HS hsq
    generalize sqL (cs.take k) = b at HL HS
    generalize hcc : c * c = y at HS hsq
    go_wp2
    go_round
    case rel => exact ⟨k + 1, by go_num, by rw [HS.out], by omega, HB2⟩
    case measure => simp [intOf]; omega
theorem implSquaresB (v : Value) (cs : List Int) (w : World) (h : RowI w v cs) (hn : cs.length ≤ 1099511627776) :
    Calls Tryz.prog 80 #[v] w fun e w' => e = .returned (.int .i64 (squares cs)) ∧ Below w.heap.size w w' :=
  (implSquares_any v cs w h hn).mono fun e w' h => ⟨h.1, by rw [h.2]; exact Below.refl _ _⟩
theorem implGini_any (v : Value) (cs : List Int) (w : World) (h : RowI w v cs) (hn : cs.length ≤ 1099511627776) :
    Calls Tryz.prog 57 #[v] w fun e w' => e = .returned (frV (giniN cs) (giniD cs)) ∧ Below w.heap.size w w' := by
  have B := below_1 w (.cells #[.int .i64 0, .int .i64 0] 35)
  have K : Fr (w.alloc (.cells #[.int .i64 0, .int .i64 0] 35)) w.heap.size 0 0 := Blk.new _ _ _
  have hr := h.later B
  have cc := implSquares_any v cs _ hr hn
  clear h
  rcases squares_cases cs with hs | ⟨h3, ha, hs, hs0, hs1, hs2, hs3⟩
  · have HE : Hid (giniN cs = 0 ∧ giniD cs = 0) := ⟨by unfold giniN; rw [hs]; rfl, by unfold giniD; rw [hs]; rfl⟩
    rw [hs] at cc
    clear hs hr
    generalize hW : w.alloc (.cells #[.int .i64 0, .int .i64 0] 35) = w0 at B K cc
    go_enter Tryz.func57, Tryz.ntmps57
    go_wp2_with fail
    refine cc.mono ?_
    clear cc hW
    rintro e w1 ⟨rfl, e1⟩
    rw [e1]
    go_wp2_with (refine wp_fr_store rfl _ _ rfl ⟨w.heap.size, rfl, _, _, rfl, _, _, K, ?_⟩)
    refine bodyPost_ret (res_fr rfl _ _ w.heap.size _ _ rfl (K.setRow _)) rfl ⟨by rw [HE.out.1, HE.out.2], below_row B (Nat.le_refl _) _⟩
  · have HLT : Hid (¬ squares cs < 0) := by show ¬ _; omega
    have HD0 : Hid (sumL cs = 0 → giniN cs = 0 ∧ giniD cs = 1) := fun h0 => ⟨by unfold giniN; rw [if_neg HLT.out, if_pos h0], by unfold giniD; rw [if_neg HLT.out, if_pos h0]⟩
    have HD1 : Hid (¬ sumL cs = 0 → giniN cs = lowN (sumL cs * sumL cs - squares cs) (sumL cs * sumL cs) ∧ giniD cs = lowD (sumL cs * sumL cs - squares cs) (sumL cs * sumL cs)) := fun h0 => ⟨by unfold giniN; rw [if_neg HLT.out, if_neg h0], by unfold giniD; rw [if_neg HLT.out, if_neg h0]⟩
    generalize hW : w.alloc (.cells #[.int .i64 0, .int .i64 0] 35) = w0 at B K cc hr
    have c2 := implSum10_any v cs w0 hr (by omega) ha
    clear hr hs HLT ha
    generalize squares cs = q at *
    generalize sumL cs = n at *
    have hnn := mul_small hs2 hs3
    go_enter Tryz.func57, Tryz.ntmps57
    go_wp2_with fail
    refine cc.mono ?_
    clear cc hW
    rintro e w1 ⟨rfl, e1⟩
    rw [e1]
    clear e1 w1
    go_wp2_with fail
    refine c2.mono ?_
    clear c2
    rintro e w2 ⟨rfl, e2⟩
    rw [e2]
    clear e2 w2
    by_cases h0 : n = 0
    · obtain HZ := (show Hid (giniN cs = 0 ∧ giniD cs = 1) from HD0.out h0)
      clear HD0 HD1
      subst h0
      go_wp2_with (refine wp_fr_store rfl _ _ rfl ⟨w.heap.size, rfl, _, _, rfl, _, _, K, ?_⟩)
      refine bodyPost_ret (res_fr rfl _ _ w.heap.size _ _ rfl (K.setRow _)) rfl ⟨by rw [HZ.out.1, HZ.out.2], below_row B (Nat.le_refl _) _⟩
    · have hne : (n == 0) = false := by rw [beq_eq_false_iff_ne]; exact h0
      obtain ⟨e1, e2⟩ := HD1.out h0
      have HR : Hid (giniN cs = _ ∧ giniD cs = _) := ⟨e1, e2⟩
      clear e1 e2 HD0 HD1 h0
      have cl := lowI (n * n - q) (n * n) w0
      go_wp2_with fail
      refine cl.mono ?_
      clear cl
      rintro e w3 ⟨rfl, hb⟩
      replace K := K.below hb
      replace B := B.trans (hb.mono B.size)
      clear hb
      go_wp2_with (refine wp_fr_store rfl _ _ rfl ⟨w.heap.size, rfl, _, _, rfl, _, _, K, ?_⟩)
      refine bodyPost_ret (res_fr rfl _ _ w.heap.size _ _ rfl (K.setRow _)) rfl ⟨by rw [HR.out.1, HR.out.2], below_row B (Nat.le_refl _) _⟩
end Go.Proofs.YteadkdllmeeocabGreat
/- What a branch takes off, and a difference in lowest terms, by the program. -/
namespace Go.Proofs.YteadkdllmeeocabGreat
open Go.RowKit
set_option maxRecDepth 100000
set_option linter.unusedSimpArgs false
theorem implImp_any (v : Value) (l : List Int) (n : Int) (w : World) (h : RowI w v l) (hl : l.length ≤ 3) (ha : ∀ j, j < l.length → inW (l.getD j 0) = true) (hs : sumL l ≤ n) (hn : n ≤ 999) :
    Calls Tryz.prog 59 #[v, .int .i64 n] w fun e w' => e = .returned (frV (imN l n) (imD l n)) ∧ Below w.heap.size w w' := by
  have hx : squares l ≠ -1 := by
    rw [squares_yes hl ha]
    have := (sq_bound l.length (Nat.le_refl _) ha).1
    omega
  have hq := squares_sum hx
  have hq0 : 0 ≤ squares l := by
    rcases squares_cases l with h2 | ⟨-, -, -, h3, -⟩
    · exact absurd h2 hx
    · exact h3
  have hw0 := (sum_bound10 l.length (Nat.le_refl _) ha).1
  rw [List.take_length] at hw0
  have B := below_1 w (.cells #[.int .i64 0, .int .i64 0] 35)
  have K : Fr (w.alloc (.cells #[.int .i64 0, .int .i64 0] 35)) w.heap.size 0 0 := Blk.new _ _ _
  have hr := h.later B
  have cc := implSum10_any v l _ hr (by omega) ha
  have c2 := implGini_any v l _ hr (by omega)
  clear h hx
  generalize hW : w.alloc (.cells #[.int .i64 0, .int .i64 0] 35) = w0 at B K cc hr c2
  by_cases h0 : sumL l = 0
  · have HE : Hid (imN l n = 0 ∧ imD l n = 1) := ⟨by unfold imN; rw [if_pos h0], by unfold imD; rw [if_pos h0]⟩
    rw [h0] at cc
    clear hq hq0 hs hw0 h0 hr ha
    go_enter Tryz.func59, Tryz.ntmps59
    go_wp2_with fail
    refine cc.mono ?_
    clear cc hW c2
    rintro e w1 ⟨rfl, e1⟩
    rw [e1]
    go_wp2_with (refine wp_fr_store rfl _ _ rfl ⟨w.heap.size, rfl, _, _, rfl, _, _, K, ?_⟩)
    refine bodyPost_ret (res_fr rfl _ _ w.heap.size _ _ rfl (K.setRow _)) rfl ⟨by rw [HE.out.1, HE.out.2], below_row B (Nat.le_refl _) _⟩
  · obtain ⟨-, -, b0, b1, b2, b3, b4, b5, b6, b7, -, -⟩ := im_terms hq0 hq (by omega) hs hn
    have HE : Hid (imN l n = lowN (giniN l * sumL l) (giniD l * n) ∧ imD l n = lowD (giniN l * sumL l) (giniD l * n)) := ⟨by unfold imN; rw [if_neg h0], by unfold imD; rw [if_neg h0]⟩
    have hne : (sumL l == 0) = false := by rw [beq_eq_false_iff_ne]; exact h0
    clear hq hq0 h0 hr ha
    generalize sumL l = z at *
    generalize giniN l = gn at *
    generalize giniD l = gd at *
    generalize h4 : gn * z = m1 at *
    generalize h5 : gd * n = m2 at *
    go_enter Tryz.func59, Tryz.ntmps59
    go_wp2_with fail
    refine cc.mono ?_
    clear cc hW
    rintro e w1 ⟨rfl, e1⟩
    rw [e1]
    clear e1 w1
    go_wp2_with fail
    refine c2.mono ?_
    clear c2
    rintro e w1 ⟨rfl, hb⟩
    replace K := K.below hb
    replace B := B.trans (hb.mono B.size)
    clear hb
    have K2 : Fr (w1.alloc (.cells #[.int .i64 0, .int .i64 0] 35)) w1.heap.size 0 0 := Blk.new _ _ _
    have K3 := K2.setRow #[.int .i64 gn, .int .i64 gd]
    have hlt := K.lt
    have K4 : Fr ((w1.alloc (.cells #[.int .i64 0, .int .i64 0] 35)).setRow w1.heap.size #[.int .i64 gn, .int .i64 gd]) w.heap.size 0 0 := (K.alloc _).setRow_other _ (by omega)
    have B4 : Below w.heap.size w ((w1.alloc (.cells #[.int .i64 0, .int .i64 0] 35)).setRow w1.heap.size #[.int .i64 gn, .int .i64 gd]) := below_row (B.alloc B.size _) B.size _
    have k0 := K3.cell 0
    have k1 := K3.cell 1
    go_wp2_with (refine wp_fr_store rfl _ _ rfl ⟨w1.heap.size, rfl, _, _, rfl, _, _, K2, ?_⟩)
    generalize (w1.alloc (.cells #[.int .i64 0, .int .i64 0] 35)).setRow w1.heap.size #[.int .i64 gn, .int .i64 gd] = w2 at K4 B4 ⊢
    have cl := lowI m1 m2 w2
    refine cl.mono ?_
    clear cl k0 k1 K2 K3 K B
    rintro e w3 ⟨rfl, hb⟩
    replace K4 := K4.below hb
    replace B4 := B4.trans (hb.mono B4.size)
    clear hb
    go_wp2_with (refine wp_fr_store rfl _ _ rfl ⟨w.heap.size, rfl, _, _, rfl, _, _, K4, ?_⟩)
    refine bodyPost_ret (res_fr rfl _ _ w.heap.size _ _ rfl (K4.setRow _)) rfl ⟨by rw [HE.out.1, HE.out.2], below_row B4 (Nat.le_refl _) _⟩
set_option maxHeartbeats 1600000 in
theorem implLess_any (p q r s : Int) (w : World) (h : LessOk p q r s) :
    Calls Tryz.prog 58 #[frV p q, frV r s] w fun e w' => e = .returned (frV (lowN (lessN p q r s) (lessD q s)) (lowD (lessN p q r s) (lessD q s))) ∧ Below w.heap.size w w' := by
  unfold lessN lessD at *
  have mixed : Tryz.prog.follows .mixedOrders = true := by kernel_rfl
  obtain ⟨f1, f2, f3, f4, f5, f6, f7, f8, f9, f10, f11, f12, f13, f14⟩ := h.facts
  obtain ⟨p0, pq, q1, q2, r0, rs, s1, s2, -⟩ := h
  unfold lessD at *
  have cG := fun W => gcdI_any q s W (by omega) (by omega)
  generalize gcdZ q s = G at *
  generalize hU : q / G = u at *
  generalize hD : u * s = D at *
  generalize hY : D / q = y at *
  generalize hX : D / s = x at *
  generalize hM1 : p * y = m1 at *
  generalize hM2 : r * x = m2 at *
  have cL := fun W => lowI (m1 - m2) D W
  generalize lowN (m1 - m2) D = A1 at cL ⊢
  generalize lowD (m1 - m2) D = A2 at cL ⊢
  obtain ⟨K0, K1, KR, B⟩ := blk_3 35 35 35 w #[.int .i64 p, .int .i64 q] #[.int .i64 r, .int .i64 s] #[.int .i64 0, .int .i64 0]
  generalize hW : ((w.alloc (.cells #[.int .i64 p, .int .i64 q] 35)).alloc (.cells #[.int .i64 r, .int .i64 s] 35)).alloc (.cells #[.int .i64 0, .int .i64 0] 35) = w1 at K0 K1 KR B
  go_enter Tryz.func58, Tryz.ntmps58
  go_wp2_with fail
  clear hW
  have bd : Below w1.heap.size w1 w1.drew := below_drewN (Below.refl _ _) 1
  refine wp_region_held_drew (S := fun w' => Fr w' (w.heap.size) p q ∧ Fr w' (w.heap.size + 1) r s) (by kernel_rfl) ⟨K0.below bd, K1.below bd⟩ ?_
  intro hS
  replace KR := KR.below bd
  replace B := B.trans (bd.mono B.size)
  clear K0 K1 bd
  replace cG := cG w1.drew
  generalize w1.drew = w3 at *
  refine takeL 0 (.pointer (some ⟨w.heap.size, 1, none⟩)) rfl (by kernel_rfl) (by kernel_rfl) (by kernel_rfl) (fun _ _ _ h => h) (.inl ⟨by rfl, fun w hw => by (unfold execOp; go_simp)⟩) hS ?_
  try simp only [Act.put, List.setIfInBounds_toArray, List.set_cons_zero, List.set_cons_succ]
  refine takeL 1 (.int .i64 q) rfl (by kernel_rfl) (by kernel_rfl) (by kernel_rfl) (fun _ _ _ h => h) (.inl ⟨by rfl, fun w hw => by (have h0 := (hw.1).cell 1; unfold execOp; go_simp)⟩) hS ?_
  try simp only [Act.put, List.setIfInBounds_toArray, List.set_cons_zero, List.set_cons_succ]
  refine takeL 2 (.pointer (some ⟨w.heap.size, 1, none⟩)) rfl (by kernel_rfl) (by kernel_rfl) (by kernel_rfl) (fun _ _ _ h => h) (.inl ⟨by rfl, fun w hw => by (unfold execOp; go_simp)⟩) hS ?_
  try simp only [Act.put, List.setIfInBounds_toArray, List.set_cons_zero, List.set_cons_succ]
  refine takeL 3 (.int .i64 q) rfl (by kernel_rfl) (by kernel_rfl) (by kernel_rfl) (fun _ _ _ h => h) (.inl ⟨by rfl, fun w hw => by (have h0 := (hw.1).cell 1; unfold execOp; go_simp)⟩) hS ?_
  try simp only [Act.put, List.setIfInBounds_toArray, List.set_cons_zero, List.set_cons_succ]
  refine takeL 4 (.pointer (some ⟨w.heap.size + 1, 1, none⟩)) rfl (by kernel_rfl) (by kernel_rfl) (by kernel_rfl) (fun _ _ _ h => h) (.inl ⟨by rfl, fun w hw => by (unfold execOp; go_simp)⟩) hS ?_
  try simp only [Act.put, List.setIfInBounds_toArray, List.set_cons_zero, List.set_cons_succ]
  refine takeL 5 (.int .i64 s) rfl (by kernel_rfl) (by kernel_rfl) (by kernel_rfl) (fun _ _ _ h => h) (.inl ⟨by rfl, fun w hw => by (have h0 := (hw.2).cell 1; unfold execOp; go_simp)⟩) hS ?_
  try simp only [Act.put, List.setIfInBounds_toArray, List.set_cons_zero, List.set_cons_succ]
  refine takeL 8 (.pointer (some ⟨w.heap.size + 1, 1, none⟩)) rfl (by kernel_rfl) (by kernel_rfl) (by kernel_rfl) (fun _ _ _ h => h) (.inl ⟨by rfl, fun w hw => by (unfold execOp; go_simp)⟩) hS ?_
  try simp only [Act.put, List.setIfInBounds_toArray, List.set_cons_zero, List.set_cons_succ]
  refine takeL 9 (.int .i64 s) rfl (by kernel_rfl) (by kernel_rfl) (by kernel_rfl) (fun _ _ _ h => h) (.inl ⟨by rfl, fun w hw => by (have h0 := (hw.2).cell 1; unfold execOp; go_simp)⟩) hS ?_
  try simp only [Act.put, List.setIfInBounds_toArray, List.set_cons_zero, List.set_cons_succ]
  refine nextL 6 rfl (by kernel_rfl) (by rfl) fun K hK => ?_
  go_simp
  refine cG.mono ?_
  clear cG
  rintro e w4 ⟨rfl, hb⟩
  replace hS : (fun w' => Fr w' (w.heap.size) p q ∧ Fr w' (w.heap.size + 1) r s) w4 := ⟨hS.1.below hb, hS.2.below hb⟩
  replace KR := KR.below hb
  replace B := B.trans (hb.mono B.size)
  clear hb
  refine hK _ _ hS ?_
  clear hK K hS
  intro hS
  refine takeL 7 (.int .i64 u) rfl (by kernel_rfl) (by kernel_rfl) (by kernel_rfl) (fun _ _ _ h => h) (by rw [← hU]; exact yields_quo (by rfl) _ _ rfl (q) (G) rfl rfl (by omega) (by omega) (by omega)) hS ?_
  try simp only [Act.put, List.setIfInBounds_toArray, List.set_cons_zero, List.set_cons_succ]
  refine takeL 10 (.int .i64 D) rfl (by kernel_rfl) (by kernel_rfl) (by kernel_rfl) (fun _ _ _ h => h) (.inl ⟨by rfl, fun w hw => by (unfold execOp; go_simp; all_goals (rw [IntKind.wrap_i64]; omega))⟩) hS ?_
  try simp only [Act.put, List.setIfInBounds_toArray, List.set_cons_zero, List.set_cons_succ]
  refine takeL 11 (.int .i64 D) rfl (by kernel_rfl) (by kernel_rfl) (by kernel_rfl) (fun _ _ _ h => h) (.inl ⟨by rfl, fun w _ => by rfl⟩) hS ?_
  try simp only [Act.put, List.setIfInBounds_toArray, List.set_cons_zero, List.set_cons_succ]
  refine wpAnyH_done (by kernel_rfl) ?_ _
  go_wp2_with fail
  have bd : Below w4.heap.size w4 w4.drew := below_drewN (Below.refl _ _) 1
  have K0 := hS.1.below bd
  have K1 := hS.2.below bd
  clear hS
  refine wp_region_held_drew (S := fun w' => Fr w' (w.heap.size) p q ∧ Fr w' (w.heap.size + 1) r s) (by kernel_rfl) ⟨K0, K1⟩ ?_
  intro hS
  replace KR := KR.below bd
  replace B := B.trans (bd.mono B.size)
  clear K0 K1 bd
  replace cL := cL w4.drew
  generalize w4.drew = w6 at *
  refine takeL 0 (.pointer (some ⟨w.heap.size, 0, none⟩)) rfl (by kernel_rfl) (by kernel_rfl) (by kernel_rfl) (fun _ _ _ h => h) (.inl ⟨by rfl, fun w hw => by (unfold execOp; go_simp)⟩) hS ?_
  try simp only [Act.put, List.setIfInBounds_toArray, List.set_cons_zero, List.set_cons_succ]
  refine takeL 1 (.int .i64 p) rfl (by kernel_rfl) (by kernel_rfl) (by kernel_rfl) (fun _ _ _ h => h) (.inl ⟨by rfl, fun w hw => by (have h0 := (hw.1).cell 0; unfold execOp; go_simp)⟩) hS ?_
  try simp only [Act.put, List.setIfInBounds_toArray, List.set_cons_zero, List.set_cons_succ]
  refine takeL 2 (.int .i64 D) rfl (by kernel_rfl) (by kernel_rfl) (by kernel_rfl) (fun _ _ _ h => h) (.inl ⟨by rfl, fun w _ => by rfl⟩) hS ?_
  try simp only [Act.put, List.setIfInBounds_toArray, List.set_cons_zero, List.set_cons_succ]
  refine takeL 3 (.pointer (some ⟨w.heap.size, 1, none⟩)) rfl (by kernel_rfl) (by kernel_rfl) (by kernel_rfl) (fun _ _ _ h => h) (.inl ⟨by rfl, fun w hw => by (unfold execOp; go_simp)⟩) hS ?_
  try simp only [Act.put, List.setIfInBounds_toArray, List.set_cons_zero, List.set_cons_succ]
  refine takeL 4 (.int .i64 q) rfl (by kernel_rfl) (by kernel_rfl) (by kernel_rfl) (fun _ _ _ h => h) (.inl ⟨by rfl, fun w hw => by (have h0 := (hw.1).cell 1; unfold execOp; go_simp)⟩) hS ?_
  try simp only [Act.put, List.setIfInBounds_toArray, List.set_cons_zero, List.set_cons_succ]
  refine takeL 5 (.int .i64 y) rfl (by kernel_rfl) (by kernel_rfl) (by kernel_rfl) (fun _ _ _ h => h) (by rw [← hY]; exact yields_quo (by rfl) _ _ rfl (D) (q) rfl rfl (by omega) (by omega) (by omega)) hS ?_
  try simp only [Act.put, List.setIfInBounds_toArray, List.set_cons_zero, List.set_cons_succ]
  refine takeL 6 (.int .i64 m1) rfl (by kernel_rfl) (by kernel_rfl) (by kernel_rfl) (fun _ _ _ h => h) (.inl ⟨by rfl, fun w hw => by (unfold execOp; go_simp; all_goals (rw [IntKind.wrap_i64]; omega))⟩) hS ?_
  try simp only [Act.put, List.setIfInBounds_toArray, List.set_cons_zero, List.set_cons_succ]
  refine takeL 7 (.pointer (some ⟨w.heap.size + 1, 0, none⟩)) rfl (by kernel_rfl) (by kernel_rfl) (by kernel_rfl) (fun _ _ _ h => h) (.inl ⟨by rfl, fun w hw => by (unfold execOp; go_simp)⟩) hS ?_
  try simp only [Act.put, List.setIfInBounds_toArray, List.set_cons_zero, List.set_cons_succ]
  refine takeL 8 (.int .i64 r) rfl (by kernel_rfl) (by kernel_rfl) (by kernel_rfl) (fun _ _ _ h => h) (.inl ⟨by rfl, fun w hw => by (have h0 := (hw.2).cell 0; unfold execOp; go_simp)⟩) hS ?_
  try simp only [Act.put, List.setIfInBounds_toArray, List.set_cons_zero, List.set_cons_succ]
  refine takeL 9 (.int .i64 D) rfl (by kernel_rfl) (by kernel_rfl) (by kernel_rfl) (fun _ _ _ h => h) (.inl ⟨by rfl, fun w _ => by rfl⟩) hS ?_
  try simp only [Act.put, List.setIfInBounds_toArray, List.set_cons_zero, List.set_cons_succ]
  refine takeL 10 (.pointer (some ⟨w.heap.size + 1, 1, none⟩)) rfl (by kernel_rfl) (by kernel_rfl) (by kernel_rfl) (fun _ _ _ h => h) (.inl ⟨by rfl, fun w hw => by (unfold execOp; go_simp)⟩) hS ?_
  try simp only [Act.put, List.setIfInBounds_toArray, List.set_cons_zero, List.set_cons_succ]
  refine takeL 11 (.int .i64 s) rfl (by kernel_rfl) (by kernel_rfl) (by kernel_rfl) (fun _ _ _ h => h) (.inl ⟨by rfl, fun w hw => by (have h0 := (hw.2).cell 1; unfold execOp; go_simp)⟩) hS ?_
  try simp only [Act.put, List.setIfInBounds_toArray, List.set_cons_zero, List.set_cons_succ]
  refine takeL 12 (.int .i64 x) rfl (by kernel_rfl) (by kernel_rfl) (by kernel_rfl) (fun _ _ _ h => h) (by rw [← hX]; exact yields_quo (by rfl) _ _ rfl (D) (s) rfl rfl (by omega) (by omega) (by omega)) hS ?_
  try simp only [Act.put, List.setIfInBounds_toArray, List.set_cons_zero, List.set_cons_succ]
  refine takeL 13 (.int .i64 m2) rfl (by kernel_rfl) (by kernel_rfl) (by kernel_rfl) (fun _ _ _ h => h) (.inl ⟨by rfl, fun w hw => by (unfold execOp; go_simp; all_goals (rw [IntKind.wrap_i64]; omega))⟩) hS ?_
  try simp only [Act.put, List.setIfInBounds_toArray, List.set_cons_zero, List.set_cons_succ]
  refine takeL 14 (.int .i64 (m1 - m2)) rfl (by kernel_rfl) (by kernel_rfl) (by kernel_rfl) (fun _ _ _ h => h) (.inl ⟨by rfl, fun w hw => by (unfold execOp; go_simp; all_goals (rw [IntKind.wrap_i64]; omega))⟩) hS ?_
  try simp only [Act.put, List.setIfInBounds_toArray, List.set_cons_zero, List.set_cons_succ]
  refine takeL 15 (.int .i64 D) rfl (by kernel_rfl) (by kernel_rfl) (by kernel_rfl) (fun _ _ _ h => h) (.inl ⟨by rfl, fun w _ => by rfl⟩) hS ?_
  try simp only [Act.put, List.setIfInBounds_toArray, List.set_cons_zero, List.set_cons_succ]
  refine takeL 16 (.agg #[.int .i64 (m1 - m2), .int .i64 D]) rfl (by kernel_rfl) (by kernel_rfl) (by kernel_rfl) (fun _ _ _ h => h) (.inl ⟨by rfl, fun w hw => by (unfold execOp; go_simp)⟩) hS ?_
  try simp only [Act.put, List.setIfInBounds_toArray, List.set_cons_zero, List.set_cons_succ]
  refine nextL 17 rfl (by kernel_rfl) (by rfl) fun K hK => ?_
  go_simp
  refine cL.mono ?_
  clear cL
  rintro e w5 ⟨rfl, hb⟩
  replace hS : (fun w' => Fr w' (w.heap.size) p q ∧ Fr w' (w.heap.size + 1) r s) w5 := ⟨hS.1.below hb, hS.2.below hb⟩
  replace KR := KR.below hb
  replace B := B.trans (hb.mono B.size)
  clear hb
  refine hK _ _ hS ?_
  clear hK K hS
  intro hS
  refine nextL 18 rfl (by kernel_rfl) (by rfl) fun K hK => ?_
  refine wp_fr_step _ _ rfl (w.heap.size + 1 + 1) _ _ _ _ rfl rfl KR ?_
  have hS2 : (fun w' => Fr w' (w.heap.size) p q ∧ Fr w' (w.heap.size + 1) r s) (w5.setRow (w.heap.size + 1 + 1) #[.int .i64 A1, .int .i64 A2]) := ⟨hS.1.setRow_other _ (by omega), hS.2.setRow_other _ (by omega)⟩
  refine hK _ _ hS2 ?_
  clear hK K hS
  intro hS
  refine wpAnyH_done (by kernel_rfl) ?_ _
  clear hS
  go_wp2
  refine bodyPost_ret (res_fr rfl _ _ (w.heap.size + 1 + 1) _ _ rfl (KR.setRow _)) rfl ⟨rfl, below_row B (by omega) _⟩
end Go.Proofs.YteadkdllmeeocabGreat
/- Whether an attribute is nominal, by the program. -/
namespace Go.Proofs.YteadkdllmeeocabGreat
open Go.RowKit
set_option maxRecDepth 100000

theorem nominal_any (v : Value) (a : AttrD) (w : World) (h : AttrAt w v a) : Calls Tryz.prog 52 #[v] w fun e w' => e = .returned (.bool (decide (0 < a.vals.length))) ∧ Below w.heap.size w w' := by
  obtain ⟨vc, vv, rfl, hc, hv⟩ := h
  obtain ⟨ov, cv, rfl, hvc, hvr⟩ := hv
  clear hvr hc
  go_enter Tryz.func52, Tryz.ntmps52
  go_wp2
  go_ret
  exact ⟨rfl, (Below.refl _ _).alloc (Nat.le_refl _) _⟩
end Go.Proofs.YteadkdllmeeocabGreat
