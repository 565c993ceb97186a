/- The sum of squares, the sum and the impurity, by the program. -/
import Derived.Test.YteadkdllmeeocabK10g
import Derived.Test.YteadkdllmeeocabRi
import Derived.Test.YteadkdllmeeocabLi
import Derived.Test.YteadkdllmeeocabTk
namespace Go.Proofs.Yteadkdllmeeocab
open Go.RowKit
set_option maxRecDepth 100000
set_option linter.unusedSimpArgs false
theorem implSum10_any (v : Value) (cs : List Int) (w : World) (h : RowI w v cs) (hn : cs.length ≤ 1048576) (hb : ∀ j, j < cs.length → inW (cs.getD j 0) = true) :
    Calls Try.prog 25 #[v] w fun e w' => e = .returned (.int .i64 (sumL cs)) ∧ w' = w := by
  obtain ⟨oa, cap, rfl, hc, hr⟩ := h
  have HJ : Hid (∀ k, k < cs.length → ∃ g o, oa = some ⟨g, o, none⟩ ∧ w.cell? ⟨g, o + k, none⟩ = some (.int .i64 (cs.getD k 0))) := fun k hk => by
    obtain ⟨g, o, e, hg, hj⟩ := hr (by omega)
    exact ⟨g, o, e, hj k hk⟩
  have HB : Hid (∀ j, j < cs.length → inW (cs.getD j 0) = true) := hb
  clear hr hb
  go_enter Try.func25, Try.ntmps25
  go_wp2
  go_loop [3, 8] (fun n i => ∃ k : Nat, i = .int .i64 k ∧ n = .int .i64 (sumL (cs.take k)) ∧ k ≤ cs.length) (fun _ i => cs.length - (intOf i).toNat)
  case atStart => exact ⟨0, rfl, rfl, by omega⟩
  case round =>
    obtain ⟨k, rfl, rfl, hk⟩ := hrel
    have HL := sum_bound10 k hk fun j hj => HB.out j (by omega)
    by_cases hlt : k < cs.length
    · obtain ⟨g, o, rfl, hcell⟩ := HJ.out k hlt
      have hin := of_decide_eq_true (HB.out k hlt)
      have HS : Hid (sumL (cs.take (k + 1)) = sumL (cs.take k) + cs.getD k 0) := sum_take10 hlt
      generalize cs.getD k 0 = c at hcell HS hin
      generalize sumL (cs.take k) = b at HL HS
      have h1 : b + c ≤ 1048576 * 999 + 999 := by omega
      go_wp2
      go_round
      case rel => exact ⟨k + 1, by go_num, by rw [HS.out], by omega⟩
      case measure => simp [intOf]; omega
    · have HE : Hid (sumL (cs.take k) = sumL cs) := by rw [List.take_of_length_le (by omega)]; rfl
      rw [HE.out]
      go_wp2
      go_ret
      exact ⟨rfl, rfl⟩
theorem implSquares_any (v : Value) (cs : List Int) (w : World) (h : RowI w v cs) (hn : cs.length ≤ 1099511627776) :
    Calls Try.prog 8 #[v] w fun e w' => e = .returned (.int .i64 (squares cs)) ∧ w' = w := by
  obtain ⟨oa, cap, rfl, hc, hr⟩ := h
  by_cases h3 : 3 < cs.length
  · rw [squares_long h3]
    clear hr
    go_enter Try.func8, Try.ntmps8
    go_wp2
    go_ret
    exact ⟨rfl, rfl⟩
  have HJ : Hid (∀ k, k < cs.length → ∃ g o, oa = some ⟨g, o, none⟩ ∧ w.cell? ⟨g, o + k, none⟩ = some (.int .i64 (cs.getD k 0))) := fun k hk => by
    obtain ⟨g, o, e, hg, hj⟩ := hr (by omega)
    exact ⟨g, o, e, hj k hk⟩
  clear hr
  have hq3 : decide (3 < cs.length) = false := decide_eq_false h3
  go_enter Try.func8, Try.ntmps8
  go_wp2
  clear hq3
  go_loop [3, 11] (fun n i => ∃ k : Nat, i = .int .i64 k ∧ n = .int .i64 (sqL (cs.take k)) ∧ k ≤ cs.length ∧ Hid (∀ j, j < k → inW (cs.getD j 0) = true)) (fun _ i => cs.length - (intOf i).toNat)
  case atStart => exact ⟨0, rfl, rfl, by omega, fun j hj => by omega⟩
  case round =>
    obtain ⟨k, rfl, rfl, hk, HB⟩ := hrel
    have HL := sq_bound k hk fun j hj => HB.out j hj
    by_cases hlt : k < cs.length
    rotate_left
    · have HE : Hid (sqL (cs.take k) = squares cs) := by
        show _ = _
        rw [squares_yes (by omega) (fun j hj => HB.out j (by omega))]
        rw [List.take_of_length_le (by omega), List.take_of_length_le (by omega)]
      rw [HE.out]
      go_wp2
      go_ret
      exact ⟨rfl, rfl⟩
    obtain ⟨g, o, rfl, hcell⟩ := HJ.out k hlt
    have HS : Hid (sqL (cs.take (k + 1)) = sqL (cs.take k) + cs.getD k 0 * cs.getD k 0) := sq_take hlt
    by_cases hin : 0 ≤ cs.getD k 0 ∧ cs.getD k 0 ≤ 999
    rotate_left
    · have HE : Hid (squares cs = -1) := squares_no hlt (decide_eq_false hin)
      clear HS
      generalize cs.getD k 0 = c at hcell hin
      by_cases h0 : c < 0
      · go_wp2
        go_ret
        exact ⟨by rw [HE.out]; rfl, rfl⟩
      · have h1 : ¬ c ≤ 999 := by omega
        go_wp2
        go_ret
        exact ⟨by rw [HE.out]; rfl, rfl⟩
    have HIN : Hid (inW (cs.getD k 0) = true) := decide_eq_true hin
    have hsq := sq_small HIN.out
    have HB2 : Hid (∀ j, j < k + 1 → inW (cs.getD j 0) = true) := fun j hj => by
      rcases Nat.lt_or_eq_of_le (Nat.le_of_lt_succ hj) with h | h
      · exact HB.out j h
      · rw [h]; exact HIN.out
    clear HB HIN
    generalize cs.getD k 0 = c at hcell hin HS hsq
    generalize sqL (cs.take k) = b at HL HS
    generalize hcc : c * c = y at HS hsq
    go_wp2
    go_round
    case rel => exact ⟨k + 1, by go_num, by rw [HS.out], by omega, HB2⟩
    case measure => simp [intOf]; omega
theorem implSquaresB (v : Value) (cs : List Int) (w : World) (h : RowI w v cs) (hn : cs.length ≤ 1099511627776) :
    Calls Try.prog 8 #[v] w fun e w' => e = .returned (.int .i64 (squares cs)) ∧ Below w.heap.size w w' :=
  (implSquares_any v cs w h hn).mono fun e w' h => ⟨h.1, by rw [h.2]; exact Below.refl _ _⟩
theorem implGini_any (v : Value) (cs : List Int) (w : World) (h : RowI w v cs) (hn : cs.length ≤ 1099511627776) :
    Calls Try.prog 11 #[v] w fun e w' => e = .returned (frV (giniN cs) (giniD cs)) ∧ Below w.heap.size w w' := by
  have B := below_1 w (.cells #[.int .i64 0, .int .i64 0] 28)
  have K : Fr (w.alloc (.cells #[.int .i64 0, .int .i64 0] 28)) w.heap.size 0 0 := Blk.new _ _ _
  have hr := h.later B
  have cc := implSquares_any v cs _ hr hn
  clear h
  rcases squares_cases cs with hs | ⟨h3, ha, hs, hs0, hs1, hs2, hs3⟩
  · have HE : Hid (giniN cs = 0 ∧ giniD cs = 0) := ⟨by unfold giniN; rw [hs]; rfl, by unfold giniD; rw [hs]; rfl⟩
    rw [hs] at cc
    clear hs hr
    generalize hW : w.alloc (.cells #[.int .i64 0, .int .i64 0] 28) = w0 at B K cc
    go_enter Try.func11, Try.ntmps11
    go_wp2_with fail
    refine cc.mono ?_
    clear cc hW
    rintro e w1 ⟨rfl, e1⟩
    rw [e1]
    go_wp2_with (refine wp_fr_store rfl _ _ rfl ⟨w.heap.size, rfl, _, _, rfl, _, _, K, ?_⟩)
    refine bodyPost_ret (res_fr rfl _ _ w.heap.size _ _ rfl (K.setRow _)) rfl ⟨by rw [HE.out.1, HE.out.2], below_row B (Nat.le_refl _) _⟩
  · have HLT : Hid (¬ squares cs < 0) := by show ¬ _; omega
    have HD0 : Hid (sumL cs = 0 → giniN cs = 0 ∧ giniD cs = 1) := fun h0 => ⟨by unfold giniN; rw [if_neg HLT.out, if_pos h0], by unfold giniD; rw [if_neg HLT.out, if_pos h0]⟩
    have HD1 : Hid (¬ sumL cs = 0 → giniN cs = lowN (sumL cs * sumL cs - squares cs) (sumL cs * sumL cs) ∧ giniD cs = lowD (sumL cs * sumL cs - squares cs) (sumL cs * sumL cs)) := fun h0 => ⟨by unfold giniN; rw [if_neg HLT.out, if_neg h0], by unfold giniD; rw [if_neg HLT.out, if_neg h0]⟩
    generalize hW : w.alloc (.cells #[.int .i64 0, .int .i64 0] 28) = w0 at B K cc hr
    have c2 := implSum10_any v cs w0 hr (by omega) ha
    clear hr hs HLT ha
    generalize squares cs = q at *
    generalize sumL cs = n at *
    have hnn := mul_small hs2 hs3
    go_enter Try.func11, Try.ntmps11
    go_wp2_with fail
    refine cc.mono ?_
    clear cc hW
    rintro e w1 ⟨rfl, e1⟩
    rw [e1]
    clear e1 w1
    go_wp2_with fail
    refine c2.mono ?_
    clear c2
    rintro e w2 ⟨rfl, e2⟩
    rw [e2]
    clear e2 w2
    by_cases h0 : n = 0
    · obtain HZ := (show Hid (giniN cs = 0 ∧ giniD cs = 1) from HD0.out h0)
      clear HD0 HD1
      subst h0
      go_wp2_with (refine wp_fr_store rfl _ _ rfl ⟨w.heap.size, rfl, _, _, rfl, _, _, K, ?_⟩)
      refine bodyPost_ret (res_fr rfl _ _ w.heap.size _ _ rfl (K.setRow _)) rfl ⟨by rw [HZ.out.1, HZ.out.2], below_row B (Nat.le_refl _) _⟩
    · have hne : (n == 0) = false := by rw [beq_eq_false_iff_ne]; exact h0
      obtain ⟨e1, e2⟩ := HD1.out h0
      have HR : Hid (giniN cs = _ ∧ giniD cs = _) := ⟨e1, e2⟩
      clear e1 e2 HD0 HD1 h0
      have cl := lowI (n * n - q) (n * n) w0
      go_wp2_with fail
      refine cl.mono ?_
      clear cl
      rintro e w3 ⟨rfl, hb⟩
      replace K := K.below hb
      replace B := B.trans (hb.mono B.size)
      clear hb
      go_wp2_with (refine wp_fr_store rfl _ _ rfl ⟨w.heap.size, rfl, _, _, rfl, _, _, K, ?_⟩)
      refine bodyPost_ret (res_fr rfl _ _ w.heap.size _ _ rfl (K.setRow _)) rfl ⟨by rw [HR.out.1, HR.out.2], below_row B (Nat.le_refl _) _⟩
end Go.Proofs.Yteadkdllmeeocab
