/- Cuts where parts of the same length meet, by the program. -/
import Derived.Test.YtdibkmpkhlaadaaCs
import Derived.Test.YtdibkmpkhlaadaaCe
namespace Go.Proofs.Ytdibkmpkhlaadaa
open Go.RowKit
set_option maxRecDepth 100000
set_option maxHeartbeats 400000 in
theorem within_any (v : Value) (zs : List Int) (lo hi : Int) (w : World) (h : RowI w v zs) (h0 : 0 < zs.length) (hn : zs.length ≤ 1048576) :
    Calls Try.prog 35 #[.agg #[v], .int .i64 lo, .int .i64 hi] w fun e w' => e = .returned (.bool (decide (lo ≤ zs.getD 0 0) && decide (zs.getD (zs.length - 1) 0 ≤ hi))) ∧ Below w.heap.size w w' := by
  obtain ⟨oa, cap, rfl, hc, hr⟩ := h
  obtain ⟨g, o, rfl, hg, hj⟩ := hr h0
  clear hr
  have B := (Below.refl w.heap.size w).alloc (Nat.le_refl _) (.cells #[.slice (some ⟨g, o, none⟩) zs.length cap] 43)
  have c0 : (w.alloc (.cells #[.slice (some ⟨g, o, none⟩) zs.length cap] 43)).cell? ⟨g, o, none⟩ = some (.int .i64 (zs.getD 0 0)) := (B.cell (p := ⟨g, o, none⟩) hg).trans (by have := hj 0 h0; rwa [Nat.add_zero] at this)
  have c1 : (w.alloc (.cells #[.slice (some ⟨g, o, none⟩) zs.length cap] 43)).cell? ⟨g, o + (zs.length - 1), none⟩ = some (.int .i64 (zs.getD (zs.length - 1) 0)) := (B.cell (p := ⟨g, o + (zs.length - 1), none⟩) hg).trans (hj _ (by omega))
  clear hj
  generalize zs.getD 0 0 = x at c0
  generalize zs.getD (zs.length - 1) 0 = y at c1
  have hz : ((zs.length : Int) == 0) = false := by rw [beq_eq_false_iff_ne]; omega
  by_cases h1 : lo ≤ x <;> by_cases h2 : y ≤ hi
  all_goals
    go_enter Try.func35, Try.ntmps35
    go_wp2
    go_ret
    exact ⟨by simp [h1, h2], B⟩
theorem q_mul {n m : Nat} {K : Int} (hn : n ≤ 64) (h5 : K ≤ 4) (hm : (m : Int) < K) : 0 ≤ (n : Int) * (m : Int) ∧ (n : Int) * (m : Int) ≤ 79988 := by
  have : m = 0 ∨ m = 1 ∨ m = 2 ∨ m = 3 := by omega
  rcases this with rfl | rfl | rfl | rfl <;> simp <;> omega
set_option maxHeartbeats 1000000 in
theorem quantiles_any (v : Value) (zs : List Int) (K : Int) (w : World) (h : RowI w v zs) (h0 : 0 < zs.length) (hn : zs.length ≤ 64) (h4 : 2 ≤ K) (h5 : K ≤ 4) :
    Calls Try.prog 36 #[.agg #[v], .int .i64 K] w fun e w' => ∃ v', e = .returned v' ∧ OwnI w w' v' (qTo zs K (K.toNat - 1)) := by
  obtain ⟨i0, hi0, hz0, hz1, hz2⟩ := info_parts intInfo
  obtain ⟨oa, cap, rfl, hc, hr⟩ := h
  obtain ⟨g, o, rfl, hg, hj⟩ := hr h0
  have HJ : Hid (∀ j, j < zs.length → w.cell? ⟨g, o + j, none⟩ = some (.int .i64 (zs.getD j 0))) := hj
  clear hr hj
  have B := (Below.refl w.heap.size w).alloc (Nat.le_refl _) (.cells #[.slice (some ⟨g, o, none⟩) zs.length cap] 43)
  have K0 : Blk 43 (w.alloc (.cells #[.slice (some ⟨g, o, none⟩) zs.length cap] 43)) w.heap.size #[.slice (some ⟨g, o, none⟩) zs.length cap] := Blk.new _ _ _
  go_enter Try.func36, Try.ntmps36
  go_wp2
  go_loopw [5, 6] (fun v i wr => ∃ m : Nat, i = .int .i64 m ∧ 1 ≤ m ∧ (m : Int) ≤ K ∧ wr.ownsRow (w.heap.size + 1) 3 1 v (qTo zs K (m - 1)).length ((qTo zs K (m - 1)).map (Value.int .i64)) ∧ Below w.heap.size w wr ∧ Blk 43 wr w.heap.size #[.slice (some ⟨g, o, none⟩) zs.length cap]) (fun _ i _ => K.toNat - (intOf i).toNat)
  case atStart => exact ⟨1, rfl, by omega, by omega, World.ownsRow_nil _ _ _ _, B, K0⟩
  case round =>
    obtain ⟨m, rfl, hm1, hmK, hown, hb, hK⟩ := hrel
    clear K0 B
    by_cases hlt : (m : Int) < K
    · obtain ⟨p1, p2⟩ := q_mul hn h5 hlt
      obtain ⟨q1, q2⟩ := q_in h4 h0 hlt
      have HE : Hid (qTo zs K (m + 1 - 1) = qPut (qTo zs K (m - 1)) (zs.getD ((zs.length : Int) * m / K).toNat 0)) := by
        show qTo zs K (m + 1 - 1) = _
        rw [show m + 1 - 1 = m - 1 + 1 by omega]
        show qPut _ (qAt zs K (m - 1 + 1)) = _
        rw [show m - 1 + 1 = m by omega]
        rfl
      have hcell := (hb.cell (p := ⟨g, o + ((zs.length : Int) * m / K).toNat, none⟩) hg).trans (HJ.out ((zs.length : Int) * m / K).toNat (by omega))
      have hk0 := hK.cell 0
      have HL := qTo_len zs K (m - 1)
      generalize zs.getD ((zs.length : Int) * m / K).toNat 0 = x at hcell HE
      generalize qTo zs K (m - 1) = ts at hown HE HL
      go_wp2
      go_quiet (fail)
      have hownW : (wr.drewN nq).ownsRow (w.heap.size + 1) 3 1 _ ts.length (ts.map (Value.int .i64)) := hown
      have hbW : Below w.heap.size w (wr.drewN nq) := below_drewN hb _
      have hKW : Blk 43 (wr.drewN nq) w.heap.size #[.slice (some ⟨g, o, none⟩) zs.length cap] := hK
      clear hown hb hK hcell hk0
      generalize wr.drewN nq = W at hownW hbW hKW ⊢
      have hWs : w.heap.size + 1 ≤ W.heap.size := by have := hKW.lt; omega
      obtain ⟨ot, ct, rfl, hct, hrt⟩ := RowI.of_own hownW rfl
      by_cases t0 : ts.length = 0
      · have tb : ((ts.length : Int) == 0) = true := by rw [t0]; rfl
        have HP : Hid (qPut ts x = ts ++ [x]) := if_pos (.inl t0)
        clear t0
        go_wp2_with (at_builtin; refine wpList_append_own _ rfl _ _ 26 rfl (w.heap.size + 1) 3 i0 (.int .i64 0) 1 8 Try.underlying26 hi0 hz0 hz1 hz2 rfl (by decide) _ _ _ rfl (hownW.alloc _) ⟨W.heap.size, 0, none⟩ 1 1 [_] rfl rfl (newc _ _ _) (ints_oneCell .i64 [_]) (by unfold maxLen; omega) (by omega) (by simp; omega) ?_)
        intro v' w2 ho hg2 hnil
        have hb2 : Below w.heap.size w w2 := (hbW.alloc hbW.size _).grown hg2 (by have := hbW.size; simp; omega) (fun k hk => by have := (hownW.lt k hk).1; omega)
        have hK2 := (hKW.alloc (.cells #[.int .i64 x] 3)).kept hg2 (by intro e; have := (hownW.lt _ e).1; omega)
        clear hg2 hnil hbW hownW hKW
        go_wp2
        go_roundw
        case rel =>
          refine ⟨m + 1, by go_num, by omega, by omega, ?_, hb2, hK2⟩
          rw [HE.out, HP.out, List.map_append, List.length_append]
          exact ho
        case measure => simp [intOf]; omega
      · have tb : ((ts.length : Int) == 0) = false := by rw [beq_eq_false_iff_ne]; omega
        obtain ⟨gt, og, rfl, hgt, hjt⟩ := hrt (by omega)
        have hl := hjt (ts.length - 1) (by omega)
        clear hrt hjt
        by_cases hx : ts.getD (ts.length - 1) 0 < x
        · have HP : Hid (qPut ts x = ts ++ [x]) := if_pos (.inr hx)
          generalize ts.getD (ts.length - 1) 0 = y at hl hx
          clear hgt
          go_wp2_with (at_builtin; refine wpList_append_own _ rfl _ _ 26 rfl (w.heap.size + 1) 3 i0 (.int .i64 0) 1 8 Try.underlying26 hi0 hz0 hz1 hz2 rfl (by decide) _ _ _ rfl (hownW.alloc _) ⟨W.heap.size, 0, none⟩ 1 1 [_] rfl rfl (newc _ _ _) (ints_oneCell .i64 [_]) (by unfold maxLen; omega) (by omega) (by simp; omega) ?_)
          intro v' w2 ho hg2 hnil
          have hb2 : Below w.heap.size w w2 := (hbW.alloc hbW.size _).grown hg2 (by have := hbW.size; simp; omega) (fun k hk => by have := (hownW.lt k hk).1; omega)
          have hK2 := (hKW.alloc (.cells #[.int .i64 x] 3)).kept hg2 (by intro e; have := (hownW.lt _ e).1; omega)
          clear hg2 hnil hbW hownW hKW
          go_wp2
          go_roundw
          case rel =>
            refine ⟨m + 1, by go_num, by omega, by omega, ?_, hb2, hK2⟩
            rw [HE.out, HP.out, List.map_append, List.length_append]
            exact ho
          case measure => simp [intOf]; omega
        · have HP : Hid (qPut ts x = ts) := if_neg (fun e => e.elim t0 hx)
          generalize ts.getD (ts.length - 1) 0 = y at hl hx
          clear hgt
          go_wp2
          go_roundw
          case rel =>
            refine ⟨m + 1, by go_num, by omega, by omega, ?_, hbW, hKW⟩
            rw [HE.out, HP.out]
            exact hownW
          case measure => simp [intOf]; omega
    · obtain rfl : K = m := by omega
      go_wp2
      go_ret
      exact ⟨_, rfl, own_base hown (by omega), hb⟩
set_option maxHeartbeats 1000000 in
theorem implQuant_any (v : Value) (zs : List Int) (K : Int) (w : World) (h : RowI w v zs) (hn : zs.length ≤ 1048576) :
    Calls Try.prog 15 #[v, .int .i64 K] w fun e w' => ∃ v', e = .returned v' ∧ OwnI w w' v' (quantC zs K) := by
  have cB := fun W => bins_any K W
  by_cases o1 : 2 ≤ K ∧ K ≤ 4
  rotate_left
  · have HF : Hid (quantC zs K = []) := if_neg (fun e => o1 ⟨e.1, e.2.1⟩)
    rw [decide_eq_false o1] at cB
    obtain ⟨oa, cap, rfl, hc, hr⟩ := h
    clear hr
    go_enter Try.func15, Try.ntmps15
    go_wp2_with fail
    refine (cB _).mono ?_
    rintro e w1 ⟨rfl, e1⟩
    rw [e1]; clear e1 w1
    go_wp2
    go_ret
    exact ⟨_, rfl, by rw [HF.out]; exact World.ownsRow_nil _ _ _ _, Below.refl _ _⟩
  rw [decide_eq_true o1] at cB
  by_cases o2 : 1 ≤ zs.length ∧ zs.length ≤ 64
  rotate_left
  · have HF : Hid (quantC zs K = []) := if_neg (fun e => o2 ⟨e.2.2.1, e.2.2.2.1⟩)
    obtain ⟨oa, cap, rfl, hc, hr⟩ := h
    clear hr
    by_cases o3 : (zs.length : Int) < 1
    all_goals
      have o4 : ¬ (zs.length : Int) < 1 → 64 < (zs.length : Int) := fun _ => by omega
      first | (have o5 := o4 o3) | skip
      clear o4 o2 hc
      generalize zs.length = n at *
      go_enter Try.func15, Try.ntmps15
      go_wp2_with fail
      refine (cB _).mono ?_
      rintro e w1 ⟨rfl, e1⟩
      rw [e1]; clear e1 w1
      go_wp2
      go_ret
      exact ⟨_, rfl, by rw [HF.out]; exact World.ownsRow_nil _ _ _ _, Below.refl _ _⟩
  obtain ⟨n1, n2⟩ := o2
  have l1 : ¬ (zs.length : Int) < 1 := by omega
  have l2 : ¬ 64 < (zs.length : Int) := by omega
  have cS := orderedOf_any v zs w h (by omega)
  have HL : Hid ((sortI zs).length = zs.length) := sortI_len zs
  have HA : Hid (allIn zs = (decide (-9999 ≤ (sortI zs).getD 0 0) && decide ((sortI zs).getD (zs.length - 1) 0 ≤ 9998))) := allIn_ends n1
  obtain ⟨oa, cap, rfl, hc, hr⟩ := h
  clear hr
  go_enter Try.func15, Try.ntmps15
  go_wp2_with fail
  refine (cB _).mono ?_
  rintro e w1 ⟨rfl, e1⟩
  rw [e1]; clear e1 w1
  go_wp2_with fail
  refine cS.mono ?_
  clear cS cB
  rintro e w1 ⟨v', rfl, ho1, hb1⟩
  have hs1 := hb1.size
  have R1 := RowI.of_own ho1 rfl
  have h1c : v'.oneCell' = true := by obtain ⟨_, _, rfl, _⟩ := id R1; rfl
  have K0 : Blk 43 (w1.alloc (.cells #[.slice none 0 0] 43)) w1.heap.size #[.slice none 0 0] := Blk.new _ _ _
  have B1 : Below w1.heap.size w1 (w1.alloc (.cells #[.slice none 0 0] 43)) := (Below.refl _ _).alloc (Nat.le_refl _) _
  have K1 := K0.setRow #[v']
  have B2 := below_row B1 (Nat.le_refl _) #[v']
  have R2 := R1.later B2
  have hb2 : Below w.heap.size w _ := hb1.trans (B2.mono hs1)
  have k1c : ((w1.alloc (.cells #[.slice none 0 0] 43)).setRow w1.heap.size #[v']).cell? ⟨w1.heap.size, 0, none⟩ = some v' := K1.cell 0
  have hsz : w1.heap.size < ((w1.alloc (.cells #[.slice none 0 0] 43)).setRow w1.heap.size #[v']).heap.size := K1.lt
  clear ho1 R1 B1 B2 K1 hb1
  go_wp2_with (with_reducible refine wp_ord_store rfl _ _ rfl ?_; refine ⟨w1.heap.size, rfl, _, rfl, h1c, _, K0, ?_⟩; clear K0; generalize (w1.alloc (.cells #[.slice none 0 0] 43)).setRow w1.heap.size #[v'] = W at R2 hb2 k1c hsz ⊢)
  have hW := hb2.size
  have cW := within_any v' (sortI zs) (-9999) 9998 W R2 (by rw [HL.out]; omega) (by rw [HL.out]; omega)
  rw [HL.out, ← HA.out] at cW
  go_wp2_with fail
  refine cW.mono ?_
  clear cW
  cases hA : allIn zs with
  | false =>
    have HF : Hid (quantC zs K = []) := if_neg (fun e => by have := e.2.2.2.2; rw [hA] at this; cases this)
    clear hA
    rintro e w2 ⟨rfl, hb3⟩
    go_wp2
    go_ret
    exact ⟨_, rfl, by rw [HF.out]; exact World.ownsRow_nil _ _ _ _, hb2.trans (hb3.mono hW)⟩
  | true =>
    have HT : Hid (quantC zs K = qTo (sortI zs) K (K.toNat - 1)) := if_pos ⟨o1.1, o1.2, n1, n2, hA⟩
    clear hA
    rintro e w2 ⟨rfl, hb3⟩
    have k2c : w2.cell? ⟨w1.heap.size, 0, none⟩ = some v' := (hb3.cell (p := ⟨w1.heap.size, 0, none⟩) hsz).trans k1c
    have cQ := quantiles_any v' (sortI zs) K w2 (R2.later hb3) (by rw [HL.out]; omega) (by rw [HL.out]; omega) o1.1 o1.2
    go_wp2_with fail
    refine cQ.mono ?_
    rintro e w3 ⟨v3, rfl, ho3, hb4⟩
    go_wp2
    go_ret
    have hs3 := hb3.size
    exact ⟨_, rfl, by rw [HT.out]; exact own_base ho3 (by omega), (hb2.trans (hb3.mono hW)).trans (hb4.mono (by omega))⟩
end Go.Proofs.Ytdibkmpkhlaadaa
