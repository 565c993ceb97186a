/- The specification's sum of two great numbers. -/
import Derived.Test.YtobnghmadoejjaaSx
import Derived.Test.YtobnghmadoejjaaSk
namespace Go.Proofs.Ytobnghmadoejjaa
open Go.RowKit
set_option maxRecDepth 100000

theorem step_row {w wr w1 : World} {v v' : Value} {done : List Nat} {d : Nat} {o : Obj} (hb : Below w.heap.size w wr) (hown : wr.ownsRow w.heap.size 3 1 v done.length ((up done).map (Value.int .i64)))
    (hown' : w1.ownsRow w.heap.size 3 1 v' (done.length + 1) ((up done).map (Value.int .i64) ++ [.int .i64 (d : Int)])) (hgrow : (wr.alloc o).grownBy w1 v.ownBlock) :
    w1.ownsRow w.heap.size 3 1 v' (done ++ [d]).length ((up (done ++ [d])).map (Value.int .i64)) ∧ Below w.heap.size w w1 := by
  have hs := hb.size
  refine ⟨by simpa [up_snoc] using hown', (hb.alloc hs o).grown hgrow (by simp; omega) fun k hk => (hown.lt k hk).1⟩
theorem lit0A (w : World) (b : Nat) (hb : b ≤ w.heap.size) : OwnA (w.alloc (.cells #[] 3)) b (.slice (some ⟨w.heap.size, 0, none⟩) 0 0) none := ownI_lit0 w b hb

set_option maxHeartbeats 1600000 in
theorem specAdd_any (v1 v2 : Value) (zs ys : List Int) (w : World) (hv1 : RowI w v1 zs) (hv2 : RowI w v2 ys) (hn1 : zs.length ≤ 140737488351232) (hn2 : ys.length ≤ 140737488351232) :
    Calls Try.prog 12 #[v1, v2] w fun e w' => ∃ v, e = .returned (.tuple #[v, .bool (addO zs ys).isSome]) ∧ OwnA w' w.heap.size v (addO zs ys) ∧ Below w.heap.size w w' := by
  obtain ⟨i0, hi, hz0, hz1, hz2⟩ := info_parts intInfo
  have hb1 : Below w.heap.size w (w.alloc (.cells #[] 3)) := (Below.refl _ _).alloc (Nat.le_refl _) _
  have c1 := specOk_any v1 zs _ (hv1.later hb1) hn1
  have c2 := specOk_any v2 ys _ (hv2.later hb1) hn2
  have hl0 := lit0A w w.heap.size (Nat.le_refl _)
  by_cases h1 : okL zs
  · rw [decide_eq_true h1] at c1
    by_cases h2 : okL ys
    · rw [decide_eq_true h2] at c2
      have HA : Hid (addO zs ys = if num zs + num ys < top then some (num zs + num ys) else none) := by
        show addO zs ys = _
        unfold addO
        simp only [h1, h2, true_and]
      have hzs := okL_up zs h1
      have hys := okL_up ys h2
      have hn3 : (nats zs).length ≤ 16 := by have := h1.1; simp [nats]; exact this
      have hn4 : (nats ys).length ≤ 16 := by have := h2.1; simp [nats]; exact this
      have ha := (okL_norm zs h1).lt
      have hb := (okL_norm ys h2).lt
      unfold num at HA
      generalize nats zs = a at HA hzs ha hn3
      generalize nats ys = b at HA hys hb hn4
      have HLA : Hid (∀ l ∈ a, l < 16777216) := ha
      have HLB : Hid (∀ l ∈ b, l < 16777216) := hb
      have k1 : zs.length = a.length := by rw [hzs, up_len]
      have k2 : ys.length = b.length := by rw [hys, up_len]
      have d1 : ∀ (W : World) (k : Nat), Below w.heap.size w W → k ≤ 100 → Calls Try.prog 31 #[v1, .int .i64 (k : Int)] W fun e w' => e = .returned (.int .i64 ((a.getD k 0 : Nat) : Int)) ∧ w' = W := fun W k hW hk => by
        have := limb_any v1 zs k W (hv1.later hW) hn1 (by omega)
        rw [hzs, up_getD] at this; exact this
      have d2 : ∀ (W : World) (k : Nat), Below w.heap.size w W → k ≤ 100 → Calls Try.prog 31 #[v2, .int .i64 (k : Int)] W fun e w' => e = .returned (.int .i64 ((b.getD k 0 : Nat) : Int)) ∧ w' = W := fun W k hW hk => by
        have := limb_any v2 ys k W (hv2.later hW) hn2 (by omega)
        rw [hys, up_getD] at this; exact this
      obtain ⟨o1, p1, rfl, _, _⟩ := hv1
      obtain ⟨o2, p2, rfl, _, _⟩ := hv2
      rw [k1] at c1 d1 ⊢
      rw [k2] at c2 d2 ⊢
      have hn1' : a.length ≤ 16 := hn3
      have hn2' : b.length ≤ 16 := hn4
      clear h1 h2 hzs hys k1 k2 ha hb hn1 hn2 hn3 hn4
      go_enter Try.func12, Try.ntmps12
      go_wp2_with (first | (go_at_call 9; refine c1.mono ?_; clear c1; rintro e w' ⟨rfl, rfl⟩) | (go_at_call 9; refine c2.mono ?_; clear c2; rintro e w' ⟨rfl, rfl⟩))
      have hr0 := ownI_lit0 w w.heap.size (Nat.le_refl _)
      go_loopw [6, 7, 8] (fun out c i wr => ∃ (k cy : Nat) (done : List Nat), i = .int .i64 k ∧ c = .int .i64 cy ∧ k ≤ max a.length b.length + 1 ∧ cy ≤ 1 ∧ done.length = k ∧ Hid (∀ l ∈ done, l < 16777216) ∧
          Hid (val done + 16777216 ^ k * cy = val (a.take k) + val (b.take k)) ∧ wr.ownsRow w.heap.size 3 1 out done.length ((up done).map (Value.int .i64)) ∧ Below w.heap.size w wr) (fun _ _ i _ => max a.length b.length + 1 - (intOf i).toNat)
      case atStart => exact ⟨0, 0, [], rfl, rfl, by omega, by omega, rfl, (fun l hl => by cases hl), (by show _ = _; simp [val]), hr0, hb1⟩
      case round =>
        obtain ⟨k, cy, done, rfl, rfl, hk, hcy, hlen, hdl, hv, hown, hbr⟩ := hrel
        clear hr0 hb1 hl0
        have hs := hbr.size
        by_cases hlt : k ≤ max a.length b.length
        · have HM : Hid (k ≤ max a.length b.length) := hlt
          obtain ⟨M, hM⟩ : ∃ M, max a.length b.length = M := ⟨_, rfl⟩
          have hlx : a.getD k 0 < 16777216 := getD_lt a HLA.out k
          have hly : b.getD k 0 < 16777216 := getD_lt b HLB.out k
          have e1 := d1 wr k hbr (by omega)
          have e2 := d2 wr k hbr (by omega)
          have e3 := max_any a.length b.length wr
          have ST : Hid (∀ s, s = a.getD k 0 + b.getD k 0 + cy → val (done ++ [s % 16777216]) + 16777216 ^ (k + 1) * (s / 16777216) = val (a.take (k + 1)) + val (b.take (k + 1))) := fun s hs => add_step hlen hv.out s hs
          rw [hM] at e3
          generalize a.getD k 0 = X at e1 hlx ST
          generalize b.getD k 0 = Y at e2 hly ST
          clear d1 d2 HM hv
          go_wp2_with (first | (go_at_call 30; refine e3.mono ?_; clear e3; rintro e w' ⟨rfl, rfl⟩) | (go_at_call 31; refine e1.mono ?_; clear e1; rintro e w' ⟨rfl, rfl⟩) | (go_at_call 31; refine e2.mono ?_; clear e2; rintro e w' ⟨rfl, rfl⟩) | (at_builtin; refine wpList_append_own _ rfl _ _ 24 rfl w.heap.size 3 i0 (.int .i64 0) 1 8 Try.underlying24 hi hz0 hz1 hz2 rfl (by decide) _ _ _ rfl (hown.alloc _) ⟨w'.heap.size, 0, none⟩ 1 1 [_] rfl rfl (newc _ _ _) (ints_oneCell .i64 [_]) (by unfold maxLen; omega) (by omega) (by simp; omega) ?_))
          intro v' w1 hown' hgrow _
          have e : ((X : Int) + Y + cy) % 16777216 = (((X + Y + cy) % 16777216 : Nat) : Int) := by omega
          rw [e] at hown'
          have R := step_row hbr hown (by rw [hlen]; exact hown') hgrow
          clear hown' hgrow hown e
          go_wp2
          go_roundw
          case rel => exact ⟨k + 1, (X + Y + cy) / 16777216, done ++ [(X + Y + cy) % 16777216], by go_num, by go_num, by omega, by omega, by simp [hlen], snoc_lt hdl.out (by omega), ST.out _ rfl, R.1, R.2⟩
          case measure => simp [intOf]; omega
        · obtain ⟨M, hM⟩ : ∃ M, max a.length b.length = M := ⟨_, rfl⟩
          obtain ⟨hc0, hval⟩ := add_done HLA.out HLB.out (by omega) (by omega) hv.out
          have e3 := max_any a.length b.length wr
          rw [hM] at e3
          obtain ⟨g, cap, cur, hout, hgb, hcur, hcap, hr⟩ : ∃ g cap cur, _ ∧ _ ∧ _ ∧ _ ∧ _ := by
            rcases hown.2 with ⟨_, h0⟩ | h
            · omega
            · exact h
          subst hout
          have hg : g < wr.heap.size := (Array.getElem?_eq_some_iff.1 hcur).1
          have hcell : ∀ j, j < done.length → wr.cell? ⟨g, 0 + j, none⟩ = some (.int .i64 ((done.getD j 0 : Nat) : Int)) := fun j hj => by
            have := own_cellsI (zs := up done) (n := done.length) (up_len done) hown j hj
            rw [up_getD] at this; exact this
          have e4 := trim_any g 0 done.length cap done wr rfl (by omega) (by omega) hg hdl.out hcell
          rw [hval] at e4
          have hbig : (digs (val a + val b)).length ≤ 16 ↔ val a + val b < top := digs_len 16 _
          have hl17 : (digs (val a + val b)).length ≤ 140737488351232 := by
            have h1 := (digs_len 20 (val a + val b)).2 (by
              have h1 := val_lt a HLA.out
              have h2 := val_lt b HLB.out
              have h3 : 16777216 ^ a.length ≤ 16777216 ^ 16 := Nat.pow_le_pow_right (by decide) (by omega)
              have h4 : 16777216 ^ b.length ≤ 16777216 ^ 16 := Nat.pow_le_pow_right (by decide) (by omega)
              omega)
            omega
          rw [hlen] at e4
          clear hcell hcap hr hcur hgb hown d1 d2 hdl hv hval
          have HL : Hid ((ans (some (val a + val b))).length = (digs (val a + val b)).length) := up_len _
          by_cases hfit : val a + val b < top
          · have hle := hbig.2 hfit
            have HA2 : Hid (addO zs ys = some (val a + val b)) := by
              show addO zs ys = _
              rw [HA.out, if_pos hfit]
            clear HA hbig hfit
            generalize val a + val b = S at e4 hle hl17 HA2 HL
            generalize (digs S).length = L at hle hl17 HL
            go_wp2_with (first | (go_at_call 30; refine e3.mono ?_; clear e3; rintro e w' ⟨rfl, rfl⟩) | (go_at_call 32; refine e4.mono ?_; clear e4; rintro e w2 ⟨v, rfl, hov, hne, hb4⟩; obtain ⟨gv, cv, rfl⟩ := hov.form hne HL.out))
            go_ret2
            rw [HA2.out]
            exact ⟨_, rfl, hov.base hs, hbr.trans (hb4.mono hs)⟩
          · have hle : ¬ (digs (val a + val b)).length ≤ 16 := fun h => hfit (hbig.1 h)
            have HA2 : Hid (addO zs ys = none) := by
              show addO zs ys = _
              rw [HA.out, if_neg hfit]
            clear HA hbig hfit
            generalize val a + val b = S at e4 hle hl17 HA2 HL
            generalize (digs S).length = L at hle hl17 HL
            go_wp2_with (first | (go_at_call 30; refine e3.mono ?_; clear e3; rintro e w' ⟨rfl, rfl⟩) | (go_at_call 32; refine e4.mono ?_; clear e4; rintro e w2 ⟨v, rfl, hov, hne, hb4⟩; obtain ⟨gv, cv, rfl⟩ := hov.form hne HL.out))
            go_ret2
            rw [HA2.out]
            have hb5 := hbr.trans (hb4.mono hs)
            exact ⟨_, rfl, lit0A _ _ hb5.size, hb5.alloc hb5.size _⟩
    · rw [decide_eq_false h2] at c2
      have HA : Hid (addO zs ys = none) := if_neg fun h => h2 h.2.1
      clear h1 h2
      go_enter Try.func12, Try.ntmps12
      go_wp2_with (first | (go_at_call 9; refine c1.mono ?_; clear c1; rintro e w' ⟨rfl, rfl⟩) | (go_at_call 9; refine c2.mono ?_; clear c2; rintro e w' ⟨rfl, rfl⟩))
      go_ret2
      rw [HA.out]
      exact ⟨_, rfl, hl0, hb1⟩
  · rw [decide_eq_false h1] at c1
    have HA : Hid (addO zs ys = none) := if_neg fun h => h1 h.1
    clear h1 c2
    go_enter Try.func12, Try.ntmps12
    go_wp2_with (go_at_call 9; refine c1.mono ?_; clear c1; rintro e w' ⟨rfl, rfl⟩)
    go_ret2
    rw [HA.out]
    exact ⟨_, rfl, hl0, hb1⟩
end Go.Proofs.Ytobnghmadoejjaa
