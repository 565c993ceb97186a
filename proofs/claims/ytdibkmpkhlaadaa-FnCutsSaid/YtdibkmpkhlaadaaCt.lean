/- Numbers in order, by the specification: each is put in its place among those ahead of it. -/
import Derived.Test.YtdibkmpkhlaadaaCup
import Derived.Test.YtdibkmpkhlaadaaOi
import Derived.Test.YtdibkmpkhlaadaaBg
namespace Go.Proofs.Ytdibkmpkhlaadaa
open Go.RowKit
set_option maxRecDepth 100000
theorem own_cast {w : World} {b e n n' : Nat} {v : Value} {xs ys : List Value} (h : w.ownsRow b e 1 v n xs) (hn : n = n') (hx : xs = ys) : w.ownsRow b e 1 v n' ys := by subst hn hx; exact h
set_option maxHeartbeats 1000000 in
theorem specSorted_any (v : Value) (zs : List Int) (w : World) (h : RowI w v zs) (hn : zs.length ≤ 1048576) :
    Calls Try.prog 23 #[v] w fun e w' => ∃ v', e = .returned v' ∧ OwnI w w' v' (sortI zs) := by
  obtain ⟨i0, hi0, hz0, hz1, hz2⟩ := info_parts intInfo
  obtain ⟨oa, cap, rfl, hc, hr⟩ := h
  have HJ : Hid (∀ k, k < zs.length → ∃ g o, oa = some ⟨g, o, none⟩ ∧ g < w.heap.size ∧ w.cell? ⟨g, o + k, none⟩ = some (.int .i64 (zs.getD k 0))) := fun k hk => by
    obtain ⟨g, o, e, hg, hj⟩ := hr (by omega)
    exact ⟨g, o, e, hg, hj k hk⟩
  clear hr
  go_enter Try.func23, Try.ntmps23
  go_wp2
  go_loopw [3, 4, 5, 6] (fun v i _ _ wr => ∃ (k g cp : Nat), i = .int .i64 k ∧ v = .slice (some ⟨g, 0, none⟩) k cp ∧ k ≤ cp ∧ k ≤ zs.length ∧ wr.ownsRow w.heap.size 3 1 (.slice (some ⟨g, 0, none⟩) k cp) k ((sortI (zs.take k)).map (Value.int .i64)) ∧ Below w.heap.size w wr) (fun _ i _ _ _ => zs.length - (intOf i).toNat)
  case atStart => exact ⟨0, w.heap.size, 0, rfl, rfl, by omega, by omega, by rw [List.take_zero, sortI_nil]; exact ownI_lit0 w _ (Nat.le_refl _), (Below.refl _ _).alloc (Nat.le_refl _) _⟩
  case round =>
    obtain ⟨k, g, cp, rfl, rfl, hcp, hk, hown, hb⟩ := hrel
    by_cases hlt : k < zs.length
    · obtain ⟨gz, oz, rfl, hgz, hcell⟩ := HJ.out k hlt
      have HT : Hid (zs.take (k + 1) = zs.take k ++ [zs.getD k 0]) := by
        show zs.take (k + 1) = _
        rw [List.take_succ_eq_append_getElem hlt]; simp [List.getD, List.getElem?_eq_getElem hlt]
      have hcell' : wr.cell? ⟨gz, oz + k, none⟩ = some (.int .i64 (zs.getD k 0)) := (hb.cell (p := ⟨gz, oz + k, none⟩) hgz).trans hcell
      clear hcell
      generalize zs.getD k 0 = x at hcell' HT
      have HP : Hid (∀ m, m ≤ k → (∀ j, m ≤ j → j < k → x < (sortI (zs.take k)).getD j 0) → (m = 0 ∨ (sortI (zs.take k)).getD (m - 1) 0 ≤ x) → (sortI (zs.take k)).take m ++ [x] ++ (sortI (zs.take k)).drop m = sortI (zs.take (k + 1))) := fun m hm h1 h2 => by
        rw [HT.out]
        have L := sortI_len (zs.take k)
        rw [List.length_take] at L
        exact sort_put (by omega) (fun j a b => h1 j a (by omega)) h2
      have HL : Hid ((sortI (zs.take k)).length = k) := by rw [sortI_len, List.length_take]; show _ = _; omega
      generalize sortI (zs.take k) = out at hown HP HL
      have HC : Hid (∀ j, j < k → wr.cell? ⟨g, j, none⟩ = some (.int .i64 (out.getD j 0))) := fun j hj => by rw [hown.cellAt j (by omega)]; exact getD_mapI out j (by rw [HL.out]; exact hj)
      go_wp2
      go_loopw [5] (fun i ws => ∃ m : Nat, i = .int .i64 m ∧ m ≤ k ∧ Hid (∀ j, m ≤ j → j < k → x < out.getD j 0) ∧ ∃ q, ws = wr.drewN q) (fun i _ => (intOf i).toNat)
      case atStart => exact ⟨k, rfl, by omega, fun j a b => by omega, 0, rfl⟩
      case round =>
        obtain ⟨m, rfl, hm, hal, q, rfl⟩ := hrel
        by_cases h0 : 0 < m
        · obtain ⟨m, rfl⟩ : ∃ m', m = m' + 1 := ⟨m - 1, by omega⟩
          have hcm : wr.cell? ⟨g, m, none⟩ = some (.int .i64 (out.getD m 0)) := HC.out m (by omega)
          have e1 : ((m + 1 : Nat) : Int) - 1 = (m : Int) := by omega
          have hml : m < k := by omega
          have hwm : IntKind.i64.wrap (m : Int) = m := by rw [IntKind.wrap_i64]; omega
          generalize hY : out.getD m 0 = y at hcm
          have HY : Hid (out.getD m 0 = y) := hY
          clear hY
          by_cases hxy : x < y
          · go_wp2
            go_quiet (fail)
            all_goals go_wp2
            all_goals go_roundw
            case rel =>
              refine ⟨m, by go_num, by omega, fun j a b => ?_, _, by first | rfl | (simp only [World.drewN_drewN]; rfl)⟩
              by_cases e : j = m
              · subst e; rw [HY.out]; exact hxy
              · exact hal.out j (by omega) b
            case measure => simp [intOf]
          · have HQQ : Hid (out.take (m + 1) ++ [x] ++ out.drop (m + 1) = sortI (zs.take (k + 1))) := HP.out (m + 1) hm hal.out (.inr (by rw [Nat.add_sub_cancel, HY.out]; omega))
            clear HP HC HT HJ hal
            go_wp2
            go_quiet (fail)
            all_goals skip
            have hownW : ((wr.drewN q).drewN nq).ownsRow w.heap.size 3 1 (.slice (some ⟨g, 0, none⟩) k cp) k (out.map (Value.int .i64)) := hown
            have hbW : Below w.heap.size w ((wr.drewN q).drewN nq) := below_drewN (below_drewN hb _) _
            have hcW : ((wr.drewN q).drewN nq).cell? ⟨gz, oz + k, none⟩ = some (.int .i64 x) := hcell'
            clear hown hb hcell'
            generalize (wr.drewN q).drewN nq = W at hownW hbW hcW ⊢
            have hgW : g < W.heap.size := (hownW.lt g rfl).2
            go_wp2_with (at_builtin; refine wpList_append_own _ rfl _ _ 26 rfl W.heap.size 3 i0 (.int .i64 0) 1 8 Try.underlying26 hi0 hz0 hz1 hz2 rfl (by decide) _ _ _ rfl (ownI_lit0 W _ (Nat.le_refl _)) ⟨g, 0, none⟩ (m + 1) cp ((out.take (m + 1)).map (Value.int .i64)) rfl ?a1 ?a2 (ints_oneCell .i64 _) (by unfold maxLen; omega) (by omega) (by simp) ?_)
            case a1 => rw [List.length_map, List.length_take, HL.out]; omega
            case a2 => exact row_news (fun j hj => by rw [Nat.zero_add]; exact ((hownW.alloc _).cellAt j (by rw [HL.out] at hj; omega)).trans (getD_mapI out j hj))
            intro v1 w1 ho1 hg1 hnil1
            have hb1 : Below w.heap.size w w1 := (hbW.alloc hbW.size _).grown hg1 (by have := hbW.size; simp; omega) (fun k hk => by simp [Value.ownBlock] at hk; have := hbW.size; omega)
            have hown1 := (hownW.alloc (.cells #[] 3)).kept hg1 (.inr (by simp [Value.ownBlock]; omega))
            have hc1 : w1.cell? ⟨gz, oz + k, none⟩ = some (.int .i64 x) := by
              have a := hbW.cell (p := ⟨gz, oz + k, none⟩) hgz
              have b := hb1.cell (p := ⟨gz, oz + k, none⟩) hgz
              rw [b, ← a]; exact hcW
            have hs1 : W.heap.size ≤ w1.heap.size := by have := hg1.size; simp at this; omega
            clear hg1 hnil1 hcW hownW
            go_wp2_with (at_builtin; refine wpList_append_own _ rfl _ _ 26 rfl W.heap.size 3 i0 (.int .i64 0) 1 8 Try.underlying26 hi0 hz0 hz1 hz2 rfl (by decide) _ _ _ rfl (ho1.alloc _) ⟨w1.heap.size, 0, none⟩ 1 1 [_] rfl rfl (newc _ _ _) (ints_oneCell .i64 [_]) (by unfold maxLen; omega) (by omega) (by simp; omega) ?_)
            intro v2 w2 ho2 hg2 hnil2
            have hb2 : Below w.heap.size w w2 := (hb1.alloc hb1.size _).grown hg2 (by have := hb1.size; simp; omega) (fun k hk => by have := (ho1.lt k hk).1; have := hbW.size; omega)
            have hown2 := (hown1.alloc (.cells #[.int .i64 x] 3)).kept hg2 (.inr (by intro e; have := (ho1.lt g e.symm).1; omega))
            have hs2 : W.heap.size ≤ w2.heap.size := by have := hg2.size; simp at this; omega
            have HN : Hid (∀ (j : Nat) (u : Value), ((out.drop (m + 1)).map (Value.int .i64))[j]? = some u → w2.cell? ((⟨g, m + 1, none⟩ : Addr).add j) = some u) := fun j u hj => by
              have hlj : m + 1 + j < k := by
                rcases Nat.lt_or_ge (m + 1 + j) k with a | a
                · exact a
                · rw [List.getElem?_eq_none (by rw [List.length_map, List.length_drop, HL.out]; omega)] at hj; cases hj
              rw [show (⟨g, m + 1, none⟩ : Addr).add j = ⟨g, m + 1 + j, none⟩ by unfold Addr.add; split <;> simp_all, hown2.cellAt _ (by omega)]
              rw [← hj, List.map_drop, List.getElem?_drop]
            clear hg2 hnil2 hown1 hb1 ho1 hown2
            by_cases hcM : cp = m + 1
            · have hkM : k - (m + 1) = 0 := by omega
              have HD : Hid ((out.drop (m + 1)).map (Value.int .i64) = []) := by rw [List.drop_eq_nil_of_le (by rw [HL.out]; omega)]; rfl
              go_wp2_with (at_builtin; refine wpList_append_own _ rfl _ _ 26 rfl w.heap.size 3 i0 (.int .i64 0) 1 8 Try.underlying26 hi0 hz0 hz1 hz2 rfl (by decide) _ _ _ rfl (own_base ho2 hbW.size) _ _ _ [] rfl ?b1 ?b2 (by simp) (by unfold maxLen; omega) (by omega) hb2.size ?_)
              case b1 => first | omega | (simp; done) | (simp; omega)
              case b2 => intro j u hj; simp at hj
              intro v3 w3 ho3 hg3 hnil3
              have hb3 : Below w.heap.size w w3 := hb2.grown hg3 hb2.size (fun k hk => by have := (ho2.lt k hk).1; have := hbW.size; omega)
              have ho4 : w3.ownsRow w.heap.size 3 1 v3 (k + 1) ((sortI (zs.take (k + 1))).map (Value.int .i64)) := by
                exact own_cast ho3 (by omega) (by rw [← HQQ.out, List.map_append, HD.out]; simp)
              clear hg3 hnil3 hb2 ho2 ho3
              obtain ⟨g3, cp3, rfl, hcp3⟩ : ∃ g3 cp3, v3 = .slice (some ⟨g3, 0, none⟩) (k + 1) cp3 ∧ k + 1 ≤ cp3 := by
                rcases ho4.2 with ⟨_, h0⟩ | ⟨g3, cp3, cur, e, _, _, hle, _⟩
                · omega
                · exact ⟨g3, cp3, e, hle⟩
              go_wp2
              go_roundw
              case rel => exact ⟨k + 1, g3, cp3, by go_num, rfl, hcp3, by omega, ho4, hb3⟩
              case measure => simp [intOf]; omega
            · go_wp2_with (at_builtin; refine wpList_append_own _ rfl _ _ 26 rfl w.heap.size 3 i0 (.int .i64 0) 1 8 Try.underlying26 hi0 hz0 hz1 hz2 rfl (by decide) _ _ _ rfl (own_base ho2 hbW.size) ⟨g, m + 1, none⟩ (k - (m + 1)) (cp - (m + 1)) ((out.drop (m + 1)).map (Value.int .i64)) rfl ?b1 ?b2 (ints_oneCell .i64 _) (by unfold maxLen; omega) (by omega) hb2.size ?_)
              case b1 => rw [List.length_map, List.length_drop, HL.out]; omega
              case b2 => exact HN.out
              intro v3 w3 ho3 hg3 hnil3
              have hb3 : Below w.heap.size w w3 := hb2.grown hg3 hb2.size (fun k hk => by have := (ho2.lt k hk).1; have := hbW.size; omega)
              have ho4 : w3.ownsRow w.heap.size 3 1 v3 (k + 1) ((sortI (zs.take (k + 1))).map (Value.int .i64)) := by
                exact own_cast ho3 (by omega) (by rw [← HQQ.out]; simp)
              clear hg3 hnil3 hb2 ho2 ho3
              obtain ⟨g3, cp3, rfl, hcp3⟩ : ∃ g3 cp3, v3 = .slice (some ⟨g3, 0, none⟩) (k + 1) cp3 ∧ k + 1 ≤ cp3 := by
                rcases ho4.2 with ⟨_, h0⟩ | ⟨g3, cp3, cur, e, _, _, hle, _⟩
                · omega
                · exact ⟨g3, cp3, e, hle⟩
              go_wp2
              go_roundw
              case rel => exact ⟨k + 1, g3, cp3, by go_num, rfl, hcp3, by omega, ho4, hb3⟩
              case measure => simp [intOf]; omega
        · obtain rfl : m = 0 := by omega
          have HQQ : Hid (out.take 0 ++ [x] ++ out.drop 0 = sortI (zs.take (k + 1))) := HP.out 0 (by omega) hal.out (.inl rfl)
          clear HP HC HT HJ hal
          go_wp2
          go_quiet (fail)
          all_goals skip
          have hownW : ((wr.drewN q).drewN nq).ownsRow w.heap.size 3 1 (.slice (some ⟨g, 0, none⟩) k cp) k (out.map (Value.int .i64)) := hown
          have hbW : Below w.heap.size w ((wr.drewN q).drewN nq) := below_drewN (below_drewN hb _) _
          have hcW : ((wr.drewN q).drewN nq).cell? ⟨gz, oz + k, none⟩ = some (.int .i64 x) := hcell'
          clear hown hb hcell'
          generalize (wr.drewN q).drewN nq = W at hownW hbW hcW ⊢
          have hgW : g < W.heap.size := (hownW.lt g rfl).2
          go_wp2_with (at_builtin; refine wpList_append_own _ rfl _ _ 26 rfl W.heap.size 3 i0 (.int .i64 0) 1 8 Try.underlying26 hi0 hz0 hz1 hz2 rfl (by decide) _ _ _ rfl (ownI_lit0 W _ (Nat.le_refl _)) ⟨g, 0, none⟩ 0 cp ((out.take 0).map (Value.int .i64)) rfl ?a1 ?a2 (ints_oneCell .i64 _) (by unfold maxLen; omega) (by omega) (by simp) ?_)
          case a1 => rw [List.length_map, List.length_take, HL.out]; omega
          case a2 => exact row_news (fun j hj => by rw [Nat.zero_add]; exact ((hownW.alloc _).cellAt j (by rw [HL.out] at hj; omega)).trans (getD_mapI out j hj))
          intro v1 w1 ho1 hg1 hnil1
          have hb1 : Below w.heap.size w w1 := (hbW.alloc hbW.size _).grown hg1 (by have := hbW.size; simp; omega) (fun k hk => by simp [Value.ownBlock] at hk; have := hbW.size; omega)
          have hown1 := (hownW.alloc (.cells #[] 3)).kept hg1 (.inr (by simp [Value.ownBlock]; omega))
          have hc1 : w1.cell? ⟨gz, oz + k, none⟩ = some (.int .i64 x) := by
            have a := hbW.cell (p := ⟨gz, oz + k, none⟩) hgz
            have b := hb1.cell (p := ⟨gz, oz + k, none⟩) hgz
            rw [b, ← a]; exact hcW
          have hs1 : W.heap.size ≤ w1.heap.size := by have := hg1.size; simp at this; omega
          clear hg1 hnil1 hcW hownW
          go_wp2_with (at_builtin; refine wpList_append_own _ rfl _ _ 26 rfl W.heap.size 3 i0 (.int .i64 0) 1 8 Try.underlying26 hi0 hz0 hz1 hz2 rfl (by decide) _ _ _ rfl (ho1.alloc _) ⟨w1.heap.size, 0, none⟩ 1 1 [_] rfl rfl (newc _ _ _) (ints_oneCell .i64 [_]) (by unfold maxLen; omega) (by omega) (by simp; omega) ?_)
          intro v2 w2 ho2 hg2 hnil2
          have hb2 : Below w.heap.size w w2 := (hb1.alloc hb1.size _).grown hg2 (by have := hb1.size; simp; omega) (fun k hk => by have := (ho1.lt k hk).1; have := hbW.size; omega)
          have hown2 := (hown1.alloc (.cells #[.int .i64 x] 3)).kept hg2 (.inr (by intro e; have := (ho1.lt g e.symm).1; omega))
          have hs2 : W.heap.size ≤ w2.heap.size := by have := hg2.size; simp at this; omega
          have HN : Hid (∀ (j : Nat) (u : Value), ((out.drop 0).map (Value.int .i64))[j]? = some u → w2.cell? ((⟨g, 0, none⟩ : Addr).add j) = some u) := fun j u hj => by
            have hlj : 0 + j < k := by
              rcases Nat.lt_or_ge (0 + j) k with a | a
              · exact a
              · rw [List.getElem?_eq_none (by rw [List.length_map, List.length_drop, HL.out]; omega)] at hj; cases hj
            rw [show (⟨g, 0, none⟩ : Addr).add j = ⟨g, 0 + j, none⟩ by unfold Addr.add; split <;> simp_all, hown2.cellAt _ (by omega)]
            rw [← hj, List.map_drop, List.getElem?_drop]
          clear hg2 hnil2 hown1 hb1 ho1 hown2
          by_cases hcM : cp = 0
          · have hkM : k - 0 = 0 := by omega
            have HD : Hid ((out.drop 0).map (Value.int .i64) = []) := by rw [List.drop_eq_nil_of_le (by rw [HL.out]; omega)]; rfl
            go_wp2_with (at_builtin; refine wpList_append_own _ rfl _ _ 26 rfl w.heap.size 3 i0 (.int .i64 0) 1 8 Try.underlying26 hi0 hz0 hz1 hz2 rfl (by decide) _ _ _ rfl (own_base ho2 hbW.size) _ _ _ [] rfl ?b1 ?b2 (by simp) (by unfold maxLen; omega) (by omega) hb2.size ?_)
            case b1 => first | omega | (simp; done) | (simp; omega)
            case b2 => intro j u hj; simp at hj
            intro v3 w3 ho3 hg3 hnil3
            have hb3 : Below w.heap.size w w3 := hb2.grown hg3 hb2.size (fun k hk => by have := (ho2.lt k hk).1; have := hbW.size; omega)
            have ho4 : w3.ownsRow w.heap.size 3 1 v3 (k + 1) ((sortI (zs.take (k + 1))).map (Value.int .i64)) := by
              exact own_cast ho3 (by omega) (by rw [← HQQ.out, List.map_append, HD.out]; simp)
            clear hg3 hnil3 hb2 ho2 ho3
            obtain ⟨g3, cp3, rfl, hcp3⟩ : ∃ g3 cp3, v3 = .slice (some ⟨g3, 0, none⟩) (k + 1) cp3 ∧ k + 1 ≤ cp3 := by
              rcases ho4.2 with ⟨_, h0⟩ | ⟨g3, cp3, cur, e, _, _, hle, _⟩
              · omega
              · exact ⟨g3, cp3, e, hle⟩
            go_wp2
            go_roundw
            case rel => exact ⟨k + 1, g3, cp3, by go_num, rfl, hcp3, by omega, ho4, hb3⟩
            case measure => simp [intOf]; omega
          · go_wp2_with (at_builtin; refine wpList_append_own _ rfl _ _ 26 rfl w.heap.size 3 i0 (.int .i64 0) 1 8 Try.underlying26 hi0 hz0 hz1 hz2 rfl (by decide) _ _ _ rfl (own_base ho2 hbW.size) ⟨g, 0, none⟩ (k - 0) (cp - 0) ((out.drop 0).map (Value.int .i64)) rfl ?b1 ?b2 (ints_oneCell .i64 _) (by unfold maxLen; omega) (by omega) hb2.size ?_)
            case b1 => rw [List.length_map, List.length_drop, HL.out]; omega
            case b2 => exact HN.out
            intro v3 w3 ho3 hg3 hnil3
            have hb3 : Below w.heap.size w w3 := hb2.grown hg3 hb2.size (fun k hk => by have := (ho2.lt k hk).1; have := hbW.size; omega)
            have ho4 : w3.ownsRow w.heap.size 3 1 v3 (k + 1) ((sortI (zs.take (k + 1))).map (Value.int .i64)) := by
              exact own_cast ho3 (by omega) (by rw [← HQQ.out]; simp)
            clear hg3 hnil3 hb2 ho2 ho3
            obtain ⟨g3, cp3, rfl, hcp3⟩ : ∃ g3 cp3, v3 = .slice (some ⟨g3, 0, none⟩) (k + 1) cp3 ∧ k + 1 ≤ cp3 := by
              rcases ho4.2 with ⟨_, h0⟩ | ⟨g3, cp3, cur, e, _, _, hle, _⟩
              · omega
              · exact ⟨g3, cp3, e, hle⟩
            go_wp2
            go_roundw
            case rel => exact ⟨k + 1, g3, cp3, by go_num, rfl, hcp3, by omega, ho4, hb3⟩
            case measure => simp [intOf]; omega
    · have HE : Hid (sortI (zs.take k) = sortI zs) := by rw [List.take_of_length_le (by omega)]; rfl
      rw [HE.out] at hown
      go_wp2
      go_ret
      refine ⟨_, rfl, ?_, hb⟩
      rw [sortI_len, show zs.length = k by omega]
      exact hown
end Go.Proofs.Ytdibkmpkhlaadaa
