/- Cuts where parts of the same length meet, by the specification. -/
import Derived.Test.YtdibkmpkhlaadaaCt
import Derived.Test.YtdibkmpkhlaadaaCe
namespace Go.Proofs.Ytdibkmpkhlaadaa
open Go.RowKit
set_option maxRecDepth 100000
theorem q_mul' {n m : Nat} {K : Int} (hn : n ≤ 64) (h5 : K ≤ 4) (hm : (m : Int) < K) : 0 ≤ (n : Int) * (m : Int) ∧ (n : Int) * (m : Int) ≤ 79988 := by
  have : m = 0 ∨ m = 1 ∨ m = 2 ∨ m = 3 := by omega
  rcases this with rfl | rfl | rfl | rfl <;> simp <;> omega
set_option maxHeartbeats 2000000 in
theorem specQuant_yes (v : Value) (zs : List Int) (K : Int) (w : World) (h : RowI w v zs) (h0 : 1 ≤ zs.length) (hn : zs.length ≤ 64) (h4 : 2 ≤ K) (h5 : K ≤ 4) :
    Calls Try.prog 16 #[v, .int .i64 K] w fun e w' => ∃ v', e = .returned v' ∧ OwnI w w' v' (quantC zs K) := by
  obtain ⟨i0, hi0, hz0, hz1, hz2⟩ := info_parts intInfo
  have c1 : ∀ w, Calls Try.prog 31 #[.int .i64 K, .int .i64 2, .int .i64 4] w fun e w' => e = .returned (.bool true) ∧ w' = w := fun w => by have := in_any K 2 4 w; rwa [decide_eq_true ⟨h4, h5⟩] at this
  have c2 : ∀ w, Calls Try.prog 31 #[.int .i64 (zs.length : Int), .int .i64 1, .int .i64 64] w fun e w' => e = .returned (.bool true) ∧ w' = w := fun w => by have := in_any (zs.length : Int) 1 64 w; rwa [decide_eq_true ⟨by omega, by omega⟩] at this
  have B0 := (Below.refl w.heap.size w).alloc (Nat.le_refl _) (.cells #[] 3)
  have O0 := ownI_lit0 w w.heap.size (Nat.le_refl _)
  have hs0 : w.heap.size + 1 ≤ (w.alloc (.cells #[] 3)).heap.size := by simp
  have R0 := h.later B0
  have HS := fun W (x : Below w.heap.size w W) => specSorted_any v zs W (h.later x) (by omega)
  obtain ⟨oa, cap, rfl, hc, hr⟩ := h
  obtain ⟨g, o, rfl, hg, hj⟩ := hr (by omega)
  clear hr hj
  have HJ : Hid (∀ j, j < zs.length → (w.alloc (.cells #[] 3)).cell? ⟨g, o + j, none⟩ = some (.int .i64 (zs.getD j 0))) := fun j hj => by
    obtain ⟨_, _, e, _, hr⟩ := R0
    cases e
    obtain ⟨_, _, e, _, hq⟩ := hr (by omega)
    cases e
    exact hq j hj
  clear R0
  go_enter Try.func16, Try.ntmps16
  go_wp2_with (first | (go_at_call 31; refine (c1 _).mono ?_; clear c1; rintro e w1 ⟨rfl, e1⟩; rw [e1]; clear e1 w1) | (go_at_call 31; refine (c2 _).mono ?_; clear c2; rintro e w1 ⟨rfl, e1⟩; rw [e1]; clear e1 w1))
  generalize w.alloc (.cells #[] 3) = W at B0 O0 HJ hs0 ⊢
  go_loop [6] (fun i => ∃ k : Nat, i = .int .i64 k ∧ k ≤ zs.length ∧ Hid (∀ j, j < k → cutIn (zs.getD j 0) = true)) (fun i => zs.length - (intOf i).toNat)
  case atStart => exact ⟨0, rfl, by omega, fun j hj => by omega⟩
  case round =>
    obtain ⟨k, rfl, hk, hal⟩ := hrel
    by_cases hlt : k < zs.length
    · have hcell := HJ.out k hlt
      have c3 := fun w => in_any (zs.getD k 0) (-9999) 9998 w
      cases hC : cutIn (zs.getD k 0) with
      | false =>
        have HF : Hid (quantC zs K = []) := if_neg (fun e => by
          have e1 := e.2.2.2.2
          unfold allIn at e1
          rw [List.all_eq_true] at e1
          have := e1 (zs.getD k 0) (by rw [show zs.getD k 0 = zs[k] by simp [List.getD, List.getElem?_eq_getElem hlt]]; exact List.getElem_mem hlt)
          rw [hC] at this; cases this)
        unfold cutIn at hC
        rw [hC] at c3
        generalize zs.getD k 0 = x at hcell c3
        clear hC
        go_wp2_with (go_at_call 31; refine (c3 _).mono ?_; clear c3; rintro e w1 ⟨rfl, e1⟩; rw [e1]; clear e1 w1)
        go_ret
        exact ⟨_, rfl, by rw [HF.out]; exact ownI_lit0 W _ (by omega), B0.alloc (by omega) _⟩
      | true =>
        have HH : Hid (∀ j, j < k + 1 → cutIn (zs.getD j 0) = true) := fun j hj => by
          by_cases e : j = k
          · subst e; exact hC
          · exact hal.out j (by omega)
        unfold cutIn at hC
        rw [hC] at c3
        generalize zs.getD k 0 = x at hcell c3
        clear hC
        go_wp2_with (go_at_call 31; refine (c3 _).mono ?_; clear c3; rintro e w1 ⟨rfl, e1⟩; rw [e1]; clear e1 w1)
        go_round
        case rel => exact ⟨k + 1, by go_num, by omega, HH⟩
        case measure => simp [intOf]; omega
    · have HT : Hid (quantC zs K = qTo (sortI zs) K (K.toNat - 1)) := if_pos ⟨h4, h5, h0, hn, by
        unfold allIn
        rw [List.all_eq_true]
        intro x hx
        obtain ⟨i, hi, rfl⟩ := List.getElem_of_mem hx
        have := hal.out i (by omega)
        rwa [show zs.getD i 0 = zs[i] by simp [List.getD, List.getElem?_eq_getElem hi]] at this⟩
      have hL := sortI_len zs
      have cS := HS W B0
      clear HS HJ hal
      generalize sortI zs = up at cS HT hL
      have hu1 : 1 ≤ up.length := by omega
      have hu2 : up.length ≤ 64 := by omega
      clear hL
      go_wp2_with fail
      refine cS.mono ?_
      rintro e w1 ⟨vu, rfl, hou, hbu⟩
      clear cS
      have hsu := hbu.size
      have hb1 : Below w.heap.size w w1 := B0.trans (hbu.mono (by omega))
      have hgl : w.heap.size < W.heap.size := by omega
      obtain ⟨ou, cu, rfl, hcu, hru⟩ := id (RowI.of_own hou rfl)
      obtain ⟨gu, og, rfl, hgu, hju⟩ := hru (by omega)
      have HJ : Hid (∀ j, j < up.length → w1.cell? ⟨gu, og + j, none⟩ = some (.int .i64 (up.getD j 0))) := hju
      clear hru hju O0 B0 hou hbu
      go_wp2
      go_loopw [5, 8] (fun v i wr => ∃ m : Nat, i = .int .i64 m ∧ 1 ≤ m ∧ (m : Int) ≤ K ∧ Below w1.heap.size w1 wr ∧ ((m = 1 ∧ v = .slice (some ⟨w.heap.size, 0, none⟩) 0 0) ∨ (2 ≤ m ∧ wr.ownsRow w1.heap.size 3 1 v (qTo up K (m - 1)).length ((qTo up K (m - 1)).map (Value.int .i64))))) (fun _ i _ => K.toNat - (intOf i).toNat)
      case atStart => exact ⟨1, rfl, by omega, by omega, Below.refl _ _, .inl ⟨rfl, rfl⟩⟩
      case round =>
        obtain ⟨m, rfl, hm1, hmK, hb, hv⟩ := hrel
        have hbs := hb.size
        by_cases hlt : (m : Int) < K
        · obtain ⟨p1, p2⟩ := q_mul' (show up.length ≤ 64 by omega) h5 hlt
          obtain ⟨q1, q2⟩ := q_in h4 (show 0 < up.length by omega) hlt
          have HE : Hid (qTo up K (m + 1 - 1) = qPut (qTo up K (m - 1)) (up.getD ((up.length : Int) * m / K).toNat 0)) := by
            show qTo up K (m + 1 - 1) = _
            rw [show m + 1 - 1 = m - 1 + 1 by omega]
            show qPut _ (qAt up K (m - 1 + 1)) = _
            rw [show m - 1 + 1 = m by omega]
            rfl
          have hcell := (hb.cell (p := ⟨gu, og + ((up.length : Int) * m / K).toNat, none⟩) hgu).trans (HJ.out ((up.length : Int) * m / K).toNat (by omega))
          have HL := qTo_len up K (m - 1)
          generalize up.getD ((up.length : Int) * m / K).toNat 0 = x at hcell HE
          rcases hv with ⟨hm, rfl⟩ | ⟨hm2, hown⟩
          · have HP : Hid (qTo up K (m + 1 - 1) = [x]) := by rw [HE.out, hm]; rfl
            have HM : Hid (m = 1) := hm
            clear hm
            clear HE
            go_wp2_with (at_builtin; refine wpList_append_grows _ rfl _ _ 26 rfl 3 i0 (.int .i64 0) 1 8 Try.underlying26 hi0 hz0 hz1 hz2 rfl (by decide) _ 0 0 [] rfl (fun e => by cases e) rfl (fun _ _ j u hj => by simp at hj) ⟨wr.heap.size, 0, none⟩ 1 1 [_] rfl rfl (newc _ _ _) (ints_oneCell .i64 [_]) (by omega) (by unfold maxLen; omega) (by omega) ?_)
            intro v' w2 ho hg2
            have hb2 : Below w1.heap.size w1 w2 := (hb.alloc hb.size _).grown hg2 (by have := hb.size; simp; omega) (fun k hk => by cases hk)
            clear hg2 hb
            go_wp2
            go_roundw
            case rel =>
              refine ⟨m + 1, by go_num, by omega, by omega, hb2, .inr ⟨by omega, ?_⟩⟩
              rw [HP.out]
              exact own_base ho (by first | omega | (simp; omega))
            case measure => simp [intOf]; omega
          · generalize qTo up K (m - 1) = ts at hown HE HL
            obtain ⟨ot, ct, rfl, hct, hrt⟩ := RowI.of_own hown rfl
            by_cases t0 : ts.length = 0
            · have tb : ((ts.length : Int) == 0) = true := by rw [t0]; rfl
              have HP : Hid (qPut ts x = ts ++ [x]) := if_pos (.inl t0)
              clear t0
              go_wp2_with (at_builtin; refine wpList_append_own _ rfl _ _ 26 rfl w1.heap.size 3 i0 (.int .i64 0) 1 8 Try.underlying26 hi0 hz0 hz1 hz2 rfl (by decide) _ _ _ rfl (hown.alloc _) ⟨wr.heap.size, 0, none⟩ 1 1 [_] rfl rfl (newc _ _ _) (ints_oneCell .i64 [_]) (by unfold maxLen; omega) (by omega) (by simp; omega) ?_)
              intro v' w2 ho hg2 hnil
              have hb2 : Below w1.heap.size w1 w2 := (hb.alloc hb.size _).grown hg2 (by simp; omega) (fun k hk => (hown.lt k hk).1)
              clear hg2 hnil hb hown
              go_wp2
              go_roundw
              case rel =>
                refine ⟨m + 1, by go_num, by omega, by omega, hb2, .inr ⟨by omega, ?_⟩⟩
                rw [HE.out, HP.out, List.map_append, List.length_append]
                exact ho
              case measure => simp [intOf]; omega
            · have tb : ((ts.length : Int) == 0) = false := by rw [beq_eq_false_iff_ne]; omega
              obtain ⟨gt, og', rfl, hgt, hjt⟩ := hrt (by omega)
              have hl := hjt (ts.length - 1) (by omega)
              clear hrt hjt
              by_cases hx : ts.getD (ts.length - 1) 0 < x
              · have HP : Hid (qPut ts x = ts ++ [x]) := if_pos (.inr hx)
                generalize ts.getD (ts.length - 1) 0 = y at hl hx
                clear hgt
                go_wp2_with (at_builtin; refine wpList_append_own _ rfl _ _ 26 rfl w1.heap.size 3 i0 (.int .i64 0) 1 8 Try.underlying26 hi0 hz0 hz1 hz2 rfl (by decide) _ _ _ rfl (hown.alloc _) ⟨wr.heap.size, 0, none⟩ 1 1 [_] rfl rfl (newc _ _ _) (ints_oneCell .i64 [_]) (by unfold maxLen; omega) (by omega) (by simp; omega) ?_)
                intro v' w2 ho hg2 hnil
                have hb2 : Below w1.heap.size w1 w2 := (hb.alloc hb.size _).grown hg2 (by simp; omega) (fun k hk => (hown.lt k hk).1)
                clear hg2 hnil hb hown
                go_wp2
                go_roundw
                case rel =>
                  refine ⟨m + 1, by go_num, by omega, by omega, hb2, .inr ⟨by omega, ?_⟩⟩
                  rw [HE.out, HP.out, List.map_append, List.length_append]
                  exact ho
                case measure => simp [intOf]; omega
              · have HP : Hid (qPut ts x = ts) := if_neg (fun e => e.elim t0 hx)
                generalize ts.getD (ts.length - 1) 0 = y at hl hx
                clear hgt
                go_wp2
                go_roundw
                case rel =>
                  refine ⟨m + 1, by go_num, by omega, by omega, hb, .inr ⟨by omega, ?_⟩⟩
                  rw [HE.out, HP.out]
                  exact hown
                case measure => simp [intOf]; omega
        · obtain rfl : K = m := by omega
          rcases hv with ⟨hm, _⟩ | ⟨_, hown⟩
          · omega
          · go_wp2
            go_ret
            refine ⟨_, rfl, ?_, hb1.trans (hb.mono (by omega))⟩
            rw [HT.out]
            exact own_base hown (by omega)
set_option maxHeartbeats 1000000 in
theorem specQuant_any (v : Value) (zs : List Int) (K : Int) (w : World) (h : RowI w v zs) (hn : zs.length ≤ 1048576) :
    Calls Try.prog 16 #[v, .int .i64 K] w fun e w' => ∃ v', e = .returned v' ∧ OwnI w w' v' (quantC zs K) := by
  have c1 := fun w => in_any K 2 4 w
  have c2 := fun w => in_any (zs.length : Int) 1 64 w
  by_cases o1 : 2 ≤ K ∧ K ≤ 4
  rotate_left
  · have HF : Hid (quantC zs K = []) := if_neg (fun e => o1 ⟨e.1, e.2.1⟩)
    rw [decide_eq_false o1] at c1
    obtain ⟨oa, cap, rfl, hc, hr⟩ := h
    clear hr c2
    go_enter Try.func16, Try.ntmps16
    go_wp2_with fail
    refine (c1 _).mono ?_
    rintro e w1 ⟨rfl, e1⟩
    rw [e1]; clear e1 w1
    go_wp2
    go_ret
    exact ⟨_, rfl, by rw [HF.out]; exact ownI_lit0 w _ (Nat.le_refl _), (Below.refl _ _).alloc (Nat.le_refl _) _⟩
  by_cases o2 : 1 ≤ (zs.length : Int) ∧ (zs.length : Int) ≤ 64
  · exact specQuant_yes v zs K w h (by omega) (by omega) o1.1 o1.2
  · have HF : Hid (quantC zs K = []) := if_neg (fun e => o2 ⟨by have := e.2.2.1; omega, by have := e.2.2.2.1; omega⟩)
    rw [decide_eq_true o1] at c1
    rw [decide_eq_false o2] at c2
    obtain ⟨oa, cap, rfl, hc, hr⟩ := h
    clear hr
    go_enter Try.func16, Try.ntmps16
    go_wp2_with fail
    refine (c1 _).mono ?_
    rintro e w1 ⟨rfl, e1⟩
    rw [e1]; clear e1 w1
    go_wp2_with fail
    refine (c2 _).mono ?_
    rintro e w1 ⟨rfl, e1⟩
    rw [e1]; clear e1 w1
    go_wp2
    go_ret
    exact ⟨_, rfl, by rw [HF.out]; exact ownI_lit0 w _ (Nat.le_refl _), (Below.refl _ _).alloc (Nat.le_refl _) _⟩
end Go.Proofs.Ytdibkmpkhlaadaa
