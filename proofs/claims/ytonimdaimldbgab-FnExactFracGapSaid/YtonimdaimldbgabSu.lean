/- The specification's product of two great numbers. -/
import Derived.Test.YtonimdaimldbgabSb
import Derived.Test.YtonimdaimldbgabMu
import Derived.Deep.QuietTactic
import Derived.BigQuiet
import Derived.WalkSmall
namespace Go.Proofs.Ytonimdaimldbgab
open Go.RowKit
set_option maxRecDepth 100000

set_option maxHeartbeats 3200000 in
theorem specMul_full (v1 v2 : Value) (zs ys : List Int) (w : World) (hv1 : RowI w v1 zs) (hv2 : RowI w v2 ys) (hn1 : zs.length ≤ 140737488351232) (hn2 : ys.length ≤ 140737488351232) :
    Calls Try.prog 29 #[v1, v2] w fun e w' => ∃ v, e = .returned (.tuple #[v, .bool (mulO zs ys).isSome]) ∧ OwnA w' w.heap.size v (mulO zs ys) ∧ v ≠ .slice none 0 0 ∧ Below w.heap.size w w' := by
  obtain ⟨i0, hi, hz0, hz1, hz2⟩ := info_parts intInfo
  have hb1 : Below w.heap.size w (w.alloc (.cells #[] 3)) := (Below.refl _ _).alloc (Nat.le_refl _) _
  have c1 := specOk_any v1 zs _ hv1 hn1
  have c2 := specOk_any v2 ys _ hv2 hn2
  have hl0 := lit0A w w.heap.size (Nat.le_refl _)
  by_cases h1 : okL zs
  · rw [decide_eq_true h1] at c1
    by_cases h2 : okL ys
    · rw [decide_eq_true h2] at c2
      have HA : Hid (mulO zs ys = if num zs * num ys < top then some (num zs * num ys) else none) := by
        show mulO zs ys = _
        unfold mulO
        simp only [h1, h2, true_and]
      have hzs := okL_up zs h1
      have hys := okL_up ys h2
      have hn3 : (nats zs).length ≤ 16 := by have := h1.1; simp [nats]; exact this
      have hn4 : (nats ys).length ≤ 16 := by have := h2.1; simp [nats]; exact this
      have ha := (okL_norm zs h1).lt
      have hb := (okL_norm ys h2).lt
      unfold num at HA
      generalize nats zs = a at HA hzs ha hn3
      generalize nats ys = b at HA hys hb hn4
      have HLA : Hid (∀ l ∈ a, l < 16777216) := ha
      have HLB : Hid (∀ l ∈ b, l < 16777216) := hb
      have k1 : zs.length = a.length := by rw [hzs, up_len]
      have k2 : ys.length = b.length := by rw [hys, up_len]
      obtain ⟨o1, p1, rfl, _, hrow1⟩ := hv1
      obtain ⟨o2, p2, rfl, _, hrow2⟩ := hv2
      obtain ⟨la, hla⟩ : ∃ n, a.length = n := ⟨_, rfl⟩
      obtain ⟨lb, hlb⟩ : ∃ n, b.length = n := ⟨_, rfl⟩
      have HR1 : Hid (0 < la → ∃ g o, o1 = some ⟨g, o, none⟩ ∧ g < w.heap.size ∧ ∀ j, j < la → w.cell? ⟨g, o + j, none⟩ = some (.int .i64 ((a.getD j 0 : Nat) : Int))) := fun h0 => by
        obtain ⟨g, o, h3, h4, h5⟩ := hrow1 (by omega)
        refine ⟨g, o, h3, h4, fun j hj => ?_⟩
        have := h5 j (by omega)
        rw [hzs, up_getD] at this; exact this
      have HR2 : Hid (0 < lb → ∃ g o, o2 = some ⟨g, o, none⟩ ∧ g < w.heap.size ∧ ∀ j, j < lb → w.cell? ⟨g, o + j, none⟩ = some (.int .i64 ((b.getD j 0 : Nat) : Int))) := fun h0 => by
        obtain ⟨g, o, h3, h4, h5⟩ := hrow2 (by omega)
        refine ⟨g, o, h3, h4, fun j hj => ?_⟩
        have := h5 j (by omega)
        rw [hys, up_getD] at this; exact this
      rw [k1, hla] at c1 ⊢
      rw [k2, hlb] at c2 ⊢
      rw [hla] at hn3
      rw [hlb] at hn4
      have HNA : Hid (a.length = la) := hla
      have HNB : Hid (b.length = lb) := hlb
      clear h1 h2 hzs hys k1 k2 ha hb hn1 hn2 hrow1 hrow2 hla hlb hl0 hb1
      go_enter Try.func29, Try.ntmps29
      go_wp2_with (first | (go_at_call 25; refine c1.mono ?_; clear c1; rintro e w' ⟨rfl, rfl⟩) | (go_at_call 25; refine c2.mono ?_; clear c2; rintro e w' ⟨rfl, rfl⟩) | (at_make; refine wpList_make_full _ rfl _ _ 24 rfl w'.heap.size 3 i0 (.int .i64 0) 1 Try.underlying24 hi hz0 hz1 .i64 .i64 _ _ (la + lb + 1) rfl rfl rfl rfl (by rw [hz2]; omega) (by unfold maxLen; omega) (by omega) ?_))
      intro w1 ho1 hg1
      rw [toList_madeCells_one, ← up_zeros] at ho1
      have hb1 : Below w'.heap.size w' w1 := (Below.refl _ _).grown hg1 (Nat.le_refl _) (by intro j hj; cases hj)
      clear hg1
      go_wp2
      go_loopw [7] (fun i wr => ∃ (k : Nat) (cur : List Nat), i = .int .i64 (k : Int) ∧ k ≤ la ∧ cur.length = la + lb + 1 ∧ Hid (∀ l ∈ cur, l < 16777216) ∧ Hid (∀ j, k + lb ≤ j → cur.getD j 0 = 0) ∧ Hid (val cur = val (a.take k) * val b) ∧
          wr.ownsRow w'.heap.size 3 1 (.slice (some ⟨w'.heap.size, 0, none⟩) (la + lb + 1) (la + lb + 1)) (la + lb + 1) ((up cur).map (Value.int .i64)) ∧ Below w'.heap.size w' wr) (fun i _ => la - (intOf i).toNat)
      case atStart => exact ⟨0, List.replicate (la + lb + 1) 0, rfl, by omega, by simp, (fun l hl => by have := List.eq_of_mem_replicate hl; omega), (fun j _ => by rw [List.getD_eq_getElem?_getD]; by_cases h : j < la + lb + 1; (rw [List.getElem?_replicate_of_lt h]; rfl); (rw [List.getElem?_eq_none (by simp; omega)]; rfl)), (by show _ = _; rw [val_zeros]; simp [val]), ho1, hb1⟩
      case round =>
        obtain ⟨k, cur, rfl, hk, hcl, hcb, hc0, hv, hown, hb⟩ := hrel
        clear ho1 hb1
        by_cases hlt : k < la
        · obtain ⟨ga, oa, rfl, hga, hca⟩ := HR1.out (by omega)
          have hcka := hca k hlt
          have hla := getD_lt a HLA.out k
          have HV : Hid (val cur = val (a.take k) * val b) := hv
          have HMO : Hid (∀ cu c, cu.length = la + lb + 1 → cu.getD (k + lb) 0 = 0 → val cu + 16777216 ^ (k + lb) * c = val (a.take k) * val b + 16777216 ^ k * (a.getD k 0 * val (b.take lb)) → val (cu.set (k + lb) c) = val (a.take (k + 1)) * val b) := fun cu c h3 h4 h5 => mul_outer (by omega) h4 HNB.out h5
          clear hca hv
          go_wp2
          go_loopw [8, 9] (fun c j wq => ∃ (t cy : Nat) (cu : List Nat), j = .int .i64 (t : Int) ∧ c = .int .i64 (cy : Int) ∧ t ≤ lb ∧ cy < 16777216 ∧ cu.length = la + lb + 1 ∧ Hid (∀ l ∈ cu, l < 16777216) ∧ Hid (∀ m, k + lb ≤ m → cu.getD m 0 = 0) ∧
              Hid (val cu + 16777216 ^ (k + t) * cy = val (a.take k) * val b + 16777216 ^ k * (a.getD k 0 * val (b.take t))) ∧
              wq.ownsRow w'.heap.size 3 1 (.slice (some ⟨w'.heap.size, 0, none⟩) (la + lb + 1) (la + lb + 1)) (la + lb + 1) ((up cu).map (Value.int .i64)) ∧ Below w'.heap.size w' wq) (fun _ j _ => lb - (intOf j).toNat)
          case atStart => exact ⟨0, 0, cur, rfl, rfl, by omega, by omega, hcl, hcb, hc0, (by show _ = _; rw [HV.out]; simp [val]), hown, hb⟩
          case round =>
            obtain ⟨t, cy, cu, rfl, rfl, ht, hcy, hcul, hcub, hcu0, hvv, hown, hb⟩ := hrel
            by_cases htl : t < lb
            · obtain ⟨gb, ob, rfl, hgb, hcb2⟩ := HR2.out (by omega)
              have h1 := (hb.cell (p := ⟨ga, oa + k, none⟩) hga).trans hcka
              have h2 := (hb.cell (p := ⟨gb, ob + t, none⟩) hgb).trans (hcb2 t htl)
              have h3 : wr.cell? ⟨w'.heap.size, k + t, none⟩ = some (.int .i64 ((cu.getD (k + t) 0 : Nat) : Int)) := by
                have := own_cellsI (zs := up cu) (n := la + lb + 1) (by rw [up_len]; exact hcul) hown (k + t) (by omega)
                rw [up_getD, Nat.zero_add] at this; exact this
              have hf3 : wr.frozen? ⟨w'.heap.size, k + t, none⟩ = false := hown.frozenAt (k + t)
              have hlb := getD_lt b HLB.out t
              have hlx := getD_lt cu hcub.out (k + t)
              obtain ⟨hp1, hp2⟩ := mul_carry hlx hla hlb hcy
              have HS : Hid (∀ x, x = cu.getD (k + t) 0 + a.getD k 0 * b.getD t 0 + cy → val (cu.set (k + t) (x % 16777216)) + 16777216 ^ (k + (t + 1)) * (x / 16777216) = val (a.take k) * val b + 16777216 ^ k * (a.getD k 0 * val (b.take (t + 1)))) := fun x hx => mul_inner (by omega) rfl hvv.out x hx
              have hst := hown.stored (k + t) (.int .i64 (((cu.getD (k + t) 0 + a.getD k 0 * b.getD t 0 + cy) % 16777216 : Nat) : Int))
              have hbs := hb.setCell (p := ⟨w'.heap.size, k + t, none⟩) (Nat.le_refl _) (.int .i64 (((cu.getD (k + t) 0 + a.getD k 0 * b.getD t 0 + cy) % 16777216 : Nat) : Int))
              rw [up_set] at hst
              have HST := hst.1
              have HAK : Hid (a.getD k 0 < 16777216) := hla
              generalize hA : a.getD k 0 = A at h1 hla hp1 hp2 HS HST hbs
              have HAA : Hid (a.getD k 0 = A) := hA
              generalize b.getD t 0 = Bt at h2 hlb hp1 hp2 HS HST hbs
              generalize cu.getD (k + t) 0 = X at h3 hlx hp2 HS HST hbs
              have hpi : (A : Int) * Bt ≤ 281474943156225 := by have := Int.ofNat_le.2 hp1; simpa using this
              have hpn : 0 ≤ (A : Int) * Bt := Int.mul_nonneg (by omega) (by omega)
              generalize hSS : X + A * Bt + cy = S at hp2 HS HST hbs
              have HE : Hid ((X : Int) + A * Bt + cy = (S : Int)) := by show _ = _; rw [← hSS]; push_cast; rfl
              clear hst hvv hA hown hb hSS
              go_wp2
              go_quiet (fail)
              go_wp2
              rw [HE.out]
              have e1 : (S : Int) % 16777216 = ((S % 16777216 : Nat) : Int) := by omega
              rw [e1]
              go_roundw
              case rel =>
                refine ⟨t + 1, S / 16777216, cu.set (k + t) (S % 16777216), by go_num, by go_num, by omega, hp2, by simp [hcul], set_lt _ _ _ hcub.out (by omega), (fun m hm => by rw [getD_set_ne _ _ _ _ (by omega)]; exact hcu0.out m hm), HS.out _ rfl, own_below HST ⟨rfl, rfl, rfl, Nat.le_refl _, fun _ _ => rfl⟩, hbs.trans ⟨rfl, rfl, rfl, Nat.le_refl _, fun _ _ => rfl⟩⟩
              case measure => simp [intOf]; omega
            · obtain rfl : t = lb := by omega
              have hz := hcu0.out (k + t) (Nat.le_refl _)
              have h3 : wr.cell? ⟨w'.heap.size, k + t, none⟩ = some (.int .i64 ((cu.getD (k + t) 0 : Nat) : Int)) := by
                have := own_cellsI (zs := up cu) (n := la + t + 1) (by rw [up_len]; exact hcul) hown (k + t) (by omega)
                rw [up_getD, Nat.zero_add] at this; exact this
              rw [hz] at h3
              have hf3 : wr.frozen? ⟨w'.heap.size, k + t, none⟩ = false := hown.frozenAt (k + t)
              have hst := hown.stored (k + t) (.int .i64 (cy : Int))
              have hbs := hb.setCell (p := ⟨w'.heap.size, k + t, none⟩) (Nat.le_refl _) (.int .i64 (cy : Int))
              rw [up_set] at hst
              have HST := hst.1
              have HFI : Hid (val (cu.set (k + t) cy) = val (a.take (k + 1)) * val b) := HMO.out cu cy hcul hz hvv.out
              clear hst hvv hcka hown hb hz
              go_wp2
              go_roundw
              case rel =>
                refine ⟨k + 1, cu.set (k + t) cy, by go_num, by omega, by simp [hcul], set_lt _ _ _ hcub.out hcy, (fun m hm => by rw [getD_set_ne _ _ _ _ (by omega)]; exact hcu0.out m (by omega)), HFI, HST, hbs⟩
              case measure => simp [intOf]; omega
        · obtain rfl : k = la := by omega
          have hval : val cur = val a * val b := by have := hv.out; rw [List.take_of_length_le (by rw [HNA.out]; exact Nat.le_refl _)] at this; exact this
          have hs := hb.size
          have hg : w'.heap.size < wr.heap.size := (hown.lt w'.heap.size rfl).2
          have hcell : ∀ j, j < k + lb + 1 → wr.cell? ⟨w'.heap.size, 0 + j, none⟩ = some (.int .i64 ((cur.getD j 0 : Nat) : Int)) := fun j hj => by
            have := own_cellsI (zs := up cur) (n := k + lb + 1) (by rw [up_len]; exact hcl) hown j hj
            rw [up_getD] at this; exact this
          have e4 := trim_any w'.heap.size 0 (k + lb + 1) (k + lb + 1) cur wr hcl (Nat.le_refl _) (by omega) hg hcb.out hcell
          rw [hval] at e4
          have hbig : (digs (val a * val b)).length ≤ 16 ↔ val a * val b < top := digs_len 16 _
          have hl17 : (digs (val a * val b)).length ≤ 140737488351232 := by
            have h1 := (digs_len 33 (val a * val b)).2 (by
              have h1 := val_lt a HLA.out
              have h2 := val_lt b HLB.out
              have h3 : 16777216 ^ a.length ≤ 16777216 ^ 16 := Nat.pow_le_pow_right (by decide) (by rw [HNA.out]; omega)
              have h4 : 16777216 ^ b.length ≤ 16777216 ^ 16 := Nat.pow_le_pow_right (by decide) (by rw [HNB.out]; omega)
              have h5 : val a * val b ≤ 16777216 ^ 16 * 16777216 ^ 16 := Nat.mul_le_mul (by omega) (by omega)
              rw [← Nat.pow_add] at h5
              exact Nat.lt_of_le_of_lt h5 (Nat.pow_lt_pow_right (by decide) (by decide)))
            omega
          have HL : Hid ((ans (some (val a * val b))).length = (digs (val a * val b)).length) := up_len _
          clear hcell hown hcb hc0 hv hval
          by_cases hfit : val a * val b < top
          · have hle := hbig.2 hfit
            have HA2 : Hid (mulO zs ys = some (val a * val b)) := by
              show mulO zs ys = _
              rw [HA.out, if_pos hfit]
            clear HA hbig hfit
            generalize val a * val b = S at e4 hle hl17 HA2 HL
            generalize (digs S).length = L at hle hl17 HL
            go_wp2_with (go_at_call 27; refine e4.mono ?_; clear e4; rintro e w2 ⟨v, rfl, hov, hne, hb4⟩; obtain ⟨gv, cv, rfl⟩ := hov.form hne HL.out)
            go_ret2
            rw [HA2.out]
            exact ⟨_, rfl, hov.base hs, hne, hb.trans (hb4.mono hs)⟩
          · have hle : ¬ (digs (val a * val b)).length ≤ 16 := fun h => hfit (hbig.1 h)
            have HA2 : Hid (mulO zs ys = none) := by
              show mulO zs ys = _
              rw [HA.out, if_neg hfit]
            clear HA hbig hfit
            generalize val a * val b = S at e4 hle hl17 HA2 HL
            generalize (digs S).length = L at hle hl17 HL
            go_wp2_with (go_at_call 27; refine e4.mono ?_; clear e4; rintro e w2 ⟨v, rfl, hov, hne, hb4⟩; obtain ⟨gv, cv, rfl⟩ := hov.form hne HL.out)
            go_ret2
            rw [HA2.out]
            have hb5 := hb.trans (hb4.mono hs)
            exact ⟨_, rfl, lit0A _ _ hb5.size, (by intro h; cases h), hb5.alloc hb5.size _⟩
    · rw [decide_eq_false h2] at c2
      have HA : Hid (mulO zs ys = none) := if_neg fun h => h2 h.2.1
      clear h1 h2
      go_enter Try.func29, Try.ntmps29
      go_wp2_with (first | (go_at_call 25; refine c1.mono ?_; clear c1; rintro e w' ⟨rfl, rfl⟩) | (go_at_call 25; refine c2.mono ?_; clear c2; rintro e w' ⟨rfl, rfl⟩))
      go_ret2
      rw [HA.out]
      exact ⟨_, rfl, hl0, (by intro h; cases h), hb1⟩
  · rw [decide_eq_false h1] at c1
    have HA : Hid (mulO zs ys = none) := if_neg fun h => h1 h.1
    clear h1 c2
    go_enter Try.func29, Try.ntmps29
    go_wp2_with (go_at_call 25; refine c1.mono ?_; clear c1; rintro e w' ⟨rfl, rfl⟩)
    go_ret2
    rw [HA.out]
    exact ⟨_, rfl, hl0, (by intro h; cases h), hb1⟩

theorem specMul_any (v1 v2 : Value) (zs ys : List Int) (w : World) (hv1 : RowI w v1 zs) (hv2 : RowI w v2 ys) (hn1 : zs.length ≤ 140737488351232) (hn2 : ys.length ≤ 140737488351232) :
    Calls Try.prog 29 #[v1, v2] w fun e w' => ∃ v, e = .returned (.tuple #[v, .bool (mulO zs ys).isSome]) ∧ OwnA w' w.heap.size v (mulO zs ys) ∧ Below w.heap.size w w' :=
  (specMul_full v1 v2 zs ys w hv1 hv2 hn1 hn2).mono fun _ _ ⟨v, h1, h2, _, h3⟩ => ⟨v, h1, h2, h3⟩
end Go.Proofs.Ytonimdaimldbgab
