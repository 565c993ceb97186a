/- Texts of this claim, put together: part 39. -/
import Derived.Test.YteadkdllmeeocabGreatBestOfPack38
import Derived.Test.YteadkdllmeeocabGreatBestOfPack32
import Derived.Deep.QuietTactic
import Derived.BigQuiet
import Derived.WalkSmall
import Derived.Test.YteadkdllmeeocabGreatBestOfPack37
import Derived.Test.YteadkdllmeeocabGreatBestOfPack14
import Derived.Test.YteadkdllmeeocabGreatBestOfPack9
/- The specification's product of two great numbers. -/
namespace Go.Proofs.YteadkdllmeeocabGreat
open Go.RowKit
set_option maxRecDepth 100000

set_option maxHeartbeats 3200000 in
theorem specMul_full (v1 v2 : Value) (zs ys : List Int) (w : World) (hv1 : RowI w v1 zs) (hv2 : RowI w v2 ys) (hn1 : zs.length ≤ 140737488351232) (hn2 : ys.length ≤ 140737488351232) :
    Calls Tryz.prog 72 #[v1, v2] w fun e w' => ∃ v, e = .returned (.tuple #[v, .bool (mulO zs ys).isSome]) ∧ OwnN w' w.heap.size v (mulO zs ys) ∧ v ≠ .slice none 0 0 ∧ Below w.heap.size w w' := by
  obtain ⟨i0, hi, hz0, hz1, hz2⟩ := info_parts intInfo
  have hb1 : Below w.heap.size w (w.alloc (.cells #[] 3)) := (Below.refl _ _).alloc (Nat.le_refl _) _
  have c1 := specOk_any v1 zs _ hv1 hn1
  have c2 := specOk_any v2 ys _ hv2 hn2
  have hl0 := lit0A w w.heap.size (Nat.le_refl _)
  by_cases h1 : okL zs
  · rw [decide_eq_true h1] at c1
    by_cases h2 : okL ys
    · rw [decide_eq_true h2] at c2
      have HA : Hid (mulO zs ys = if num zs * num ys < top then some (num zs * num ys) else none) := by
        show mulO zs ys = _
        unfold mulO
        simp only [h1, h2, true_and]
      have hzs := okL_up zs h1
      have hys := okL_up ys h2
      have hn3 : (nats zs).length ≤ 16 := by have := h1.1; simp [nats]; exact this
      have hn4 : (nats ys).length ≤ 16 := by have := h2.1; simp [nats]; exact this
      have ha := (okL_norm zs h1).lt
      have hb := (okL_norm ys h2).lt
      unfold num at HA
      generalize nats zs = a at HA hzs ha hn3
      generalize nats ys = b at HA hys hb hn4
      have HLA : Hid (∀ l ∈ a, l < 16777216) := ha
      have HLB : Hid (∀ l ∈ b, l < 16777216) := hb
      have k1 : zs.length = a.length := by rw [hzs, up_len]
      have k2 : ys.length = b.length := by rw [hys, up_len]
      obtain ⟨o1, p1, rfl, _, hrow1⟩ := hv1
      obtain ⟨o2, p2, rfl, _, hrow2⟩ := hv2
      obtain ⟨la, hla⟩ : ∃ n, a.length = n := ⟨_, rfl⟩
      obtain ⟨lb, hlb⟩ : ∃ n, b.length = n := ⟨_, rfl⟩
      have HR1 : Hid (0 < la → ∃ g o, o1 = some ⟨g, o, none⟩ ∧ g < w.heap.size ∧ ∀ j, j < la → w.cell? ⟨g, o + j, none⟩ = some (.int .i64 ((a.getD j 0 : Nat) : Int))) := fun h0 => by
        obtain ⟨g, o, h3, h4, h5⟩ := hrow1 (by omega)
        refine ⟨g, o, h3, h4, fun j hj => ?_⟩
        have := h5 j (by omega)
        rw [hzs, up_getD] at this; exact this
      have HR2 : Hid (0 < lb → ∃ g o, o2 = some ⟨g, o, none⟩ ∧ g < w.heap.size ∧ ∀ j, j < lb → w.cell? ⟨g, o + j, none⟩ = some (.int .i64 ((b.getD j 0 : Nat) : Int))) := fun h0 => by
        obtain ⟨g, o, h3, h4, h5⟩ := hrow2 (by omega)
        refine ⟨g, o, h3, h4, fun j hj => ?_⟩
        have := h5 j (by omega)
        rw [hys, up_getD] at this; exact this
      rw [k1, hla] at c1 ⊢
      rw [k2, hlb] at c2 ⊢
      rw [hla] at hn3
      rw [hlb] at hn4
      have HNA : Hid (a.length = la) := hla
      have HNB : Hid (b.length = lb) := hlb
      clear h1 h2 hzs hys k1 k2 ha hb hn1 hn2 hrow1 hrow2 hla hlb hl0 hb1
      go_enter Tryz.func72, Tryz.ntmps72
      go_wp2_with (first | (go_at_call 68; refine c1.mono ?_; clear c1; rintro e w' ⟨rfl, rfl⟩) | (go_at_call 68; refine c2.mono ?_; clear c2; rintro e w' ⟨rfl, rfl⟩) | (at_make; refine wpList_make_full _ rfl _ _ 26 rfl w'.heap.size 3 i0 (.int .i64 0) 1 Tryz.underlying26 hi hz0 hz1 .i64 .i64 _ _ (la + lb + 1) rfl rfl rfl rfl (by rw [hz2]; omega) (by unfold maxLen; omega) (by omega) ?_))
      intro w1 ho1 hg1
      rw [toList_madeCells_one, ← up_zeros] at ho1
      have hb1 : Below w'.heap.size w' w1 := (Below.refl _ _).grown hg1 (Nat.le_refl _) (by intro j hj; cases hj)
      clear hg1
      go_wp2
      go_loopw [7] (fun i wr => ∃ (k : Nat) (cur : List Nat), i = .int .i64 (k : Int) ∧ k ≤ la ∧ cur.length = la + lb + 1 ∧ Hid (∀ l ∈ cur, l < 16777216) ∧ Hid (∀ j, k + lb ≤ j → cur.getD j 0 = 0) ∧ Hid (val cur = val (a.take k) * val b) ∧
          wr.ownsRow w'.heap.size 3 1 (.slice (some ⟨w'.heap.size, 0, none⟩) (la + lb + 1) (la + lb + 1)) (la + lb + 1) ((up cur).map (Value.int .i64)) ∧ Below w'.heap.size w' wr) (fun i _ => la - (intOf i).toNat)
      case atStart => exact ⟨0, List.replicate (la + lb + 1) 0, rfl, by omega, by simp, (fun l hl => by have := List.eq_of_mem_replicate hl; omega), (fun j _ => by rw [List.getD_eq_getElem?_getD]; by_cases h : j < la + lb + 1; (rw [List.getElem?_replicate_of_lt h]; rfl); (rw [List.getElem?_eq_none (by simp; omega)]; rfl)), (by show _ = _; rw [val_zeros]; simp [val]), ho1, hb1⟩
      case round =>
        obtain ⟨k, cur, rfl, hk, hcl, hcb, hc0, hv, hown, hb⟩ := hrel
        clear ho1 hb1
        by_cases hlt : k < la
        · obtain ⟨ga, oa, rfl, hga, hca⟩ := HR1.out (by omega)
          have hcka := hca k hlt
          have hla := getD_lt a HLA.out k
          have HV : Hid (val cur = val (a.take k) * val b) := hv
          have HMO : Hid (∀ cu c, cu.length = la + lb + 1 → cu.getD (k + lb) 0 = 0 → val cu + 16777216 ^ (k + lb) * c = val (a.take k) * val b + 16777216 ^ k * (a.getD k 0 * val (b.take lb)) → val (cu.set (k + lb) c) = val (a.take (k + 1)) * val b) := fun cu c h3 h4 h5 => mul_outer (by omega) h4 HNB.out h5
          clear hca hv
          go_wp2
          go_loopw [8, 9] (fun c j wq => ∃ (t cy : Nat) (cu : List Nat), j = .int .i64 (t : Int) ∧ c = .int .i64 (cy : Int) ∧ t ≤ lb ∧ cy < 16777216 ∧ cu.length = la + lb + 1 ∧ Hid (∀ l ∈ cu, l < 16777216) ∧ Hid (∀ m, k + lb ≤ m → cu.getD m 0 = 0) ∧
              Hid (val cu + 16777216 ^ (k + t) * cy = val (a.take k) * val b + 16777216 ^ k * (a.getD k 0 * val (b.take t))) ∧
              wq.ownsRow w'.heap.size 3 1 (.slice (some ⟨w'.heap.size, 0, none⟩) (la + lb + 1) (la + lb + 1)) (la + lb + 1) ((up cu).map (Value.int .i64)) ∧ Below w'.heap.size w' wq) (fun _ j _ => lb - (intOf j).toNat)
          case atStart => exact ⟨0, 0, cur, rfl, rfl, by omega, by omega, hcl, hcb, hc0, (by show _ = _; rw [HV.out]; simp [val]), hown, hb⟩
          case round =>
            obtain ⟨t, cy, cu, rfl, rfl, ht, hcy, hcul, hcub, hcu0, hvv, hown, hb⟩ := hrel
            by_cases htl : t < lb
            · obtain ⟨gb, ob, rfl, hgb, hcb2⟩ := HR2.out (by omega)
              have h1 := (hb.cell (p := ⟨ga, oa + k, none⟩) hga).trans hcka
              have h2 := (hb.cell (p := ⟨gb, ob + t, none⟩) hgb).trans (hcb2 t htl)
              have h3 : wr.cell? ⟨w'.heap.size, k + t, none⟩ = some (.int .i64 ((cu.getD (k + t) 0 : Nat) : Int)) := by
                have := own_cellsI (zs := up cu) (n := la + lb + 1) (by rw [up_len]; exact hcul) hown (k + t) (by omega)
                rw [up_getD, Nat.zero_add] at this; exact this
              have hf3 : wr.frozen? ⟨w'.heap.size, k + t, none⟩ = false := hown.frozenAt (k + t)
              have hlb := getD_lt b HLB.out t
              have hlx := getD_lt cu hcub.out (k + t)
              obtain ⟨hp1, hp2⟩ := mul_carry hlx hla hlb hcy
              have HS : Hid (∀ x, x = cu.getD (k + t) 0 + a.getD k 0 * b.getD t 0 + cy → val (cu.set (k + t) (x % 16777216)) + 16777216 ^ (k + (t + 1)) * (x / 16777216) = val (a.take k) * val b + 16777216 ^ k * (a.getD k 0 * val (b.take (t + 1)))) := fun x hx => mul_inner (by omega) rfl hvv.out x hx
              have hst := hown.stored (k + t) (.int .i64 (((cu.getD (k + t) 0 + a.getD k 0 * b.getD t 0 + cy) % 16777216 : Nat) : Int))
              have hbs := hb.setCell (p := ⟨w'.heap.size, k + t, none⟩) (Nat.le_refl _) (.int .i64 (((cu.getD (k + t) 0 + a.getD k 0 * b.getD t 0 + cy) % 16777216 : Nat) : Int))
              rw [up_set] at hst
              have HST := hst.1
              have HAK : Hid (a.getD k 0 < 16777216) := hla
              generalize hA : a.getD k 0 = A at h1 hla hp1 hp2 HS HST hbs
              have HAA : Hid (a.getD k 0 = A) := hA
              generalize b.getD t 0 = Bt at h2 hlb hp1 hp2 HS HST hbs
              generalize cu.getD (k + t) 0 = X at h3 hlx hp2 HS HST hbs
              have hpi : (A : Int) * Bt ≤ 281474943156225 := by have := Int.ofNat_le.2 hp1; simpa using this
              have hpn : 0 ≤ (A : Int) * Bt := Int.mul_nonneg (by omega) (by omega)
              generalize hSS : X + A * Bt + cy = S at hp2 HS HST hbs
              have HE : Hid ((X : Int) + A * Bt + cy = (S : Int)) := by show _ = _; rw [← hSS]; push_cast; rfl
              clear hst hvv hA hown hb hSS
              go_wp2
              go_quiet (fail)
              go_wp2
              rw [HE.out]
              have e1 : (S : Int) % 16777216 = ((S % 16777216 : Nat) : Int) := by omega
              rw [e1]
              go_roundw
              case rel =>
                refine ⟨t + 1, S / 16777216, cu.set (k + t) (S % 16777216), by go_num, by go_num, by omega, hp2, by simp [hcul], set_lt _ _ _ hcub.out (by omega), (fun m hm => by rw [getD_set_ne _ _ _ _ (by omega)]; exact hcu0.out m hm), HS.out _ rfl, own_below HST ⟨rfl, rfl, rfl, Nat.le_refl _, fun _ _ => rfl⟩, hbs.trans ⟨rfl, rfl, rfl, Nat.le_refl _, fun _ _ => rfl⟩⟩
              case measure => simp [intOf]; omega
            · obtain rfl : t = lb := by omega
              have hz := hcu0.out (k + t) (Nat.le_refl _)
              have h3 : wr.cell? ⟨w'.heap.size, k + t, none⟩ = some (.int .i64 ((cu.getD (k + t) 0 : Nat) : Int)) := by
                have := own_cellsI (zs := up cu) (n := la + t + 1) (by rw [up_len]; exact hcul) hown (k + t) (by omega)
                rw [up_getD, Nat.zero_add] at this; exact this
              rw [hz] at h3
              have hf3 : wr.frozen? ⟨w'.heap.size, k + t, none⟩ = false := hown.frozenAt (k + t)
              have hst := hown.stored (k + t) (.int .i64 (cy : Int))
              have hbs := hb.setCell (p := ⟨w'.heap.size, k + t, none⟩) (Nat.le_refl _) (.int .i64 (cy : Int))
              rw [up_set] at hst
              have HST := hst.1
              have HFI : Hid (val (cu.set (k + t) cy) = val (a.take (k + 1)) * val b) := HMO.out cu cy hcul hz hvv.out
              clear hst hvv hcka hown hb hz
              go_wp2
              go_roundw
              case rel =>
                refine ⟨k + 1, cu.set (k + t) cy, by go_num, by omega, by simp [hcul], set_lt _ _ _ hcub.out hcy, (fun m hm => by rw [getD_set_ne _ _ _ _ (by omega)]; exact hcu0.out m (by omega)), HFI, HST, hbs⟩
              case measure => simp [intOf]; omega
        · obtain rfl : k = la := by omega
          have hval : val cur = val a * val b := by have := hv.out; rw [List.take_of_length_le (by rw [HNA.out]; exact Nat.le_refl _)] at this; exact this
          have hs := hb.size
          have hg : w'.heap.size < wr.heap.size := (hown.lt w'.heap.size rfl).2
          have hcell : ∀ j, j < k + lb + 1 → wr.cell? ⟨w'.heap.size, 0 + j, none⟩ = some (.int .i64 ((cur.getD j 0 : Nat) : Int)) := fun j hj => by
            have := own_cellsI (zs := up cur) (n := k + lb + 1) (by rw [up_len]; exact hcl) hown j hj
            rw [up_getD] at this; exact this
          have e4 := trim_any w'.heap.size 0 (k + lb + 1) (k + lb + 1) cur wr hcl (Nat.le_refl _) (by omega) hg hcb.out hcell
          rw [hval] at e4
          have hbig : (digs (val a * val b)).length ≤ 16 ↔ val a * val b < top := digs_len 16 _
          have hl17 : (digs (val a * val b)).length ≤ 140737488351232 := by
            have h1 := (digs_len 33 (val a * val b)).2 (by
              have h1 := val_lt a HLA.out
              have h2 := val_lt b HLB.out
              have h3 : 16777216 ^ a.length ≤ 16777216 ^ 16 := Nat.pow_le_pow_right (by decide) (by rw [HNA.out]; omega)
              have h4 : 16777216 ^ b.length ≤ 16777216 ^ 16 := Nat.pow_le_pow_right (by decide) (by rw [HNB.out]; omega)
              have h5 : val a * val b ≤ 16777216 ^ 16 * 16777216 ^ 16 := Nat.mul_le_mul (by omega) (by omega)
              rw [← Nat.pow_add] at h5
              exact Nat.lt_of_le_of_lt h5 (Nat.pow_lt_pow_right (by decide) (by decide)))
            omega
          have HL : Hid ((ans (some (val a * val b))).length = (digs (val a * val b)).length) := up_len _
          clear hcell hown hcb hc0 hv hval
          by_cases hfit : val a * val b < top
          · have hle := hbig.2 hfit
            have HA2 : Hid (mulO zs ys = some (val a * val b)) := by
              show mulO zs ys = _
              rw [HA.out, if_pos hfit]
            clear HA hbig hfit
            generalize val a * val b = S at e4 hle hl17 HA2 HL
            generalize (digs S).length = L at hle hl17 HL
            go_wp2_with (go_at_call 87; refine e4.mono ?_; clear e4; rintro e w2 ⟨v, rfl, hov, hne, hb4⟩; obtain ⟨gv, cv, rfl⟩ := hov.form hne HL.out)
            go_ret2
            rw [HA2.out]
            exact ⟨_, rfl, hov.base hs, hne, hb.trans (hb4.mono hs)⟩
          · have hle : ¬ (digs (val a * val b)).length ≤ 16 := fun h => hfit (hbig.1 h)
            have HA2 : Hid (mulO zs ys = none) := by
              show mulO zs ys = _
              rw [HA.out, if_neg hfit]
            clear HA hbig hfit
            generalize val a * val b = S at e4 hle hl17 HA2 HL
            generalize (digs S).length = L at hle hl17 HL
            go_wp2_with (go_at_call 87; refine e4.mono ?_; clear e4; rintro e w2 ⟨v, rfl, hov, hne, hb4⟩; obtain ⟨gv, cv, rfl⟩ := hov.form hne HL.out)
            go_ret2
            rw [HA2.out]
            have hb5 := hb.trans (hb4.mono hs)
            exact ⟨_, rfl, lit0A _ _ hb5.size, (by intro h; cases h), hb5.alloc hb5.size _⟩
    · rw [decide_eq_false h2] at c2
      have HA : Hid (mulO zs ys = none) := if_neg fun h => h2 h.2.1
      clear h1 h2
      go_enter Tryz.func72, Tryz.ntmps72
      go_wp2_with (first | (go_at_call 68; refine c1.mono ?_; clear c1; rintro e w' ⟨rfl, rfl⟩) | (go_at_call 68; refine c2.mono ?_; clear c2; rintro e w' ⟨rfl, rfl⟩))
      go_ret2
      rw [HA.out]
      exact ⟨_, rfl, hl0, (by intro h; cases h), hb1⟩
  · rw [decide_eq_false h1] at c1
    have HA : Hid (mulO zs ys = none) := if_neg fun h => h1 h.1
    clear h1 c2
    go_enter Tryz.func72, Tryz.ntmps72
    go_wp2_with (go_at_call 68; refine c1.mono ?_; clear c1; rintro e w' ⟨rfl, rfl⟩)
    go_ret2
    rw [HA.out]
    exact ⟨_, rfl, hl0, (by intro h; cases h), hb1⟩

theorem specMul_any (v1 v2 : Value) (zs ys : List Int) (w : World) (hv1 : RowI w v1 zs) (hv2 : RowI w v2 ys) (hn1 : zs.length ≤ 140737488351232) (hn2 : ys.length ≤ 140737488351232) :
    Calls Tryz.prog 72 #[v1, v2] w fun e w' => ∃ v, e = .returned (.tuple #[v, .bool (mulO zs ys).isSome]) ∧ OwnN w' w.heap.size v (mulO zs ys) ∧ Below w.heap.size w w' :=
  (specMul_full v1 v2 zs ys w hv1 hv2 hn1 hn2).mono fun _ _ ⟨v, h1, h2, _, h3⟩ => ⟨v, h1, h2, h3⟩
end Go.Proofs.YteadkdllmeeocabGreat
/- The specification tells which of two great numbers is greater. -/
namespace Go.Proofs.YteadkdllmeeocabGreat
open Go.RowKit
set_option maxRecDepth 100000

set_option maxHeartbeats 1600000 in
theorem specCmp_any (v1 v2 : Value) (zs ys : List Int) (w : World) (hv1 : RowI w v1 zs) (hv2 : RowI w v2 ys) (hn1 : zs.length ≤ 140737488351232) (hn2 : ys.length ≤ 140737488351232) :
    Calls Tryz.prog 46 #[v1, v2] w fun e w' => e = .returned (.int .i64 (cmpL zs ys)) ∧ w' = w := by
  have c1 := specOk_any v1 zs w hv1 hn1
  have c2 := specOk_any v2 ys w hv2 hn2
  by_cases h1 : okL zs
  · rw [decide_eq_true h1] at c1
    by_cases h2 : okL ys
    · rw [decide_eq_true h2] at c2
      have HA : Hid (cmpL zs ys = cmpN (num zs) (num ys)) := if_pos ⟨h1, h2⟩
      have hzs := okL_up zs h1
      have hys := okL_up ys h2
      have hn3 : (nats zs).length ≤ 16 := by have := h1.1; simp [nats]; exact this
      have hn4 : (nats ys).length ≤ 16 := by have := h2.1; simp [nats]; exact this
      have ha := (okL_norm zs h1).lt
      have hb := (okL_norm ys h2).lt
      unfold num at HA
      generalize nats zs = a at HA hzs ha hn3
      generalize nats ys = b at HA hys hb hn4
      have HLA : Hid (∀ l ∈ a, l < 16777216) := ha
      have HLB : Hid (∀ l ∈ b, l < 16777216) := hb
      have k1 : zs.length = a.length := by rw [hzs, up_len]
      have k2 : ys.length = b.length := by rw [hys, up_len]
      have d1 : ∀ (W : World) (k : Nat), Below w.heap.size w W → k ≤ 100 → Calls Tryz.prog 70 #[v1, .int .i64 (k : Int)] W fun e w' => e = .returned (.int .i64 ((a.getD k 0 : Nat) : Int)) ∧ w' = W := fun W k hW hk => by
        have := limb_any v1 zs k W (hv1.later hW) hn1 (by omega)
        rw [hzs, up_getD] at this; exact this
      have d2 : ∀ (W : World) (k : Nat), Below w.heap.size w W → k ≤ 100 → Calls Tryz.prog 70 #[v2, .int .i64 (k : Int)] W fun e w' => e = .returned (.int .i64 ((b.getD k 0 : Nat) : Int)) ∧ w' = W := fun W k hW hk => by
        have := limb_any v2 ys k W (hv2.later hW) hn2 (by omega)
        rw [hys, up_getD] at this; exact this
      obtain ⟨o1, p1, rfl, _, _⟩ := hv1
      obtain ⟨o2, p2, rfl, _, _⟩ := hv2
      rw [k1] at c1 d1 ⊢
      rw [k2] at c2 d2 ⊢
      have hn1' : a.length ≤ 16 := hn3
      have hn2' : b.length ≤ 16 := hn4
      clear h1 h2 hzs hys k1 k2 ha hb hn1 hn2 hn3 hn4
      have e3 := max_any a.length b.length w
      obtain ⟨M, hM⟩ : ∃ M, max a.length b.length = M := ⟨_, rfl⟩
      rw [hM] at e3
      have hMa : a.length ≤ M := by omega
      have hMb : b.length ≤ M := by omega
      have hM16 : M ≤ 16 := by omega
      clear hM
      go_enter Tryz.func46, Tryz.ntmps46
      go_wp2_with (first | (go_at_call 68; refine c1.mono ?_; clear c1; rintro e w' ⟨rfl, rfl⟩) | (go_at_call 68; refine c2.mono ?_; clear c2; rintro e w' ⟨rfl, rfl⟩) | (go_at_call 69; refine e3.mono ?_; clear e3; rintro e w' ⟨rfl, rfl⟩))
      go_loop [5] (fun i => ∃ k : Nat, i = .int .i64 ((k : Int) - 1) ∧ k ≤ 16 ∧ Hid (∀ j, k ≤ j → a.getD j 0 = b.getD j 0)) (fun i => (intOf i + 1).toNat)
      case atStart => exact ⟨M, rfl, hM16, fun j hj => by rw [getD_past a j (by omega), getD_past b j (by omega)]⟩
      case round =>
        obtain ⟨k, rfl, hk, hall⟩ := hrel
        by_cases h0 : 0 < k
        · obtain ⟨m, rfl⟩ : ∃ m, k = m + 1 := ⟨k - 1, by omega⟩
          have em : (((m + 1 : Nat) : Int) - 1) = (m : Int) := by omega
          rw [em]
          have e1 := d1 w' m (Below.refl _ _) (by omega)
          have e2 := d2 w' m (Below.refl _ _) (by omega)
          have HC1 : Hid (a.getD m 0 < b.getD m 0 → cmpL zs ys = -1) := fun h => by
            have := val_cmpD a b m HLA.out HLB.out (fun j hj => hall.out j (by omega)) h
            rw [HA.out]; unfold cmpN; rw [if_pos this]
          have HC2 : Hid (b.getD m 0 < a.getD m 0 → cmpL zs ys = 1) := fun h => by
            have := val_cmpD b a m HLB.out HLA.out (fun j hj => (hall.out j (by omega)).symm) h
            rw [HA.out]; unfold cmpN; rw [if_neg (by omega), if_neg (by omega)]
          have HEQ : Hid (a.getD m 0 = b.getD m 0 → ∀ j, m ≤ j → a.getD j 0 = b.getD j 0) := fun h j hj => by
            by_cases e : j = m
            · subst e; exact h
            · exact hall.out j (by omega)
          generalize a.getD m 0 = X at e1 HC1 HC2 HEQ
          generalize b.getD m 0 = Y at e2 HC1 HC2 HEQ
          clear d1 d2 em h0
          by_cases hx : X < Y
          · have HR : Hid (cmpL zs ys = -1) := HC1.out hx
            go_wp2_with (first | (go_at_call 70; refine e1.mono ?_; clear e1; rintro e w' ⟨rfl, rfl⟩) | (go_at_call 70; refine e2.mono ?_; clear e2; rintro e w' ⟨rfl, rfl⟩))
            go_ret
            exact ⟨ret_int HR.out.symm, rfl⟩
          · by_cases hy : Y < X
            · have HR : Hid (cmpL zs ys = 1) := HC2.out hy
              go_wp2_with (first | (go_at_call 70; refine e1.mono ?_; clear e1; rintro e w' ⟨rfl, rfl⟩) | (go_at_call 70; refine e2.mono ?_; clear e2; rintro e w' ⟨rfl, rfl⟩))
              go_ret
              exact ⟨ret_int HR.out.symm, rfl⟩
            · have HR := HEQ.out (by omega)
              have HRR : Hid (∀ j, m ≤ j → a.getD j 0 = b.getD j 0) := HR
              clear HR
              go_wp2_with (first | (go_at_call 70; refine e1.mono ?_; clear e1; rintro e w' ⟨rfl, rfl⟩) | (go_at_call 70; refine e2.mono ?_; clear e2; rintro e w' ⟨rfl, rfl⟩))
              go_round
              case rel => exact ⟨m, by go_num, by omega, HRR⟩
              case measure => simp [intOf]
        · obtain rfl : k = 0 := by omega
          have HR : Hid (cmpL zs ys = 0) := by
            show cmpL zs ys = 0
            have := val_eqD a b fun j => hall.out j (by omega)
            rw [HA.out]; unfold cmpN; rw [if_neg (by omega), if_pos this]
          go_wp2
          go_ret
          exact ⟨ret_int HR.out.symm, rfl⟩
    · rw [decide_eq_false h2] at c2
      have HA : Hid (cmpL zs ys = -2) := if_neg fun h => h2 h.2
      clear h1 h2
      go_enter Tryz.func46, Tryz.ntmps46
      go_wp2_with (first | (go_at_call 68; refine c1.mono ?_; clear c1; rintro e w' ⟨rfl, rfl⟩) | (go_at_call 68; refine c2.mono ?_; clear c2; rintro e w' ⟨rfl, rfl⟩))
      go_ret
      exact ⟨ret_int HA.out.symm, rfl⟩
  · rw [decide_eq_false h1] at c1
    have HA : Hid (cmpL zs ys = -2) := if_neg fun h => h1 h.1
    clear h1 c2
    go_enter Tryz.func46, Tryz.ntmps46
    go_wp2_with (go_at_call 68; refine c1.mono ?_; clear c1; rintro e w' ⟨rfl, rfl⟩)
    go_ret
    exact ⟨ret_int HA.out.symm, rfl⟩
end Go.Proofs.YteadkdllmeeocabGreat
/- Lists that are told as plain numbers. -/
namespace Go.Proofs.YteadkdllmeeocabGreat
open Go.RowKit

theorem ok_nl {n : Nat} (h : n < top) : okL (ans (some n)) := okL_of _ (digs_norm n) ((digs_len 16 n).2 h)
theorem num_nl (n : Nat) : num (ans (some n)) = n := by
  show val (nats (up (digs n))) = n
  rw [nats_up, val_digs]
theorem nl_of {xs : List Int} (h : okL xs) : xs = ans (some (num xs)) := okL_digs xs h
theorem len_nl {n : Nat} (h : n < top) : (ans (some n)).length ≤ 140737488351232 := by have := (ok_nl h).1; omega
theorem addO_nl {m n : Nat} (hm : m < top) (hn : n < top) : addO (ans (some m)) (ans (some n)) = if m + n < top then some (m + n) else none := by
  unfold addO
  rw [num_nl, num_nl]
  by_cases h : m + n < top
  · rw [if_pos ⟨ok_nl hm, ok_nl hn, h⟩, if_pos h]
  · rw [if_neg (fun k => h k.2.2), if_neg h]
theorem mulO_nl {m n : Nat} (hm : m < top) (hn : n < top) : mulO (ans (some m)) (ans (some n)) = if m * n < top then some (m * n) else none := by
  unfold mulO
  rw [num_nl, num_nl]
  by_cases h : m * n < top
  · rw [if_pos ⟨ok_nl hm, ok_nl hn, h⟩, if_pos h]
  · rw [if_neg (fun k => h k.2.2), if_neg h]
theorem subO_nl {m n : Nat} (hm : m < top) (hn : n < top) (h : n ≤ m) : subO (ans (some m)) (ans (some n)) = some (m - n) := by
  unfold subO
  rw [num_nl, num_nl, if_pos ⟨ok_nl hm, ok_nl hn, h⟩]
theorem cmpL_nl {m n : Nat} (hm : m < top) (hn : n < top) : cmpL (ans (some m)) (ans (some n)) = cmpN m n := by
  unfold cmpL
  rw [num_nl, num_nl, if_pos ⟨ok_nl hm, ok_nl hn⟩]
end Go.Proofs.YteadkdllmeeocabGreat
/- The order of fractions, by the specification. -/
namespace Go.Proofs.YteadkdllmeeocabGreat
open Go.RowKit
set_option maxRecDepth 100000

set_option maxHeartbeats 1600000 in
theorem l3Times_any (x y : Nat) (w : World) (hx : x ≤ 4000000000000000) (hy : y ≤ 4000000000000000) :
    Calls Tryz.prog 47 #[.int .i64 x, .int .i64 y] w fun e w' => ∃ v, e = .returned v ∧ OwnN w' w.heap.size v (some (x * y)) ∧ Below w.heap.size w w' := by
  have c1 := fun W => specOf_yes x W (by omega)
  have c2 := fun W => specOf_yes y W (by omega)
  have t1 := prod_top hx hy
  have c3 : ∀ v1 v2 W, RowI W v1 (ans (some x)) → RowI W v2 (ans (some y)) → Calls Tryz.prog 72 #[v1, v2] W fun e w' => ∃ v, e = .returned (.tuple #[v, .bool true]) ∧ OwnN w' W.heap.size v (some (x * y)) ∧ Below W.heap.size W w' := fun v1 v2 W h1 h2 => by
    have hx1 : x < top := by unfold top; omega
    have hy1 : y < top := by unfold top; omega
    have c := specMul_any v1 v2 _ _ W h1 h2 (len_nl hx1) (len_nl hy1)
    rw [mulO_nl hx1 hy1, if_pos (by unfold top; omega)] at c
    exact c
  clear t1 hx hy
  go_enter Tryz.func47, Tryz.ntmps47
  go_wp2_with fail
  refine (c1 _).mono ?_
  rintro e w1 ⟨v1, rfl, o1, b1⟩
  go_wp2_with fail
  refine (c2 _).mono ?_
  rintro e w2 ⟨v2, rfl, o2, b2⟩
  have r1 := (o1.below b2).row
  have r2 := o2.row
  have B2 := b1.trans (b2.mono b1.size)
  go_wp2_with fail
  refine (c3 _ _ _ r1 r2).mono ?_
  rintro e w3 ⟨v3, rfl, o3, b3⟩
  go_wp2
  go_ret
  exact ⟨v3, rfl, o3.base B2.size, B2.trans (b3.mono B2.size)⟩

set_option maxHeartbeats 1600000 in
theorem fracCmpS (a b c d : Int) (w : World) :
    Calls Tryz.prog 22 #[frV a b, frV c d] w fun e w' => e = .returned (.int .i64 (frC a b c d)) ∧ Below w.heap.size w w' := by
  have c1 := fun W => fracOkS a b W
  have c2 := fun W => fracOkS c d W
  obtain ⟨F0, F1, B0⟩ := blk_2 35 35 w #[.int .i64 a, .int .i64 b] #[.int .i64 c, .int .i64 d]
  cases h1 : frB a b
  · rw [frC_no1 h1]
    rw [h1] at c1
    clear h1 c2
    go_enter Tryz.func22, Tryz.ntmps22
    go_wp2_with fail
    refine (c1 _).mono ?_
    rintro e w1 ⟨rfl, hb1⟩
    go_wp2
    go_ret
    exact ⟨rfl, B0.trans (hb1.mono B0.size)⟩
  · rw [h1] at c1
    cases h2 : frB c d
    · rw [frC_no2 h2]
      rw [h2] at c2
      clear h1 h2
      go_enter Tryz.func22, Tryz.ntmps22
      go_wp2_with fail
      refine (c1 _).mono ?_
      rintro e w1 ⟨rfl, hb1⟩
      have B1 := B0.trans (hb1.mono B0.size)
      have F1 := F1.below hb1
      have f0 := FrT.c0 F1
      have f1 := FrT.c1 F1
      go_wp2_with fail
      refine (c2 _).mono ?_
      rintro e w2 ⟨rfl, hb2⟩
      clear f0 f1
      go_wp2
      go_ret
      exact ⟨rfl, B1.trans (hb2.mono B1.size)⟩
    · rw [h2] at c2
      have y1 := frB_yes h1
      have y2 := frB_yes h2
      have e : frC a b c d = cmpN (a.toNat * d.toNat) (c.toNat * b.toNat) := if_pos ⟨h1, h2⟩
      rw [e]
      obtain ⟨a, rfl⟩ := Int.eq_ofNat_of_zero_le (show 0 ≤ a by omega)
      obtain ⟨b, rfl⟩ := Int.eq_ofNat_of_zero_le (show 0 ≤ b by omega)
      obtain ⟨c, rfl⟩ := Int.eq_ofNat_of_zero_le (show 0 ≤ c by omega)
      obtain ⟨d, rfl⟩ := Int.eq_ofNat_of_zero_le (show 0 ≤ d by omega)
      have c3 := fun W => l3Times_any a d W (by omega) (by omega)
      have c4 := fun W => l3Times_any c b W (by omega) (by omega)
      have t1 := prod_top (m := a) (n := d) (by omega) (by omega)
      have t2 := prod_top (m := c) (n := b) (by omega) (by omega)
      have c5 : ∀ v1 v2 W, RowI W v1 (ans (some (a * d))) → RowI W v2 (ans (some (c * b))) → Calls Tryz.prog 46 #[v1, v2] W fun e w' => e = .returned (.int .i64 (cmpN (a * d) (c * b))) ∧ w' = W := fun v1 v2 W h1 h2 => by
        have hx1 : a * d < top := by unfold top; omega
        have hy1 : c * b < top := by unfold top; omega
        have c := specCmp_any v1 v2 _ _ W h1 h2 (len_nl hx1) (len_nl hy1)
        rw [cmpL_nl hx1 hy1] at c
        exact c
      simp only [Int.toNat_natCast]
      generalize cmpN (a * d) (c * b) = C at c5
      generalize a * d = X at c3 c5
      generalize c * b = Y at c4 c5
      clear h1 h2 y1 y2 e t1 t2
      go_enter Tryz.func22, Tryz.ntmps22
      go_wp2_with fail
      refine (c1 _).mono ?_
      rintro e w1 ⟨rfl, hb1⟩
      have B1 := B0.trans (hb1.mono B0.size)
      have F0 := F0.below hb1
      have F1 := F1.below hb1
      have f0 := FrT.c0 F1
      have f1 := FrT.c1 F1
      go_wp2_with fail
      refine (c2 _).mono ?_
      rintro e w2 ⟨rfl, hb2⟩
      clear f0 f1
      have B2 := B1.trans (hb2.mono B1.size)
      have F0 := F0.below hb2
      have F1 := F1.below hb2
      go_wp2_with fail
      refine wp_region_held_drew (S := fun w' => Fr w' w.heap.size a b ∧ Fr w' (w.heap.size + 1) c d) (by kernel_rfl) ⟨F0, F1⟩ ?_
      intro hS
      have B2 := B2.drew
      generalize w2.drew = V at hS B2
      refine takeL 0 (.pointer (some ⟨w.heap.size, 0, none⟩)) rfl (by kernel_rfl) (by kernel_rfl) (by kernel_rfl) (fun _ _ _ h => h) (.inl ⟨by rfl, fun w _ => by rfl⟩) hS ?_
      simp only [Act.put, List.setIfInBounds_toArray, List.set_cons_zero, List.set_cons_succ]
      refine takeL 1 (.int .i64 a) rfl (by kernel_rfl) (by kernel_rfl) (by kernel_rfl) (fun _ _ _ h => h) (yields_int (by rfl) _ rfl _ rfl a (fun _ h => FrT.c0 h.1)) hS ?_
      simp only [Act.put, List.setIfInBounds_toArray, List.set_cons_zero, List.set_cons_succ]
      refine takeL 2 (.pointer (some ⟨w.heap.size + 1, 1, none⟩)) rfl (by kernel_rfl) (by kernel_rfl) (by kernel_rfl) (fun _ _ _ h => h) (.inl ⟨by rfl, fun w _ => by rfl⟩) hS ?_
      simp only [Act.put, List.setIfInBounds_toArray, List.set_cons_zero, List.set_cons_succ]
      refine takeL 3 (.int .i64 d) rfl (by kernel_rfl) (by kernel_rfl) (by kernel_rfl) (fun _ _ _ h => h) (yields_int (by rfl) _ rfl _ rfl d (fun _ h => FrT.c1 h.2)) hS ?_
      simp only [Act.put, List.setIfInBounds_toArray, List.set_cons_zero, List.set_cons_succ]
      refine takeL 5 (.pointer (some ⟨w.heap.size + 1, 0, none⟩)) rfl (by kernel_rfl) (by kernel_rfl) (by kernel_rfl) (fun _ _ _ h => h) (.inl ⟨by rfl, fun w _ => by rfl⟩) hS ?_
      simp only [Act.put, List.setIfInBounds_toArray, List.set_cons_zero, List.set_cons_succ]
      refine takeL 6 (.int .i64 c) rfl (by kernel_rfl) (by kernel_rfl) (by kernel_rfl) (fun _ _ _ h => h) (yields_int (by rfl) _ rfl _ rfl c (fun _ h => FrT.c0 h.2)) hS ?_
      simp only [Act.put, List.setIfInBounds_toArray, List.set_cons_zero, List.set_cons_succ]
      refine takeL 7 (.pointer (some ⟨w.heap.size, 1, none⟩)) rfl (by kernel_rfl) (by kernel_rfl) (by kernel_rfl) (fun _ _ _ h => h) (.inl ⟨by rfl, fun w _ => by rfl⟩) hS ?_
      simp only [Act.put, List.setIfInBounds_toArray, List.set_cons_zero, List.set_cons_succ]
      refine takeL 8 (.int .i64 b) rfl (by kernel_rfl) (by kernel_rfl) (by kernel_rfl) (fun _ _ _ h => h) (yields_int (by rfl) _ rfl _ rfl b (fun _ h => FrT.c1 h.1)) hS ?_
      simp only [Act.put, List.setIfInBounds_toArray, List.set_cons_zero, List.set_cons_succ]
      refine nextL 4 rfl (by kernel_rfl) (by rfl) fun K hK => ?_
      have d3 := c3 V
      go_simp
      refine d3.mono ?_
      rintro e V1 ⟨v1, rfl, o1, hb3⟩
      refine hK _ _ ⟨hS.1.below hb3, hS.2.below hb3⟩ ?_
      clear hK K d3
      intro hS
      have B3 := B2.trans (hb3.mono B2.size)
      refine nextL 9 rfl (by kernel_rfl) (by rfl) fun K hK => ?_
      have d4 := c4 V1
      go_simp
      refine d4.mono ?_
      rintro e V2 ⟨v2, rfl, o2, hb4⟩
      refine hK _ _ ⟨hS.1.below hb4, hS.2.below hb4⟩ ?_
      clear hK K d4
      intro hS
      have B4 := B3.trans (hb4.mono B3.size)
      refine nextL 10 rfl (by kernel_rfl) (by rfl) fun K hK => ?_
      have d5 := c5 v1 v2 V2 (o1.below hb4).row o2.row
      go_simp
      refine d5.mono ?_
      rintro e V3 ⟨rfl, rfl⟩
      refine hK _ _ hS ?_
      clear hK K d5
      intro hS
      refine takeL 11 (.int .i64 C) rfl (by kernel_rfl) (by kernel_rfl) (by kernel_rfl) (fun _ _ _ h => h) (.inl ⟨by rfl, fun w _ => by rfl⟩) hS ?_
      simp only [Act.put, List.setIfInBounds_toArray, List.set_cons_zero, List.set_cons_succ]
      refine wpAnyH_done (by kernel_rfl) ?_ _
      go_wp2
      go_ret
      exact ⟨rfl, B4⟩
end Go.Proofs.YteadkdllmeeocabGreat
