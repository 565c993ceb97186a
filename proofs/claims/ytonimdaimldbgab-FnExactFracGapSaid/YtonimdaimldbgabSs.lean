/- The specification's difference of two great numbers. -/
import Derived.Test.YtonimdaimldbgabSb
import Derived.Test.YtonimdaimldbgabSc
import Derived.Deep.QuietTactic
import Derived.BigQuiet
import Derived.WalkSmall
namespace Go.Proofs.Ytonimdaimldbgab
open Go.RowKit
set_option maxRecDepth 100000

theorem sub_step {a b done : List Nat} {k br : Nat} (hl : done.length = k) (hv : val done + val (b.take k) = val (a.take k) + 16777216 ^ k * br) (d c : Nat) (h1 : d + b.getD k 0 + br = a.getD k 0 + 16777216 * c) :
    val (done ++ [d]) + val (b.take (k + 1)) = val (a.take (k + 1)) + 16777216 ^ (k + 1) * c := by
  have e2 := congrArg (16777216 ^ k * ·) h1
  simp only [Nat.mul_add] at e2
  rw [val_snoc, hl, val_takeD, val_takeD, Nat.pow_succ, Nat.mul_assoc]
  omega
theorem sub_done {a b done : List Nat} {br : Nat} (hbn : Norm b) (hl : done.length = a.length) (hd : ∀ l ∈ done, l < 16777216) (ha : ∀ l ∈ a, l < 16777216) (hle : val b ≤ val a)
    (hv : val done + val (b.take a.length) = val (a.take a.length) + 16777216 ^ a.length * br) : val done = val a - val b := by
  have h1 := val_lt a ha
  have h2 : b.length ≤ a.length := by
    have := (digs_len a.length (val b)).2 (by omega)
    rw [digs_val b hbn] at this; exact this
  have h3 := val_lt done hd
  rw [List.take_of_length_le h2, List.take_of_length_le (Nat.le_refl _)] at hv
  rw [hl] at h3
  cases br with
  | zero => omega
  | succ c => rw [Nat.mul_succ] at hv; have := Nat.zero_le (16777216 ^ a.length * c); omega

set_option maxHeartbeats 1600000 in
theorem specSub_any (v1 v2 : Value) (zs ys : List Int) (w : World) (hv1 : RowI w v1 zs) (hv2 : RowI w v2 ys) (hn1 : zs.length ≤ 140737488351232) (hn2 : ys.length ≤ 140737488351232) :
    Calls Try.prog 15 #[v1, v2] w fun e w' => ∃ v, e = .returned (.tuple #[v, .bool (subO zs ys).isSome]) ∧ OwnA w' w.heap.size v (subO zs ys) ∧ Below w.heap.size w w' := by
  obtain ⟨i0, hi, hz0, hz1, hz2⟩ := info_parts intInfo
  have hb1 : Below w.heap.size w (w.alloc (.cells #[] 3)) := (Below.refl _ _).alloc (Nat.le_refl _) _
  have c1 := specOk_any v1 zs _ (hv1.later hb1) hn1
  have c2 := specOk_any v2 ys _ (hv2.later hb1) hn2
  have c3 := specCmp_any v1 v2 zs ys _ (hv1.later hb1) (hv2.later hb1) hn1 hn2
  have hl0 := lit0A w w.heap.size (Nat.le_refl _)
  by_cases h1 : okL zs
  · rw [decide_eq_true h1] at c1
    by_cases h2 : okL ys
    · rw [decide_eq_true h2] at c2
      by_cases hle : num ys ≤ num zs
      · have HA : Hid (subO zs ys = some (num zs - num ys)) := if_pos ⟨h1, h2, hle⟩
        have hC : cmpL zs ys = cmpN (num zs) (num ys) := if_pos ⟨h1, h2⟩
        have hC0 : 0 ≤ cmpN (num zs) (num ys) := by unfold cmpN; rw [if_neg (by omega)]; split <;> omega
        rw [hC] at c3
        generalize cmpN (num zs) (num ys) = C at c3 hC0
        clear hC
        have hzs := okL_up zs h1
        have hys := okL_up ys h2
        have hn3 : (nats zs).length ≤ 16 := by have := h1.1; simp [nats]; exact this
        have ha := (okL_norm zs h1).lt
        have hbn := okL_norm ys h2
        unfold num at HA hle
        generalize nats zs = a at HA hzs ha hn3 hle
        generalize nats ys = b at HA hys hbn hle
        have HLA : Hid (∀ l ∈ a, l < 16777216) := ha
        have HBN : Hid (Norm b) := hbn
        have HLE : Hid (val b ≤ val a) := hle
        have k1 : zs.length = a.length := by rw [hzs, up_len]
        have d2 : ∀ (W : World) (k : Nat), Below w.heap.size w W → k ≤ 100 → Calls Try.prog 26 #[v2, .int .i64 (k : Int)] W fun e w' => e = .returned (.int .i64 ((b.getD k 0 : Nat) : Int)) ∧ w' = W := fun W k hW hk => by
          have := limb_any v2 ys k W (hv2.later hW) hn2 (by omega)
          rw [hys, up_getD] at this; exact this
        obtain ⟨o1, p1, rfl, hp1, hrow⟩ := hv1
        have hrow' : 0 < a.length → ∃ g o, o1 = some ⟨g, o, none⟩ ∧ g < w.heap.size ∧ ∀ j, j < a.length → w.cell? ⟨g, o + j, none⟩ = some (.int .i64 ((a.getD j 0 : Nat) : Int)) := fun h0 => by
          obtain ⟨g, o, h3, h4, h5⟩ := hrow (by omega)
          refine ⟨g, o, h3, h4, fun j hj => ?_⟩
          have := h5 j (by omega)
          rw [hzs, up_getD] at this; exact this
        have HR : Hid (0 < a.length → ∃ g o, o1 = some ⟨g, o, none⟩ ∧ g < w.heap.size ∧ ∀ j, j < a.length → w.cell? ⟨g, o + j, none⟩ = some (.int .i64 ((a.getD j 0 : Nat) : Int))) := hrow'
        rw [k1] at c1 c3 ⊢
        have hn1' : a.length ≤ 16 := hn3
        clear h1 h2 hzs hys k1 ha hbn hn1 hn2 hn3 hle hrow hrow' hp1
        go_enter Try.func15, Try.ntmps15
        go_wp2_with (first | (go_at_call 25; refine c1.mono ?_; clear c1; rintro e w' ⟨rfl, rfl⟩) | (go_at_call 25; refine c2.mono ?_; clear c2; rintro e w' ⟨rfl, rfl⟩) | (go_at_call 24; refine c3.mono ?_; clear c3; rintro e w' ⟨rfl, rfl⟩))
        have hr0 := ownI_lit0 w w.heap.size (Nat.le_refl _)
        go_loopw [6, 7, 8] (fun out c i wr => ∃ (k br : Nat) (done : List Nat), i = .int .i64 k ∧ c = .int .i64 br ∧ k ≤ a.length ∧ br ≤ 1 ∧ done.length = k ∧ Hid (∀ l ∈ done, l < 16777216) ∧
            Hid (val done + val (b.take k) = val (a.take k) + 16777216 ^ k * br) ∧ wr.ownsRow w.heap.size 3 1 out done.length ((up done).map (Value.int .i64)) ∧ out ≠ .slice none 0 0 ∧ Below w.heap.size w wr) (fun _ _ i _ => a.length - (intOf i).toNat)
        case atStart => exact ⟨0, 0, [], rfl, rfl, by omega, by omega, rfl, (fun l hl => by cases hl), (by show _ = _; simp [val]), hr0, (by intro h; cases h), hb1⟩
        case round =>
          obtain ⟨k, br, done, rfl, rfl, hk, hbr1, hlen, hdl, hv, hown, hne, hbr⟩ := hrel
          clear hr0 hb1 hl0
          have hs := hbr.size
          have HNE : Hid (u6 ≠ .slice none 0 0) := hne
          clear hne
          by_cases hlt : k < a.length
          · obtain ⟨g, o, rfl, hg, hc⟩ := HR.out (by omega)
            have hck := (hbr.cell (p := ⟨g, o + k, none⟩) hg).trans (hc k hlt)
            clear hc
            have hlx : a.getD k 0 < 16777216 := getD_lt a HLA.out k
            have hly : b.getD k 0 < 16777216 := getD_lt b HBN.out.lt k
            have e2 : ∀ q, Calls Try.prog 26 #[v2, .int .i64 (k : Int)] (wr.drewN q) fun e w' => e = .returned (.int .i64 ((b.getD k 0 : Nat) : Int)) ∧ w' = wr.drewN q := fun q => d2 (wr.drewN q) k (below_drewN hbr q) (by omega)
            have ST : Hid (∀ d c, d + b.getD k 0 + br = a.getD k 0 + 16777216 * c → val (done ++ [d]) + val (b.take (k + 1)) = val (a.take (k + 1)) + 16777216 ^ (k + 1) * c) := fun d c h => sub_step hlen hv.out d c h
            generalize a.getD k 0 = X at hck hlx ST
            generalize b.getD k 0 = Y at e2 hly ST
            clear d2 hv
            go_wp2
            go_quiet (first | (go_at_call 26; refine Calls.quiet_of_same (e2 _)))
            have hown : (wr.drewN nq).ownsRow w.heap.size 3 1 u6 done.length ((up done).map (Value.int .i64)) := own_below hown (below_drewN (Below.refl _ _) nq)
            have hbr := below_drewN hbr nq
            have hs := hbr.size
            generalize wr.drewN nq = W at hown hbr hs
            clear e2 hck
            by_cases hneg : X < Y + br
            · obtain ⟨d, hd⟩ : ∃ d : Nat, (X : Int) - Y - br + 16777216 = d := ⟨X + 16777216 - Y - br, by omega⟩
              have hdd : d + Y + br = X + 16777216 * 1 := by omega
              have hd1 : d < 16777216 := by omega
              have hng : (X : Int) - Y - br < 0 := by omega
              have HSN : Hid (val (done ++ [d]) + val (b.take (k + 1)) = val (a.take (k + 1)) + 16777216 ^ (k + 1) * 1) := ST.out d 1 hdd
              clear ST hdd hneg
              go_wp2_with (at_builtin; refine wpList_append_own _ rfl _ _ 24 rfl w.heap.size 3 i0 (.int .i64 0) 1 8 Try.underlying24 hi hz0 hz1 hz2 rfl (by decide) _ _ _ rfl (hown.alloc _) ⟨W.heap.size, 0, none⟩ 1 1 [_] rfl rfl (newc _ _ _) (ints_oneCell .i64 [_]) (by unfold maxLen; omega) (by omega) (by simp; omega) ?_)
              intro v' w1 hown' hgrow hnv
              have R := step_row hbr hown (by rw [hlen]; exact hown') hgrow
              have HNV : Hid (v' ≠ .slice none 0 0) := hnv
              clear hown' hgrow hown hnv
              go_wp2
              go_roundw
              case rel => exact ⟨k + 1, 1, done ++ [d], by go_num, rfl, by omega, by omega, by simp [hlen], snoc_lt hdl.out hd1, HSN, R.1, HNV.out, R.2⟩
              case measure => simp [intOf]; omega
            · obtain ⟨d, hd⟩ : ∃ d : Nat, (X : Int) - Y - br = d := ⟨X - Y - br, by omega⟩
              have hdd : d + Y + br = X + 16777216 * 0 := by omega
              have hd1 : d < 16777216 := by omega
              have HSN : Hid (val (done ++ [d]) + val (b.take (k + 1)) = val (a.take (k + 1)) + 16777216 ^ (k + 1) * 0) := ST.out d 0 hdd
              clear ST hdd hneg
              rw [hd]
              go_wp2_with (at_builtin; refine wpList_append_own _ rfl _ _ 24 rfl w.heap.size 3 i0 (.int .i64 0) 1 8 Try.underlying24 hi hz0 hz1 hz2 rfl (by decide) _ _ _ rfl (hown.alloc _) ⟨W.heap.size, 0, none⟩ 1 1 [_] rfl rfl (newc _ _ _) (ints_oneCell .i64 [_]) (by unfold maxLen; omega) (by omega) (by simp; omega) ?_)
              intro v' w1 hown' hgrow hnv
              have R := step_row hbr hown (by rw [hlen]; exact hown') hgrow
              have HNV : Hid (v' ≠ .slice none 0 0) := hnv
              clear hown' hgrow hown hnv
              go_wp2
              go_roundw
              case rel => exact ⟨k + 1, 0, done ++ [d], by go_num, rfl, by omega, by omega, by simp [hlen], snoc_lt hdl.out hd1, HSN, R.1, HNV.out, R.2⟩
              case measure => simp [intOf]; omega
          · obtain rfl : k = a.length := by omega
            have hval := sub_done HBN.out hlen hdl.out HLA.out HLE.out hv.out
            obtain ⟨g, cap, cur, hout, hgb, hcur, hcap, hr⟩ : ∃ g cap cur, _ ∧ _ ∧ _ ∧ _ ∧ _ := by
              rcases hown.2 with ⟨h0, _⟩ | h
              · exact absurd h0 HNE.out
              · exact h
            subst hout
            have hg : g < wr.heap.size := (Array.getElem?_eq_some_iff.1 hcur).1
            have hcell : ∀ j, j < done.length → wr.cell? ⟨g, 0 + j, none⟩ = some (.int .i64 ((done.getD j 0 : Nat) : Int)) := fun j hj => by
              have := own_cellsI (zs := up done) (n := done.length) (up_len done) hown j hj
              rw [up_getD] at this; exact this
            have e4 := trim_any g 0 done.length cap done wr rfl (by omega) (by omega) hg hdl.out hcell
            rw [hval] at e4
            clear hcell hcap hr hcur hgb hown d2 hdl hv hval
            rw [hlen] at e4
            generalize val a - val b = D at e4 HA
            go_wp2_with (go_at_call 27; refine e4.mono ?_; clear e4; rintro e w2 ⟨v, rfl, hov, hne, hb4⟩)
            go_ret2
            rw [HA.out]
            exact ⟨_, rfl, hov.base hs, hbr.trans (hb4.mono hs)⟩
      · have HA : Hid (subO zs ys = none) := if_neg fun h => hle h.2.2
        have hC : cmpL zs ys = -1 := by
          have : cmpL zs ys = cmpN (num zs) (num ys) := if_pos ⟨h1, h2⟩
          rw [this]; unfold cmpN; rw [if_pos (by omega)]
        rw [hC] at c3
        clear h1 h2 hle hC
        go_enter Try.func15, Try.ntmps15
        go_wp2_with (first | (go_at_call 25; refine c1.mono ?_; clear c1; rintro e w' ⟨rfl, rfl⟩) | (go_at_call 25; refine c2.mono ?_; clear c2; rintro e w' ⟨rfl, rfl⟩) | (go_at_call 24; refine c3.mono ?_; clear c3; rintro e w' ⟨rfl, rfl⟩))
        go_ret2
        rw [HA.out]
        exact ⟨_, rfl, hl0, hb1⟩
    · rw [decide_eq_false h2] at c2
      have HA : Hid (subO zs ys = none) := if_neg fun h => h2 h.2.1
      clear h1 h2 c3
      go_enter Try.func15, Try.ntmps15
      go_wp2_with (first | (go_at_call 25; refine c1.mono ?_; clear c1; rintro e w' ⟨rfl, rfl⟩) | (go_at_call 25; refine c2.mono ?_; clear c2; rintro e w' ⟨rfl, rfl⟩))
      go_ret2
      rw [HA.out]
      exact ⟨_, rfl, hl0, hb1⟩
  · rw [decide_eq_false h1] at c1
    have HA : Hid (subO zs ys = none) := if_neg fun h => h1 h.1
    clear h1 c2 c3
    go_enter Try.func15, Try.ntmps15
    go_wp2_with (go_at_call 25; refine c1.mono ?_; clear c1; rintro e w' ⟨rfl, rfl⟩)
    go_ret2
    rw [HA.out]
    exact ⟨_, rfl, hl0, hb1⟩
end Go.Proofs.Ytonimdaimldbgab
