/- Texts of this claim, put together: part 38. -/
import Derived.Test.YteadkdllmeeocabGreatBestOfPack2
import Derived.Test.YteadkdllmeeocabGreatBestOfPack25
import Derived.Test.YteadkdllmeeocabGreatBestOfPack12
import Derived.Test.YteadkdllmeeocabGreatBestOfPack37
/- The specification's small helpers on limbs. -/
namespace Go.Proofs.YteadkdllmeeocabGreat
open Go.RowKit
set_option maxRecDepth 100000

theorem max_any (a b : Nat) (w : World) : Calls Tryz.prog 69 #[.int .i64 (a : Int), .int .i64 (b : Int)] w fun e w' => e = .returned (.int .i64 ((max a b : Nat) : Int)) ∧ w' = w := by
  by_cases h : b < a
  · have e : max a b = a := by omega
    rw [e]
    clear e
    go_enter Tryz.func69, Tryz.ntmps69
    go_wp2
    go_ret
    exact ⟨rfl, rfl⟩
  · have e : max a b = b := by omega
    rw [e]
    clear e
    go_enter Tryz.func69, Tryz.ntmps69
    go_wp2
    go_ret
    exact ⟨rfl, rfl⟩

theorem limb_any (v : Value) (zs : List Int) (k : Nat) (w : World) (hv : RowI w v zs) (hn : zs.length ≤ 140737488351232) (hk : k ≤ 140737488351232) :
    Calls Tryz.prog 70 #[v, .int .i64 (k : Int)] w fun e w' => e = .returned (.int .i64 (zs.getD k 0)) ∧ w' = w := by
  obtain ⟨oa, cap, rfl, hcap, hrow⟩ := hv
  by_cases h : k < zs.length
  · obtain ⟨g, o, rfl, hg, hc⟩ := hrow (by omega)
    have hck := hc k h
    clear hrow hc hg hcap
    generalize zs.getD k 0 = z at hck
    generalize zs.length = n at h hn
    go_enter Tryz.func70, Tryz.ntmps70
    go_wp2
    go_ret
    exact ⟨rfl, rfl⟩
  · have e : zs.getD k 0 = 0 := by rw [List.getD_eq_getElem?_getD, List.getElem?_eq_none (by omega)]; rfl
    rw [e]
    clear hrow hcap e
    generalize zs.length = n at h hn
    go_enter Tryz.func70, Tryz.ntmps70
    go_wp2
    go_ret
    exact ⟨rfl, rfl⟩

set_option maxHeartbeats 800000 in
theorem trim_any (g o n cap : Nat) (a : List Nat) (w : World) (hn : a.length = n) (hcap : n ≤ cap) (hb : n ≤ 1048576) (hg : g < w.heap.size) (hlt : ∀ l ∈ a, l < 16777216)
    (hc : ∀ j, j < n → w.cell? ⟨g, o + j, none⟩ = some (.int .i64 ((a.getD j 0 : Nat) : Int))) :
    Calls Tryz.prog 87 #[.slice (some ⟨g, o, none⟩) n cap] w fun e w' => ∃ v, e = .returned v ∧ OwnN w' w.heap.size v (some (val a)) ∧ v ≠ .slice none 0 0 ∧ Below w.heap.size w w' := by
  obtain ⟨i0, hi, hz0, hz1, hz2⟩ := info_parts intInfo
  have HT : Hid (∀ k, k ≤ n → (∀ j, k ≤ j → j < n → a.getD j 0 = 0) → (k = 0 ∨ a.getD (k - 1) 0 ≠ 0) → a.take k = digs (val a)) := fun k hk h0 h1 => take_digs a k hlt (by omega) (by rw [hn]; exact h0) h1
  have HC : Hid (∀ j, j < n → w.cell? ⟨g, o + j, none⟩ = some (.int .i64 ((a.getD j 0 : Nat) : Int))) := hc
  have HN : Hid (a.length = n) := hn
  have hb1 : Below w.heap.size w (w.alloc (.cells #[] 3)) := (Below.refl _ _).alloc (Nat.le_refl _) _
  clear hc hn
  go_enter Tryz.func87, Tryz.ntmps87
  go_wp2
  go_loop [3] (fun i => ∃ k : Nat, i = .int .i64 k ∧ k ≤ n ∧ Hid (∀ j, k ≤ j → j < n → a.getD j 0 = 0)) (fun i => (intOf i).toNat)
  case atStart => exact ⟨n, rfl, by omega, fun j h1 h2 => by omega⟩
  case round =>
    obtain ⟨k, rfl, hk, hall⟩ := hrel
    have HNEW : Hid (∀ (j : Nat) (u : Value), (((up a).take k).map (Value.int .i64))[j]? = some u → (w.alloc (.cells #[] 3)).cell? ((⟨g, o, none⟩ : Addr).add j) = some u) :=
      row_news fun j hj => by
        rw [up_len, HN.out] at hj
        rw [up_getD]
        exact (hb1.cell (p := ⟨g, o + j, none⟩) hg).trans (HC.out j hj)
    have HL : Hid ((((up a).take k).map (Value.int .i64)).length = k * 1) := by
      show _ = _
      simp [up_len, HN.out]; omega
    have HO : Hid (∀ v' w1, a.take k = digs (val a) → w1.ownsRow w.heap.size 3 1 v' k (((up a).map (Value.int .i64)).take k) → OwnN w1 w.heap.size v' (some (val a))) := by
      intro v' w1 hk2 ho
      show w1.ownsRow _ _ _ v' (up (digs (val a))).length ((up (digs (val a))).map (Value.int .i64))
      rw [← hk2, ← up_take, List.length_take, up_len, HN.out, show min k n = k by omega, List.map_take]
      exact ho
    by_cases h0 : 0 < k
    · have hc := HC.out (k - 1) (by omega)
      generalize hX : a.getD (k - 1) 0 = X at hc
      have HX : Hid (a.getD (k - 1) 0 = X) := hX
      clear hX
      by_cases hz : X = 0
      · subst hz
        clear HNEW HL HO
        go_wp2
        go_round
        case rel =>
          refine ⟨k - 1, by go_num, by omega, fun j h1 h2 => ?_⟩
          by_cases e : j = k - 1
          · subst e; exact HX.out
          · exact hall.out j (by omega) h2
        case measure => simp [intOf]; omega
      · have hzb : ((X : Int) == 0) = false := by rw [eq0_cast]; simp [hz]
        have HK : Hid (a.take k = digs (val a)) := HT.out k hk hall.out (.inr (by rw [HX.out]; exact hz))
        go_wp2_with (at_builtin; refine wpList_append_own _ rfl _ _ 26 rfl w.heap.size 3 i0 (.int .i64 0) 1 8 Tryz.underlying26 hi hz0 hz1 hz2 rfl (by decide) _ _ _ rfl (ownI_lit0 w _ (Nat.le_refl _)) ⟨g, o, none⟩ k _ (((up a).take k).map (Value.int .i64)) rfl HL.out HNEW.out (ints_oneCell .i64 _) (by unfold maxLen; omega) (by omega) (by simp) ?_)
        intro v' w1 ho hgr hnil
        have hb2 : Below w.heap.size w w1 := hb1.grown hgr (by simp) (by intro j hj; cases hj; exact Nat.le_refl _)
        have hne : v' ≠ .slice none 0 0 := hnil
        have hov := HO.out v' w1 HK.out ho
        clear hgr hnil ho
        go_wp2
        go_ret
        exact ⟨_, rfl, hov, hne, hb2⟩
    · obtain rfl : k = 0 := by omega
      have HK : Hid (a.take 0 = digs (val a)) := HT.out 0 hk hall.out (.inl rfl)
      go_wp2_with (at_builtin; refine wpList_append_own _ rfl _ _ 26 rfl w.heap.size 3 i0 (.int .i64 0) 1 8 Tryz.underlying26 hi hz0 hz1 hz2 rfl (by decide) _ _ _ rfl (ownI_lit0 w _ (Nat.le_refl _)) ⟨g, o, none⟩ 0 _ (((up a).take 0).map (Value.int .i64)) rfl HL.out HNEW.out (ints_oneCell .i64 _) (by unfold maxLen; omega) (by omega) (by simp) ?_)
      intro v' w1 ho hgr hnil
      have hb2 : Below w.heap.size w w1 := hb1.grown hgr (by simp) (by intro j hj; cases hj; exact Nat.le_refl _)
      have hne : v' ≠ .slice none 0 0 := hnil
      have hov := HO.out v' w1 HK.out (by simpa using ho)
      clear hgr hnil ho
      go_wp2
      go_ret
      exact ⟨_, rfl, hov, hne, hb2⟩
end Go.Proofs.YteadkdllmeeocabGreat
/- The specification's test of a great number. -/
namespace Go.Proofs.YteadkdllmeeocabGreat
open Go.RowKit
set_option maxRecDepth 100000

set_option maxHeartbeats 800000 in
theorem specOk_any (v : Value) (zs : List Int) (w : World) (hv : RowI w v zs) (hn : zs.length ≤ 140737488351232) :
    Calls Tryz.prog 68 #[v] w fun e w' => e = .returned (.bool (decide (okL zs))) ∧ w' = w := by
  obtain ⟨oa, cap, rfl, hcap, hrow⟩ := hv
  have HO : Hid (okL zs ↔ zs.length ≤ 16 ∧ (∀ j, j < zs.length → 0 ≤ zs.getD j 0 ∧ zs.getD j 0 < 16777216) ∧ (zs.length = 0 ∨ zs.getD (zs.length - 1) 0 ≠ 0)) := okL_iff zs
  generalize hd : decide (okL zs) = D
  have HD : Hid (decide (okL zs) = D) := hd
  clear hd hcap
  generalize hl : zs.length = n at hn hrow HO
  have HL : Hid (zs.length = n) := hl
  clear hl
  by_cases hbig : 16 < n
  · have hD : D = false := by rw [← HD.out]; apply decide_eq_false; rw [HO.out]; omega
    subst hD
    clear hrow
    go_enter Tryz.func68, Tryz.ntmps68
    go_wp2
    go_ret
    exact ⟨rfl, rfl⟩
  · have HR : Hid (0 < n → ∃ g o, oa = some ⟨g, o, none⟩ ∧ g < w.heap.size ∧ ∀ j, j < n → w.cell? ⟨g, o + j, none⟩ = some (.int .i64 (zs.getD j 0))) := hrow
    clear hrow
    go_enter Tryz.func68, Tryz.ntmps68
    go_wp2
    go_loop [3] (fun i => ∃ k : Nat, i = .int .i64 k ∧ k ≤ n ∧ Hid (∀ j, j < k → 0 ≤ zs.getD j 0 ∧ zs.getD j 0 < 16777216)) (fun i => n - (intOf i).toNat)
    case atStart => exact ⟨0, rfl, by omega, fun j hj => by omega⟩
    case round =>
      obtain ⟨k, rfl, hk, hall⟩ := hrel
      by_cases hlt : k < n
      · obtain ⟨g, o, rfl, hg, hc⟩ := HR.out (by omega)
        have hck := hc k hlt
        clear hc hg
        generalize hz : zs.getD k 0 = z at hck
        have HZ : Hid (zs.getD k 0 = z) := hz
        clear hz
        by_cases hin : 0 ≤ z ∧ z ≤ 16777215
        · have hd : decide (0 ≤ z ∧ z ≤ 16777215) = true := by simpa using hin
          have HI : Hid (0 ≤ z ∧ z ≤ 16777215) := hin
          have HDD : Hid (decide (0 ≤ z ∧ z ≤ 16777215) = true) := hd
          clear hin hd
          go_wp2_with (go_at_call 19; refine (in_any _ _ _ _).mono ?_; rintro e w' ⟨rfl, rfl⟩; rw [HDD.out])
          go_round
          case rel =>
            refine ⟨k + 1, by go_num, by omega, fun j hj => ?_⟩
            by_cases e : j = k
            · subst e; rw [HZ.out]; have := HI.out; omega
            · exact hall.out j (by omega)
          case measure => simp [intOf]; omega
        · have hd : decide (0 ≤ z ∧ z ≤ 16777215) = false := by simpa using hin
          have hD : D = false := by
            rw [← HD.out]; apply decide_eq_false; rw [HO.out]; intro h
            have := h.2.1 k hlt
            rw [HZ.out] at this; omega
          subst hD
          have HDD : Hid (decide (0 ≤ z ∧ z ≤ 16777215) = false) := hd
          clear hin hd
          go_wp2_with (go_at_call 19; refine (in_any _ _ _ _).mono ?_; rintro e w' ⟨rfl, rfl⟩; rw [HDD.out])
          go_ret
          exact ⟨rfl, rfl⟩
      · obtain rfl : k = n := by omega
        by_cases h0 : k = 0
        · subst h0
          have hD : D = true := by
            rw [← HD.out]; apply decide_eq_true; rw [HO.out]; exact ⟨by omega, hall.out, .inl rfl⟩
          subst hD
          go_wp2
          go_ret
          exact ⟨rfl, rfl⟩
        · obtain ⟨g, o, rfl, hg, hc⟩ := HR.out (by omega)
          have hck := hc (k - 1) (by omega)
          clear hc hg
          have hD : D = decide (zs.getD (k - 1) 0 ≠ 0) := by
            rw [← HD.out]; apply decide_eq_decide.2; rw [HO.out]
            exact ⟨fun h => by have := h.2.2; omega, fun h => ⟨by omega, hall.out, .inr h⟩⟩
          clear HD HO HR
          generalize hz : zs.getD (k - 1) 0 = z at hck hD
          have HDD : Hid (D = decide (z ≠ 0)) := hD
          have hk0 : ((k : Int) == 0) = false := by simp [h0]
          clear hD hz
          go_wp2
          go_ret
          refine ⟨?_, rfl⟩
          rw [HDD.out]
          by_cases hz0 : z = 0 <;> simp [hz0]
end Go.Proofs.YteadkdllmeeocabGreat
/- Lists that the specification makes, limb by limb. -/
namespace Go.Proofs.YteadkdllmeeocabGreat
open Go.RowKit
set_option maxRecDepth 100000

theorem step_row {w wr w1 : World} {v v' : Value} {done : List Nat} {d : Nat} {o : Obj} (hb : Below w.heap.size w wr) (hown : wr.ownsRow w.heap.size 3 1 v done.length ((up done).map (Value.int .i64)))
    (hown' : w1.ownsRow w.heap.size 3 1 v' (done.length + 1) ((up done).map (Value.int .i64) ++ [.int .i64 (d : Int)])) (hgrow : (wr.alloc o).grownBy w1 v.ownBlock) :
    w1.ownsRow w.heap.size 3 1 v' (done ++ [d]).length ((up (done ++ [d])).map (Value.int .i64)) ∧ Below w.heap.size w w1 := by
  have hs := hb.size
  refine ⟨by simpa [up_snoc] using hown', (hb.alloc hs o).grown hgrow (by simp; omega) fun k hk => (hown.lt k hk).1⟩
theorem lit0A (w : World) (b : Nat) (hb : b ≤ w.heap.size) : OwnN (w.alloc (.cells #[] 3)) b (.slice (some ⟨w.heap.size, 0, none⟩) 0 0) none := ownI_lit0 w b hb
end Go.Proofs.YteadkdllmeeocabGreat
/- The specification's great number of a number. -/
namespace Go.Proofs.YteadkdllmeeocabGreat
open Go.RowKit
set_option maxRecDepth 100000

set_option maxHeartbeats 800000 in
theorem specOf_yes (n0 : Nat) (w : World) (h : n0 ≤ 9223372036854775807) :
    Calls Tryz.prog 71 #[.int .i64 n0] w fun e w' => ∃ v, e = .returned (.tuple #[v, .bool true]) ∧ OwnN w' w.heap.size v (some n0) ∧ Below w.heap.size w w' := by
  obtain ⟨i0, hi, hz0, hz1, hz2⟩ := info_parts intInfo
  have hb1 : Below w.heap.size w (w.alloc (.cells #[] 3)) := (Below.refl _ _).alloc (Nat.le_refl _) _
  have hr0 := ownI_lit0 w w.heap.size (Nat.le_refl _)
  go_enter Tryz.func71, Tryz.ntmps71
  go_wp2
  go_loopw [0, 4] (fun n out wr => ∃ (k cur : Nat) (done : List Nat), n = .int .i64 cur ∧ k ≤ 3 ∧ cur ≤ 9223372036854775807 ∧ Hid (cur < 16777216 ^ (3 - k)) ∧ done.length = k ∧ Hid (done ++ digs cur = digs n0) ∧
      wr.ownsRow w.heap.size 3 1 out done.length ((up done).map (Value.int .i64)) ∧ Below w.heap.size w wr) (fun n _ _ => (intOf n).toNat)
  case atStart => exact ⟨0, n0, [], rfl, by omega, h, (by show n0 < _; omega), rfl, (by show _ = _; simp), hr0, hb1⟩
  case round =>
    obtain ⟨k, cur, done, rfl, hk, hcur, hpow, hlen, hE, hown, hbr⟩ := hrel
    clear hr0 hb1
    have hs := hbr.size
    by_cases hlt : 0 < cur
    · have hk3 : k < 3 := by
        rcases Nat.lt_or_ge k 3 with h1 | h1
        · exact h1
        · have := hpow.out; rw [show 3 - k = 0 by omega] at this; omega
      go_wp2_with (at_builtin; refine wpList_append_own _ rfl _ _ 26 rfl w.heap.size 3 i0 (.int .i64 0) 1 8 Tryz.underlying26 hi hz0 hz1 hz2 rfl (by decide) _ _ _ rfl (hown.alloc _) ⟨wr.heap.size, 0, none⟩ 1 1 [_] rfl rfl (newc _ _ _) (ints_oneCell .i64 [_]) (by unfold maxLen; omega) (by omega) (by simp; omega) ?_)
      intro v' w1 hown' hgrow _
      have e : (cur : Int) % 16777216 = ((cur % 16777216 : Nat) : Int) := by omega
      rw [e] at hown'
      have R := step_row hbr hown (by rw [hlen]; exact hown') hgrow
      clear hown' hgrow hown e
      go_wp2
      go_roundw
      case rel =>
        refine ⟨k + 1, cur / 16777216, done ++ [cur % 16777216], by go_num, by omega, by omega, ?_, by simp [hlen], ?_, R.1, R.2⟩
        · show _ < _
          have := hpow.out
          rw [show 3 - k = 3 - (k + 1) + 1 by omega, Nat.pow_succ] at this
          exact Nat.div_lt_of_lt_mul (by rw [Nat.mul_comm]; exact this)
        · show _ = _
          rw [← hE.out, digs_pos cur hlt]; simp
      case measure => simp [intOf]; omega
    · obtain rfl : cur = 0 := by omega
      have HF : Hid (done = digs n0) := by
        show done = _
        rw [← hE.out, digs_zero, List.append_nil]
      go_wp2
      go_ret2
      refine ⟨_, rfl, ?_, hbr⟩
      show wr.ownsRow _ _ _ _ (up (digs n0)).length ((up (digs n0)).map (Value.int .i64))
      rw [← HF.out, up_len]; exact hown

theorem specOf_any (n : Int) (w : World) (h : n ≤ 9223372036854775807) :
    Calls Tryz.prog 71 #[.int .i64 n] w fun e w' => ∃ v, e = .returned (.tuple #[v, .bool (ofO n).isSome]) ∧ OwnN w' w.heap.size v (ofO n) ∧ Below w.heap.size w w' := by
  unfold ofO
  by_cases h0 : 0 ≤ n
  · rw [if_pos h0]
    obtain ⟨m, rfl⟩ := Int.eq_ofNat_of_zero_le h0
    exact specOf_yes m w (by omega)
  · rw [if_neg h0]
    have hb1 : Below w.heap.size w (w.alloc (.cells #[] 3)) := (Below.refl _ _).alloc (Nat.le_refl _) _
    have hl0 := lit0A w w.heap.size (Nat.le_refl _)
    go_enter Tryz.func71, Tryz.ntmps71
    go_wp2
    go_ret2
    exact ⟨_, rfl, hl0, hb1⟩
end Go.Proofs.YteadkdllmeeocabGreat
