/- The specification's NatInt. -/
import Derived.Test.YtohibeiagapodaaSk
import Derived.Test.YtohibeiagapodaaSx
import Derived.Test.YtohibeiagapodaaIi
namespace Go.Proofs.Ytohibeiagapodaa
open Go.RowKit
set_option maxRecDepth 100000

theorem down_step {V l T : Nat} (hT : T = l + 16777216 * V) (hle : T ≤ 9223372036854775807) : wrap64 (wrap64 ((V : Int) * 16777216) + (l : Int)) = (T : Int) := by
  simp only [wrap64]
  omega

set_option maxHeartbeats 1600000 in
theorem specInt_no (v : Value) (zs : List Int) (w : World) (hv : RowI w v zs) (hn : zs.length ≤ 140737488351232) (h1 : ¬ okL zs) :
    Calls Try.prog 22 #[v] w fun e w' => e = .returned (.tuple #[.int .i64 0, .bool false]) ∧ w' = w := by
  have c1 := specOk_any v zs w hv hn
  rw [decide_eq_false h1] at c1
  obtain ⟨oa, cap, rfl, _, _⟩ := hv
  go_enter Try.func22, Try.ntmps22
  go_wp2_with (go_at_call 12; refine c1.mono ?_; clear c1; rintro e w' ⟨rfl, rfl⟩)
  go_ret2
  exact ⟨rfl, rfl⟩

set_option maxHeartbeats 1600000 in
theorem specInt_ok (v : Value) (zs : List Int) (w : World) (hv : RowI w v zs) (hn : zs.length ≤ 140737488351232) (h1 : okL zs) :
    Calls Try.prog 22 #[v] w fun e w' => e = .returned (.tuple #[.int .i64 (intV zs), .bool (intO zs).isSome]) ∧ w' = w := by
  have c1 := specOk_any v zs w hv hn
  rw [decide_eq_true h1] at c1
  have hzs := okL_up zs h1
  have hn3 : (nats zs).length ≤ 16 := by have := h1.1; simp [nats]; exact this
  have hN := okL_norm zs h1
  have hfit := int_fits (nats zs) hN
  have HI : Hid (intO zs = if num zs ≤ 9223372036854775807 then some (num zs) else none) := by
    show _ = _
    unfold intO
    by_cases h : num zs ≤ 9223372036854775807
    · rw [if_pos ⟨h1, h⟩, if_pos h]
    · rw [if_neg (fun k => h k.2), if_neg h]
  unfold num at HI
  obtain ⟨oa, cap, rfl, _, hrow⟩ := hv
  have k1 : zs.length = (nats zs).length := by simp [nats]
  have hrow' : 0 < (nats zs).length → ∃ g o, oa = some ⟨g, o, none⟩ ∧ g < w.heap.size ∧ ∀ j, j < (nats zs).length → w.cell? ⟨g, o + j, none⟩ = some (.int .i64 (((nats zs).getD j 0 : Nat) : Int)) := by
    intro h0
    obtain ⟨g, o, e, hg, hc⟩ := hrow (by omega)
    refine ⟨g, o, e, hg, fun j hj => ?_⟩
    rw [hc j (by omega), hzs, up_getD, ← hzs]
  rw [k1] at c1 ⊢
  unfold intV
  have hlt := hN.lt
  generalize nats zs = a at c1 hn3 hfit HI hrow' hlt
  generalize intO zs = O at HI
  generalize hlen : a.length = n at c1 hn3 hfit hrow'
  have HN : Hid (a.length = n) := hlen
  have HR : Hid (0 < n → ∃ g o, oa = some ⟨g, o, none⟩ ∧ g < w.heap.size ∧ ∀ j, j < n → w.cell? ⟨g, o + j, none⟩ = some (.int .i64 ((a.getD j 0 : Nat) : Int))) := hrow'
  have HF : Hid (val a ≤ 9223372036854775807 ↔ n ≤ 3 ∧ (n = 3 → a.getD 2 0 ≤ 32767)) := hfit
  have HB : Hid (∀ l ∈ a, l < 16777216) := hlt
  clear hn h1 hN hfit hrow hrow' k1 hlt hlen hzs
  by_cases hbig : 3 < n
  · have hO : O = none := by rw [HI.out, if_neg (fun h => by have := HF.out.1 h; omega)]
    subst hO
    go_enter Try.func22, Try.ntmps22
    go_wp2_with (go_at_call 12; refine c1.mono ?_; clear c1; rintro e w' ⟨rfl, rfl⟩)
    go_ret2
    exact ⟨rfl, rfl⟩
  · have hback : val a ≤ 9223372036854775807 → n ≤ 3 := fun h => (HF.out.1 h).1
    have hn3' : n ≤ 3 := by omega
    have GO : ∀ (hsm : val a ≤ 9223372036854775807) (e3 : n = 3 → ∃ g o, oa = some ⟨g, o, none⟩ ∧ ∃ t : Nat, t ≤ 32767 ∧ w.cell? ⟨g, o + 2, none⟩ = some (.int .i64 (t : Int))), Calls Try.prog 22 #[.slice oa n cap] w fun e w' => e = .returned (.tuple #[.int .i64 ((O.getD 0 : Nat) : Int), .bool O.isSome]) ∧ w' = w := by
      intro hsm e3
      have hO : O = some (val a) := by rw [HI.out, if_pos hsm]
      subst hO
      have HS : Hid (val a ≤ 9223372036854775807) := hsm
      have LOOP : ∀ k, k ≤ n → Hid (∀ j, j < k → j < n) := fun k hk j hj => by omega
      clear hbig hback hsm LOOP HI HF
      have hgo : n = 3 ∨ n < 3 := by omega
      rcases hgo with rfl | hl
      · obtain ⟨g, o, rfl, t, ht, hct⟩ := e3 rfl
        clear e3
        have htb : decide (32767 < (t : Int)) = false := by simp; omega
        go_enter Try.func22, Try.ntmps22
        go_wp2_with (go_at_call 12; refine c1.mono ?_; clear c1; rintro e w' ⟨rfl, rfl⟩)
        clear hct htb
        go_loop [4, 5] (fun n i => ∃ k V : Nat, i = .int .i64 ((k : Int) - 1) ∧ k ≤ 3 ∧ n = .int .i64 (V : Int) ∧ Hid (V = val (a.drop k)) ∧ V ≤ 9223372036854775807) (fun _ i => (intOf i + 1).toNat)
        case atStart => exact ⟨3, 0, rfl, Nat.le_refl _, rfl, (by show 0 = _; rw [List.drop_of_length_le (by rw [HN.out]; exact Nat.le_refl _)]; rfl), by omega⟩
        case round =>
          obtain ⟨k, V, rfl, hk, rfl, hV, hVb⟩ := hrel
          by_cases h0 : 0 < k
          · obtain ⟨m, rfl⟩ : ∃ m, k = m + 1 := ⟨k - 1, by omega⟩
            have em : (((m + 1 : Nat) : Int) - 1) = (m : Int) := by omega
            rw [em]
            obtain ⟨gx, ox, eo, _, hc⟩ := HR.out (by omega)
            have hcm := hc m (by omega)
            obtain ⟨rfl, rfl⟩ : gx = g ∧ ox = o := by simpa using eo.symm
            have HT : Hid (val (a.drop m) = a.getD m 0 + 16777216 * V) := by
              show _ = _
              rw [hV.out]
              exact val_drop a m (by rw [HN.out]; omega)
            have hle := val_drop_le a m (by rw [HN.out]; omega)
            have hle2 : val (a.drop m) ≤ 9223372036854775807 := by have := HS.out; omega
            generalize hT : val (a.drop m) = T at HT hle hle2
            have HTT : Hid (val (a.drop m) = T) := hT
            generalize a.getD m 0 = X at hcm HT
            have HW : Hid (wrap64 (wrap64 ((V : Int) * 16777216) + (X : Int)) = (T : Int)) := down_step HT.out hle2
            clear hc em hT hle h0
            go_wp2
            go_round
            case rel =>
              refine ⟨m, T, by go_num, by omega, ?_, HTT.out.symm, hle2⟩
              exact congrArg _ HW.out
            case measure => simp [intOf]
          · obtain rfl : k = 0 := by omega
            have HV : Hid (val a = V) := by show _ = _; rw [hV.out]; rfl
            go_wp2
            go_ret2
            refine ⟨?_, rfl⟩
            rw [← HV.out]; rfl
      · have hne : n ≠ 3 := by omega
        clear e3
        go_enter Try.func22, Try.ntmps22
        go_wp2_with (go_at_call 12; refine c1.mono ?_; clear c1; rintro e w' ⟨rfl, rfl⟩)
        go_loop [4, 5] (fun nn i => ∃ k V : Nat, i = .int .i64 ((k : Int) - 1) ∧ k ≤ n ∧ nn = .int .i64 (V : Int) ∧ Hid (V = val (a.drop k)) ∧ V ≤ 9223372036854775807) (fun _ i => (intOf i + 1).toNat)
        case atStart => exact ⟨n, 0, rfl, Nat.le_refl _, rfl, (by show 0 = _; rw [List.drop_of_length_le (by rw [HN.out]; exact Nat.le_refl _)]; rfl), by omega⟩
        case round =>
          obtain ⟨k, V, rfl, hk, rfl, hV, hVb⟩ := hrel
          by_cases h0 : 0 < k
          · obtain ⟨m, rfl⟩ : ∃ m, k = m + 1 := ⟨k - 1, by omega⟩
            have em : (((m + 1 : Nat) : Int) - 1) = (m : Int) := by omega
            rw [em]
            obtain ⟨gx, ox, eo, _, hc⟩ := HR.out (by omega)
            have hcm := hc m (by omega)
            subst eo
            have HT : Hid (val (a.drop m) = a.getD m 0 + 16777216 * V) := by
              show _ = _
              rw [hV.out]
              exact val_drop a m (by rw [HN.out]; omega)
            have hle := val_drop_le a m (by rw [HN.out]; omega)
            have hle2 : val (a.drop m) ≤ 9223372036854775807 := by have := HS.out; omega
            generalize hT : val (a.drop m) = T at HT hle hle2
            have HTT : Hid (val (a.drop m) = T) := hT
            generalize a.getD m 0 = X at hcm HT
            have HW : Hid (wrap64 (wrap64 ((V : Int) * 16777216) + (X : Int)) = (T : Int)) := down_step HT.out hle2
            clear hc em hT hle h0
            go_wp2
            go_round
            case rel =>
              refine ⟨m, T, by go_num, by omega, ?_, HTT.out.symm, hle2⟩
              exact congrArg _ HW.out
            case measure => simp [intOf]
          · obtain rfl : k = 0 := by omega
            have HV : Hid (val a = V) := by show _ = _; rw [hV.out]; rfl
            go_wp2
            go_ret2
            refine ⟨?_, rfl⟩
            rw [← HV.out]; rfl
    by_cases h3 : n = 3
    · obtain ⟨g, o, hoa, hg, hc⟩ := HR.out (by omega)
      have hc2 := hc 2 (by omega)
      by_cases ht : a.getD 2 0 ≤ 32767
      · exact GO (HF.out.2 ⟨hn3', fun _ => ht⟩) fun _ => ⟨g, o, hoa, _, ht, hc2⟩
      · have hO : O = none := by rw [HI.out, if_neg (fun h => ht ((HF.out.1 h).2 h3))]
        subst hO hoa h3
        clear GO hc hback
        generalize a.getD 2 0 = t at ht hc2
        have htb : decide (32767 < (t : Int)) = true := by simp; omega
        go_enter Try.func22, Try.ntmps22
        go_wp2_with (go_at_call 12; refine c1.mono ?_; clear c1; rintro e w' ⟨rfl, rfl⟩)
        go_ret2
        exact ⟨rfl, rfl⟩
    · exact GO (HF.out.2 ⟨hn3', fun e => absurd e h3⟩) fun e => absurd e h3

theorem specInt_any (v : Value) (zs : List Int) (w : World) (hv : RowI w v zs) (hn : zs.length ≤ 140737488351232) :
    Calls Try.prog 22 #[v] w fun e w' => e = .returned (.tuple #[.int .i64 (intV zs), .bool (intO zs).isSome]) ∧ w' = w := by
  by_cases h : okL zs
  · exact specInt_ok v zs w hv hn h
  · have := specInt_no v zs w hv hn h
    unfold intV intO
    rw [if_neg (fun k => h k.1)]
    exact this
end Go.Proofs.Ytohibeiagapodaa
