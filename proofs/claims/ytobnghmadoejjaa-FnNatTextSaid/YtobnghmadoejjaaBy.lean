/- A great number inside, divided. -/
import Derived.Test.YtobnghmadoejjaaAr
namespace Go.Proofs.Ytobnghmadoejjaa
open Go.RowKit
set_option maxRecDepth 100000

theorem by_step {xs zs : List Nat} {m d rest : Nat} (hx : xs.length = 16) (hz : zs.length = 16) (hm : m < 16)
    (hv : val (zs.drop (m + 1)) * d + rest = val (xs.drop (m + 1))) (q r : Nat) (hq : q = (rest * 16777216 + xs.getD m 0) / d) (hr : r = (rest * 16777216 + xs.getD m 0) % d) :
    val ((zs.set m q).drop m) * d + r = val (xs.drop m) := by
  rw [val_drop xs m (by omega), val_drop (zs.set m q) m (by simp; omega), getD_set_eq _ _ _ (by omega), drop_set, ← hv]
  have e := Nat.div_add_mod (rest * 16777216 + xs.getD m 0) d
  rw [← hq, ← hr] at e
  rw [Nat.add_mul, Nat.mul_comm q d, Nat.mul_assoc 16777216, Nat.mul_add]
  omega
theorem by_lt {d rest X : Nat} (hr : rest < d) (hX : X < 16777216) : (rest * 16777216 + X) / d < 16777216 := by
  apply Nat.div_lt_of_lt_mul
  have h1 : rest + 1 ≤ d := hr
  have := Nat.mul_le_mul_right 16777216 h1
  rw [Nat.add_mul] at this
  omega

set_option maxHeartbeats 800000 in
theorem by_walk (xs : List Nat) (d : Nat) (w : World) (hx : xs.length = 16) (hxl : ∀ l ∈ xs, l < 16777216) (hd0 : 0 < d) (hd1 : d < 16777216) :
    Calls Try.prog 40 #[.agg (arr xs), .int .i64 (d : Int)] w fun e w' =>
      ∃ zs : List Nat, ∃ r : Nat, e = .returned (.tuple #[.agg (arr zs), .int .i64 (r : Int)]) ∧ zs.length = 16 ∧ (∀ l ∈ zs, l < 16777216) ∧ r < d ∧ val zs * d + r = val xs ∧ Below w.heap.size w w' := by
  obtain ⟨a0, a1, b0⟩ := arr_2 42 42 w xs (fit 0)
  go_enter Try.func40, Try.ntmps40
  go_wp2
  rw [zero_cells]
  go_loopw [6, 7] (fun c i wr => ∃ (k r : Nat) (zs : List Nat), i = .int .i64 ((k : Int) - 1) ∧ c = .int .i64 (r : Int) ∧ k ≤ 16 ∧ r < d ∧ zs.length = 16 ∧ Hid (∀ l ∈ zs, l < 16777216) ∧ Hid (∀ j, j < k → zs.getD j 0 = xs.getD j 0) ∧
      Hid (val (zs.drop k) * d + r = val (xs.drop k)) ∧ Arr wr w.heap.size zs ∧ Arr wr (w.heap.size + 1) (fit 0) ∧ Below w.heap.size w wr) (fun _ i _ => (intOf i + 1).toNat)
  case atStart => exact ⟨16, 0, xs, rfl, rfl, by omega, hd0, hx, hxl, (fun j _ => rfl), (by show _ = _; rw [List.drop_of_length_le (by omega)]; simp [val]), a0, a1, b0⟩
  case round =>
    obtain ⟨k, r, zs, rfl, rfl, hk, hr, hzl, hzb, hsame, hv, A0, A1, hb⟩ := hrel
    clear a0 a1 b0
    by_cases hlt : 0 < k
    · obtain ⟨m, rfl⟩ : ∃ m, k = m + 1 := ⟨k - 1, by omega⟩
      have em : (((m + 1 : Nat) : Int) - 1) = (m : Int) := by omega
      rw [em]
      have hc0 := A0.cell m (by omega)
      have hf0 := A0.frozen m
      have hl0 := getD_lt zs hzb.out m
      rw [hsame.out m (by omega)] at hc0 hl0
      have HS : Hid (∀ q s, q = (r * 16777216 + xs.getD m 0) / d → s = (r * 16777216 + xs.getD m 0) % d → val ((zs.set m q).drop m) * d + s = val (xs.drop m)) := fun q s => by_step hx hzl (by omega) hv.out q s
      generalize xs.getD m 0 = X at hc0 hl0 HS
      have hq := by_lt hr hl0
      have hcur : r * 16777216 + X < 281474976710656 := by omega
      clear em hlt
      have e1 : ((r : Int) * 16777216 + X) / d = (((r * 16777216 + X) / d : Nat) : Int) := by rw [show (r : Int) * 16777216 + X = ((r * 16777216 + X : Nat) : Int) by omega]; exact (Int.natCast_ediv _ _).symm
      have e2 : ((r : Int) * 16777216 + X) % d = (((r * 16777216 + X) % d : Nat) : Int) := by rw [show (r : Int) * 16777216 + X = ((r * 16777216 + X : Nat) : Int) by omega]; exact (Int.natCast_emod _ _).symm
      have HE1 : Hid (((r : Int) * 16777216 + X) / d = (((r * 16777216 + X) / d : Nat) : Int)) := e1
      have HE2 : Hid (((r : Int) * 16777216 + X) % d = (((r * 16777216 + X) % d : Nat) : Int)) := e2
      have HMD : Hid ((r * 16777216 + X) % d < d) := Nat.mod_lt _ hd0
      clear e1 e2
      go_wp2
      rw [HE1.out, HE2.out]
      go_roundw
      case rel =>
        refine ⟨m, _, zs.set m ((r * 16777216 + X) / d), rfl, rfl, by omega, HMD.out, by simp [hzl], set_lt _ _ _ hzb.out hq, (fun j hj => by rw [getD_set_ne _ _ _ _ (by omega)]; exact hsame.out j (by omega)), HS.out _ _ rfl rfl, A0.set m _, A1.other _ _ (by show w.heap.size ≠ _; omega), hb.setCell (p := ⟨w.heap.size, m, none⟩) (Nat.le_refl _) _⟩
      case measure => simp [intOf]
    · obtain rfl : k = 0 := by omega
      go_wp2_with (first | (with_reducible refine wp_arr_load rfl _ rfl ?_; refine ⟨_, rfl, zs, A0, hzl, ?_⟩) | (with_reducible refine wp_arr_store rfl _ _ rfl ?_; refine ⟨_, rfl, zs, rfl, hzl, _, A1, fit_len 0, ?_⟩))
      have A3 := A1.setRow zs
      refine bodyPost_ret (res_arr2 rfl _ _ _ _ rfl A3 hzl) rfl ⟨zs, r, rfl, hzl, hzb.out, hr, ?_, below_setRow hb (by omega) _⟩
      have := hv.out
      rw [List.drop_zero, List.drop_zero] at this
      exact this

theorem by_any (n d : Nat) (w : World) (hn : n < top) (hd0 : 0 < d) (hd1 : d < 16777216) :
    Calls Try.prog 40 #[fitV n, .int .i64 (d : Int)] w fun e w' => e = .returned (.tuple #[fitV (n / d), .int .i64 ((n % d : Nat) : Int)]) ∧ Below w.heap.size w w' := by
  refine (by_walk (fit n) d w (fit_len _) (fit_lt _) hd0 hd1).mono ?_
  rintro e w' ⟨zs, r, rfl, hl, hz, hr, hv, hb⟩
  rw [fit_val n hn] at hv
  refine ⟨?_, hb⟩
  have e1 : val zs = n / d := by
    rw [← hv, Nat.mul_comm, Nat.mul_add_div hd0, Nat.div_eq_of_lt hr, Nat.add_zero]
  have e2 : r = n % d := by
    rw [← hv, Nat.mul_comm, Nat.mul_add_mod, Nat.mod_eq_of_lt hr]
  unfold fitV
  rw [← e1, ← e2, ← fit_of zs hl hz]
end Go.Proofs.Ytobnghmadoejjaa
