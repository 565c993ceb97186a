/- Difference of two great numbers inside. -/
import Derived.Test.YtonimdaimldbgaaAr
import Derived.Deep.QuietTactic
import Derived.BigQuiet
import Derived.WalkSmall
namespace Go.Proofs.Ytonimdaimldbgaa
open Go.RowKit
set_option maxRecDepth 100000

theorem minus_step {xs ys zs : List Nat} {k b : Nat} (hy : ys.length = 16) (hz : zs.length = 16) (hk : k < 16)
    (hv : val zs + val (ys.take k) = val xs + 16777216 ^ k * b) (d c : Nat) (h1 : d + ys.getD k 0 + b = zs.getD k 0 + 16777216 * c) :
    val (zs.set k d) + val (ys.take (k + 1)) = val xs + 16777216 ^ (k + 1) * c := by
  have e := val_set zs k d (by omega)
  have e2 := congrArg (16777216 ^ k * ·) h1
  simp only [Nat.mul_add] at e2
  rw [val_take ys k (by omega), Nat.pow_succ, Nat.mul_assoc]
  omega

theorem set_set (w : World) (g k : Nat) (v v' : Value) : (w.setCell ⟨g, k, none⟩ v).setCell ⟨g, k, none⟩ v' = w.setCell ⟨g, k, none⟩ v' := by
  simp only [World.setCell]
  congr 1
  apply Array.ext_getElem?
  intro i
  simp only [Array.getElem?_modify]
  by_cases h : g = i
  · subst h
    simp only [if_true]
    cases w.heap[g]? with
    | none => rfl
    | some o => cases o <;> simp
  · simp [h]

set_option maxHeartbeats 800000 in
theorem minus_walk (xs ys : List Nat) (w : World) (hx : xs.length = 16) (hy : ys.length = 16) (hxl : ∀ l ∈ xs, l < 16777216) (hyl : ∀ l ∈ ys, l < 16777216) :
    Calls Try.prog 27 #[.agg (arr xs), .agg (arr ys)] w fun e w' =>
      ∃ zs : List Nat, ∃ b : Nat, e = .returned (.tuple #[.agg (arr zs), .bool (decide (b = 0))]) ∧ zs.length = 16 ∧ (∀ l ∈ zs, l < 16777216) ∧ val zs + val ys = val xs + top * b ∧ Below w.heap.size w w' := by
  go_enter Try.func27, Try.ntmps27
  go_wp2
  rw [zero_cells]
  obtain ⟨a0, a1, a2, b0⟩ := arr_3 44 44 44 w xs ys (fit 0)
  go_loopw [6, 8] (fun c i wr => ∃ (k b : Nat) (zs : List Nat), i = .int .i64 k ∧ c = .int .i64 b ∧ k ≤ 16 ∧ b ≤ 1 ∧ zs.length = 16 ∧ (∀ l ∈ zs, l < 16777216) ∧
      val zs + val (ys.take k) = val xs + 16777216 ^ k * b ∧ Arr wr w.heap.size zs ∧ Arr wr (w.heap.size + 1) ys ∧ Arr wr (w.heap.size + 1 + 1) (fit 0) ∧ Below w.heap.size w wr) (fun _ i _ => 16 - (intOf i).toNat)
  case atStart => exact ⟨0, 0, xs, rfl, rfl, by omega, by omega, hx, hxl, by simp [val], a0, a1, a2, b0⟩
  case round =>
    obtain ⟨k, b, zs, rfl, rfl, hk, hb1, hzl, hzb, hv, A0, A1, A2, hb⟩ := hrel
    clear a0 a1 a2 b0
    by_cases hlt : k < 16
    · have hc0 := A0.cell k (by omega)
      have hf0 := A0.frozen k
      have hc1 := A1.cell k (by omega)
      have hl0 := getD_lt zs hzb k
      have hl1 := getD_lt ys hyl k
      have ST : Hid (∀ d c, d + ys.getD k 0 + b = zs.getD k 0 + 16777216 * c → val (zs.set k d) + val (ys.take (k + 1)) = val xs + 16777216 ^ (k + 1) * c) := fun d c => minus_step hy hzl hlt hv d c
      clear hv
      generalize hX : zs.getD k 0 = X at hc0 hl0 ST
      generalize hY : ys.getD k 0 = Y at hc1 hl1 ST
      clear hX hY
      by_cases hneg : X < Y + b
      · have hcn : (wr.setCell ⟨w.heap.size, k, none⟩ (.int .i64 ((X : Int) - (Y + b)))).drew.cell? ⟨w.heap.size, k, none⟩ = some (.int .i64 ((X : Int) - (Y + b))) := World.cell?_setCell_same' _ _ _ (by rw [hc0]; rfl)
        have hfn : (wr.setCell ⟨w.heap.size, k, none⟩ (.int .i64 ((X : Int) - (Y + b)))).drew.frozen? ⟨w.heap.size, k, none⟩ = false := (World.frozen?_setCell wr _ _ _).trans hf0
        have hng : (X : Int) - (Y + b) < 0 := by omega
        go_wp2
        go_region
        go_wp2
        rw [set_set]
        go_roundw
        case rel =>
          have e : (X : Int) - (Y + b) + 16777216 = ((X + 16777216 - Y - b : Nat) : Int) := by omega
          rw [e]
          refine ⟨k + 1, 1, zs.set k (X + 16777216 - Y - b), by go_num, rfl, by omega, by omega, by simp [hzl], set_lt _ _ _ hzb (by omega), ST.out _ _ (by omega), A0.set k _, A1.other _ _ (by show w.heap.size ≠ _; omega), A2.other _ _ (by show w.heap.size ≠ _; omega), (hb.setCell (p := ⟨w.heap.size, k, none⟩) (Nat.le_refl _) _).drew⟩
        case measure => simp [intOf]; omega
      · obtain ⟨d, hd⟩ : ∃ d : Nat, (X : Int) - (Y + b) = d := ⟨X - Y - b, by omega⟩
        have hcn : (wr.setCell ⟨w.heap.size, k, none⟩ (.int .i64 (d : Int))).drew.cell? ⟨w.heap.size, k, none⟩ = some (.int .i64 (d : Int)) := World.cell?_setCell_same' _ _ _ (by rw [hc0]; rfl)
        have hdd : d + Y + b = X := by omega
        have HDD : Hid (d + Y + b = X) := hdd
        have hd1 : d < 16777216 := by omega
        clear hdd
        go_wp2
        go_region
        go_wp2
        go_roundw
        case rel =>
          have h3 := HDD.out
          refine ⟨k + 1, 0, zs.set k d, by go_num, rfl, by omega, by omega, by simp [hzl], set_lt _ _ _ hzb hd1, ST.out _ _ (by omega), A0.set k _, A1.other _ _ (by show w.heap.size ≠ _; omega), A2.other _ _ (by show w.heap.size ≠ _; omega), (hb.setCell (p := ⟨w.heap.size, k, none⟩) (Nat.le_refl _) _).drew⟩
        case measure => simp [intOf]; omega
    · go_wp2_with (first | (with_reducible refine wp_arr_load rfl _ rfl ?_; refine ⟨_, rfl, zs, A0, hzl, ?_⟩) | (with_reducible refine wp_arr_store rfl _ _ rfl ?_; refine ⟨_, rfl, zs, rfl, hzl, _, A2, fit_len 0, ?_⟩))
      have A3 := A2.setRow zs
      have hb3 : Below w.heap.size w (wr.setRow (w.heap.size + 1 + 1) (arr zs)) := below_setRow hb (by omega) _
      obtain rfl : k = 16 := by omega
      rw [List.take_of_length_le (by omega)] at hv
      refine bodyPost_ret (res_arr2 rfl _ _ _ _ rfl A3 hzl) rfl ⟨zs, b, ?_, hzl, hzb, hv, hb3⟩
      have : ((b : Int) == 0) = decide (b = 0) := eq0_cast b
      simp [this]

theorem minus_any (m n : Nat) (w : World) (hm : m < top) (hn : n < top) :
    Calls Try.prog 27 #[fitV m, fitV n] w fun e w' => ∃ s, s < top ∧ e = .returned (.tuple #[fitV s, .bool (decide (n ≤ m))]) ∧ (n ≤ m → s = m - n) ∧ Below w.heap.size w w' := by
  refine (minus_walk (fit m) (fit n) w (fit_len _) (fit_len _) (fit_lt _) (fit_lt _)).mono ?_
  rintro e w' ⟨zs, b, rfl, hl, hz, hv, hb⟩
  have ht := val_top zs hl hz
  rw [fit_val m hm, fit_val n hn] at hv
  have hb0 : b = 0 ↔ n ≤ m := by
    constructor
    · rintro rfl; omega
    · intro h
      cases b with
      | zero => rfl
      | succ c => rw [Nat.mul_succ] at hv; have := Nat.zero_le (top * c); omega
  refine ⟨val zs, ht, ?_, ?_, hb⟩
  · have hd : decide (b = 0) = decide (n ≤ m) := by simp [hb0]
    rw [hd]
    unfold fitV
    rw [← fit_of zs hl hz]
  · intro h
    obtain rfl := hb0.2 h
    omega
end Go.Proofs.Ytonimdaimldbgaa
