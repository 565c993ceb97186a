/- A thousand times a fraction, rounded down: by the program and by the specification. -/
import Derived.Test.YtonimdaimldbgabFx
namespace Go.Proofs.Ytonimdaimldbgab
open Go.RowKit
set_option maxRecDepth 100000

def thZ (a b : Int) : Int := if frB a b = true ∧ a ≤ b then (1000 * a) / b else -1

theorem ret_th {x y : Int} (h : x = y) : Ending.returned (.int .i64 x) = .returned (.int .i64 y) := by rw [h]

set_option maxHeartbeats 1600000 in
theorem thI (a b : Int) (w : World) : Calls Try.prog 12 #[frV a b] w fun e w' => e = .returned (.int .i64 (thZ a b)) ∧ Below w.heap.size w w' := by
  obtain ⟨F0, B⟩ := blk_1 27 w #[.int .i64 a, .int .i64 b]
  have c1 := fun W => fracOkI a b W
  cases h : frB a b
  · rw [show thZ a b = -1 from if_neg fun k => by rw [h] at k; cases k.1]
    rw [h] at c1
    clear h
    go_enter Try.func12, Try.ntmps12
    go_wp2_with fail
    refine (c1 _).mono ?_
    rintro e w1 ⟨rfl, hb1⟩
    go_wp2
    go_ret
    exact ⟨rfl, B.trans (hb1.mono B.size)⟩
  · rw [h] at c1
    obtain ⟨y0, y1, y2, y3⟩ := frB_yes h
    by_cases hle : a ≤ b
    · rw [show thZ a b = (1000 * a) / b from if_pos ⟨h, hle⟩]
      clear h
      have hq0 : 0 ≤ (1000 * a) / b := Int.ediv_nonneg (by omega) (by omega)
      have hq1 : (1000 * a) / b ≤ 1000 * a := Int.ediv_le_self _ (by omega)
      have hcomm : a * 1000 = 1000 * a := Int.mul_comm _ _
      have HC : Hid (a * 1000 = 1000 * a) := hcomm
      clear hcomm
      go_enter Try.func12, Try.ntmps12
      go_wp2_with fail
      refine (c1 _).mono ?_
      rintro e w1 ⟨rfl, hb1⟩
      have F0 := F0.below hb1
      have f0 := FrT.c0 F0
      have f1 := FrT.c1 F0
      go_wp2
      go_ret
      exact ⟨ret_th (by first | rfl | rw [HC.out]), B.trans (hb1.mono B.size)⟩
    · rw [show thZ a b = -1 from if_neg fun k => hle k.2]
      clear h
      go_enter Try.func12, Try.ntmps12
      go_wp2_with fail
      refine (c1 _).mono ?_
      rintro e w1 ⟨rfl, hb1⟩
      have F0 := F0.below hb1
      have f0 := FrT.c0 F0
      have f1 := FrT.c1 F0
      go_wp2
      go_ret
      exact ⟨rfl, B.trans (hb1.mono B.size)⟩

set_option maxHeartbeats 1600000 in
theorem thS (a b : Int) (w : World) : Calls Try.prog 11 #[frV a b] w fun e w' => e = .returned (.int .i64 (thZ a b)) ∧ Below w.heap.size w w' := by
  obtain ⟨F0, B⟩ := blk_1 27 w #[.int .i64 a, .int .i64 b]
  have c1 := fun W => fracOkS a b W
  cases h : frB a b
  · rw [show thZ a b = -1 from if_neg fun k => by rw [h] at k; cases k.1]
    rw [h] at c1
    clear h
    go_enter Try.func11, Try.ntmps11
    go_wp2_with fail
    refine (c1 _).mono ?_
    rintro e w1 ⟨rfl, hb1⟩
    go_wp2
    go_ret
    exact ⟨rfl, B.trans (hb1.mono B.size)⟩
  · rw [h] at c1
    obtain ⟨y0, y1, y2, y3⟩ := frB_yes h
    by_cases hle : a ≤ b
    · rw [show thZ a b = (1000 * a) / b from if_pos ⟨h, hle⟩]
      clear h
      have hq0 : 0 ≤ (1000 * a) / b := Int.ediv_nonneg (by omega) (by omega)
      have hq1 : (1000 * a) / b ≤ 1000 * a := Int.ediv_le_self _ (by omega)
      have hcomm : a * 1000 = 1000 * a := Int.mul_comm _ _
      have HC : Hid (a * 1000 = 1000 * a) := hcomm
      clear hcomm
      go_enter Try.func11, Try.ntmps11
      go_wp2_with fail
      refine (c1 _).mono ?_
      rintro e w1 ⟨rfl, hb1⟩
      have F0 := F0.below hb1
      have f0 := FrT.c0 F0
      have f1 := FrT.c1 F0
      go_wp2
      go_ret
      exact ⟨ret_th (by first | rfl | rw [HC.out]), B.trans (hb1.mono B.size)⟩
    · rw [show thZ a b = -1 from if_neg fun k => hle k.2]
      clear h
      go_enter Try.func11, Try.ntmps11
      go_wp2_with fail
      refine (c1 _).mono ?_
      rintro e w1 ⟨rfl, hb1⟩
      have F0 := F0.below hb1
      have f0 := FrT.c0 F0
      have f1 := FrT.c1 F0
      go_wp2
      go_ret
      exact ⟨rfl, B.trans (hb1.mono B.size)⟩
end Go.Proofs.Ytonimdaimldbgab
