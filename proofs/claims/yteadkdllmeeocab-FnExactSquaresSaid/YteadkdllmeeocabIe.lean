/- What the law's own helpers do with list of integers: held against each other, written over, looked at again. -/
import Derived.Test.YteadkdllmeeocabIg
namespace Go.Proofs.Yteadkdllmeeocab
open Go.RowKit
set_option maxRecDepth 100000

theorem eqI_zero (oa ob : Option Addr) (ca cb : Nat) (w : World) : Calls Try.prog 9 #[.slice oa 0 ca, .slice ob 0 cb] w fun e w' => e = .returned (.bool true) ∧ w' = w := by
  go_enter Try.func9, Try.ntmps9
  go_wp2
  refine wp_loop_rounds 1 ?_
  rw [rounds_succ]
  go_wp2
  go_ret
  exact ⟨rfl, rfl⟩

set_option maxHeartbeats 400000 in
theorem eqI_pos (ga oa gb ob n ca cb : Nat) (zs : List Int) (w : World) (hn : n ≤ 140737488351232) (hz : zs.length = n)
    (ha : ∀ j, j < n → w.cell? ⟨ga, oa + j, none⟩ = some (.int .i64 (zs.getD j 0))) (hb : ∀ j, j < n → w.cell? ⟨gb, ob + j, none⟩ = some (.int .i64 (zs.getD j 0))) :
    Calls Try.prog 9 #[.slice (some ⟨ga, oa, none⟩) n ca, .slice (some ⟨gb, ob, none⟩) n cb] w fun e w' => e = .returned (.bool true) ∧ Below w.heap.size w w' := by
  go_enter Try.func9, Try.ntmps9
  go_wp2
  go_loopw [5] (fun i wr => ∃ k : Nat, i = .int .i64 k ∧ k ≤ n ∧ ∃ q, wr = w.drewN q) (fun i _ => n - (intOf i).toNat)
  case atStart => exact ⟨0, rfl, by omega, 0, rfl⟩
  case round =>
    obtain ⟨k, rfl, hk, q, rfl⟩ := hrel
    by_cases hlt : k < n
    · have ha' : (w.drewN q).cell? ⟨ga, oa + k, none⟩ = some (.int .i64 (zs.getD k 0)) := ha k hlt
      have hb' : (w.drewN q).cell? ⟨gb, ob + k, none⟩ = some (.int .i64 (zs.getD k 0)) := hb k hlt
      go_wp2
      go_quiet (fail)
      all_goals go_wp2
      all_goals go_roundw
      case rel => exact ⟨k + 1, by go_num, by omega, _, by first | rfl | (simp only [World.drewN_drewN]; rfl)⟩
      case measure => simp [intOf]; omega
    · go_wp2
      go_ret
      exact ⟨rfl, below_drewN (Below.refl _ _) _⟩

theorem eqI_any (zs : List Int) (va vb : Value) (b1 b2 : Nat) (w : World) (hn : zs.length ≤ 140737488351232)
    (ha : w.ownsRow b1 3 1 va zs.length (zs.map (Value.int .i64))) (hb : w.ownsRow b2 3 1 vb zs.length (zs.map (Value.int .i64))) :
    Calls Try.prog 9 #[va, vb] w fun e w' => e = .returned (.bool true) ∧ Below w.heap.size w w' := by
  have z : ∀ oa ob ca cb, Calls Try.prog 9 #[.slice oa 0 ca, .slice ob 0 cb] w fun e w' => e = .returned (.bool true) ∧ Below w.heap.size w w' := fun oa ob ca cb =>
    (eqI_zero oa ob ca cb w).mono fun e w' ⟨h1, h2⟩ => ⟨h1, by rw [h2]; exact Below.refl _ _⟩
  rcases ha.2 with ⟨rfl, h0⟩ | ⟨ga, ca, cua, rfl, _⟩ <;> rcases hb.2 with ⟨rfl, h1⟩ | ⟨gb, cb, cub, rfl, _⟩
  · exact z _ _ _ _
  · rw [h0]; exact z _ _ _ _
  · rw [h1]; exact z _ _ _ _
  · exact eqI_pos ga 0 gb 0 zs.length ca cb zs w hn rfl (fun j hj => by rw [Nat.zero_add, ha.cellAt j (by omega)]; exact getD_mapI zs j hj) (fun j hj => by rw [Nat.zero_add, hb.cellAt j (by omega)]; exact getD_mapI zs j hj)


theorem eqI_at {w : World} {b1 b2 n : Nat} {va vb : Value} {zs : List Int} (hz : zs.length = n) (hn : n ≤ 140737488351232) (ha : w.ownsRow b1 3 1 va n (zs.map (Value.int .i64))) (hb : w.ownsRow b2 3 1 vb n (zs.map (Value.int .i64))) :
    Calls Try.prog 9 #[va, vb] w fun e w' => e = .returned (.bool true) ∧ Below w.heap.size w w' := by
  subst hz
  exact eqI_any zs va vb b1 b2 w hn ha hb
end Go.Proofs.Yteadkdllmeeocab
