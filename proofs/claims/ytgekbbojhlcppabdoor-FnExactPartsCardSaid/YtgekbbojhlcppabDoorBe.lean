/- What the law's own helpers do with lists of bytes: held against each other, written over, looked at again. -/
import Derived.Test.YtgekbbojhlcppabDoorRows
import Derived.WalkKit
import Derived.ProofKit
import Derived.OpenShut
import Derived.Deep.QuietTactic
import Derived.BigQuiet
import Derived.WalkSmall
namespace Go.Proofs.YtgekbbojhlcppabDoor
open Go.RowKit

theorem ret_int {k : IntKind} {a b : Int} (h : a = b) : Ending.returned (.int k a) = .returned (.int k b) := by rw [h]
theorem grownBy_trans {a b c : World} {r : Option Nat} (h : a.grownBy b r) (k : b.grownBy c r) : a.grownBy c r :=
  ⟨k.os.trans h.os, k.tape.trans h.tape, k.output.trans h.output, Nat.le_trans h.size k.size, fun j hj hr => (k.block j (Nat.lt_of_lt_of_le hj h.size) hr).trans (h.block j hj hr)⟩

theorem eq_zero (oa ob : Option Addr) (ca cb : Nat) (w : World) : Calls Tryd.prog 9 #[.slice oa 0 ca, .slice ob 0 cb] w fun e w' => e = .returned (.bool true) ∧ w' = w := by
  go_enter Tryd.func9, Tryd.ntmps9
  go_wp2
  refine wp_loop_rounds 1 ?_
  rw [rounds_succ]
  go_wp2
  go_ret
  exact ⟨rfl, rfl⟩

set_option maxHeartbeats 400000 in
theorem eq_pos (ga oa gb ob n ca cb : Nat) (zs : List Int) (w : World) (hn : n ≤ 140737488351232) (hz : zs.length = n)
    (ha : ∀ j, j < n → w.cell? ⟨ga, oa + j, none⟩ = some (.int .u8 (zs.getD j 0))) (hb : ∀ j, j < n → w.cell? ⟨gb, ob + j, none⟩ = some (.int .u8 (zs.getD j 0))) :
    Calls Tryd.prog 9 #[.slice (some ⟨ga, oa, none⟩) n ca, .slice (some ⟨gb, ob, none⟩) n cb] w fun e w' => e = .returned (.bool true) ∧ Below w.heap.size w w' := by
  go_enter Tryd.func9, Tryd.ntmps9
  go_wp2
  go_loopw [5] (fun i wr => ∃ k : Nat, i = .int .i64 k ∧ k ≤ n ∧ ∃ q, wr = w.drewN q) (fun i _ => n - (intOf i).toNat)
  case atStart => exact ⟨0, rfl, by omega, 0, rfl⟩
  case round =>
    obtain ⟨k, rfl, hk, q, rfl⟩ := hrel
    by_cases hlt : k < n
    · have ha' : (w.drewN q).cell? ⟨ga, oa + k, none⟩ = some (.int .u8 (zs.getD k 0)) := ha k hlt
      have hb' : (w.drewN q).cell? ⟨gb, ob + k, none⟩ = some (.int .u8 (zs.getD k 0)) := hb k hlt
      go_wp2
      go_quiet (fail)
      all_goals go_wp2
      all_goals go_roundw
      case rel => exact ⟨k + 1, by go_num, by omega, _, by first | rfl | (simp only [World.drewN_drewN]; rfl)⟩
      case measure => simp [intOf]; omega
    · go_wp2
      go_ret
      exact ⟨rfl, below_drewN (Below.refl _ _) _⟩

/-! ### The same for whatever slice of the call's own: nil, or a row -/
theorem own_below {w w' : World} {base e size n : Nat} {v : Value} {xs : List Value} (h : w.ownsRow base e size v n xs) (hb : Below w.heap.size w w') : w'.ownsRow base e size v n xs := by
  refine ⟨h.1, ?_⟩
  rcases h.2 with h' | ⟨g, cap, cur, hv, hg, hc, r⟩
  · exact .inl h'
  · refine .inr ⟨g, cap, cur, hv, hg, ?_, r⟩
    have hlt : g < w.heap.size := by
      rcases Nat.lt_or_ge g w.heap.size with h1 | h1
      · exact h1
      · rw [Array.getElem?_eq_none h1] at hc; cases hc
    rw [hb.block g hlt]; exact hc

theorem getD_map (zs : List Int) (j : Nat) (h : j < zs.length) : (zs.map (Value.int .u8))[j]? = some (.int .u8 (zs.getD j 0)) := by simp [h]

theorem eq_any (zs : List Int) (va vb : Value) (b1 b2 : Nat) (w : World) (hn : zs.length ≤ 140737488351232)
    (ha : w.ownsRow b1 5 1 va zs.length (zs.map (Value.int .u8))) (hb : w.ownsRow b2 5 1 vb zs.length (zs.map (Value.int .u8))) :
    Calls Tryd.prog 9 #[va, vb] w fun e w' => e = .returned (.bool true) ∧ Below w.heap.size w w' := by
  have z : ∀ oa ob ca cb, Calls Tryd.prog 9 #[.slice oa 0 ca, .slice ob 0 cb] w fun e w' => e = .returned (.bool true) ∧ Below w.heap.size w w' := fun oa ob ca cb =>
    (eq_zero oa ob ca cb w).mono fun e w' ⟨h1, h2⟩ => ⟨h1, by rw [h2]; exact Below.refl _ _⟩
  rcases ha.2 with ⟨rfl, h0⟩ | ⟨ga, ca, cua, rfl, _⟩ <;> rcases hb.2 with ⟨rfl, h1⟩ | ⟨gb, cb, cub, rfl, _⟩
  · exact z _ _ _ _
  · rw [h0]; exact z _ _ _ _
  · rw [h1]; exact z _ _ _ _
  · exact eq_pos ga 0 gb 0 zs.length ca cb zs w hn rfl (fun j hj => by rw [Nat.zero_add, ha.cellAt j (by omega)]; exact getD_map zs j hj) (fun j hj => by rw [Nat.zero_add, hb.cellAt j (by omega)]; exact getD_map zs j hj)

theorem apart {w : World} {v v' : Value} {b b' n n' : Nat} {xs xs' : List Value} (_h : w.ownsRow b 5 1 v n xs) (h' : w.ownsRow b' 5 1 v' n' xs') (hb : ∀ k, v.ownBlock = some k → k < b') : v.ownBlock = none ∨ v.ownBlock ≠ v'.ownBlock := by
  cases e : v.ownBlock with
  | none => exact .inl rfl
  | some k =>
    refine .inr fun e' => ?_
    have h1 := hb k e
    have h2 := (h'.lt k e'.symm).1
    omega

end Go.Proofs.YtgekbbojhlcppabDoor
