/- What the law writes over a list of integers, and looks at again. -/
import Derived.Test.YtdibkmpkhlaadaaIe
namespace Go.Proofs.Ytdibkmpkhlaadaa
open Go.RowKit
set_option maxRecDepth 100000

def mkI (k : Int) : Value := .int .i64 (k)

set_option maxHeartbeats 400000 in
theorem markI_pos (g n cap base : Nat) (k0 : Int) (xs : List Value) (w : World) (hn : n ≤ 140737488351232) (h0 : 0 ≤ k0) (h1 : k0 ≤ 140737488351232)
    (ho : w.ownsRow base 3 1 (.slice (some ⟨g, 0, none⟩) n cap) n xs) :
    Calls Try.prog 24 #[.slice (some ⟨g, 0, none⟩) n cap, .int .i64 k0] w fun e w' => e = .returned (.int .i64 (k0 + n)) ∧ (∃ ys, w'.ownsRow base 3 1 (.slice (some ⟨g, 0, none⟩) n cap) n ys ∧ ∀ j, j < n → ys[j]? = some (mkI (k0 + j))) ∧ w.grownBy w' (some g) := by
  go_enter Try.func24, Try.ntmps24
  go_wp2
  go_loopw [1, 5] (fun kk i wr => ∃ (k : Nat) (ys : List Value), i = .int .i64 k ∧ kk = .int .i64 (k0 + k) ∧ k ≤ n ∧ wr.ownsRow base 3 1 (.slice (some ⟨g, 0, none⟩) n cap) n ys ∧ (∀ j, j < k → ys[j]? = some (mkI (k0 + j))) ∧ w.grownBy wr (some g)) (fun _ i _ => n - (intOf i).toNat)
  case atStart => exact ⟨0, xs, rfl, by simp, by omega, ho, by omega, World.grownBy.refl _ _⟩
  case round =>
    obtain ⟨k, ys, rfl, rfl, hk, hown, hys, hgr⟩ := hrel
    by_cases hlt : k < n
    · have hlen : ys.length = n := by have := hown.1; omega
      have hc : wr.cell? ⟨g, k, none⟩ = some (ys[k]'(by omega)) := by rw [hown.cellAt k (by omega)]; exact List.getElem?_eq_getElem _
      have hf : wr.frozen? ⟨g, k, none⟩ = false := hown.frozenAt k
      go_wp2
      go_roundw
      case rel =>
        have hs := hown.stored k (mkI (k0 + k))
        refine ⟨k + 1, _, by go_num, by go_num, by omega, hs.1, ?_, grownBy_trans hgr hs.2⟩
        intro j hj
        rw [List.getElem?_set]
        by_cases e : k = j
        · subst e; rw [if_pos rfl, if_pos (by omega)]
        · rw [if_neg e]; exact hys j (by omega)
      case measure => simp [intOf]; omega
    · go_wp2
      go_ret
      exact ⟨ret_int (by omega), ⟨ys, hown, fun j hj => hys j (by omega)⟩, hgr⟩

set_option maxHeartbeats 400000 in
theorem heldI_pos (g n cap base : Nat) (k0 : Int) (ys : List Value) (w : World) (hn : n ≤ 140737488351232) (h0 : 0 ≤ k0) (h1 : k0 ≤ 140737488351232)
    (ho : w.ownsRow base 3 1 (.slice (some ⟨g, 0, none⟩) n cap) n ys) (hys : ∀ j, j < n → ys[j]? = some (mkI (k0 + j))) :
    Calls Try.prog 25 #[.slice (some ⟨g, 0, none⟩) n cap, .int .i64 k0] w fun e w' => e = .returned (.int .i64 (k0 + n)) ∧ w' = w := by
  go_enter Try.func25, Try.ntmps25
  go_wp2
  go_loop [1, 5] (fun kk i => ∃ k : Nat, i = .int .i64 k ∧ kk = .int .i64 (k0 + k) ∧ k ≤ n) (fun _ i => n - (intOf i).toNat)
  case atStart => exact ⟨0, rfl, by simp, by omega⟩
  case round =>
    obtain ⟨k, rfl, rfl, hk⟩ := hrel
    by_cases hlt : k < n
    · have hc : w.cell? ⟨g, k, none⟩ = some (.int .i64 ((k0 + k))) := by rw [ho.cellAt k (by omega)]; exact hys k hlt
      clear hys
      go_wp2
      go_round
      case rel => exact ⟨k + 1, by go_num, by go_num, by omega⟩
      case measure => simp [intOf]; omega
    · go_wp2
      go_ret
      exact ⟨ret_int (by omega), rfl⟩

theorem markI_zero (k0 : Int) (w : World) : Calls Try.prog 24 #[.slice none 0 0, .int .i64 k0] w fun e w' => e = .returned (.int .i64 k0) ∧ w' = w := by
  go_enter Try.func24, Try.ntmps24
  go_wp2
  refine wp_loop_rounds 1 ?_
  rw [rounds_succ]
  go_wp2
  go_ret
  exact ⟨rfl, rfl⟩

theorem heldI_zero (k0 : Int) (w : World) : Calls Try.prog 25 #[.slice none 0 0, .int .i64 k0] w fun e w' => e = .returned (.int .i64 k0) ∧ w' = w := by
  go_enter Try.func25, Try.ntmps25
  go_wp2
  refine wp_loop_rounds 1 ?_
  rw [rounds_succ]
  go_wp2
  go_ret
  exact ⟨rfl, rfl⟩

theorem markI_any (n base : Nat) (v : Value) (k0 : Int) (xs : List Value) (w : World) (hn : n ≤ 140737488351232) (h0 : 0 ≤ k0) (h1 : k0 ≤ 140737488351232) (ho : w.ownsRow base 3 1 v n xs) :
    Calls Try.prog 24 #[v, .int .i64 k0] w fun e w' => e = .returned (.int .i64 (k0 + n)) ∧ (∃ ys, w'.ownsRow base 3 1 v n ys ∧ ∀ j, j < n → ys[j]? = some (mkI (k0 + j))) ∧ w.grownBy w' v.ownBlock := by
  rcases ho.2 with ⟨rfl, rfl⟩ | ⟨g, cap, cur, rfl, _⟩
  · refine (markI_zero k0 w).mono fun e w' ⟨he, hw⟩ => ?_
    subst he hw
    exact ⟨ret_int (by omega), ⟨xs, ho, by omega⟩, World.grownBy.refl _ _⟩
  · exact markI_pos g n cap base k0 xs w hn h0 h1 ho

theorem heldI_any (n base : Nat) (v : Value) (k0 : Int) (ys : List Value) (w : World) (hn : n ≤ 140737488351232) (h0 : 0 ≤ k0) (h1 : k0 ≤ 140737488351232) (ho : w.ownsRow base 3 1 v n ys) (hys : ∀ j, j < n → ys[j]? = some (mkI (k0 + j))) :
    Calls Try.prog 25 #[v, .int .i64 k0] w fun e w' => e = .returned (.int .i64 (k0 + n)) ∧ w' = w := by
  rcases ho.2 with ⟨rfl, rfl⟩ | ⟨g, cap, cur, rfl, _⟩
  · refine (heldI_zero k0 w).mono fun e w' ⟨he, hw⟩ => ?_
    subst he hw
    exact ⟨ret_int (by omega), rfl⟩
  · exact heldI_pos g n cap base k0 ys w hn h0 h1 ho hys
/-- Two rows apart: the one was there ahead of the other's memory; the other way round. -/
theorem apart' {w : World} {v v' : Value} {b b' n n' e e' B : Nat} {xs xs' : List Value} (_h : w.ownsRow b e 1 v n xs) (h' : w.ownsRow b' e' 1 v' n' xs') (hb : ∀ k, v.ownBlock = some k → k < B) (hB : B ≤ b' := by omega) : v.ownBlock = none ∨ v.ownBlock ≠ v'.ownBlock :=
  apart _h h' fun k hk => Nat.lt_of_lt_of_le (hb k hk) hB
theorem apart2 {w : World} {v v' : Value} {b b' n n' e e' B : Nat} {xs xs' : List Value} (h : w.ownsRow b e 1 v n xs) (_h' : w.ownsRow b' e' 1 v' n' xs') (hb : ∀ k, v'.ownBlock = some k → k < B) (hB : B ≤ b := by omega) : v.ownBlock = none ∨ v.ownBlock ≠ v'.ownBlock := by
  cases ev : v.ownBlock with
  | none => exact .inl rfl
  | some k =>
    refine .inr fun e' => ?_
    have h1 := hb k e'.symm
    have h2 := (h.lt k ev).1
    omega
end Go.Proofs.Ytdibkmpkhlaadaa
