/- The root of a number, by the program and by the specification. -/
import Derived.Test.YtjpeohaelgcbaaaRows
import Derived.WalkKit
import Derived.ProofKit
import Derived.OpenShut
import Derived.Deep.QuietTactic
import Derived.BigQuiet
import Derived.WalkSmall
import Derived.WalkMore
import Derived.ScopeJumps
import Derived.Test.YtjpeohaelgcbaaaRp
namespace Go.Proofs.Ytjpeohaelgcbaaa
open Go.RowKit
set_option maxRecDepth 100000

def rootZ (n : Int) : Int := if n < 0 then -1 else ((rootN n.toNat : Nat) : Int)
theorem ret_root {a b : Int} (h : a = b) : Ending.returned (.int .i64 a) = .returned (.int .i64 b) := by rw [h]

theorem bits_tried {n r j : Nat} (h : Tried n r (j + 1)) (hn : n ≤ 9223372036854775807) : bits .or .i64 (r : Int) (half (j + 1) : Int) = ((r + half (j + 1) : Nat) : Int) := by
  have hr := tried_small h hn
  have hj := half_small h.1
  rw [(bits_nat .i64 63 (by decide) (fun n h0 h1 => by rw [IntKind.wrap_i64]; omega) r (half (j + 1)) (by omega) (by omega)).2, tried_or h]

theorem quo_int (n r b : Nat) (hn : n ≤ 9223372036854775807) : 0 ≤ (n : Int) / ((r : Int) + (b : Int)) ∧ (n : Int) / ((r : Int) + (b : Int)) ≤ 9223372036854775807 ∧ (r + b ≤ n / (r + b) ↔ (r : Int) + (b : Int) ≤ (n : Int) / ((r : Int) + (b : Int))) := by
  have e : (n : Int) / ((r : Int) + (b : Int)) = ((n / (r + b) : Nat) : Int) := by norm_cast
  have := Nat.div_le_self n (r + b)
  rw [e]
  generalize n / (r + b) = q at *
  exact ⟨by omega, by omega, by omega⟩

set_option maxHeartbeats 800000 in
theorem rootI_yes (n : Nat) (w : World) (hn : n ≤ 9223372036854775807) :
    Calls Try.prog 9 #[.int .i64 (n : Int)] w fun e w' => e = .returned (.int .i64 ((rootN n : Nat) : Int)) ∧ Below w.heap.size w w' := by
  go_enter Try.func9, Try.ntmps9
  go_wp2
  refine wp_scope_jumps 0 (fun a' w' => Below w.heap.size w w' ∧ ∃ (r j : Nat) (u5 u6 u7 u8 u9 u10 u11 u12 u13 u14 u15 u16 u17 u18 u19 u20 u21 : Value), a' = { tmps := #[.int .i64 (n : Int), undef, .int .i64 0, .int .i64 (r : Int), .int .i64 (half j : Int), u5, u6, u7, u8, u9, u10, u11, u12, u13, u14, u15, u16, u17, u18, u19, u20, u21], defers := [] } ∧ Hid (Tried n r j)) (fun a' _ => (intOf (a'.tmps.getD 4 undef)).toNat) rfl ?_ ?_
  · go_wp2
    go_step3
    go_wp2
    go_loopw [3, 4] (fun x y wr => ∃ r j : Nat, x = .int .i64 (r : Int) ∧ y = .int .i64 (half j : Int) ∧ Hid (Tried n r j) ∧ Below w.heap.size w wr) (fun _ y _ => (intOf y).toNat)
    case atStart => exact ⟨0, 32, rfl, rfl, tried_first hn, Below.refl _ _⟩
    case round =>
      obtain ⟨r, j, rfl, rfl, ht, hbel⟩ := hrel
      have hr := tried_small ht.out hn
      have hj := half_small ht.out.1
      cases j with
      | zero =>
        have HT : Hid (rootN n = r) := tried_end ht.out
        rw [half_zero]
        go_wp2
        simp only [Exit.jump]
        go_ret
        exact ⟨ret_root (by rw [HT.out]), hbel⟩
      | succ j =>
        have hp := half_pos j
        have hB := bits_tried ht.out hn
        obtain ⟨hq1, hq2, hq3⟩ := quo_int n r (half (j + 1)) hn
        have hhf := half_half j
        by_cases hq : r + half (j + 1) ≤ n / (r + half (j + 1))
        · have h2 : Hid _ := tried_yes ht.out hq
          have hq4 := hq3.1 hq
          clear hq3 hq
          go_wp2
          go_roundw
          case rel => exact ⟨r + half (j + 1), j, by go_num, by go_num, h2, hbel⟩
          case measure => simp [intOf]; omega
        · have h2 : Hid _ := tried_no ht.out hq
          have hq4 : (n : Int) / ((r : Int) + (half (j + 1) : Int)) < (r : Int) + (half (j + 1) : Int) := by
            have := fun c => hq (hq3.2 c)
            omega
          clear hq3 hq
          have e2 : (half (j + 1) : Int) / 2 = (half j : Int) := by omega
          go_wp2
          go_step3
          exact ⟨rfl, hbel, r, j, _, _, _, _, _, _, _, _, _, _, _, _, _, _, _, _, _, rfl, h2⟩
  · rintro a' w' ⟨hb0, r0, j0, u5, u6, u7, u8, u9, u10, u11, u12, u13, u14, u15, u16, u17, u18, u19, u20, u21, rfl, ht0⟩
    go_wp2
    go_loopw [3, 4] (fun x y wr => ∃ r j : Nat, x = .int .i64 (r : Int) ∧ y = .int .i64 (half j : Int) ∧ half j ≤ half j0 ∧ Hid (Tried n r j) ∧ Below w.heap.size w wr) (fun _ y _ => (intOf y).toNat)
    case atStart => exact ⟨r0, j0, rfl, rfl, Nat.le_refl _, ht0, hb0⟩
    case round =>
      obtain ⟨r, j, rfl, rfl, hj0, ht, hbel⟩ := hrel
      have hr := tried_small ht.out hn
      have hj := half_small ht.out.1
      cases j with
      | zero =>
        have HT : Hid (rootN n = r) := tried_end ht.out
        rw [half_zero]
        go_wp2
        simp only [Exit.jump]
        go_ret
        exact ⟨ret_root (by rw [HT.out]), hbel⟩
      | succ j =>
        have hp := half_pos j
        have hB := bits_tried ht.out hn
        obtain ⟨hq1, hq2, hq3⟩ := quo_int n r (half (j + 1)) hn
        have hhf := half_half j
        by_cases hq : r + half (j + 1) ≤ n / (r + half (j + 1))
        · have h2 : Hid _ := tried_yes ht.out hq
          have hq4 := hq3.1 hq
          clear hq3 hq
          go_wp2
          go_roundw
          case rel => exact ⟨r + half (j + 1), j, by go_num, by go_num, by omega, h2, hbel⟩
          case measure => simp [intOf]; omega
        · have h2 : Hid _ := tried_no ht.out hq
          have hq4 : (n : Int) / ((r : Int) + (half (j + 1) : Int)) < (r : Int) + (half (j + 1) : Int) := by
            have := fun c => hq (hq3.2 c)
            omega
          clear hq3 hq
          have e2 : (half (j + 1) : Int) / 2 = (half j : Int) := by omega
          go_wp2
          go_step3
          refine ⟨rfl, ⟨hbel, r, j, _, _, _, _, _, _, _, _, _, _, _, _, _, _, _, _, _, rfl, h2⟩, ?_⟩
          simp [intOf]; omega

theorem rootI_any (n : Int) (w : World) (hn : n ≤ 9223372036854775807) :
    Calls Try.prog 9 #[.int .i64 n] w fun e w' => e = .returned (.int .i64 (rootZ n)) ∧ Below w.heap.size w w' := by
  unfold rootZ
  by_cases h0 : n < 0
  · rw [if_pos h0]
    go_enter Try.func9, Try.ntmps9
    go_wp2
    go_step3
    go_wp2
    try rw [Exit.noGoto_ret]
    go_ret
    exact ⟨rfl, Below.refl _ _⟩
  · rw [if_neg h0]
    obtain ⟨m, rfl⟩ := Int.eq_ofNat_of_zero_le (show 0 ≤ n by omega)
    exact rootI_yes m w (by omega)
end Go.Proofs.Ytjpeohaelgcbaaa
