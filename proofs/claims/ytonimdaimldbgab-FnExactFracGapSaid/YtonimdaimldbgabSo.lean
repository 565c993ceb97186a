/- The specification's great number of a number. -/
import Derived.Test.YtonimdaimldbgabSb
namespace Go.Proofs.Ytonimdaimldbgab
open Go.RowKit
set_option maxRecDepth 100000

set_option maxHeartbeats 800000 in
theorem specOf_yes (n0 : Nat) (w : World) (h : n0 ≤ 9223372036854775807) :
    Calls Try.prog 28 #[.int .i64 n0] w fun e w' => ∃ v, e = .returned (.tuple #[v, .bool true]) ∧ OwnA w' w.heap.size v (some n0) ∧ Below w.heap.size w w' := by
  obtain ⟨i0, hi, hz0, hz1, hz2⟩ := info_parts intInfo
  have hb1 : Below w.heap.size w (w.alloc (.cells #[] 3)) := (Below.refl _ _).alloc (Nat.le_refl _) _
  have hr0 := ownI_lit0 w w.heap.size (Nat.le_refl _)
  go_enter Try.func28, Try.ntmps28
  go_wp2
  go_loopw [0, 4] (fun n out wr => ∃ (k cur : Nat) (done : List Nat), n = .int .i64 cur ∧ k ≤ 3 ∧ cur ≤ 9223372036854775807 ∧ Hid (cur < 16777216 ^ (3 - k)) ∧ done.length = k ∧ Hid (done ++ digs cur = digs n0) ∧
      wr.ownsRow w.heap.size 3 1 out done.length ((up done).map (Value.int .i64)) ∧ Below w.heap.size w wr) (fun n _ _ => (intOf n).toNat)
  case atStart => exact ⟨0, n0, [], rfl, by omega, h, (by show n0 < _; omega), rfl, (by show _ = _; simp), hr0, hb1⟩
  case round =>
    obtain ⟨k, cur, done, rfl, hk, hcur, hpow, hlen, hE, hown, hbr⟩ := hrel
    clear hr0 hb1
    have hs := hbr.size
    by_cases hlt : 0 < cur
    · have hk3 : k < 3 := by
        rcases Nat.lt_or_ge k 3 with h1 | h1
        · exact h1
        · have := hpow.out; rw [show 3 - k = 0 by omega] at this; omega
      go_wp2_with (at_builtin; refine wpList_append_own _ rfl _ _ 24 rfl w.heap.size 3 i0 (.int .i64 0) 1 8 Try.underlying24 hi hz0 hz1 hz2 rfl (by decide) _ _ _ rfl (hown.alloc _) ⟨wr.heap.size, 0, none⟩ 1 1 [_] rfl rfl (newc _ _ _) (ints_oneCell .i64 [_]) (by unfold maxLen; omega) (by omega) (by simp; omega) ?_)
      intro v' w1 hown' hgrow _
      have e : (cur : Int) % 16777216 = ((cur % 16777216 : Nat) : Int) := by omega
      rw [e] at hown'
      have R := step_row hbr hown (by rw [hlen]; exact hown') hgrow
      clear hown' hgrow hown e
      go_wp2
      go_roundw
      case rel =>
        refine ⟨k + 1, cur / 16777216, done ++ [cur % 16777216], by go_num, by omega, by omega, ?_, by simp [hlen], ?_, R.1, R.2⟩
        · show _ < _
          have := hpow.out
          rw [show 3 - k = 3 - (k + 1) + 1 by omega, Nat.pow_succ] at this
          exact Nat.div_lt_of_lt_mul (by rw [Nat.mul_comm]; exact this)
        · show _ = _
          rw [← hE.out, digs_pos cur hlt]; simp
      case measure => simp [intOf]; omega
    · obtain rfl : cur = 0 := by omega
      have HF : Hid (done = digs n0) := by
        show done = _
        rw [← hE.out, digs_zero, List.append_nil]
      go_wp2
      go_ret2
      refine ⟨_, rfl, ?_, hbr⟩
      show wr.ownsRow _ _ _ _ (up (digs n0)).length ((up (digs n0)).map (Value.int .i64))
      rw [← HF.out, up_len]; exact hown

theorem specOf_any (n : Int) (w : World) (h : n ≤ 9223372036854775807) :
    Calls Try.prog 28 #[.int .i64 n] w fun e w' => ∃ v, e = .returned (.tuple #[v, .bool (ofO n).isSome]) ∧ OwnA w' w.heap.size v (ofO n) ∧ Below w.heap.size w w' := by
  unfold ofO
  by_cases h0 : 0 ≤ n
  · rw [if_pos h0]
    obtain ⟨m, rfl⟩ := Int.eq_ofNat_of_zero_le h0
    exact specOf_yes m w (by omega)
  · rw [if_neg h0]
    have hb1 : Below w.heap.size w (w.alloc (.cells #[] 3)) := (Below.refl _ _).alloc (Nat.le_refl _) _
    have hl0 := lit0A w w.heap.size (Nat.le_refl _)
    go_enter Try.func28, Try.ntmps28
    go_wp2
    go_ret2
    exact ⟨_, rfl, hl0, hb1⟩
end Go.Proofs.Ytonimdaimldbgab
