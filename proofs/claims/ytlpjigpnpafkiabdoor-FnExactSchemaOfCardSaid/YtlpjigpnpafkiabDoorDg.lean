/- The decimal digits of a number, by the specification's own loop. -/
import Derived.Test.YtlpjigpnpafkiabDoorDd
namespace Go.Proofs.YtlpjigpnpafkiabDoor
open Go.RowKit
set_option maxRecDepth 100000

set_option maxHeartbeats 800000 in
theorem digits_neg (u0 : Nat) (w : World) (h0 : 0 < u0) (h1 : u0 ≤ 9223372036854775808) :
    Calls Tryd.prog 29 #[.int .i64 (-(u0 : Int))] w fun e w' => e = .returned (.string ⟨(45 :: ds u0).toArray⟩) ∧ Below w.heap.size w w' := by
  have ot := one_text
  have hz0 : (-(u0 : Int) == 0) = false := by simp; omega
  have hn0 : decide (-(u0 : Int) < 0) = true := by simp; omega
  go_enter Tryd.func29, Tryd.ntmps29
  go_wp2
  go_loopw [0, 4, 5] (fun n v _ wr => ∃ (u : Nat) (done : List UInt8), n = .int .i64 (-(u : Int)) ∧ u ≤ 9223372036854775808 ∧ v = .string ⟨done.toArray⟩ ∧ done.length ≤ 19 ∧ u < 10 ^ (19 - done.length) ∧ ds u ++ done = ds u0 ∧ Below w.heap.size w wr) (fun n _ _ _ => (-(intOf n)).toNat)
  case atStart => exact ⟨u0, [], rfl, h1, rfl, by simp, by simp; omega, by simp, Below.refl _ _⟩
  case round =>
    obtain ⟨u, done, rfl, hu, rfl, hlen, hdn, hE, hb⟩ := hrel
    have HE : Hid (ds u ++ done = ds u0) := hE
    have HD : Hid (u < 10 ^ (19 - done.length)) := hdn
    clear hE hdn
    by_cases hz : 0 < u
    · have hm : (-(u : Int)).tmod 10 = -((u % 10 : Nat) : Int) := by rw [Int.neg_tmod, Int.tmod_eq_emod_of_nonneg (by omega)]; omega
      have hq : (-(u : Int)).tdiv 10 = -((u / 10 : Nat) : Int) := by rw [Int.neg_tdiv, Int.tdiv_eq_ediv_of_nonneg (by omega)]; omega
      have hne : (-(u : Int) != 0) = true := by simp; omega
      by_cases hr : 0 < u % 10
      all_goals
        go_wp2
        go_roundw
        case rel =>
          obtain ⟨p1, p2⟩ := pow_step u done.length hz HD.out
          refine ⟨u / 10, UInt8.ofNat (48 + u % 10) :: done, by go_num, by omega, ?_, by simp; omega, by simpa using p2, ?_, ?_⟩
          · exact cat1 _ _ _ (by first | (simp; done) | (congr 1; omega))
          · rw [← HE.out, ds_pos u hz]; simp
          · exact hb.alloc hb.size _
        case measure => simp [intOf]; omega
    · obtain rfl : u = 0 := by omega
      go_wp2
      go_ret
      refine ⟨?_, hb⟩
      have hE := HE.out
      rw [ds_zero, List.nil_append] at hE
      rw [← hE]
      exact congrArg Ending.returned (cat1 45 45 done rfl)

set_option maxHeartbeats 800000 in
theorem digits_pos (u0 : Nat) (w : World) (h0 : 0 < u0) (h1 : u0 ≤ 9223372036854775807) :
    Calls Tryd.prog 29 #[.int .i64 ((u0 : Int))] w fun e w' => e = .returned (.string ⟨(ds u0).toArray⟩) ∧ Below w.heap.size w w' := by
  have ot := one_text
  have hz0 : ((u0 : Int) == 0) = false := by simp; omega
  have hn0 : decide ((u0 : Int) < 0) = false := by simp
  go_enter Tryd.func29, Tryd.ntmps29
  go_wp2
  go_loopw [0, 4, 5] (fun n v _ wr => ∃ (u : Nat) (done : List UInt8), n = .int .i64 (u : Int) ∧ u ≤ 9223372036854775807 ∧ v = .string ⟨done.toArray⟩ ∧ done.length ≤ 19 ∧ u < 10 ^ (19 - done.length) ∧ ds u ++ done = ds u0 ∧ Below w.heap.size w wr) (fun n _ _ _ => (intOf n).toNat)
  case atStart => exact ⟨u0, [], rfl, h1, rfl, by simp, by simp; omega, by simp, Below.refl _ _⟩
  case round =>
    obtain ⟨u, done, rfl, hu, rfl, hlen, hdn, hE, hb⟩ := hrel
    have HE : Hid (ds u ++ done = ds u0) := hE
    have HD : Hid (u < 10 ^ (19 - done.length)) := hdn
    clear hE hdn
    by_cases hz : 0 < u
    · have hne : ((u : Int) != 0) = true := by simp; omega
      all_goals
        go_wp2
        go_roundw
        case rel =>
          obtain ⟨p1, p2⟩ := pow_step u done.length hz HD.out
          refine ⟨u / 10, UInt8.ofNat (48 + u % 10) :: done, by go_num, by omega, ?_, by simp; omega, by simpa using p2, ?_, ?_⟩
          · exact cat1 _ _ _ (by first | (simp; done) | (congr 1; omega))
          · rw [← HE.out, ds_pos u hz]; simp
          · exact hb.alloc hb.size _
        case measure => simp [intOf]; omega
    · obtain rfl : u = 0 := by omega
      go_wp2
      go_ret
      refine ⟨?_, hb⟩
      have hE := HE.out
      rw [ds_zero, List.nil_append] at hE
      rw [← hE]
      rfl

/-- Whatever the number. -/
theorem digits_any (n : Int) (w : World) (h0 : -9223372036854775808 ≤ n) (h1 : n ≤ 9223372036854775807) :
    Calls Tryd.prog 29 #[.int .i64 n] w fun e w' => e = .returned (.string ⟨(Lib.itoa n).toArray⟩) ∧ Below w.heap.size w w' := by
  by_cases hn : n < 0
  · obtain ⟨u, rfl⟩ : ∃ u : Nat, n = -(u : Int) := ⟨n.natAbs, by omega⟩
    have e : Lib.itoa (-(u : Int)) = 45 :: ds u := by rw [Lib.itoa, if_pos hn, ds_of u (by omega)]; simp
    rw [e]
    exact digits_neg u w (by omega) (by omega)
  · obtain ⟨u, rfl⟩ := Int.eq_ofNat_of_zero_le (show 0 ≤ n by omega)
    by_cases hu : u = 0
    · subst hu
      have e : Lib.itoa ((0 : Nat) : Int) = [48] := by rw [Lib.itoa, if_neg hn]; rw [Lib.decDigits]; rfl
      rw [e]
      go_enter Tryd.func29, Tryd.ntmps29
      go_wp2
      go_ret
      exact ⟨rfl, Below.refl _ _⟩
    · have e : Lib.itoa (u : Int) = ds u := by rw [Lib.itoa, if_neg hn, ds_of u (by omega)]; simp
      rw [e]
      exact digits_pos u w (by omega) (by omega)
end Go.Proofs.YtlpjigpnpafkiabDoor
