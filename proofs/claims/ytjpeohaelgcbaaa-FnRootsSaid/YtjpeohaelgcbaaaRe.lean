/- The logarithm and the bound at chance, by the program and by the specification. -/
import Derived.Test.YtjpeohaelgcbaaaRows
import Derived.WalkKit
import Derived.ProofKit
import Derived.OpenShut
import Derived.Deep.QuietTactic
import Derived.BigQuiet
import Derived.WalkSmall
import Derived.Test.YtjpeohaelgcbaaaRs
import Derived.Test.YtjpeohaelgcbaaaLi
namespace Go.Proofs.Ytjpeohaelgcbaaa
open Go.RowKit
set_option maxRecDepth 100000

def lnZ (k : Int) : Int := if 1 ≤ k ∧ k ≤ 9 then ((lnN k.toNat : Nat) : Int) else 0
def epsZ (k n : Int) : Int := if (1 ≤ k ∧ k ≤ 9) ∧ 1 ≤ n ∧ n ≤ 999 then ((epsN k.toNat n.toNat : Nat) : Int) else 0

theorem lnI (k : Int) (w : World) : Calls Try.prog 13 #[.int .i64 k] w fun e w' => e = .returned (.int .i64 (lnZ k)) ∧ Below w.heap.size w w' := by
  unfold lnZ
  by_cases h1 : k < 1
  · rw [if_neg (by omega)]
    go_enter Try.func13, Try.ntmps13
    go_wp2
    go_ret
    exact ⟨rfl, Below.refl _ _⟩
  · by_cases h9 : 9 < k
    · rw [if_neg (by omega)]
      go_enter Try.func13, Try.ntmps13
      go_wp2
      go_ret
      exact ⟨rfl, Below.refl _ _⟩
    · rw [if_pos (by omega)]
      go_enter Try.func13, Try.ntmps13
      go_wp2
      go_ret
      exact ⟨ret_root (by unfold lnN; omega), Below.refl _ _⟩

theorem lnS (k : Int) (w : World) : Calls Try.prog 12 #[.int .i64 k] w fun e w' => e = .returned (.int .i64 (lnZ k)) ∧ Below w.heap.size w w' := by
  unfold lnZ
  have c := in_any k 1 9
  by_cases h1 : 1 ≤ k ∧ k ≤ 9
  · rw [if_pos h1]
    rw [decide_eq_true h1] at c
    go_enter Try.func12, Try.ntmps12
    go_wp2_with fail
    refine (c _).mono ?_
    rintro e w1 ⟨rfl, rfl⟩
    go_wp2
    go_ret
    exact ⟨ret_root (by unfold lnN; omega), Below.refl _ _⟩
  · rw [if_neg h1]
    rw [decide_eq_false h1] at c
    go_enter Try.func12, Try.ntmps12
    go_wp2_with fail
    refine (c _).mono ?_
    rintro e w1 ⟨rfl, rfl⟩
    go_wp2
    go_ret
    exact ⟨rfl, Below.refl _ _⟩

theorem eps_arg {k n : Int} (h : (1 ≤ k ∧ k ≤ 9) ∧ 1 ≤ n ∧ n ≤ 999) : 0 ≤ 500 * lnZ k / n ∧ 500 * lnZ k / n ≤ 10362000 ∧ 0 ≤ lnZ k ∧ lnZ k ≤ 20724 ∧ rootZ (500 * lnZ k / n) = ((epsN k.toNat n.toNat : Nat) : Int) := by
  obtain ⟨a, rfl⟩ := Int.eq_ofNat_of_zero_le (show 0 ≤ k by omega)
  obtain ⟨b, rfl⟩ := Int.eq_ofNat_of_zero_le (show 0 ≤ n by omega)
  have e1 : lnZ (a : Int) = ((lnN a : Nat) : Int) := by unfold lnZ; rw [if_pos h.1]; rfl
  have h3 : lnN a ≤ 20724 := by unfold lnN; omega
  have e2 : 500 * lnZ (a : Int) / (b : Int) = ((500 * lnN a / b : Nat) : Int) := by rw [e1]; norm_cast
  have h4 := Nat.div_le_self (500 * lnN a) b
  rw [e2, e1]
  refine ⟨Int.natCast_nonneg _, ?_, Int.natCast_nonneg _, by omega, ?_⟩
  · generalize 500 * lnN a / b = q at *
    omega
  · unfold rootZ
    rw [if_neg (by have := Int.natCast_nonneg (500 * lnN a / b); omega)]
    rfl

theorem epsZ_no {k n : Int} (h : ¬ ((1 ≤ k ∧ k ≤ 9) ∧ 1 ≤ n ∧ n ≤ 999)) : epsZ k n = 0 := by unfold epsZ; rw [if_neg h]
theorem epsZ_yes {k n : Int} (h : (1 ≤ k ∧ k ≤ 9) ∧ 1 ≤ n ∧ n ≤ 999) : epsZ k n = ((epsN k.toNat n.toNat : Nat) : Int) := by unfold epsZ; rw [if_pos h]
theorem eps_pos {k n : Int} (h : (1 ≤ k ∧ k ≤ 9) ∧ 1 ≤ n ∧ n ≤ 999) : 0 < epsZ k n := by
  rw [epsZ_yes h]
  have := epsN_pos (k := k.toNat) (n := n.toNat) (by omega) (by omega) (by omega)
  omega
theorem eps_weight {k n : Int} (h : (1 ≤ k ∧ k ≤ 9) ∧ 1 ≤ n ∧ n ≤ 999) (h2 : ¬ n = 999) : epsZ k (n + 1) ≤ epsZ k n := by
  rw [epsZ_yes h, epsZ_yes (by omega)]
  have := epsN_weight k.toNat (m := n.toNat) (n := (n + 1).toNat) (by omega) (by omega)
  omega
theorem eps_sure {k n : Int} (h : (1 ≤ k ∧ k ≤ 9) ∧ 1 ≤ n ∧ n ≤ 999) (h2 : ¬ k = 9) : epsZ k n ≤ epsZ (k + 1) n := by
  rw [epsZ_yes h, epsZ_yes (by omega)]
  have := epsN_sure (k := k.toNat) (l := (k + 1).toNat) n.toNat (by omega)
  omega

set_option maxHeartbeats 800000 in
theorem epsI (k n : Int) (w : World) : Calls Try.prog 11 #[.int .i64 k, .int .i64 n] w fun e w' => e = .returned (.int .i64 (epsZ k n)) ∧ Below w.heap.size w w' := by
  unfold epsZ
  by_cases h : (1 ≤ k ∧ k ≤ 9) ∧ 1 ≤ n ∧ n ≤ 999
  · rw [if_pos h]
    obtain ⟨q0, q1, l0, l1, hr⟩ := eps_arg h
    obtain ⟨⟨h1, h2⟩, h3, h4⟩ := h
    rw [← hr]
    have c1 := fun W => lnI k W
    generalize lnZ k = L at c1 q0 q1 l0 l1
    have c2 := fun W => rootI_any (500 * L / n) W (by omega)
    generalize rootZ (500 * L / n) = R at c2
    clear hr
    go_enter Try.func11, Try.ntmps11
    go_wp2_with fail
    refine (c1 _).mono ?_
    rintro e w1 ⟨rfl, hb1⟩
    go_wp2_with fail
    refine (c2 _).mono ?_
    rintro e w2 ⟨rfl, hb2⟩
    go_wp2
    go_ret
    exact ⟨rfl, hb1.trans (hb2.mono hb1.size)⟩
  · rw [if_neg h]
    by_cases h1 : k < 1
    · go_enter Try.func11, Try.ntmps11
      go_wp2
      go_ret
      exact ⟨rfl, Below.refl _ _⟩
    · by_cases h2 : 9 < k
      · go_enter Try.func11, Try.ntmps11
        go_wp2
        go_ret
        exact ⟨rfl, Below.refl _ _⟩
      · by_cases h3 : n < 1
        · go_enter Try.func11, Try.ntmps11
          go_wp2
          go_ret
          exact ⟨rfl, Below.refl _ _⟩
        · have h4 : 999 < n := by omega
          go_enter Try.func11, Try.ntmps11
          go_wp2
          go_ret
          exact ⟨rfl, Below.refl _ _⟩

set_option maxHeartbeats 800000 in
theorem epsS (k n : Int) (w : World) : Calls Try.prog 15 #[.int .i64 k, .int .i64 n] w fun e w' => e = .returned (.int .i64 (epsZ k n)) ∧ Below w.heap.size w w' := by
  unfold epsZ
  have i1 := in_any k 1 9
  have i2 := in_any n 1 999
  by_cases hk : 1 ≤ k ∧ k ≤ 9
  · rw [decide_eq_true hk] at i1
    by_cases hm : 1 ≤ n ∧ n ≤ 999
    · rw [decide_eq_true hm] at i2
      rw [if_pos ⟨hk, hm⟩]
      obtain ⟨q0, q1, l0, l1, hr⟩ := eps_arg ⟨hk, hm⟩
      obtain ⟨h1, h2⟩ := hk
      obtain ⟨h3, h4⟩ := hm
      rw [← hr]
      have c1 := fun W => lnS k W
      generalize lnZ k = L at c1 q0 q1 l0 l1
      have c2 := fun W => rootS_any (500 * L / n) W (by omega)
      generalize rootZ (500 * L / n) = R at c2
      clear hr
      go_enter Try.func15, Try.ntmps15
      go_wp2_with fail
      refine (i1 _).mono ?_
      rintro e w1 ⟨rfl, rfl⟩
      go_wp2_with fail
      refine (i2 _).mono ?_
      rintro e w1 ⟨rfl, rfl⟩
      go_wp2_with fail
      refine (c1 _).mono ?_
      rintro e w1 ⟨rfl, hb1⟩
      go_wp2_with fail
      refine (c2 _).mono ?_
      rintro e w2 ⟨rfl, hb2⟩
      go_wp2
      go_ret
      exact ⟨rfl, hb1.trans (hb2.mono hb1.size)⟩
    · rw [decide_eq_false hm] at i2
      rw [if_neg (fun h => hm h.2)]
      go_enter Try.func15, Try.ntmps15
      go_wp2_with fail
      refine (i1 _).mono ?_
      rintro e w1 ⟨rfl, rfl⟩
      go_wp2_with fail
      refine (i2 _).mono ?_
      rintro e w1 ⟨rfl, rfl⟩
      go_wp2
      go_ret
      exact ⟨rfl, Below.refl _ _⟩
  · rw [decide_eq_false hk] at i1
    rw [if_neg (fun h => hk h.1)]
    go_enter Try.func15, Try.ntmps15
    go_wp2_with fail
    refine (i1 _).mono ?_
    rintro e w1 ⟨rfl, rfl⟩
    go_wp2
    go_ret
    exact ⟨rfl, Below.refl _ _⟩
end Go.Proofs.Ytjpeohaelgcbaaa
