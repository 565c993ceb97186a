/- The number that begins at a place, as a plain function. -/
import Derived.Test.YtgekbbojhlcppaaDoorRows
import Derived.WalkKit
import Derived.ProofKit
import Derived.OpenShut
namespace Go.Proofs.YtgekbbojhlcppaaDoor
open Go.RowKit
set_option maxRecDepth 100000

def num : Nat → Nat → Int → List Int → Option (Int × Nat)
  | 0, _, _, _ => none
  | _ + 1, _, _, [] => none
  | f + 1, k, n, d :: r =>
    if d < 128 then (if (0 < k ∧ d = 0) ∨ 2147483647 < n + d % 128 * 2 ^ (7 * k) then none else some (n + d % 128 * 2 ^ (7 * k), k + 1))
    else num f (k + 1) (n + d % 128 * 2 ^ (7 * k)) r
def getNum (zs : List Int) (p : Int) : Option (Int × Nat) := if p < 0 then none else num 5 0 0 (zs.drop p.toNat)
/-- What GetNum hands back. -/
def gotNum (p : Int) : Option (Int × Nat) → Value
  | none => .tuple #[.int .i64 0, .int .i64 0, .bool false]
  | some (n, k) => .tuple #[.int .i64 n, .int .i64 (p + k), .bool true]

theorem or_join (n x : Int) (k : Nat) (hk : k ≤ 4) (h0 : 0 ≤ n) (h1 : n < 2 ^ (7 * k)) (hx0 : 0 ≤ x) (hx1 : x < 128) :
    bits .or .i64 n (wrap64 (x * 2 ^ (7 * k))) = n + x * 2 ^ (7 * k) ∧ 0 ≤ n + x * 2 ^ (7 * k) ∧ n + x * 2 ^ (7 * k) < 2 ^ (7 * (k + 1)) := by
  have hw : ∀ n : Int, 0 ≤ n → n < 2 ^ 40 → IntKind.i64.wrap n = n := fun n h0 h1 => by rw [IntKind.wrap_i64]; omega
  obtain ⟨a, rfl⟩ := Int.eq_ofNat_of_zero_le h0
  obtain ⟨b, rfl⟩ := Int.eq_ofNat_of_zero_le hx0
  have hb : b < 128 := by omega
  have hp : (2 : Int) ^ (7 * (k + 1)) = 128 * 2 ^ (7 * k) := by rw [Nat.mul_add, Int.pow_add]; omega
  have hP : (2 : Int) ^ (7 * k) = ((2 ^ (7 * k) : Nat) : Int) := by simp
  have hle : 2 ^ (7 * k) ≤ 2 ^ 28 := Nat.pow_le_pow_right (by decide) (by omega)
  have h1' : a < 2 ^ (7 * k) := by rw [hP] at h1; exact_mod_cast h1
  rw [hp, hP]
  generalize hM : 2 ^ (7 * k) = M at *
  have hM0 : 0 < M := by rw [← hM]; exact Nat.two_pow_pos _
  have hbM : b * M ≤ 127 * M := Nat.mul_le_mul_right _ (by omega)
  have e1 : ((b : Int) * (M : Int)) = ((b * M : Nat) : Int) := by simp
  rw [e1]
  have e2 : wrap64 ((b * M : Nat) : Int) = ((b * M : Nat) : Int) := by unfold wrap64; omega
  rw [e2, (bits_nat .i64 40 (by decide) hw a (b * M) (by omega) (by omega)).2]
  have e3 : a ||| b * M = b * M + a := by
    rw [Nat.or_comm, ← hM, Nat.mul_comm b, Nat.two_pow_add_eq_or_of_lt (by rw [hM]; exact h1') b]
  rw [e3]
  exact ⟨by omega, by omega, by omega⟩

theorem drop_at {zs : List Int} {i : Nat} (h : i < zs.length) : zs.drop i = zs.getD i 0 :: zs.drop (i + 1) := by
  rw [List.drop_eq_getElem_cons h]; simp [h]
theorem num_bad {zs : List Int} {q k : Nat} {a d V : Int} (hk : k < 5) (hin : q + k < zs.length) (hd : d = zs.getD (q + k) 0) (hV : V = a + d % 128 * 2 ^ (7 * k)) (hl : d < 128) (hb : (0 < k ∧ d = 0) ∨ 2147483647 < V) : num (5 - k) k a (zs.drop (q + k)) = none := by
  obtain ⟨f, hf⟩ : ∃ f, 5 - k = f + 1 := ⟨4 - k, by omega⟩
  rw [hf, drop_at hin, ← hd, num, if_pos hl, ← hV, if_pos hb]
theorem num_good {zs : List Int} {q k : Nat} {a d V : Int} (hk : k < 5) (hin : q + k < zs.length) (hd : d = zs.getD (q + k) 0) (hV : V = a + d % 128 * 2 ^ (7 * k)) (hl : d < 128) (hb : ¬ ((0 < k ∧ d = 0) ∨ 2147483647 < V)) : num (5 - k) k a (zs.drop (q + k)) = some (V, k + 1) := by
  obtain ⟨f, hf⟩ : ∃ f, 5 - k = f + 1 := ⟨4 - k, by omega⟩
  rw [hf, drop_at hin, ← hd, num, if_pos hl, ← hV, if_neg hb]
theorem num_more {zs : List Int} {q k : Nat} {a d V : Int} (hk : k < 5) (hin : q + k < zs.length) (hd : d = zs.getD (q + k) 0) (hV : V = a + d % 128 * 2 ^ (7 * k)) (hl : ¬ d < 128) : num (5 - k) k a (zs.drop (q + k)) = num (5 - (k + 1)) (k + 1) V (zs.drop (q + (k + 1))) := by
  obtain ⟨f, hf⟩ : ∃ f, 5 - k = f + 1 := ⟨4 - k, by omega⟩
  rw [hf, drop_at hin, ← hd, num, if_neg hl, ← hV, show 5 - (k + 1) = f by omega]
  rfl
theorem num_out {zs : List Int} {q k : Nat} {a : Int} (h : k = 5 ∨ zs.length ≤ q + k) : num (5 - k) k a (zs.drop (q + k)) = none := by
  rcases h with rfl | h
  · rfl
  · rw [List.drop_eq_nil_of_le h]
    cases 5 - k <;> rfl

end Go.Proofs.YtgekbbojhlcppaaDoor
