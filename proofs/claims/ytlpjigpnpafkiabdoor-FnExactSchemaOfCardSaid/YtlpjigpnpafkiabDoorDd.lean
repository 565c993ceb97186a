/- The decimal digits of a number, one by one. -/
import Derived.Test.YtlpjigpnpafkiabDoorRows
import Derived.WalkKit
import Derived.ProofKit
import Derived.OpenShut
import Derived.Laws.BytesArg
import Derived.Lib.ItoaNum
namespace Go.Proofs.YtlpjigpnpafkiabDoor
open Go.RowKit
set_option maxRecDepth 100000

def ds (u : Nat) : List UInt8 := if u = 0 then [] else Lib.decDigits u
theorem ds_pos (u : Nat) (h : 0 < u) : ds u = ds (u / 10) ++ [UInt8.ofNat (48 + u % 10)] := by
  unfold ds
  rw [if_neg (by omega), Lib.decDigits]
  by_cases h10 : u < 10
  · rw [dif_pos h10, if_pos (by omega), Nat.mod_eq_of_lt h10]; rfl
  · rw [dif_neg h10, if_neg (by omega)]
theorem ds_zero : ds 0 = [] := rfl
theorem ds_of (u : Nat) (h : 0 < u) : ds u = Lib.decDigits u := if_neg (by omega)

theorem one_text (wx : World) (b : Int) : (convert 69 9 (.slice (some ⟨wx.heap.size, 0, none⟩) 1 1)).run Tryd.prog (wx.alloc (.cells #[.int .u8 b] 5)) = .ok (.string ⟨#[UInt8.ofNat b.toNat]⟩) (wx.alloc (.cells #[.int .u8 b] 5)) :=
  run_convert_bytes_arg (P := Tryd.prog) _ 69 5 Tryd.underlying69 Tryd.underlying5 wx.heap.size 0 1 1 [b] rfl (fun i hi => by
    obtain rfl : i = 0 := by omega
    simp) _ Tryd.underlying9

theorem one_text_drew (wx : World) (b : Int) : (convert 69 9 (.slice (some ⟨wx.heap.size, 0, none⟩) 1 1)).run Tryd.prog (wx.alloc (.cells #[.int .u8 b] 5)).drew = .ok (.string ⟨#[UInt8.ofNat b.toNat]⟩) (wx.alloc (.cells #[.int .u8 b] 5)).drew :=
  run_convert_bytes_arg (P := Tryd.prog) _ 69 5 Tryd.underlying69 Tryd.underlying5 wx.heap.size 0 1 1 [b] rfl (fun i hi => by
    obtain rfl : i = 0 := by omega
    show (wx.alloc (.cells #[.int .u8 b] 5)).cell? _ = _
    simp) _ Tryd.underlying9

theorem pow_step (u k : Nat) (h0 : 0 < u) (h : u < 10 ^ (19 - k)) : k < 19 ∧ u / 10 < 10 ^ (19 - (k + 1)) := by
  have hk : k < 19 := by
    rcases Nat.lt_or_ge k 19 with h1 | h1
    · exact h1
    · rw [show 19 - k = 0 by omega] at h; simp at h; omega
  refine ⟨hk, Nat.div_lt_of_lt_mul ?_⟩
  rw [show 19 - k = 19 - (k + 1) + 1 by omega, Nat.pow_succ, Nat.mul_comm] at h
  exact h

theorem cat1 (b c : UInt8) (done : List UInt8) (h : b = c) : Value.string ((⟨#[b]⟩ : ByteArray) ++ ⟨done.toArray⟩) = .string ⟨(c :: done).toArray⟩ := by
  subst h
  congr 1

end Go.Proofs.YtlpjigpnpafkiabDoor
