/- A code without its first byte. -/
import Derived.Test.YtonimdaimldbgaaDr
namespace Go.Proofs.Ytonimdaimldbgaa
open Go.RowKit
set_option maxRecDepth 100000

theorem tail_any (a : Option Addr) (len cap : Nat) (zs : List Int) (w : World) (hr : IsRow .u8 w a len cap zs) (hn : len ≤ 1048576) :
    Calls Try.prog 16 #[.slice a len cap] w fun e w' => ∃ a' len' cap', e = .returned (.slice a' len' cap') ∧ w' = w ∧ len' ≤ 1048576 ∧ ∃ zs', IsRow .u8 w a' len' cap' zs' := by
  by_cases h0 : len = 0
  · subst h0
    have HR : Hid (IsRow .u8 w a 0 cap zs) := hr
    clear hr
    go_enter Try.func16, Try.ntmps16
    go_wp2
    go_ret
    exact ⟨_, _, _, rfl, rfl, by omega, zs, HR.out⟩
  · rcases hr with ⟨_, h, _⟩ | ⟨x, rfl, h1, h2, h3, hc, hw⟩
    · exact absurd h h0
    · have HC : Hid (∀ i, i < zs.length → w.cell? (x.add i) = some (.int .u8 (zs.getD i 0))) := hc
      clear hc
      unfold maxLen at h2
      by_cases hcap : cap = 1
      · subst hcap
        go_enter Try.func16, Try.ntmps16
        go_wp2
        go_ret
        refine ⟨_, _, _, rfl, rfl, by omega, [], .inr ⟨x, rfl, by omega, by omega, rfl, fun i hi => absurd hi (Nat.not_lt_zero i), fun n hm => absurd hm (by simp)⟩⟩
      · have hcp : ¬ cap - 1 = 0 := by omega
        go_enter Try.func16, Try.ntmps16
        go_wp2
        go_ret
        refine ⟨_, _, _, rfl, rfl, by omega, zs.drop 1, .inr ⟨_, rfl, by omega, by unfold maxLen; omega, by simp; omega, fun i hi => ?_, fun n hm => hw n (List.mem_of_mem_drop hm)⟩⟩
        have hi' : i + 1 < zs.length := by simp at hi; omega
        have := HC.out (i + 1) hi'
        have e1 : ({ block := x.block, off := x.off + 1 } : Addr).add i = x.add (i + 1) := by
          cases i <;> simp [Addr.add] <;> omega
        rw [e1, this]
        simp
end Go.Proofs.Ytonimdaimldbgaa
