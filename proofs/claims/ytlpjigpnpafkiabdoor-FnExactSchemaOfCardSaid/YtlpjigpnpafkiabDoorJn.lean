/- Texts with another one between, by the library and by the specification. -/
import Derived.Test.YtlpjigpnpafkiabDoorVkp
import Derived.Test.YtlpjigpnpafkiabDoorShelfJ
namespace Go.Proofs.YtlpjigpnpafkiabDoor
open Go.RowKit
set_option maxRecDepth 100000

theorem implJoin_any (v : Value) (ss : List ByteArray) (sep : ByteArray) (w : World) (h : RowS w v ss) (hn : ss.length ≤ 1048576) (hz : (joinT ss sep).size ≤ 1000000) :
    Calls Tryd.prog 34 #[v, .string sep] w fun e w' => e = .returned (.string (joinT ss sep)) ∧ Below w.heap.size w w' := by
  obtain ⟨oa, cap, rfl, hc, hr⟩ := h
  by_cases h0 : 0 < ss.length
  · obtain ⟨g, o, rfl, hg, hj⟩ := hr h0
    refine Tryd.strings_Join g o cap ss sep w (fun j x hx => ?_) hg (by omega) hc ?_
    · have hlt : j < ss.length := by
        rcases Nat.lt_or_ge j ss.length with h1 | h1
        · exact h1
        · rw [List.getElem?_eq_none h1] at hx; cases hx
      rw [hj j hlt, tx_eq hlt]
      rw [List.getElem?_eq_getElem hlt] at hx
      injection hx with hx
      rw [hx]
    · have h1 : (joinT ss sep).size = (Lib.join (ss.map (·.data.toList)) sep.data.toList).length := by simp [joinT, ByteArray.size]
      omega
  · obtain rfl : ss = [] := List.eq_nil_of_length_eq_zero (by omega)
    exact (Tryd.strings_Join_none oa cap sep w).mono fun e w' ⟨h1, h2⟩ => ⟨h1, h2 ▸ Below.refl _ _⟩

set_option maxHeartbeats 400000 in
theorem specJoin_any (v : Value) (ss : List ByteArray) (sep : ByteArray) (w : World) (h : RowS w v ss) (hn : ss.length ≤ 1048576) (hz : (joinT ss sep).size ≤ 1000000) :
    Calls Tryd.prog 28 #[v, .string sep] w fun e w' => e = .returned (.string (joinT ss sep)) ∧ Below w.heap.size w w' := by
  obtain ⟨oa, cap, rfl, hc, hr⟩ := h
  have HR : Hid (0 < ss.length → ∃ g o, oa = some ⟨g, o, none⟩ ∧ g < w.heap.size ∧ ∀ j, j < ss.length → w.cell? ⟨g, o + j, none⟩ = some (.string (tx ss j))) := hr
  clear hr
  go_enter Tryd.func28, Tryd.ntmps28
  go_wp2
  go_loopw [5, 6] (fun out i wr => ∃ k : Nat, i = .int .i64 k ∧ out = .string (joinT (ss.take k) sep) ∧ k ≤ ss.length ∧ wr = w) (fun _ i _ => ss.length - (intOf i).toNat)
  case atStart => exact ⟨0, rfl, rfl, by omega, rfl⟩
  case round =>
    obtain ⟨k, rfl, rfl, hk, rfl⟩ := hrel
    by_cases hlt : k < ss.length
    · obtain ⟨g, o, rfl, hg, hj⟩ := HR.out (by omega)
      have hcell := hj k hlt
      clear hj HR
      by_cases h0 : 0 < k
      · have hp := joinT_part sep hlt h0
        have HN : Hid (joinT (ss.take (k + 1)) sep = joinT (ss.take k) sep ++ sep ++ tx ss k) := joinT_snoc hlt h0 sep
        generalize joinT (ss.take k) sep = J at hp HN
        generalize tx ss k = t at hcell hp HN
        generalize (joinT ss sep).size = Z at hp hz
        go_wp2
        go_roundw
        case rel => exact ⟨k + 1, by go_num, by rw [HN.out], by omega, by first | rfl | trivial⟩
        case measure => simp [intOf]; omega
      · obtain rfl : k = 0 := by omega
        have hp := joinT_first sep hlt
        have HN : Hid (joinT (ss.take 1) sep = tx ss 0) := joinT_zero hlt sep
        generalize tx ss 0 = t at hcell hp HN
        generalize (joinT ss sep).size = Z at hp hz
        have hcell' : wr.cell? ⟨g, o, none⟩ = some (.string t) := hcell
        have e0 : joinT (ss.take 0) sep = ⟨#[]⟩ := rfl
        rw [e0]
        go_wp2
        go_roundw
        case rel => exact ⟨1, by go_num, by rw [HN.out]; exact congrArg Value.string (bytes_ext (by simp)), by omega, by first | rfl | trivial⟩
        case measure => simp [intOf]; omega
    · obtain rfl : k = ss.length := by omega
      rw [List.take_length]
      go_wp2
      go_ret
      exact ⟨rfl, Below.refl _ _⟩
end Go.Proofs.YtlpjigpnpafkiabDoor
