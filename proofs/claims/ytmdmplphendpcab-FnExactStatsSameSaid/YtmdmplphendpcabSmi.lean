/- Two lists of numbers held against each other, by the specification. -/
import Derived.Test.YtmdmplphendpcabSm0
namespace Go.Proofs.Ytmdmplphendpcab
open Go.RowKit
set_option maxRecDepth 100000
set_option maxHeartbeats 800000 in
theorem specSameI_any (va vb : Value) (za zb : List Int) (w : World) (ha : RowI w va za) (hb : RowI w vb zb) (hna : za.length ≤ 1099511627776) :
    Calls Try.prog 49 #[va, vb] w fun e w' => e = .returned (.bool (decide (za = zb))) ∧ Below w.heap.size w w' := by
  obtain ⟨oa, ca, rfl, hca, hra⟩ := ha
  obtain ⟨ob, cb, rfl, hcb, hrb⟩ := hb
  have HA : Hid (0 < za.length → ∃ g o, oa = some ⟨g, o, none⟩ ∧ g < w.heap.size ∧ ∀ j, j < za.length → w.cell? ⟨g, o + j, none⟩ = some (.int .i64 (za.getD j 0))) := hra
  have HB : Hid (0 < zb.length → ∃ g o, ob = some ⟨g, o, none⟩ ∧ g < w.heap.size ∧ ∀ j, j < zb.length → w.cell? ⟨g, o + j, none⟩ = some (.int .i64 (zb.getD j 0))) := hrb
  clear hra hrb
  by_cases hl : za.length = zb.length
  rotate_left
  · have HF : Hid (decide (za = zb) = false) := same_len hl
    have hq : ((za.length : Int) == (zb.length : Int)) = false := by simp; omega
    go_enter Try.func49, Try.ntmps49
    go_wp2
    go_ret
    exact ⟨by rw [HF.out]; rfl, Below.refl _ _⟩
  have HL : Hid (za.length = zb.length) := hl
  obtain ⟨n, hn⟩ : ∃ n, n = za.length := ⟨_, rfl⟩
  have HNA : Hid (n = za.length) := hn
  have HNB : Hid (n = zb.length) := hn.trans hl
  rw [← hl, ← hn]
  rw [← hn] at hca hna
  clear hl hn hcb
  go_enter Try.func49, Try.ntmps49
  go_wp2
  go_loopw [5] (fun i wr => ∃ k q : Nat, i = .int .i64 k ∧ k ≤ n ∧ (∀ j, j < k → za.getD j 0 = zb.getD j 0) ∧ wr = w.drewN q) (fun i _ => n - (intOf i).toNat)
  case atStart => exact ⟨0, 0, rfl, by omega, by omega, rfl⟩
  case round =>
    obtain ⟨k, q, rfl, hk, hal, rfl⟩ := hrel
    have HK : Hid (∀ j, j < k → za.getD j 0 = zb.getD j 0) := hal
    clear hal
    by_cases hlt : k < n
    · obtain ⟨g, o, rfl, _, hj⟩ := HA.out (by have := HNA.out; omega)
      obtain ⟨g', o', rfl, _, hj'⟩ := HB.out (by have := HNB.out; omega)
      have ha' := hj k (by have := HNA.out; omega)
      have hb' := hj' k (by have := HNB.out; omega)
      clear hj hj' HA HB
      by_cases he : za.getD k 0 = zb.getD k 0
      · have HE : Hid (za.getD k 0 = zb.getD k 0) := he
        have hq : (za.getD k 0 == zb.getD k 0) = true := by rw [he]; simp
        clear he
        generalize za.getD k 0 = x at ha' hq
        generalize zb.getD k 0 = y at hb' hq
        go_wp2
        go_quiet (fail)
        all_goals go_wp2
        all_goals go_roundw
        case rel =>
          refine ⟨k + 1, _, by go_num, by omega, ?_, by first | rfl | (simp only [World.drewN_drewN]; rfl)⟩
          intro j hj
          by_cases e : j = k
          · subst e; exact HE.out
          · exact HK.out j (by omega)
        case measure => simp [intOf]; omega
      · have HF : Hid (decide (za = zb) = false) := sameI_no he
        have hq : (za.getD k 0 == zb.getD k 0) = false := by simpa using he
        clear he
        generalize za.getD k 0 = x at ha' hq
        generalize zb.getD k 0 = y at hb' hq
        go_wp2
        go_quiet (fail)
        all_goals go_wp2
        all_goals go_ret
        all_goals exact ⟨by rw [HF.out]; rfl, below_drewN (below_drewN (Below.refl _ _) _) _⟩
    · have HF : Hid (decide (za = zb) = true) := sameI_yes HL.out fun j hj => HK.out j (by have := HNA.out; omega)
      go_wp2
      go_ret
      exact ⟨by rw [HF.out]; rfl, below_drewN (Below.refl _ _) _⟩
end Go.Proofs.Ytmdmplphendpcab
