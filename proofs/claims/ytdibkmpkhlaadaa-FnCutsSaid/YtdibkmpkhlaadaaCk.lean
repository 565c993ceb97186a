/- Whether cuts are right, by the program and by the specification. -/
import Derived.Test.YtdibkmpkhlaadaaVcu
import Derived.Test.YtdibkmpkhlaadaaVb
import Derived.Test.YtdibkmpkhlaadaaCkp
import Derived.Test.YtdibkmpkhlaadaaCup
namespace Go.Proofs.Ytdibkmpkhlaadaa
open Go.RowKit
set_option maxRecDepth 100000
theorem implCuts_all (v : Value) (cs : List Int) (w : World) (h : RowI w v cs) (hn : cs.length ≤ 1099511627776) :
    Calls Try.prog 32 #[v] w fun e w' => e = .returned (.bool (cutsR cs)) ∧ Below w.heap.size w w' := by
  by_cases h0 : cs.length = 0
  · obtain ⟨oa, cap, rfl, hc, hr⟩ := h
    have HF : Hid (cutsR cs = false) := by unfold cutsR; rw [decide_eq_false (by omega)]; rfl
    have l1 : (cs.length : Int) < 1 := by omega
    clear hr hc h0
    generalize cs.length = n at l1 hn
    go_enter Try.func32, Try.ntmps32
    go_wp2
    go_ret
    exact ⟨by rw [HF.out]; rfl, Below.refl _ _⟩
  · have e : cutsR cs = (decide (cs.length ≤ 3) && cutsRise cs) := by unfold cutsR; rw [decide_eq_true h0]; rfl
    rw [e]
    exact implCuts_any v cs w h hn h0
theorem implCutsOk_any (v : Value) (cs : List Int) (w : World) (h : RowI w v cs) (hn : cs.length ≤ 1099511627776) :
    Calls Try.prog 13 #[v] w fun e w' => e = .returned (.bool (cutsR cs)) ∧ Below w.heap.size w w' := by
  have c := implCuts_all v cs w h hn
  obtain ⟨oa, cap, rfl, hc, hr⟩ := h
  clear hr hc
  go_enter Try.func13, Try.ntmps13
  go_wp2_with fail
  refine c.mono ?_
  rintro e w1 ⟨rfl, hb1⟩
  go_wp2
  go_ret
  exact ⟨rfl, hb1⟩
theorem word_a : wordOk ⟨#[97]⟩ = true := by decide
theorem specCutsOk_any (v : Value) (cs : List Int) (w : World) (h : RowI w v cs) (hn : cs.length ≤ 1099511627776) :
    Calls Try.prog 26 #[v] w fun e w' => e = .returned (.bool (cutsR cs)) ∧ Below w.heap.size w w' := by
  by_cases h0 : cs.length = 0
  · obtain ⟨oa, cap, rfl, hc, hr⟩ := h
    have HF : Hid (cutsR cs = false) := by unfold cutsR; rw [decide_eq_false (by omega)]; rfl
    have l1 : ¬ (0 < (cs.length : Int)) := by omega
    clear hr hc h0
    generalize cs.length = n at l1 hn
    go_enter Try.func26, Try.ntmps26
    go_wp2
    go_ret
    exact ⟨by rw [HF.out]; rfl, Below.refl _ _⟩
  · have HE : Hid (cutsR cs = attrOk ⟨⟨#[97]⟩, cs, []⟩) := by
      show _ = _
      unfold cutsR attrOk
      rw [word_a, decide_eq_true h0]
      simp [h0]
    have c := specAttrOk_any (.agg #[.string ⟨#[97]⟩, v, .slice none 0 0]) ⟨⟨#[97]⟩, cs, []⟩ w ⟨v, .slice none 0 0, rfl, h, ⟨none, 0, rfl, by simp, fun h => by simp at h⟩⟩ ⟨by show (⟨#[97]⟩ : ByteArray).size ≤ _; decide, hn, ⟨by simp, by simp⟩⟩
    obtain ⟨oa, cap, rfl, hc, hr⟩ := h
    have l1 : (0 < (cs.length : Int)) := by omega
    clear hr hc h0
    rw [HE.out]
    clear HE
    generalize attrOk ⟨⟨#[97]⟩, cs, []⟩ = r at c
    generalize cs.length = n at l1 hn c
    go_enter Try.func26, Try.ntmps26
    go_wp2_with fail
    refine c.mono ?_
    rintro e w1 ⟨rfl, hb1⟩
    go_wp2
    go_ret
    exact ⟨by cases r <;> rfl, hb1⟩
end Go.Proofs.Ytdibkmpkhlaadaa
