/- A list of texts that a function is handed; whether it holds a text. (What is plain.) -/
import Derived.Test.YteadkdllmeeocabBg
import Derived.Test.YteadkdllmeeocabBr
namespace Go.Proofs.Yteadkdllmeeocab
open Go.RowKit
set_option maxRecDepth 100000
def tx (ss : List ByteArray) (j : Nat) : ByteArray := ss.getD j ByteArray.empty
theorem tx_eq {ss : List ByteArray} {j : Nat} (h : j < ss.length) : tx ss j = ss[j] := by simp [tx, h]
theorem tx_mem {ss : List ByteArray} {j : Nat} (h : j < ss.length) : tx ss j ∈ ss := by rw [tx_eq h]; exact List.getElem_mem h
theorem tx_map {ss : List ByteArray} {j : Nat} (h : j < ss.length) : (ss.map Value.string)[j]? = some (.string (tx ss j)) := by simp [tx, h]

/-- What a function knows of a list of texts that it is handed. -/
def RowS (w : World) (v : Value) (ss : List ByteArray) : Prop :=
  ∃ oa cap, v = .slice oa ss.length cap ∧ ss.length ≤ cap ∧ (0 < ss.length → ∃ g o, oa = some ⟨g, o, none⟩ ∧ g < w.heap.size ∧ ∀ j, j < ss.length → w.cell? ⟨g, o + j, none⟩ = some (.string (tx ss j)))
theorem RowS.later {w w' : World} {v : Value} {ss : List ByteArray} (h : RowS w v ss) (hb : Below w.heap.size w w') : RowS w' v ss := by
  obtain ⟨oa, cap, rfl, hc, hr⟩ := h
  refine ⟨oa, cap, rfl, hc, fun h0 => ?_⟩
  obtain ⟨g, o, rfl, hg, hj⟩ := hr h0
  exact ⟨g, o, rfl, Nat.lt_of_lt_of_le hg hb.size, fun j hlt => (hb.cell (p := ⟨g, o + j, none⟩) hg).trans (hj j hlt)⟩
theorem RowS.of_own {w : World} {base n : Nat} {v : Value} {ss : List ByteArray} (h : w.ownsRow base 9 1 v n (ss.map Value.string)) (hn : ss.length = n) : RowS w v ss := by
  subst hn
  rcases h.2 with ⟨rfl, h0⟩ | ⟨g, cap, cur, rfl, hg, hcur, hcap, r⟩
  · exact ⟨none, 0, by rw [h0], by omega, fun h1 => by omega⟩
  · refine ⟨some ⟨g, 0, none⟩, cap, rfl, hcap, fun h1 => ⟨g, 0, rfl, (Array.getElem?_eq_some_iff.1 hcur).1, fun j hj => ?_⟩⟩
    rw [Nat.zero_add, h.cellAt j (by omega)]; exact tx_map hj
theorem RowS.take {w : World} {oa : Option Addr} {n cap : Nat} {ss : List ByteArray} (h : RowS w (.slice oa n cap) ss) {i : Nat} (hi : i ≤ n) : RowS w (.slice oa i cap) (ss.take i) := by
  obtain ⟨oa', cap', e, hc, hr⟩ := h
  injection e with e1 e2 e3
  subst e1 e2 e3
  have hl : (ss.take i).length = i := by simp; omega
  refine ⟨oa, cap, by rw [hl], by omega, fun h0 => ?_⟩
  obtain ⟨g, o, rfl, hg, hj⟩ := hr (by omega)
  refine ⟨g, o, rfl, hg, fun j hlt => ?_⟩
  rw [hj j (by omega)]
  have : j < i := by omega
  simp [tx, this]

theorem bytes_eq_iff {a b : ByteArray} : a.toList = b.toList ↔ a = b := by
  constructor
  · intro h
    have h2 : a.data.toList = b.data.toList := by rw [← ByteArray.toList_eq, ← ByteArray.toList_eq]; exact h
    exact ByteArray.ext (Array.toList_inj.1 h2)
  · rintro rfl; rfl

/-- Whether a text is among others. -/
def hasT (ss : List ByteArray) (t : ByteArray) : Bool := ss.any fun u => t.toList == u.toList
theorem hasT_yes {ss : List ByteArray} {t : ByteArray} {k : Nat} (h : k < ss.length) (e : t = tx ss k) : hasT ss t = true := by
  unfold hasT
  rw [List.any_eq_true]
  exact ⟨tx ss k, tx_mem h, by rw [e]; simp⟩
theorem hasT_no {ss : List ByteArray} {t : ByteArray} (h : ∀ j, j < ss.length → t ≠ tx ss j) : hasT ss t = false := by
  unfold hasT
  rw [List.any_eq_false]
  intro u hu he
  obtain ⟨j, hj, e⟩ := List.mem_iff_getElem.1 hu
  exact h j hj (by rw [tx_eq hj, e]; exact bytes_eq_iff.1 (by simpa using he))
end Go.Proofs.Yteadkdllmeeocab
