/- An attribute: whether it is right, how many bins it has, by the program and by the specification. (What is plain.) -/
import Derived.Test.YteadkdllmeeocabVwp
import Derived.Test.YteadkdllmeeocabBl
namespace Go.Proofs.Yteadkdllmeeocab
open Go.RowKit
set_option maxRecDepth 100000
structure AttrD where
  name : ByteArray
  cuts : List Int
  vals : List ByteArray

/-- What a function knows of an attribute that it is handed. -/
def AttrAt (w : World) (v : Value) (a : AttrD) : Prop :=
  ∃ vc vv, v = .agg #[.string a.name, vc, vv] ∧ RowI w vc a.cuts ∧ RowS w vv a.vals
theorem AttrAt.later {w w' : World} {v : Value} {a : AttrD} (h : AttrAt w v a) (hb : Below w.heap.size w w') : AttrAt w' v a := by
  obtain ⟨vc, vv, rfl, h1, h2⟩ := h
  exact ⟨vc, vv, rfl, h1.later hb, h2.later hb⟩
/-- What is asked of the sizes. -/
structure okA (a : AttrD) : Prop where
  name : a.name.size ≤ 1099511627776
  cuts : a.cuts.length ≤ 1099511627776
  vals : okS a.vals

def cutAt (cs : List Int) (i : Nat) : Bool := decide (-9999 ≤ cs.getD i 0 ∧ cs.getD i 0 ≤ 9998) && (decide (i = 0) || decide (cs.getD (i - 1) 0 < cs.getD i 0))
theorem cutAt_in {cs : List Int} {i : Nat} (h : cutAt cs i = true) : -9999 ≤ cs.getD i 0 ∧ cs.getD i 0 ≤ 9998 := by
  unfold cutAt at h
  rw [Bool.and_eq_true] at h
  exact of_decide_eq_true h.1
def cutsRise (cs : List Int) : Bool := (List.range cs.length).all (cutAt cs)
theorem rise_yes {cs : List Int} (h : ∀ j, j < cs.length → cutAt cs j = true) : cutsRise cs = true := by
  unfold cutsRise
  rw [List.all_eq_true]
  intro j hj
  exact h j (List.mem_range.1 hj)
theorem rise_no {cs : List Int} (j : Nat) (hj : j < cs.length) (h : cutAt cs j = false) : cutsRise cs = false := by
  cases e : cutsRise cs with
  | false => rfl
  | true =>
    unfold cutsRise at e
    rw [List.all_eq_true] at e
    have := e j (List.mem_range.2 hj)
    rw [h] at this; cases this
def attrOk (a : AttrD) : Bool :=
  wordOk a.name && (if a.cuts.length = 0 then choices a.vals 4 else decide (a.vals.length = 0) && (decide (a.cuts.length ≤ 3) && cutsRise a.cuts))

/-- The least that the next cut may be. -/
def leastAt (cs : List Int) (k : Nat) : Int := if k = 0 then -9999 else cs.getD (k - 1) 0 + 1
end Go.Proofs.Yteadkdllmeeocab
