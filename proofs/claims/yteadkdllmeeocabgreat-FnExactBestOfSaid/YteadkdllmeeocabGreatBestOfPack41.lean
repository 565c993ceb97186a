/- Texts of this claim, put together: part 41. -/
import Derived.Test.YteadkdllmeeocabGreatBestOfPack9
import Derived.Test.YteadkdllmeeocabGreatBestOfPack13
/- Three operations may come up now, in any order. -/
namespace Go.Proofs.YteadkdllmeeocabGreat
open Go.RowKit
section
variable {Pr : Program} {ops : Array Oper} {Q : Exit → Act → World → Prop} {md : Region.Mode} {S : World → Prop}
theorem next3L (i j k : Nat) {oi oj ok : Oper} {fuel : Nat} {listed : Array Bool} {a : Act} {w : World} (hi : ops.toList[i]? = some oi) (hj : ops.toList[j]? = some oj) (hk : ops.toList[k]? = some ok) (hr : Region.ready md ops listed = [i, j, k])
    (hw : Region.wanted oi (yielded ops a.tmps) = true) (hw2 : Region.wanted oj (yielded ops a.tmps) = true) (hw3 : Region.wanted ok (yielded ops a.tmps) = true)
    (h : ∀ K' : Act → World → Prop, (∀ a w, S w → (S w → wpAnyH Pr md ops Q S fuel (listed.setIfInBounds i true) a w) → K' a w) → Oper.wp Pr oi a w K' Q)
    (h2 : ∀ K' : Act → World → Prop, (∀ a w, S w → (S w → wpAnyH Pr md ops Q S fuel (listed.setIfInBounds j true) a w) → K' a w) → Oper.wp Pr oj a w K' Q)
    (h3 : ∀ K' : Act → World → Prop, (∀ a w, S w → (S w → wpAnyH Pr md ops Q S fuel (listed.setIfInBounds k true) a w) → K' a w) → Oper.wp Pr ok a w K' Q) : wpAnyH Pr md ops Q S (fuel + 1) listed a w := by
  refine wpAnyH_ready hr (by simp) (AllReadyH.cons (o := oi) (by simpa using hi) (fun K hK => ?_) (AllReadyH.cons (o := oj) (by simpa using hj) (fun K hK => ?_) (AllReadyH.cons (o := ok) (by simpa using hk) (fun K hK => ?_) AllReadyH.nil)))
  · rw [if_pos hw]
    exact h K hK.out
  · rw [if_pos hw2]
    exact h2 K hK.out
  · rw [if_pos hw3]
    exact h3 K hK.out
end
end Go.Proofs.YteadkdllmeeocabGreat
/- The laws' helper that holds two fractions against each other. -/
namespace Go.Proofs.YteadkdllmeeocabGreat
open Go.RowKit
set_option maxRecDepth 100000

theorem eqFrac_same (a b : Int) (w : World) : Calls Tryz.prog 11 #[frV a b, frV a b] w fun e w' => e = .returned (.bool true) ∧ Below w.heap.size w w' := by
  have B := below_2 w (.cells #[.int .i64 a, .int .i64 b] 35) (.cells #[.int .i64 a, .int .i64 b] 35)
  go_enter Tryz.func11, Tryz.ntmps11
  go_wp2
  go_ret
  exact ⟨rfl, B⟩

end Go.Proofs.YteadkdllmeeocabGreat
