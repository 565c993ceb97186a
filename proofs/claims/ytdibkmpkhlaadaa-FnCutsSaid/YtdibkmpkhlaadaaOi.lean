/- Lists of integers of the call's own: the empty one; what is appended of a row. -/
import Derived.Test.YtdibkmpkhlaadaaRi
namespace Go.Proofs.Ytdibkmpkhlaadaa
open Go.RowKit
set_option maxRecDepth 100000
theorem ownI_lit0 (w : World) (b : Nat) (hb : b ≤ w.heap.size) : (w.alloc (.cells #[] 3)).ownsRow b 3 1 (.slice (some ⟨w.heap.size, 0, none⟩) 0 0) 0 [] :=
  World.ownsRow_lit (base := b) (e := 3) (size := 1) w #[] 0 hb (by decide) rfl

theorem row_news {w : World} {g o k : Nat} {zs : List Int} (h : ∀ j, j < zs.length → w.cell? ⟨g, o + j, none⟩ = some (.int .i64 (zs.getD j 0))) : ∀ (j : Nat) (u : Value), ((zs.take k).map (Value.int .i64))[j]? = some u → w.cell? ((⟨g, o, none⟩ : Addr).add j) = some u := by
  intro j u hj
  have hlt : j < (zs.take k).length := by
    rcases Nat.lt_or_ge j (zs.take k).length with h1 | h1
    · exact h1
    · rw [List.getElem?_eq_none (by simp at h1 ⊢; omega)] at hj; cases hj
  have hlt2 : j < zs.length ∧ j < k := by simp at hlt; omega
  have e : (⟨g, o, none⟩ : Addr).add j = ⟨g, o + j, none⟩ := by unfold Addr.add; split <;> simp_all
  rw [e, h j hlt2.1]
  rw [getD_mapI _ _ hlt] at hj
  rw [← hj]
  congr 2
  rw [List.getD_eq_getElem?_getD, List.getD_eq_getElem?_getD, List.getElem?_take_of_lt hlt2.2]
/-- What the answer is: a list of the call's own. -/
def OwnI (w w' : World) (v : Value) (zs : List Int) : Prop := w'.ownsRow w.heap.size 3 1 v zs.length (zs.map (Value.int .i64)) ∧ Below w.heap.size w w'
end Go.Proofs.Ytdibkmpkhlaadaa
