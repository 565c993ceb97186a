/- Lists that the specification makes, limb by limb. -/
import Derived.Test.YtonimdaimldbgabSx
import Derived.Test.YtonimdaimldbgabSk
namespace Go.Proofs.Ytonimdaimldbgab
open Go.RowKit
set_option maxRecDepth 100000

theorem step_row {w wr w1 : World} {v v' : Value} {done : List Nat} {d : Nat} {o : Obj} (hb : Below w.heap.size w wr) (hown : wr.ownsRow w.heap.size 3 1 v done.length ((up done).map (Value.int .i64)))
    (hown' : w1.ownsRow w.heap.size 3 1 v' (done.length + 1) ((up done).map (Value.int .i64) ++ [.int .i64 (d : Int)])) (hgrow : (wr.alloc o).grownBy w1 v.ownBlock) :
    w1.ownsRow w.heap.size 3 1 v' (done ++ [d]).length ((up (done ++ [d])).map (Value.int .i64)) ∧ Below w.heap.size w w1 := by
  have hs := hb.size
  refine ⟨by simpa [up_snoc] using hown', (hb.alloc hs o).grown hgrow (by simp; omega) fun k hk => (hown.lt k hk).1⟩
theorem lit0A (w : World) (b : Nat) (hb : b ≤ w.heap.size) : OwnA (w.alloc (.cells #[] 3)) b (.slice (some ⟨w.heap.size, 0, none⟩) 0 0) none := ownI_lit0 w b hb
end Go.Proofs.Ytonimdaimldbgab
