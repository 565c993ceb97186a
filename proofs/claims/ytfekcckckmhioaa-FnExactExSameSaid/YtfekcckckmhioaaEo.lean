/- An example that comes in to a law: what its reading says of its cells. -/
import Derived.Test.YtfekcckckmhioaaVo
import Derived.Test.YtfekcckckmhioaaEz
namespace Go.Proofs.Ytfekcckckmhioaa
open Go.ChangeShapes Go.WideShapes Go.ChangeAt Go.RowKit Go.Deep
set_option maxRecDepth 100000
theorem ex_cells : Try.prog.cellsOf 28 = 2 := by kernel_rfl
theorem open_ex {H : Type} {enc : TypeId × Value → H} {W : World} {r : Reach} {b0 base : Nat} {hd : Bool} {v : Value} {d : DataW H} {ps : List MemPlace}
    (hval : Value.okWide Try.prog W r b0 28 v) (h : DataW.Trod enc Try.prog W base (fun _ => true) hd 28 v d ps) : ∃ a : ExD, ExAt W v a ∧ inE a := by
  obtain ⟨cs, rfl, hs⟩ := okWide_struct Try.underlying28 hval
  obtain ⟨fuel, hf⟩ := h
  obtain ⟨y0, y1, n, -, hl, t0, t1⟩ := trod_struct2 Try.underlying28 hf
  rw [ex_cells] at hl
  obtain ⟨l⟩ := cs
  simp [Value.cells] at hl t0 t1
  match l, hl with
  | [c0, c1], _ =>
    obtain ⟨vb, zs, hb, rb, lb⟩ := row_ints t0
    obtain ⟨m, hm, -⟩ := DataW.trod_int Try.underlying3 t1
    simp [cells1_ints, cells1_int] at hb hm
    exact ⟨⟨zs, m⟩, ⟨vb, by rw [hb, hm], rb⟩, ⟨lb⟩⟩
end Go.Proofs.Ytfekcckckmhioaa
