/- Counts that come in to a law: what their reading says of their cells. -/
import Derived.Test.YtmdmplphendpcabVo
import Derived.Test.YtmdmplphendpcabSht
namespace Go.Proofs.Ytmdmplphendpcab
open Go.ChangeShapes Go.WideShapes Go.ChangeAt Go.RowKit Go.Deep
set_option maxRecDepth 100000
theorem stats_cells : Try.prog.cellsOf 29 = 2 := by kernel_rfl
theorem cells1_intss : Try.prog.cellsOf 27 = 1 := by kernel_rfl
theorem row_intss {H : Type} {enc : TypeId × Value → H} {W : World} {base fuel : Nat} {hd : Bool} {cs : List Value} {x : DataW H × List MemPlace}
    (h : DataW.trod enc Try.prog W base (fun _ => true) hd fuel 27 cs = some x) : ∃ v ls, cs = [v] ∧ RowII W v ls ∧ ls.length ≤ 9223372036854775807 ∧ ∀ c ∈ ls, c.length ≤ 9223372036854775807 := by
  rcases open_slice Try.underlying27 h with ⟨hcs, _⟩ | ⟨x, l, c, m, n, D, Pl, hcs, _, hl, hm, hmm, _, hcell⟩
  · exact ⟨_, [], hcs, ⟨none, 0, rfl, Nat.le_refl _, fun h0 => absurd h0 (by simp)⟩, by simp, fun s hs => by cases hs⟩
  · have hmc : m = c := by simpa using hmm
    subst hmc
    have key : ∀ i, i < m → ∃ (a : List Int), a.length ≤ 9223372036854775807 ∧ ∃ u, W.cell? (x.add i) = some u ∧ RowI W u a := by
      intro i hi
      obtain ⟨cs', hc', ht'⟩ := hcell i hi
      obtain ⟨u, zs, hcs', r1, l1⟩ := row_ints ht'
      rw [cells1_ints, hcs'] at hc'
      have hS := World.cells?_some hc'
      refine ⟨zs, l1, u, ?_, r1⟩
      have := hS.2.2 0 (by omega)
      rw [add_add] at this
      simpa using this
    obtain ⟨F, hF⟩ := choose_lt key
    refine ⟨_, (List.range l).map F, hcs, ⟨some x, m, by simp, by simpa using hl, fun h0 => ?_⟩, by simpa using Nat.le_trans hl (small_len hm), fun a ha => ?_⟩
    · have hl0 : 0 < l := by simpa using h0
      obtain ⟨b, o, sp⟩ := x
      obtain ⟨_, _, hc0, _⟩ := hF 0 (by omega)
      have hsp : sp = none := by simpa [Addr.add] using World.cell?_spot hc0
      subst hsp
      refine ⟨b, o, rfl, lt_of_cell (a := ⟨b, o, none⟩) (by simpa [Addr.add] using hc0), fun j hj => ?_⟩
      have hj' : j < l := by simpa using hj
      have e : ∀ i, (⟨b, o, none⟩ : Addr).add i = ⟨b, o + i, none⟩ := by intro i; cases i <;> simp [Addr.add]
      have ea : il ((List.range l).map F) j = F j := by rw [il_eq hj]; simp
      obtain ⟨_, u, h1, h2⟩ := hF j (by omega)
      rw [ea]
      rw [e] at h1
      exact ⟨u, h1, h2⟩
    · obtain ⟨j, hj, rfl⟩ := List.mem_map.1 ha
      exact (hF j (by have := List.mem_range.1 hj; omega)).1
theorem open_stats {H : Type} {enc : TypeId × Value → H} {W : World} {r : Reach} {b0 base : Nat} {hd : Bool} {v : Value} {d : DataW H} {ps : List MemPlace}
    (hval : Value.okWide Try.prog W r b0 29 v) (h : DataW.Trod enc Try.prog W base (fun _ => true) hd 29 v d ps) : ∃ a : StatsD, StatsAt W v a ∧ inSt a := by
  obtain ⟨cs, rfl, hs⟩ := okWide_struct Try.underlying29 hval
  obtain ⟨fuel, hf⟩ := h
  obtain ⟨y0, y1, n, -, hl, t0, t1⟩ := trod_struct2 Try.underlying29 hf
  rw [stats_cells] at hl
  obtain ⟨l⟩ := cs
  simp [Value.cells] at hl t0 t1
  match l, hl with
  | [c0, c1], _ =>
    obtain ⟨va, zs, ha, ra, la⟩ := row_ints t0
    obtain ⟨vv, ls, hv, rv, lv, ev⟩ := row_intss t1
    simp [cells1_ints, cells1_intss] at ha hv
    exact ⟨⟨zs, ls⟩, ⟨va, vv, by rw [ha, hv], ra, rv⟩, ⟨la, lv, ev⟩⟩
end Go.Proofs.Ytmdmplphendpcab
