/- A schema that comes in to a law: what its reading says of its cells. -/
import Derived.Test.YtlpjigpnpafkiabDoorVf
import Derived.Test.YtlpjigpnpafkiabDoorVo
namespace Go.Proofs.YtlpjigpnpafkiabDoor
open Go.ChangeShapes Go.WideShapes Go.ChangeAt Go.RowKit Go.Deep
set_option maxRecDepth 100000

theorem sch_cells : Tryd.prog.cellsOf 38 = 2 := by kernel_rfl
theorem cells1_attrs : Tryd.prog.cellsOf 36 = 1 := by kernel_rfl

theorem row_attrs {H : Type} {enc : TypeId × Value → H} {W : World} {base fuel : Nat} {hd : Bool} {cs : List Value} {x : DataW H × List MemPlace}
    (h : DataW.trod enc Tryd.prog W base (fun _ => true) hd fuel 36 cs = some x) : ∃ v ls, cs = [v] ∧ RowA W v ls ∧ ls.length ≤ 9223372036854775807 ∧ ∀ a ∈ ls, inA a := by
  rcases open_slice Tryd.underlying36 h with ⟨hcs, _⟩ | ⟨x, l, c, m, n, D, Pl, hcs, _, hl, hm, hmm, _, hcell⟩
  · exact ⟨_, [], hcs, ⟨none, 0, rfl, Nat.le_refl _, fun h0 => absurd h0 (by simp)⟩, by simp, fun s hs => by cases hs⟩
  · have hmc : m = c := by simpa using hmm
    subst hmc
    have key : ∀ i, i < m → ∃ (a : AttrD), inA a ∧ ∃ vc vv, W.cell? (x.add (i * 3)) = some (.string a.name) ∧ W.cell? (x.add (i * 3 + 1)) = some vc ∧ W.cell? (x.add (i * 3 + 2)) = some vv ∧ RowI W vc a.cuts ∧ RowS W vv a.vals := by
      intro i hi
      obtain ⟨cs', hc', ht'⟩ := hcell i hi
      obtain ⟨a, vc, vv, hcs', h1, h2, h3⟩ := row_attr ht'
      rw [attr_cells, hcs'] at hc'
      have hS := World.cells?_some hc'
      have e : ∀ j, (x.add (i * 3)).add j = x.add (i * 3 + j) := fun j => add_add _ _ _
      refine ⟨a, h3, vc, vv, ?_, ?_, ?_, h1, h2⟩
      · have := hS.2.2 0 (by omega); rw [e] at this; simpa using this
      · have := hS.2.2 1 (by omega); rw [e] at this; simpa using this
      · have := hS.2.2 2 (by omega); rw [e] at this; simpa using this
    haveI : Inhabited AttrD := ⟨⟨ByteArray.empty, [], []⟩⟩
    obtain ⟨F, hF⟩ := choose_lt key
    refine ⟨_, (List.range l).map F, hcs, ⟨some x, m, by simp, by simpa using hl, fun h0 => ?_⟩, by simpa using Nat.le_trans hl (small_len hm), fun a ha => ?_⟩
    · have hl0 : 0 < l := by simpa using h0
      obtain ⟨b, o, sp⟩ := x
      obtain ⟨_, _, _, hc0, _⟩ := hF 0 (by omega)
      have hsp : sp = none := by simpa [Addr.add] using World.cell?_spot hc0
      subst hsp
      refine ⟨b, o, rfl, lt_of_cell (a := ⟨b, o, none⟩) (by simpa [Addr.add] using hc0), fun j hj => ?_⟩
      have hj' : j < l := by simpa using hj
      have e : ∀ i, (⟨b, o, none⟩ : Addr).add i = ⟨b, o + i, none⟩ := by intro i; cases i <;> simp [Addr.add]
      have ea : ad ((List.range l).map F) j = F j := by rw [ad_eq hj]; simp
      obtain ⟨_, vc, vv, h1, h2, h3, h4, h5⟩ := hF j (by omega)
      rw [ea]
      rw [e] at h1 h2 h3
      exact ⟨vc, vv, h1, by rw [Nat.add_assoc]; exact h2, by rw [Nat.add_assoc]; exact h3, h4, h5⟩
    · obtain ⟨j, hj, rfl⟩ := List.mem_map.1 ha
      exact (hF j (by have := List.mem_range.1 hj; omega)).1

theorem open_schema {H : Type} {enc : TypeId × Value → H} {W : World} {r : Reach} {b0 base : Nat} {hd : Bool} {v : Value} {d : DataW H} {ps : List MemPlace}
    (hval : Value.okWide Tryd.prog W r b0 38 v) (h : DataW.Trod enc Tryd.prog W base (fun _ => true) hd 38 v d ps) : ∃ a : SchemaD, SchemaAt W v a ∧ inS a := by
  obtain ⟨cs, rfl, hs⟩ := okWide_struct Tryd.underlying38 hval
  obtain ⟨fuel, hf⟩ := h
  obtain ⟨y0, y1, n, -, hl, t0, t1⟩ := trod_struct2 Tryd.underlying38 hf
  rw [sch_cells] at hl
  obtain ⟨l⟩ := cs
  simp [Value.cells] at hl t0 t1
  match l, hl with
  | [c0, c1], _ =>
    obtain ⟨va, ls, ha, ra, la, ea⟩ := row_attrs t0
    obtain ⟨vv, ss, hv, rv, lv, ev⟩ := row_strs t1
    simp [cells1_attrs, cells1_strs] at ha hv
    exact ⟨⟨ls, ss⟩, ⟨va, vv, by rw [ha, hv], ra, rv⟩, la, ea, lv, ev⟩
end Go.Proofs.YtlpjigpnpafkiabDoor
