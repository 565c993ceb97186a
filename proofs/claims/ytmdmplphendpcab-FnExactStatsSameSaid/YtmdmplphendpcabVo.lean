/- An attribute that comes in to a law: what its reading says of its cells. -/
import Derived.Test.YtmdmplphendpcabVt
import Derived.ChangeSame
import Derived.Deep.Strs
namespace Go.Proofs.Ytmdmplphendpcab
open Go.ChangeShapes Go.WideShapes Go.ChangeAt Go.RowKit Go.Deep
set_option maxRecDepth 100000

theorem RowI.of_isRow {w : World} {a : Option Addr} {len cap : Nat} {zs : List Int} (h : IsRow .i64 w a len cap zs) : RowI w (.slice a len cap) (zs.take len) := by
  have hl := h.len
  refine ⟨a, cap, by rw [hl], ?_, fun h0 => ?_⟩
  · rcases h with ⟨_, rfl, _, _⟩ | ⟨_, _, h1, _⟩
    · simp
    · omega
  · obtain ⟨b, o, rfl, hb, hc⟩ := h.at (by omega)
    exact ⟨b, o, rfl, hb, fun j hj => hc j (by omega)⟩
theorem small_len {n : Nat} (h : n ≤ maxLen) : n ≤ 9223372036854775807 := by unfold maxLen at h; omega

theorem attr_cells : Try.prog.cellsOf 66 = 3 := by kernel_rfl
theorem cells1_int : Try.prog.cellsOf 3 = 1 := by kernel_rfl
theorem cells1_str : Try.prog.cellsOf 9 = 1 := by kernel_rfl
theorem cells1_ints : Try.prog.cellsOf 26 = 1 := by kernel_rfl
theorem cells1_strs : Try.prog.cellsOf 23 = 1 := by kernel_rfl

theorem row_ints {H : Type} {enc : TypeId × Value → H} {W : World} {base fuel : Nat} {hd : Bool} {cs : List Value} {x : DataW H × List MemPlace}
    (h : DataW.trod enc Try.prog W base (fun _ => true) hd fuel 26 cs = some x) : ∃ v zs, cs = [v] ∧ RowI W v zs ∧ zs.length ≤ 9223372036854775807 := by
  rcases open_ints Try.underlying26 Try.underlying3 (by kernel_rfl) h with ⟨hcs, _⟩ | ⟨x, l, c, zs, hcs, _, hl, hm, hz, _, hcell, hwz⟩
  · exact ⟨_, [], hcs, ⟨none, 0, rfl, Nat.le_refl _, fun h0 => absurd h0 (by simp)⟩, by simp⟩
  · have R : IsRow .i64 W (some x) l c zs := .inr ⟨_, rfl, hl, hm, by simpa using hz, hcell, hwz⟩
    exact ⟨_, zs.take l, hcs, RowI.of_isRow R, by have := R.len; have := small_len hm; omega⟩

theorem row_strs {H : Type} {enc : TypeId × Value → H} {W : World} {base fuel : Nat} {hd : Bool} {cs : List Value} {x : DataW H × List MemPlace}
    (h : DataW.trod enc Try.prog W base (fun _ => true) hd fuel 23 cs = some x) : ∃ v ss, cs = [v] ∧ RowS W v ss ∧ ss.length ≤ 9223372036854775807 ∧ ∀ s ∈ ss, s.size ≤ 9223372036854775807 := by
  rcases open_strs Try.underlying23 Try.underlying9 (by kernel_rfl) h with ⟨hcs, _⟩ | ⟨x, l, c, m, Sx, hcs, _, hl, hm, hmm, _, hcell⟩
  · exact ⟨_, [], hcs, ⟨none, 0, rfl, Nat.le_refl _, fun h0 => absurd h0 (by simp)⟩, by simp, fun s hs => by cases hs⟩
  · have hmc : m = c := by simpa using hmm
    subst hmc
    refine ⟨_, (List.range l).map Sx, hcs, ⟨some x, m, by simp, by simpa using hl, fun h0 => ?_⟩, by simpa using Nat.le_trans hl (small_len hm), fun s hs => ?_⟩
    · have hl0 : 0 < l := by simpa using h0
      obtain ⟨b, o, sp⟩ := x
      have hc0 := (hcell 0 (by omega)).1
      have hsp : sp = none := by simpa [Addr.add] using World.cell?_spot hc0
      subst hsp
      refine ⟨b, o, rfl, lt_of_cell (a := ⟨b, o, none⟩) (by simpa [Addr.add] using hc0), fun j hj => ?_⟩
      have hj' : j < l := by simpa using hj
      have e : (⟨b, o, none⟩ : Addr).add j = ⟨b, o + j, none⟩ := by cases j <;> simp [Addr.add]
      rw [← e, (hcell j (by omega)).1, tx_eq hj]
      simp
    · obtain ⟨j, hj, rfl⟩ := List.mem_map.1 hs
      exact small_len (hcell j (by have := List.mem_range.1 hj; omega)).2

theorem row_attr {H : Type} {enc : TypeId × Value → H} {W : World} {base fuel : Nat} {hd : Bool} {cs : List Value} {x : DataW H × List MemPlace}
    (h : DataW.trod enc Try.prog W base (fun _ => true) hd fuel 66 cs = some x) : ∃ (a : AttrD) (vc vv : Value), cs = [.string a.name, vc, vv] ∧ RowI W vc a.cuts ∧ RowS W vv a.vals ∧ inA a := by
  obtain ⟨y0, y1, y2, n, -, hl, t0, t1, t2⟩ := trod_struct3 Try.underlying66 h
  rw [attr_cells] at hl
  match cs, hl with
  | [c0, c1, c2], _ =>
    obtain ⟨s, hs, -, ws⟩ := DataW.trod_string Try.underlying9 t0
    obtain ⟨vc, zs, hc, rc, lc⟩ := row_ints t1
    obtain ⟨vv, ss, hv, rv, lv, ev⟩ := row_strs t2
    simp [cells1_str, cells1_ints, cells1_strs] at hs hc hv
    exact ⟨⟨s, zs, ss⟩, vc, vv, by rw [hs, hc, hv], rc, rv, small_len ws, lc, lv, ev⟩

theorem open_attr {H : Type} {enc : TypeId × Value → H} {W : World} {r : Reach} {b0 base : Nat} {hd : Bool} {v : Value} {d : DataW H} {ps : List MemPlace}
    (hval : Value.okWide Try.prog W r b0 66 v) (h : DataW.Trod enc Try.prog W base (fun _ => true) hd 66 v d ps) : ∃ a : AttrD, AttrAt W v a ∧ inA a := by
  obtain ⟨cs, rfl, hs⟩ := okWide_struct Try.underlying66 hval
  obtain ⟨fuel, hf⟩ := h
  obtain ⟨a, vc, vv, hc, h1, h2, h3⟩ := row_attr hf
  refine ⟨a, ⟨vc, vv, ?_, h1, h2⟩, h3⟩
  obtain ⟨l⟩ := cs
  simp [Value.cells] at hc
  rw [hc]
end Go.Proofs.Ytmdmplphendpcab
