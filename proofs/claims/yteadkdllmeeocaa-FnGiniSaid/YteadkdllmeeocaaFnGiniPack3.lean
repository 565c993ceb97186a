/- Texts of this claim, put together: part 3. -/
import Derived.Test.YteadkdllmeeocaaFnGiniPack2
import Derived.Test.YteadkdllmeeocaaFnGiniPack1
/- A list of integers that a function is handed. -/
namespace Go.Proofs.Yteadkdllmeeocaa
open Go.RowKit
set_option maxRecDepth 100000

/-- What a function knows of a list of integers that it is handed. -/
def RowI (w : World) (v : Value) (zs : List Int) : Prop :=
  ∃ oa cap, v = .slice oa zs.length cap ∧ zs.length ≤ cap ∧ (0 < zs.length → ∃ g o, oa = some ⟨g, o, none⟩ ∧ g < w.heap.size ∧ ∀ j, j < zs.length → w.cell? ⟨g, o + j, none⟩ = some (.int .i64 (zs.getD j 0)))
theorem RowI.later {w w' : World} {v : Value} {zs : List Int} (h : RowI w v zs) (hb : Below w.heap.size w w') : RowI w' v zs := by
  obtain ⟨oa, cap, rfl, hc, hr⟩ := h
  refine ⟨oa, cap, rfl, hc, fun h0 => ?_⟩
  obtain ⟨g, o, rfl, hg, hj⟩ := hr h0
  exact ⟨g, o, rfl, Nat.lt_of_lt_of_le hg hb.size, fun j hlt => (hb.cell (p := ⟨g, o + j, none⟩) hg).trans (hj j hlt)⟩
theorem RowI.of_own {w : World} {base n : Nat} {v : Value} {zs : List Int} (h : w.ownsRow base 3 1 v n (zs.map (Value.int .i64))) (hn : zs.length = n) : RowI w v zs := by
  subst hn
  rcases h.2 with ⟨rfl, h0⟩ | ⟨g, cap, cur, rfl, hg, hcur, hcap, r⟩
  · exact ⟨none, 0, by rw [h0], by omega, fun h1 => by omega⟩
  · refine ⟨some ⟨g, 0, none⟩, cap, rfl, ?_, fun h1 => ⟨g, 0, rfl, (Array.getElem?_eq_some_iff.1 hcur).1, ?_⟩⟩
    · exact hcap
    · exact own_cellsI rfl h
theorem own_base {w : World} {b b' e size n : Nat} {v : Value} {xs : List Value} (h : w.ownsRow b e size v n xs) (hb : b' ≤ b) : w.ownsRow b' e size v n xs := by
  refine ⟨h.1, ?_⟩
  rcases h.2 with h' | ⟨g, cap, cur, hv, hg, r⟩
  · exact .inl h'
  · exact .inr ⟨g, cap, cur, hv, by omega, r⟩
end Go.Proofs.Yteadkdllmeeocaa
/- Lists of integers of the call's own: the empty one; what is appended of a row. -/
namespace Go.Proofs.Yteadkdllmeeocaa
open Go.RowKit
set_option maxRecDepth 100000
theorem ownI_lit0 (w : World) (b : Nat) (hb : b ≤ w.heap.size) : (w.alloc (.cells #[] 3)).ownsRow b 3 1 (.slice (some ⟨w.heap.size, 0, none⟩) 0 0) 0 [] :=
  World.ownsRow_lit (base := b) (e := 3) (size := 1) w #[] 0 hb (by decide) rfl

theorem row_news {w : World} {g o k : Nat} {zs : List Int} (h : ∀ j, j < zs.length → w.cell? ⟨g, o + j, none⟩ = some (.int .i64 (zs.getD j 0))) : ∀ (j : Nat) (u : Value), ((zs.take k).map (Value.int .i64))[j]? = some u → w.cell? ((⟨g, o, none⟩ : Addr).add j) = some u := by
  intro j u hj
  have hlt : j < (zs.take k).length := by
    rcases Nat.lt_or_ge j (zs.take k).length with h1 | h1
    · exact h1
    · rw [List.getElem?_eq_none (by simp at h1 ⊢; omega)] at hj; cases hj
  have hlt2 : j < zs.length ∧ j < k := by simp at hlt; omega
  have e : (⟨g, o, none⟩ : Addr).add j = ⟨g, o + j, none⟩ := by unfold Addr.add; split <;> simp_all
  rw [e, h j hlt2.1]
  rw [getD_mapI _ _ hlt] at hj
  rw [← hj]
  congr 2
  rw [List.getD_eq_getElem?_getD, List.getD_eq_getElem?_getD, List.getElem?_take_of_lt hlt2.2]
/-- What the answer is: a list of the call's own. -/
def OwnI (w w' : World) (v : Value) (zs : List Int) : Prop := w'.ownsRow w.heap.size 3 1 v zs.length (zs.map (Value.int .i64)) ∧ Below w.heap.size w w'
end Go.Proofs.Yteadkdllmeeocaa
/- A list that is drawn, one number more. -/
namespace Go.Proofs.Yteadkdllmeeocaa
open Go.RowKit
set_option maxRecDepth 100000
/-- A list that is drawn, one number more. -/
theorem step_drawI {w wq w5 : World} {v v' : Value} {ys : List Int} {z : Int} {g : Nat} {o : Obj} (hgw : g < w.heap.size) (hgq : w.grownBy wq (some g)) (hown : wq.ownsRow w.heap.size 3 1 v ys.length (ys.map (Value.int .i64)))
    (hown' : w5.ownsRow w.heap.size 3 1 v' (ys.length + 1) (ys.map (Value.int .i64) ++ [.int .i64 z])) (hgrow : (wq.alloc o).grownBy w5 v.ownBlock) :
    w5.ownsRow w.heap.size 3 1 v' (ys ++ [z]).length ((ys ++ [z]).map (Value.int .i64)) ∧ w.grownBy w5 (some g) ∧ (∀ {a len cap}, IsCur wq g a len cap → IsCur w5 g a len cap) := by
  have hob : ∀ j, v.ownBlock = some j → w.heap.size ≤ j := fun j hj => (hown.lt j hj).1
  refine ⟨by simpa using hown', grown_own (grown_trans hgq (grown_alloc wq _ _)) hgrow hob, fun hc => (hc.alloc _).kept hgrow (fun e => by have := hob g e; omega)⟩
end Go.Proofs.Yteadkdllmeeocaa
/- Draws of stage 2: one of a number of ways. -/
namespace Go.Proofs.Yteadkdllmeeocaa
open Go.RowKit
set_option maxRecDepth 100000

theorem once_any (g : Nat) (a : Option Addr) (len cap : Nat) (zs : List Int) (n : Nat) (w : World) (hc : IsCur w g a len cap) (hr : IsRow .u8 w a len cap zs) (h1 : 1 ≤ n) (h2 : n ≤ 256) :
    Calls Try.prog 49 #[.pointer (some ⟨g, 0, none⟩), .int .i64 (n : Int)] w fun e w' => ∃ b : Bool, e = .returned (.bool b) ∧ IsCur w' g a len cap ∧ w.grownBy w' (some g) := by
  go_enter Try.func49, Try.ntmps49
  go_wp2_with fail
  refine (l1Below_any g a len cap zs n w hc hr h1 h2).mono ?_
  rintro e w1 ⟨x, rfl, hx, hc1, hg1⟩
  clear hc hr
  go_wp2
  go_ret
  exact ⟨_, rfl, hc1, hg1⟩
end Go.Proofs.Yteadkdllmeeocaa
