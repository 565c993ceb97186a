/- GetNum of the program: what it hands back, whether the reader inside returns or panics. -/
import Derived.Test.YtgekbbojhlcppaaDoorGi
namespace Go.Proofs.YtgekbbojhlcppaaDoor
open Go.RowKit
set_option maxRecDepth 100000

theorem catch3 (b : Nat) (x0 x1 x2 : Value) (u : TypeId) (pv : Value) (older : List PanicEntry) (w : World) (hc0 : w.cell? ⟨b, 0, none⟩ = some x0) (hz0 : w.frozen? ⟨b, 0, none⟩ = false) (hc1 : w.cell? ⟨b + 1, 0, none⟩ = some x1) (hz1 : w.frozen? ⟨b + 1, 0, none⟩ = false) (hc2 : w.cell? ⟨b + 1 + 1, 0, none⟩ = some x2) (hz2 : w.frozen? ⟨b + 1 + 1, 0, none⟩ = false) :
    CallsD Tryd.prog 31 #[.pointer (some ⟨b, 0, none⟩), .pointer (some ⟨b + 1, 0, none⟩), .pointer (some ⟨b + 1 + 1, 0, none⟩)] (.panicking ({ v := .iface u pv, recovered := false } :: older)) w fun e u' w' =>
      e = .returned (.tuple #[]) ∧ u' = .panicking ({ v := .iface u pv, recovered := true } :: older) ∧ w' = ((w.setCell ⟨b, 0, none⟩ (.int .i64 0)).setCell ⟨b + 1, 0, none⟩ (.int .i64 0)).setCell ⟨b + 1 + 1, 0, none⟩ (.bool false) := by
  refine callsD_of_wpS Tryd.func31 rfl fun c₀ cs hu => ?_
  apply wpS_seq
  apply wpS_region
  simp [wpOpsS, go_sem, recoverD, hu, Tryd.ntmps31, Exit.thenS]
  refine wpS_cond (t := true) (by simp [Act.eval, Array.replicate]) ?_
  simp only [if_true]
  apply wpS_region
  simp [wpOpsS, go_sem, hc0, hz0, hc1, hz1, hc2, hz2, bodyPostS, results, Tryd.results31]

theorem catch3_idle (p0 p1 p2 : Addr) (w : World) :
    CallsD Tryd.prog 31 #[.pointer (some p0), .pointer (some p1), .pointer (some p2)] .returning w fun e u' w' => e = .returned (.tuple #[]) ∧ u' = .returning ∧ w' = w := by
  refine callsD_of_wpS Tryd.func31 rfl fun c₀ cs hu => ?_
  apply wpS_seq
  apply wpS_region
  simp [wpOpsS, go_sem, recoverD, hu, Tryd.ntmps31, Exit.thenS]
  refine wpS_cond (t := false) (by simp [Act.eval, Array.replicate]) ?_
  simp only [Bool.false_eq_true, if_false]
  refine wpS_of_wp (wp_skip ?_)
  cases c₀
  simp_all [bodyPostS, results, Tryd.results31]

theorem cell3 (w : World) (A B C : Obj) (b o : Nat) (h : b < w.heap.size) : (((w.alloc A).alloc B).alloc C).cell? ⟨b, o, none⟩ = w.cell? ⟨b, o, none⟩ := by
  rw [World.cell?_alloc_past _ _ _ (by simp; omega), World.cell?_alloc_past _ _ _ (by simp; omega), World.cell?_alloc_past _ _ _ h]
theorem below_drewN' {B : Nat} {a w : World} (h : Below B a w) (n : Nat) : Below B a (w.drewN n) := h.trans ⟨rfl, rfl, rfl, Nat.le_refl _, fun _ _ => rfl⟩
theorem below3 (w : World) (A B C : Obj) : Below w.heap.size w (((w.alloc A).alloc B).alloc C) := (((Below.refl _ _).alloc (Nat.le_refl _) A).alloc (by simp) B).alloc (by simp; omega) C

set_option maxHeartbeats 800000 in
theorem implNum_no (g o n cap : Nat) (zs : List Int) (p : Int) (ev : Value) (u : TypeId) (w : World) (hn : n ≤ 140737488351232) (hz : zs.length = n) (hcap : n ≤ cap) (hr : ∀ j : Nat, 0 ≤ zs.getD j 0 ∧ zs.getD j 0 ≤ 255)
    (hc : ∀ j, j < n → w.cell? ⟨g, o + j, none⟩ = some (.int .u8 (zs.getD j 0))) (hg : g < w.heap.size) (he : 1 < w.heap.size) (hv : w.cell? ⟨1, 0, none⟩ = some (.iface u ev)) (h : getNum zs p = none) :
    Calls Tryd.prog 14 #[.slice (some ⟨g, o, none⟩) n cap, .int .i64 p] w fun e w' => e = .returned (gotNum p none) ∧ Below w.heap.size w w' := by
  have hmf : ∀ (fn : Fn) (first cap : Array Value) (w : World), (Instr.makeFunc fn first cap).run Tryd.prog w = .ok (.func fn first cap) w := fun _ _ _ _ => rfl
  have M := fun A B C => must_any g o n cap zs p ev u (((w.alloc A).alloc B).alloc C) hn hz hcap hr (fun j hj => (cell3 w A B C _ _ hg).trans (hc j hj)) ((cell3 w A B C _ _ he).trans hv)
  rw [h] at M
  go_enter_defers Tryd.func14, Tryd.ntmps14
  go_wp2_with fail
  refine (M _ _ _).mono ?_
  rintro e w' ⟨rfl, rfl⟩
  clear M hc hr
  simp only [endNum]
  refine leaves_cons (f := 31) (args := #[.pointer (some ⟨w.heap.size, 0, none⟩), .pointer (some ⟨w.heap.size + 1, 0, none⟩), .pointer (some ⟨w.heap.size + 1 + 1, 0, none⟩)]) (by simp) (by simp [go_sem]) ?_
  refine (catch3 w.heap.size (.int .i64 0) (.int .i64 0) (.bool false) u ev [] _ ?_ ?_ ?_ ?_ ?_ ?_).mono ?_
  · simp [go_sem]
  · simp [go_sem]
  · simp [go_sem]
  · simp [go_sem]
  · simp [go_sem]
  · simp [go_sem]
  rintro e u' w'' ⟨rfl, rfl, rfl⟩
  simp [Leaves, settle, results, Tryd.results14, go_sem, gotNum]
  exact below3 _ _ _ _

set_option maxHeartbeats 800000 in
theorem implNum_yes (g o n cap : Nat) (zs : List Int) (p : Int) (ev : Value) (u : TypeId) (a : Int) (k : Nat) (w : World) (hn : n ≤ 140737488351232) (hz : zs.length = n) (hcap : n ≤ cap) (hr : ∀ j : Nat, 0 ≤ zs.getD j 0 ∧ zs.getD j 0 ≤ 255)
    (hc : ∀ j, j < n → w.cell? ⟨g, o + j, none⟩ = some (.int .u8 (zs.getD j 0))) (hg : g < w.heap.size) (he : 1 < w.heap.size) (hv : w.cell? ⟨1, 0, none⟩ = some (.iface u ev)) (h : getNum zs p = some (a, k)) :
    Calls Tryd.prog 14 #[.slice (some ⟨g, o, none⟩) n cap, .int .i64 p] w fun e w' => e = .returned (gotNum p (some (a, k))) ∧ Below w.heap.size w w' := by
  have hmf : ∀ (fn : Fn) (first cap : Array Value) (w : World), (Instr.makeFunc fn first cap).run Tryd.prog w = .ok (.func fn first cap) w := fun _ _ _ _ => rfl
  have M := fun A B C => must_any g o n cap zs p ev u (((w.alloc A).alloc B).alloc C) hn hz hcap hr (fun j hj => (cell3 w A B C _ _ hg).trans (hc j hj)) ((cell3 w A B C _ _ he).trans hv)
  rw [h] at M
  go_enter_defers Tryd.func14, Tryd.ntmps14
  go_wp2_with fail
  refine (M _ _ _).mono ?_
  rintro e w' ⟨rfl, rfl⟩
  clear M hc hr
  simp only [endNum]
  go_wp2
  go_region
  all_goals
    go_wp2
    refine leaves_cons (f := 31) (args := #[.pointer (some ⟨w.heap.size, 0, none⟩), .pointer (some ⟨w.heap.size + 1, 0, none⟩), .pointer (some ⟨w.heap.size + 1 + 1, 0, none⟩)]) (by simp) (by simp [go_sem]) ?_
    refine (catch3_idle _ _ _ _).mono ?_
    rintro e u' w'' ⟨rfl, rfl, rfl⟩
    simp [Leaves, settle, results, Tryd.results14, go_sem, gotNum]
    exact below_drewN' (below3 _ _ _ _) _

theorem implNum_any (g o n cap : Nat) (zs : List Int) (p : Int) (ev : Value) (u : TypeId) (w : World) (hn : n ≤ 140737488351232) (hz : zs.length = n) (hcap : n ≤ cap) (hr : ∀ j : Nat, 0 ≤ zs.getD j 0 ∧ zs.getD j 0 ≤ 255)
    (hc : ∀ j, j < n → w.cell? ⟨g, o + j, none⟩ = some (.int .u8 (zs.getD j 0))) (hg : g < w.heap.size) (he : 1 < w.heap.size) (hv : w.cell? ⟨1, 0, none⟩ = some (.iface u ev)) :
    Calls Tryd.prog 14 #[.slice (some ⟨g, o, none⟩) n cap, .int .i64 p] w fun e w' => e = .returned (gotNum p (getNum zs p)) ∧ Below w.heap.size w w' := by
  cases h : getNum zs p with
  | none => exact implNum_no g o n cap zs p ev u w hn hz hcap hr hc hg he hv h
  | some ak => exact implNum_yes g o n cap zs p ev u ak.1 ak.2 w hn hz hcap hr hc hg he hv h
end Go.Proofs.YtgekbbojhlcppaaDoor
