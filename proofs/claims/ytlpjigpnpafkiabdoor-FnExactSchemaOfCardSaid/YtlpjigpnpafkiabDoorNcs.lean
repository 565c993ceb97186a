/- The program's Signed: what they hand back, whether the reader inside returns or panics. -/
import Derived.Test.YtlpjigpnpafkiabDoorNi
namespace Go.Proofs.YtlpjigpnpafkiabDoor
open Go.RowKit
set_option maxRecDepth 100000

theorem below2 (w : World) (A B : Obj) : Below w.heap.size w ((w.alloc A).alloc B) := ((Below.refl _ _).alloc (Nat.le_refl _) A).alloc (by simp) B
theorem endInt_split (en : Value) (o : Option Int) : (o = none ∧ endInt en o = .panicked [{ v := en, recovered := false }]) ∨ ∃ v, o = some v ∧ endInt en o = .returned (.int .i64 v) := by
  cases o with
  | none => exact .inl ⟨rfl, rfl⟩
  | some v => exact .inr ⟨v, rfl, rfl⟩

theorem catch_Signed (b : Nat) (x0 x1 : Value) (u : TypeId) (pv : Value) (older : List PanicEntry) (w : World) (hc0 : w.cell? ⟨b, 0, none⟩ = some x0) (hz0 : w.frozen? ⟨b, 0, none⟩ = false) (hc1 : w.cell? ⟨b + 1, 0, none⟩ = some x1) (hz1 : w.frozen? ⟨b + 1, 0, none⟩ = false) :
    CallsD Tryd.prog 79 #[.pointer (some ⟨b, 0, none⟩), .pointer (some ⟨b + 1, 0, none⟩)] (.panicking ({ v := .iface u pv, recovered := false } :: older)) w fun e u' w' =>
      e = .returned (.tuple #[]) ∧ u' = .panicking ({ v := .iface u pv, recovered := true } :: older) ∧ w' = (w.setCell ⟨b, 0, none⟩ (.int .i64 0)).setCell ⟨b + 1, 0, none⟩ (.bool false) := by
  refine callsD_of_wpS Tryd.func79 rfl fun c₀ cs hu => ?_
  apply wpS_seq
  apply wpS_region
  simp [wpOpsS, go_sem, recoverD, hu, Tryd.ntmps79, Exit.thenS]
  refine wpS_cond (t := true) (by simp [Act.eval, Array.replicate]) ?_
  simp only [if_true]
  apply wpS_region
  simp [wpOpsS, go_sem, hc0, hz0, hc1, hz1, bodyPostS, results, Tryd.results79]

theorem idle_Signed (p0 p1 : Addr) (w : World) :
    CallsD Tryd.prog 79 #[.pointer (some p0), .pointer (some p1)] .returning w fun e u' w' => e = .returned (.tuple #[]) ∧ u' = .returning ∧ w' = w := by
  refine callsD_of_wpS Tryd.func79 rfl fun c₀ cs hu => ?_
  apply wpS_seq
  apply wpS_region
  simp [wpOpsS, go_sem, recoverD, hu, Tryd.ntmps79, Exit.thenS]
  refine wpS_cond (t := false) (by simp [Act.eval, Array.replicate]) ?_
  simp only [Bool.false_eq_true, if_false]
  refine wpS_of_wp (wp_skip ?_)
  cases c₀
  simp_all [bodyPostS, results, Tryd.results79]

set_option maxHeartbeats 800000 in
theorem implSigned_any (s : ByteArray) (u : TypeId) (ev : Value) (w : World) (hs : s.size ≤ 1048576) (hr : Ready u ev w) :
    Calls Tryd.prog 73 #[.string s] w fun e w' => e = .returned (gotInt (must (-9999) 9999 s.data.toList)) ∧ Below w.heap.size w w' := by
  have hmf : ∀ (fn : Fn) (first cap : Array Value) (w : World), (Instr.makeFunc fn first cap).run Tryd.prog w = .ok (.func fn first cap) w := fun _ _ _ _ => rfl
  have M := fun A B => mustDigits_any s (-9999) 9999 u ev ((w.alloc A).alloc B) hs (hr.later (below2 w A B))
  clear hr
  rcases endInt_split (.iface u ev) (must (-9999) 9999 s.data.toList) with ⟨h1, h2⟩ | ⟨v, h1, h2⟩
  · rw [h2] at M
    rw [h1]
    clear h1 h2
    go_enter_defers Tryd.func73, Tryd.ntmps73
    go_wp2_with fail
    refine (M _ _).mono ?_
    clear M
    rintro e w1 ⟨rfl, hb⟩
    have hz := hb.size
    have c0 : w1.cell? ⟨w.heap.size, 0, none⟩ = some (.int .i64 0) := (hb.cell (p := ⟨w.heap.size, 0, none⟩) (by simp; omega)).trans (by simp [go_sem])
    have c1 : w1.cell? ⟨w.heap.size + 1, 0, none⟩ = some (.bool false) := (hb.cell (p := ⟨w.heap.size + 1, 0, none⟩) (by simp)).trans (by simp [go_sem])
    have z0 : w1.frozen? ⟨w.heap.size, 0, none⟩ = false := (hb.frozen (p := ⟨w.heap.size, 0, none⟩) (by simp; omega)).trans (by simp [go_sem])
    have z1 : w1.frozen? ⟨w.heap.size + 1, 0, none⟩ = false := (hb.frozen (p := ⟨w.heap.size + 1, 0, none⟩) (by simp)).trans (by simp [go_sem])
    have bel : Below w.heap.size w w1 := (below2 w _ _).trans (hb.mono (by simp; omega))
    refine leaves_cons (f := 79) (args := #[.pointer (some ⟨w.heap.size, 0, none⟩), .pointer (some ⟨w.heap.size + 1, 0, none⟩)]) (by simp) (by simp [go_sem]) ?_
    refine (catch_Signed w.heap.size _ _ u ev [] w1 c0 z0 c1 z1).mono ?_
    rintro e u' w'' ⟨rfl, rfl, rfl⟩
    have bel2 : Below w.heap.size w ((w1.setCell ⟨w.heap.size, 0, none⟩ (.int .i64 0)).setCell ⟨w.heap.size + 1, 0, none⟩ (.bool false)) := (bel.setCell (p := ⟨w.heap.size, 0, none⟩) (Nat.le_refl _) _).setCell (p := ⟨w.heap.size + 1, 0, none⟩) (by simp) _
    simp [Leaves, settle, results, Tryd.results73, go_sem, gotInt, c0, c1]
    exact bel2
  · rw [h2] at M
    rw [h1]
    clear h1 h2
    go_enter_defers Tryd.func73, Tryd.ntmps73
    go_wp2_with fail
    refine (M _ _).mono ?_
    clear M
    rintro e w1 ⟨rfl, hb⟩
    have hz := hb.size
    have c0 : w1.cell? ⟨w.heap.size, 0, none⟩ = some (.int .i64 0) := (hb.cell (p := ⟨w.heap.size, 0, none⟩) (by simp; omega)).trans (by simp [go_sem])
    have c1 : w1.cell? ⟨w.heap.size + 1, 0, none⟩ = some (.bool false) := (hb.cell (p := ⟨w.heap.size + 1, 0, none⟩) (by simp)).trans (by simp [go_sem])
    have z0 : w1.frozen? ⟨w.heap.size, 0, none⟩ = false := (hb.frozen (p := ⟨w.heap.size, 0, none⟩) (by simp; omega)).trans (by simp [go_sem])
    have z1 : w1.frozen? ⟨w.heap.size + 1, 0, none⟩ = false := (hb.frozen (p := ⟨w.heap.size + 1, 0, none⟩) (by simp)).trans (by simp [go_sem])
    have bel : Below w.heap.size w w1 := (below2 w _ _).trans (hb.mono (by simp; omega))
    have bel2 : Below w.heap.size w ((w1.setCell ⟨w.heap.size, 0, none⟩ (.int .i64 v)).setCell ⟨w.heap.size + 1, 0, none⟩ (.bool true)) := (bel.setCell (p := ⟨w.heap.size, 0, none⟩) (Nat.le_refl _) _).setCell (p := ⟨w.heap.size + 1, 0, none⟩) (by simp) _
    have Hbel2 : Hid (Below w.heap.size w ((w1.setCell ⟨w.heap.size, 0, none⟩ (.int .i64 v)).setCell ⟨w.heap.size + 1, 0, none⟩ (.bool true))) := bel2
    clear bel2 bel hb
    go_wp2
    refine leaves_cons (f := 79) (args := #[.pointer (some ⟨w.heap.size, 0, none⟩), .pointer (some ⟨w.heap.size + 1, 0, none⟩)]) (by simp) (by simp [go_sem]) ?_
    refine (idle_Signed _ _ _).mono ?_
    rintro e u' w'' ⟨rfl, rfl, rfl⟩
    simp [Leaves, settle, results, Tryd.results73, go_sem, gotInt, c0, c1]
    exact Hbel2.out
end Go.Proofs.YtlpjigpnpafkiabDoor
