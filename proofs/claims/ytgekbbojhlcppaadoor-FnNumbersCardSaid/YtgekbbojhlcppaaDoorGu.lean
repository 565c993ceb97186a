/- The program's reader of a text answers the plain function. -/
import Derived.Test.YtgekbbojhlcppaaDoorGc
import Derived.Test.YtgekbbojhlcppaaDoorGq
namespace Go.Proofs.YtgekbbojhlcppaaDoor
open Go.RowKit
set_option maxRecDepth 100000

/-! ### The program's -/
def endText (en et : Value) (zs : List Int) (p : Int) : Ending :=
  match getNum zs p with
  | none => .panicked [{ v := en, recovered := false }]
  | some (n, k) => if (zs.length : Int) - (p + k) < n then .panicked [{ v := et, recovered := false }] else .returned (.tuple #[.string (cutText zs (p + k) n), .int .i64 (p + k + n)])
theorem endText_split (un ut : TypeId) (xn xt : Value) (zs : List Int) (p : Int) :
    (getText zs p = none ∧ ∃ u x, endText (.iface un xn) (.iface ut xt) zs p = .panicked [{ v := .iface u x, recovered := false }]) ∨
    ∃ s q, getText zs p = some (s, q) ∧ endText (.iface un xn) (.iface ut xt) zs p = .returned (.tuple #[.string s, .int .i64 q]) := by
  unfold getText endText
  cases getNum zs p with
  | none => exact .inl ⟨rfl, _, _, rfl⟩
  | some ak =>
    obtain ⟨a, k⟩ := ak
    by_cases h : (zs.length : Int) - (p + k) < a
    · exact .inl ⟨if_pos h, _, _, if_pos h⟩
    · exact .inr ⟨_, _, if_neg h, if_neg h⟩

set_option maxHeartbeats 800000 in
theorem mustText_any (g o n cap : Nat) (zs : List Int) (p : Int) (un ut : TypeId) (xn xt : Value) (w : World) (hn : n ≤ 140737488351232) (hz : zs.length = n) (hcap : n ≤ cap) (hr : ∀ j : Nat, 0 ≤ zs.getD j 0 ∧ zs.getD j 0 ≤ 255)
    (hc : ∀ j, j < n → w.cell? ⟨g, o + j, none⟩ = some (.int .u8 (zs.getD j 0))) (hv : w.cell? ⟨1, 0, none⟩ = some (.iface un xn)) (hv' : w.cell? ⟨0, 0, none⟩ = some (.iface ut xt)) :
    Calls Tryd.prog 30 #[.slice (some ⟨g, o, none⟩) n cap, .int .i64 p] w fun e w' => e = endText (.iface un xn) (.iface ut xt) zs p ∧ w' = w := by
  have M := must_any g o n cap zs p xn un w hn hz hcap hr hc hv
  unfold endText
  cases hg : getNum zs p with
  | none =>
    rw [hg] at M
    clear hg hc hr hz
    go_enter Tryd.func30, Tryd.ntmps30
    go_wp2_with fail
    refine M.mono ?_
    clear M
    rintro e w' ⟨rfl, rfl⟩
    exact ⟨rfl, rfl, rfl⟩
  | some ak =>
    obtain ⟨a, k⟩ := ak
    obtain ⟨f1, f2, f3, f4, f5, f6⟩ := getNum_facts hr hg
    rw [hz] at f6
    rw [hg] at M
    obtain ⟨q, rfl⟩ := Int.eq_ofNat_of_zero_le f5
    obtain ⟨m, rfl⟩ := Int.eq_ofNat_of_zero_le f1
    have cz := conv_zero
    have cc := conv_cut hz hc (q + k) m
    simp only [hz]
    by_cases hlt : (n : Int) - ((q : Int) + k) < m
    · rw [if_pos hlt]
      clear hg hc hr hz cz cc
      go_enter Tryd.func30, Tryd.ntmps30
      go_wp2_with fail
      refine M.mono ?_
      clear M
      rintro e w' ⟨rfl, rfl⟩
      simp only [endNum]
      go_wp2
      exact ⟨rfl, rfl, rfl⟩
    · rw [if_neg hlt]
      have hle : q + k + m ≤ n := by omega
      by_cases hm : m = 0
      · subst hm
        have e1 : cutText zs (q + k) ((0 : Nat) : Int) = ByteArray.empty := cutText_zero zs _
        rw [e1]
        clear hg hc hr hz cc e1
        go_enter Tryd.func30, Tryd.ntmps30
        go_wp2_with fail
        refine M.mono ?_
        clear M
        rintro e w' ⟨rfl, rfl⟩
        simp only [endNum]
        go_wp2
        all_goals go_ret2
        all_goals exact ⟨rfl, rfl⟩
      · have e1 : cutText zs ((q : Int) + k) (m : Int) = strOfNums ((zs.drop (q + k)).take m) := by
          have := cutText_nat zs (q + k) m
          simpa using this
        rw [e1]
        have hne : ¬ cap = q + k := by omega
        have cc' := fun c => cc c hle w (fun _ => rfl)
        clear hg hc hr hz cz cc e1
        generalize strOfNums ((zs.drop (q + k)).take m) = txt at cc' ⊢
        go_enter Tryd.func30, Tryd.ntmps30
        go_wp2_with fail
        refine M.mono ?_
        clear M
        rintro e w' ⟨rfl, rfl⟩
        simp only [endNum]
        go_wp2
        go_ret2
        exact ⟨rfl, rfl⟩

theorem catchT (b : Nat) (x0 x1 x2 : Value) (u : TypeId) (pv : Value) (older : List PanicEntry) (w : World) (hc0 : w.cell? ⟨b, 0, none⟩ = some x0) (hz0 : w.frozen? ⟨b, 0, none⟩ = false) (hc1 : w.cell? ⟨b + 1, 0, none⟩ = some x1) (hz1 : w.frozen? ⟨b + 1, 0, none⟩ = false) (hc2 : w.cell? ⟨b + 1 + 1, 0, none⟩ = some x2) (hz2 : w.frozen? ⟨b + 1 + 1, 0, none⟩ = false) :
    CallsD Tryd.prog 29 #[.pointer (some ⟨b, 0, none⟩), .pointer (some ⟨b + 1, 0, none⟩), .pointer (some ⟨b + 1 + 1, 0, none⟩)] (.panicking ({ v := .iface u pv, recovered := false } :: older)) w fun e u' w' =>
      e = .returned (.tuple #[]) ∧ u' = .panicking ({ v := .iface u pv, recovered := true } :: older) ∧ w' = ((w.setCell ⟨b, 0, none⟩ (.string ByteArray.empty)).setCell ⟨b + 1, 0, none⟩ (.int .i64 0)).setCell ⟨b + 1 + 1, 0, none⟩ (.bool false) := by
  refine callsD_of_wpS Tryd.func29 rfl fun c₀ cs hu => ?_
  apply wpS_seq
  apply wpS_region
  simp [wpOpsS, go_sem, recoverD, hu, Tryd.ntmps29, Exit.thenS]
  refine wpS_cond (t := true) (by simp [Act.eval, Array.replicate]) ?_
  simp only [if_true]
  apply wpS_region
  simp [wpOpsS, go_sem, hc0, hz0, hc1, hz1, hc2, hz2, bodyPostS, results, Tryd.results29]
  rfl

theorem catchT_idle (p0 p1 p2 : Addr) (w : World) :
    CallsD Tryd.prog 29 #[.pointer (some p0), .pointer (some p1), .pointer (some p2)] .returning w fun e u' w' => e = .returned (.tuple #[]) ∧ u' = .returning ∧ w' = w := by
  refine callsD_of_wpS Tryd.func29 rfl fun c₀ cs hu => ?_
  apply wpS_seq
  apply wpS_region
  simp [wpOpsS, go_sem, recoverD, hu, Tryd.ntmps29, Exit.thenS]
  refine wpS_cond (t := false) (by simp [Act.eval, Array.replicate]) ?_
  simp only [Bool.false_eq_true, if_false]
  refine wpS_of_wp (wp_skip ?_)
  cases c₀
  simp_all [bodyPostS, results, Tryd.results29]

set_option maxHeartbeats 800000 in
theorem implText_any (g o n cap : Nat) (zs : List Int) (p : Int) (un ut : TypeId) (xn xt : Value) (w : World) (hn : n ≤ 140737488351232) (hz : zs.length = n) (hcap : n ≤ cap) (hr : ∀ j : Nat, 0 ≤ zs.getD j 0 ∧ zs.getD j 0 ≤ 255)
    (hc : ∀ j, j < n → w.cell? ⟨g, o + j, none⟩ = some (.int .u8 (zs.getD j 0))) (hg : g < w.heap.size) (he : 1 < w.heap.size) (hv : w.cell? ⟨1, 0, none⟩ = some (.iface un xn)) (he' : 0 < w.heap.size) (hv' : w.cell? ⟨0, 0, none⟩ = some (.iface ut xt)) :
    Calls Tryd.prog 13 #[.slice (some ⟨g, o, none⟩) n cap, .int .i64 p] w fun e w' => e = .returned (gotText (getText zs p)) ∧ Below w.heap.size w w' := by
  have hmf : ∀ (fn : Fn) (first cap : Array Value) (w : World), (Instr.makeFunc fn first cap).run Tryd.prog w = .ok (.func fn first cap) w := fun _ _ _ _ => rfl
  have M := fun A B C => mustText_any g o n cap zs p un ut xn xt (((w.alloc A).alloc B).alloc C) hn hz hcap hr (fun j hj => (cell3 w A B C _ _ hg).trans (hc j hj)) ((cell3 w A B C _ _ he).trans hv) ((cell3 w A B C _ _ he').trans hv')
  rcases endText_split un ut xn xt zs p with ⟨h1, u, ev, h2⟩ | ⟨s, q, h1, h2⟩
  · rw [h2] at M
    rw [h1]
    clear hc hr hz h1 h2 hv hv'
    go_enter_defers Tryd.func13, Tryd.ntmps13
    go_wp2_with fail
    refine (M _ _ _).mono ?_
    rintro e w' ⟨rfl, rfl⟩
    clear M
    refine leaves_cons (f := 29) (args := #[.pointer (some ⟨w.heap.size, 0, none⟩), .pointer (some ⟨w.heap.size + 1, 0, none⟩), .pointer (some ⟨w.heap.size + 1 + 1, 0, none⟩)]) (by simp) (by simp [go_sem]) ?_
    refine (catchT w.heap.size (.string ByteArray.empty) (.int .i64 0) (.bool false) u ev [] _ ?_ ?_ ?_ ?_ ?_ ?_).mono ?_
    · simp [go_sem]; rfl
    · simp [go_sem]
    · simp [go_sem]
    · simp [go_sem]
    · simp [go_sem]
    · simp [go_sem]
    rintro e u' w'' ⟨rfl, rfl, rfl⟩
    simp [Leaves, settle, results, Tryd.results13, go_sem, gotText]
    exact below3 _ _ _ _
  · rw [h2] at M
    rw [h1]
    clear hc hr hz h1 h2 hv hv'
    go_enter_defers Tryd.func13, Tryd.ntmps13
    go_wp2_with fail
    refine (M _ _ _).mono ?_
    rintro e w' ⟨rfl, rfl⟩
    clear M
    go_wp2
    go_region
    all_goals
      go_wp2
      refine leaves_cons (f := 29) (args := #[.pointer (some ⟨w.heap.size, 0, none⟩), .pointer (some ⟨w.heap.size + 1, 0, none⟩), .pointer (some ⟨w.heap.size + 1 + 1, 0, none⟩)]) (by simp) (by simp [go_sem]) ?_
      refine (catchT_idle _ _ _ _).mono ?_
      rintro e u' w'' ⟨rfl, rfl, rfl⟩
      simp [Leaves, settle, results, Tryd.results13, go_sem, gotText]
      exact below_drewN' (below3 _ _ _ _) _
end Go.Proofs.YtgekbbojhlcppaaDoor
