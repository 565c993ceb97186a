/- The text that begins at a place, as a plain function; both readers of a text answer it. -/
import Derived.Test.YtgekbbojhlcppabDoorGc
import Derived.Laws.BytesArg
namespace Go.Proofs.YtgekbbojhlcppabDoor
open Go.RowKit

theorem num_facts : ∀ (f k : Nat) (a : Int) (r : List Int) (v : Int) (j : Nat), 0 ≤ a → (∀ d ∈ r, 0 ≤ d) → num f k a r = some (v, j) → 0 ≤ v ∧ v ≤ 2147483647 ∧ k < j ∧ j ≤ k + f ∧ j ≤ k + r.length
  | 0, _, _, _, _, _, _, _, h => by simp [num] at h
  | _ + 1, _, _, [], _, _, _, _, h => by simp [num] at h
  | f + 1, k, a, d :: r, v, j, h0, hd, h => by
    have hp : (0 : Int) ≤ d % 128 * 2 ^ (7 * k) := Int.mul_nonneg (by omega) (Int.pow_nonneg (by omega))
    unfold num at h
    split at h
    · split at h
      · cases h
      · next hn =>
        simp only [Option.some.injEq, Prod.mk.injEq] at h
        obtain ⟨rfl, rfl⟩ := h
        simp only [List.length_cons]
        refine ⟨by omega, by omega, by omega, by omega, by omega⟩
    · have := num_facts f (k + 1) _ r v j (by omega) (fun x hx => hd x (List.mem_cons_of_mem _ hx)) h
      simp only [List.length_cons]
      omega

theorem getNum_facts {zs : List Int} {p v : Int} {j : Nat} (hr : ∀ j : Nat, 0 ≤ zs.getD j 0 ∧ zs.getD j 0 ≤ 255) (h : getNum zs p = some (v, j)) : 0 ≤ v ∧ v ≤ 2147483647 ∧ 0 < j ∧ j ≤ 5 ∧ 0 ≤ p ∧ p + j ≤ zs.length := by
  unfold getNum at h
  split at h
  · cases h
  · have := num_facts 5 0 0 _ v j (by omega) (fun d hd => by
      obtain ⟨i, hi, rfl⟩ := List.mem_iff_getElem.1 hd
      have h1 := (hr (p.toNat + i)).1
      simp only [List.length_drop] at hi
      have h2 : p.toNat + i < zs.length := by omega
      simpa [List.getD_eq_getElem?_getD, List.getElem?_eq_getElem h2] using h1) h
    simp only [List.length_drop] at this
    omega

def cutText (zs : List Int) (q : Int) (n : Int) : ByteArray := strOfNums ((zs.drop q.toNat).take n.toNat)
def getText (zs : List Int) (p : Int) : Option (ByteArray × Int) :=
  match getNum zs p with
  | none => none
  | some (n, k) => if (zs.length : Int) - (p + k) < n then none else some (cutText zs (p + k) n, p + k + n)
def gotText : Option (ByteArray × Int) → Value
  | none => .tuple #[.string ByteArray.empty, .int .i64 0, .bool false]
  | some (s, q) => .tuple #[.string s, .int .i64 q, .bool true]

/-- 'string(b[q:q+m])', wherever it lies. -/
theorem conv_cut {w : World} {g o n : Nat} {zs : List Int} (hz : zs.length = n) (hc : ∀ j, j < n → w.cell? ⟨g, o + j, none⟩ = some (.int .u8 (zs.getD j 0))) (q m c : Nat) (hq : q + m ≤ n) (wx : World) (hx : ∀ j, wx.cell? ⟨g, o + j, none⟩ = w.cell? ⟨g, o + j, none⟩) :
    (convert 22 9 (.slice (some ⟨g, o + q, none⟩) m c)).run Tryd.prog wx = .ok (.string (strOfNums ((zs.drop q).take m))) wx := by
  refine run_convert_bytes_arg (P := Tryd.prog) wx 22 5 Tryd.underlying22 Tryd.underlying5 g (o + q) m c ((zs.drop q).take m) (by simp; omega) (fun i hi => ?_) _ Tryd.underlying9
  rw [Nat.add_assoc, hx, hc (q + i) (by omega)]
  simp [hi]

theorem conv_zero (wx : World) (ad : Option Addr) (c : Nat) : (convert 22 9 (.slice ad 0 c)).run Tryd.prog wx = .ok (.string ByteArray.empty) wx := by
  rw [run_convert_bytes_string wx 22 9 5 _ 0 c Tryd.underlying22 Tryd.underlying5 Tryd.underlying9]
  cases ad <;> simp [Conv.bytesToString, loadCells]
  all_goals rfl

theorem cutText_nat (zs : List Int) (q m : Nat) : cutText zs (q : Int) (m : Int) = strOfNums ((zs.drop q).take m) := by simp [cutText]
theorem cutText_zero (zs : List Int) (q : Int) : cutText zs q 0 = ByteArray.empty := by simp [cutText, strOfNums]; rfl

set_option maxHeartbeats 800000 in
theorem specText_any (g o n cap : Nat) (zs : List Int) (p : Int) (w : World) (hn : n ≤ 140737488351232) (hz : zs.length = n) (hcap : n ≤ cap) (hr : ∀ j : Nat, 0 ≤ zs.getD j 0 ∧ zs.getD j 0 ≤ 255)
    (hc : ∀ j, j < n → w.cell? ⟨g, o + j, none⟩ = some (.int .u8 (zs.getD j 0))) (hp0 : -9223372036854775808 ≤ p) (hp1 : p ≤ 9223372036854775807) :
    Calls Tryd.prog 10 #[.slice (some ⟨g, o, none⟩) n cap, .int .i64 p] w fun e w' => e = .returned (gotText (getText zs p)) ∧ w' = w := by
  have M := specNum_any g o n cap zs p w hn hz hr hc hp0 hp1
  unfold getText
  cases hg : getNum zs p with
  | none =>
    rw [hg] at M
    clear hg hc hr hz
    go_enter Tryd.func10, Tryd.ntmps10
    go_wp2_with fail
    refine M.mono ?_
    clear M
    rintro e w' ⟨rfl, rfl⟩
    simp only [gotNum]
    go_wp2
    go_ret3
    exact ⟨rfl, rfl⟩
  | some ak =>
    obtain ⟨a, k⟩ := ak
    obtain ⟨f1, f2, f3, f4, f5, f6⟩ := getNum_facts hr hg
    rw [hz] at f6
    rw [hg] at M
    obtain ⟨q, rfl⟩ := Int.eq_ofNat_of_zero_le f5
    obtain ⟨m, rfl⟩ := Int.eq_ofNat_of_zero_le f1
    have cz := conv_zero
    have cc := conv_cut hz hc (q + k) m
    simp only [hz]
    by_cases hlt : (n : Int) - ((q : Int) + k) < m
    · rw [if_pos hlt]
      clear hg hc hr hz cz cc
      go_enter Tryd.func10, Tryd.ntmps10
      go_wp2_with fail
      refine M.mono ?_
      clear M
      rintro e w' ⟨rfl, rfl⟩
      simp only [gotNum]
      go_wp2
      go_ret3
      exact ⟨rfl, rfl⟩
    · rw [if_neg hlt]
      have hle : q + k + m ≤ n := by omega
      by_cases hm : m = 0
      · subst hm
        have e1 : cutText zs (q + k) ((0 : Nat) : Int) = ByteArray.empty := cutText_zero zs _
        rw [e1]
        clear hg hc hr hz cc e1
        go_enter Tryd.func10, Tryd.ntmps10
        go_wp2_with fail
        refine M.mono ?_
        clear M
        rintro e w' ⟨rfl, rfl⟩
        simp only [gotNum]
        go_wp2
        all_goals go_ret3
        all_goals exact ⟨rfl, rfl⟩
      · have e1 : cutText zs ((q : Int) + k) (m : Int) = strOfNums ((zs.drop (q + k)).take m) := by
          have := cutText_nat zs (q + k) m
          simpa using this
        rw [e1]
        have hne : ¬ cap = q + k := by omega
        have cc' := fun c => cc c hle w (fun _ => rfl)
        clear hg hc hr hz cz cc e1
        generalize strOfNums ((zs.drop (q + k)).take m) = txt at cc' ⊢
        go_enter Tryd.func10, Tryd.ntmps10
        go_wp2_with fail
        refine M.mono ?_
        clear M
        rintro e w' ⟨rfl, rfl⟩
        simp only [gotNum]
        go_wp2
        go_ret3
        exact ⟨rfl, rfl⟩

/-! ### The program's -/
def endText (en et : Value) (zs : List Int) (p : Int) : Ending :=
  match getNum zs p with
  | none => .panicked [{ v := en, recovered := false }]
  | some (n, k) => if (zs.length : Int) - (p + k) < n then .panicked [{ v := et, recovered := false }] else .returned (.tuple #[.string (cutText zs (p + k) n), .int .i64 (p + k + n)])
theorem endText_split (un ut : TypeId) (xn xt : Value) (zs : List Int) (p : Int) :
    (getText zs p = none ∧ ∃ u x, endText (.iface un xn) (.iface ut xt) zs p = .panicked [{ v := .iface u x, recovered := false }]) ∨
    ∃ s q, getText zs p = some (s, q) ∧ endText (.iface un xn) (.iface ut xt) zs p = .returned (.tuple #[.string s, .int .i64 q]) := by
  unfold getText endText
  cases getNum zs p with
  | none => exact .inl ⟨rfl, _, _, rfl⟩
  | some ak =>
    obtain ⟨a, k⟩ := ak
    by_cases h : (zs.length : Int) - (p + k) < a
    · exact .inl ⟨if_pos h, _, _, if_pos h⟩
    · exact .inr ⟨_, _, if_neg h, if_neg h⟩

set_option maxHeartbeats 800000 in
theorem mustText_any (g o n cap : Nat) (zs : List Int) (p : Int) (un ut : TypeId) (xn xt : Value) (w : World) (hn : n ≤ 140737488351232) (hz : zs.length = n) (hcap : n ≤ cap) (hr : ∀ j : Nat, 0 ≤ zs.getD j 0 ∧ zs.getD j 0 ≤ 255)
    (hc : ∀ j, j < n → w.cell? ⟨g, o + j, none⟩ = some (.int .u8 (zs.getD j 0))) (hv : w.cell? ⟨0, 0, none⟩ = some (.iface un xn)) (hv' : w.cell? ⟨1, 0, none⟩ = some (.iface ut xt)) :
    Calls Tryd.prog 20 #[.slice (some ⟨g, o, none⟩) n cap, .int .i64 p] w fun e w' => e = endText (.iface un xn) (.iface ut xt) zs p ∧ w' = w := by
  have M := must_any g o n cap zs p xn un w hn hz hcap hr hc hv
  unfold endText
  cases hg : getNum zs p with
  | none =>
    rw [hg] at M
    clear hg hc hr hz
    go_enter Tryd.func20, Tryd.ntmps20
    go_wp2_with fail
    refine M.mono ?_
    clear M
    rintro e w' ⟨rfl, rfl⟩
    exact ⟨rfl, rfl, rfl⟩
  | some ak =>
    obtain ⟨a, k⟩ := ak
    obtain ⟨f1, f2, f3, f4, f5, f6⟩ := getNum_facts hr hg
    rw [hz] at f6
    rw [hg] at M
    obtain ⟨q, rfl⟩ := Int.eq_ofNat_of_zero_le f5
    obtain ⟨m, rfl⟩ := Int.eq_ofNat_of_zero_le f1
    have cz := conv_zero
    have cc := conv_cut hz hc (q + k) m
    simp only [hz]
    by_cases hlt : (n : Int) - ((q : Int) + k) < m
    · rw [if_pos hlt]
      clear hg hc hr hz cz cc
      go_enter Tryd.func20, Tryd.ntmps20
      go_wp2_with fail
      refine M.mono ?_
      clear M
      rintro e w' ⟨rfl, rfl⟩
      simp only [endNum]
      go_wp2
      exact ⟨rfl, rfl, rfl⟩
    · rw [if_neg hlt]
      have hle : q + k + m ≤ n := by omega
      by_cases hm : m = 0
      · subst hm
        have e1 : cutText zs (q + k) ((0 : Nat) : Int) = ByteArray.empty := cutText_zero zs _
        rw [e1]
        clear hg hc hr hz cc e1
        go_enter Tryd.func20, Tryd.ntmps20
        go_wp2_with fail
        refine M.mono ?_
        clear M
        rintro e w' ⟨rfl, rfl⟩
        simp only [endNum]
        go_wp2
        all_goals go_ret2
        all_goals exact ⟨rfl, rfl⟩
      · have e1 : cutText zs ((q : Int) + k) (m : Int) = strOfNums ((zs.drop (q + k)).take m) := by
          have := cutText_nat zs (q + k) m
          simpa using this
        rw [e1]
        have hne : ¬ cap = q + k := by omega
        have cc' := fun c => cc c hle w (fun _ => rfl)
        clear hg hc hr hz cz cc e1
        generalize strOfNums ((zs.drop (q + k)).take m) = txt at cc' ⊢
        go_enter Tryd.func20, Tryd.ntmps20
        go_wp2_with fail
        refine M.mono ?_
        clear M
        rintro e w' ⟨rfl, rfl⟩
        simp only [endNum]
        go_wp2
        go_ret2
        exact ⟨rfl, rfl⟩

theorem catchT (b : Nat) (x0 x1 x2 : Value) (u : TypeId) (pv : Value) (older : List PanicEntry) (w : World) (hc0 : w.cell? ⟨b, 0, none⟩ = some x0) (hz0 : w.frozen? ⟨b, 0, none⟩ = false) (hc1 : w.cell? ⟨b + 1, 0, none⟩ = some x1) (hz1 : w.frozen? ⟨b + 1, 0, none⟩ = false) (hc2 : w.cell? ⟨b + 1 + 1, 0, none⟩ = some x2) (hz2 : w.frozen? ⟨b + 1 + 1, 0, none⟩ = false) :
    CallsD Tryd.prog 19 #[.pointer (some ⟨b, 0, none⟩), .pointer (some ⟨b + 1, 0, none⟩), .pointer (some ⟨b + 1 + 1, 0, none⟩)] (.panicking ({ v := .iface u pv, recovered := false } :: older)) w fun e u' w' =>
      e = .returned (.tuple #[]) ∧ u' = .panicking ({ v := .iface u pv, recovered := true } :: older) ∧ w' = ((w.setCell ⟨b, 0, none⟩ (.string ByteArray.empty)).setCell ⟨b + 1, 0, none⟩ (.int .i64 0)).setCell ⟨b + 1 + 1, 0, none⟩ (.bool false) := by
  refine callsD_of_wpS Tryd.func19 rfl fun c₀ cs hu => ?_
  apply wpS_seq
  apply wpS_region
  simp [wpOpsS, go_sem, recoverD, hu, Tryd.ntmps19, Exit.thenS]
  refine wpS_cond (t := true) (by simp [Act.eval, Array.replicate]) ?_
  simp only [if_true]
  apply wpS_region
  simp [wpOpsS, go_sem, hc0, hz0, hc1, hz1, hc2, hz2, bodyPostS, results, Tryd.results19]
  rfl

theorem catchT_idle (p0 p1 p2 : Addr) (w : World) :
    CallsD Tryd.prog 19 #[.pointer (some p0), .pointer (some p1), .pointer (some p2)] .returning w fun e u' w' => e = .returned (.tuple #[]) ∧ u' = .returning ∧ w' = w := by
  refine callsD_of_wpS Tryd.func19 rfl fun c₀ cs hu => ?_
  apply wpS_seq
  apply wpS_region
  simp [wpOpsS, go_sem, recoverD, hu, Tryd.ntmps19, Exit.thenS]
  refine wpS_cond (t := false) (by simp [Act.eval, Array.replicate]) ?_
  simp only [Bool.false_eq_true, if_false]
  refine wpS_of_wp (wp_skip ?_)
  cases c₀
  simp_all [bodyPostS, results, Tryd.results19]

set_option maxHeartbeats 800000 in
theorem implText_any (g o n cap : Nat) (zs : List Int) (p : Int) (un ut : TypeId) (xn xt : Value) (w : World) (hn : n ≤ 140737488351232) (hz : zs.length = n) (hcap : n ≤ cap) (hr : ∀ j : Nat, 0 ≤ zs.getD j 0 ∧ zs.getD j 0 ≤ 255)
    (hc : ∀ j, j < n → w.cell? ⟨g, o + j, none⟩ = some (.int .u8 (zs.getD j 0))) (hg : g < w.heap.size) (he : 0 < w.heap.size) (hv : w.cell? ⟨0, 0, none⟩ = some (.iface un xn)) (he' : 1 < w.heap.size) (hv' : w.cell? ⟨1, 0, none⟩ = some (.iface ut xt)) :
    Calls Tryd.prog 11 #[.slice (some ⟨g, o, none⟩) n cap, .int .i64 p] w fun e w' => e = .returned (gotText (getText zs p)) ∧ Below w.heap.size w w' := by
  have hmf : ∀ (fn : Fn) (first cap : Array Value) (w : World), (Instr.makeFunc fn first cap).run Tryd.prog w = .ok (.func fn first cap) w := fun _ _ _ _ => rfl
  have M := fun A B C => mustText_any g o n cap zs p un ut xn xt (((w.alloc A).alloc B).alloc C) hn hz hcap hr (fun j hj => (cell3 w A B C _ _ hg).trans (hc j hj)) ((cell3 w A B C _ _ he).trans hv) ((cell3 w A B C _ _ he').trans hv')
  rcases endText_split un ut xn xt zs p with ⟨h1, u, ev, h2⟩ | ⟨s, q, h1, h2⟩
  · rw [h2] at M
    rw [h1]
    clear hc hr hz h1 h2 hv hv'
    go_enter_defers Tryd.func11, Tryd.ntmps11
    go_wp2_with fail
    refine (M _ _ _).mono ?_
    rintro e w' ⟨rfl, rfl⟩
    clear M
    refine leaves_cons (f := 19) (args := #[.pointer (some ⟨w.heap.size, 0, none⟩), .pointer (some ⟨w.heap.size + 1, 0, none⟩), .pointer (some ⟨w.heap.size + 1 + 1, 0, none⟩)]) (by simp) (by simp [go_sem]) ?_
    refine (catchT w.heap.size (.string ByteArray.empty) (.int .i64 0) (.bool false) u ev [] _ ?_ ?_ ?_ ?_ ?_ ?_).mono ?_
    · simp [go_sem]; rfl
    · simp [go_sem]
    · simp [go_sem]
    · simp [go_sem]
    · simp [go_sem]
    · simp [go_sem]
    rintro e u' w'' ⟨rfl, rfl, rfl⟩
    simp [Leaves, settle, results, Tryd.results11, go_sem, gotText]
    exact below3 _ _ _ _
  · rw [h2] at M
    rw [h1]
    clear hc hr hz h1 h2 hv hv'
    go_enter_defers Tryd.func11, Tryd.ntmps11
    go_wp2_with fail
    refine (M _ _ _).mono ?_
    rintro e w' ⟨rfl, rfl⟩
    clear M
    go_wp2
    go_region
    all_goals
      go_wp2
      refine leaves_cons (f := 19) (args := #[.pointer (some ⟨w.heap.size, 0, none⟩), .pointer (some ⟨w.heap.size + 1, 0, none⟩), .pointer (some ⟨w.heap.size + 1 + 1, 0, none⟩)]) (by simp) (by simp [go_sem]) ?_
      refine (catchT_idle _ _ _ _).mono ?_
      rintro e u' w'' ⟨rfl, rfl, rfl⟩
      simp [Leaves, settle, results, Tryd.results11, go_sem, gotText]
      exact below_drewN' (below3 _ _ _ _) _
end Go.Proofs.YtgekbbojhlcppabDoor
