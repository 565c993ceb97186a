/- Texts of this claim, put together: part 23. -/
import Derived.Test.YtobimpgapfecoaaFnPromisePack3
import Derived.Test.YtobimpgapfecoaaFnPromisePack2
/- Whether an attribute is nominal, by the program. -/
namespace Go.Proofs.Ytobimpgapfecoaa
open Go.RowKit
set_option maxRecDepth 100000

theorem nominal_any (v : Value) (a : AttrD) (w : World) (h : AttrAt w v a) : Calls Try.prog 105 #[v] w fun e w' => e = .returned (.bool (decide (0 < a.vals.length))) ∧ Below w.heap.size w w' := by
  obtain ⟨vc, vv, rfl, hc, hv⟩ := h
  obtain ⟨ov, cv, rfl, hvc, hvr⟩ := hv
  clear hvr hc
  go_enter Try.func105, Try.ntmps105
  go_wp2
  go_ret
  exact ⟨rfl, (Below.refl _ _).alloc (Nat.le_refl _) _⟩
end Go.Proofs.Ytobimpgapfecoaa
/- Ascending numbers within two bounds, in plain words. -/
namespace Go.Proofs.Ytobimpgapfecoaa
open Go.RowKit
set_option maxRecDepth 100000
def ascAt (lo hi : Int) (cs : List Int) (i : Nat) : Bool := decide (lo ≤ cs.getD i 0 ∧ cs.getD i 0 ≤ hi) && (decide (i = 0) || decide (cs.getD (i - 1) 0 < cs.getD i 0))
def ascIn (lo hi : Int) (cs : List Int) : Bool := (List.range cs.length).all (ascAt lo hi cs)
/-- The least that the next number may be. -/
def leastOf (lo : Int) (cs : List Int) (k : Nat) : Int := if k = 0 then lo else cs.getD (k - 1) 0 + 1
theorem cuts_asc (cs : List Int) : cutsRise cs = ascIn (-9999) 9998 cs := rfl
theorem asc_in {lo hi : Int} {cs : List Int} {i : Nat} (h : ascAt lo hi cs i = true) : lo ≤ cs.getD i 0 ∧ cs.getD i 0 ≤ hi := by
  unfold ascAt at h
  rw [Bool.and_eq_true] at h
  exact of_decide_eq_true h.1
theorem asc_at {lo hi : Int} {cs : List Int} (h : ascIn lo hi cs = true) {j : Nat} (hj : j < cs.length) : lo ≤ cs.getD j 0 ∧ cs.getD j 0 ≤ hi := by
  unfold ascIn at h
  rw [List.all_eq_true] at h
  exact asc_in (h j (List.mem_range.2 hj))
theorem asc_yes {lo hi : Int} {cs : List Int} (h : ∀ j, j < cs.length → ascAt lo hi cs j = true) : ascIn lo hi cs = true := by
  unfold ascIn
  rw [List.all_eq_true]
  intro j hj
  exact h j (List.mem_range.1 hj)
theorem asc_no {lo hi : Int} {cs : List Int} (j : Nat) (hj : j < cs.length) (h : ascAt lo hi cs j = false) : ascIn lo hi cs = false := by
  cases e : ascIn lo hi cs with
  | false => rfl
  | true =>
    unfold ascIn at e
    rw [List.all_eq_true] at e
    have := e j (List.mem_range.2 hj)
    rw [h] at this; cases this
end Go.Proofs.Ytobimpgapfecoaa
/- Whether numbers ascend, by the program. -/
namespace Go.Proofs.Ytobimpgapfecoaa
open Go.RowKit
set_option maxRecDepth 100000
set_option maxHeartbeats 400000 in
theorem ascending_any (v : Value) (cs : List Int) (lo hi : Int) (w : World) (h : RowI w v cs) (hn : cs.length ≤ 1099511627776) (h0 : cs.length ≠ 0) (hlo : -1099511627776 ≤ lo) (hhi : hi ≤ 1099511627776) :
    Calls Try.prog 119 #[v, .int .i64 lo, .int .i64 hi] w fun e w' => e = .returned (.bool (ascIn lo hi cs)) ∧ w' = w := by
  obtain ⟨oa, cap, rfl, hc, hr⟩ := h
  obtain ⟨g, o, rfl, hg, hj⟩ := hr (by omega)
  have HJ : Hid (∀ j, j < cs.length → w.cell? ⟨g, o + j, none⟩ = some (.int .i64 (cs.getD j 0))) := hj
  clear hj hr
  go_enter Try.func119, Try.ntmps119
  go_wp2
  go_loopw [1, 11] (fun l i wr => ∃ k : Nat, i = .int .i64 k ∧ l = .int .i64 (leastOf lo cs k) ∧ k ≤ cs.length ∧ (∀ j, j < k → ascAt lo hi cs j = true) ∧ wr = w) (fun _ i _ => cs.length - (intOf i).toNat)
  case atStart => exact ⟨0, rfl, rfl, by omega, by omega, rfl⟩
  case round =>
    obtain ⟨k, rfl, rfl, hk, hal, rfl⟩ := hrel
    have HA : Hid (∀ j, j < k → ascAt lo hi cs j = true) := hal
    clear hal
    by_cases hlt : k < cs.length
    · have hcell := HJ.out k hlt
      have HL : Hid (∀ c, cs.getD k 0 = c → (leastOf lo cs k ≤ c ∧ c ≤ hi → ascAt lo hi cs k = true) ∧ (¬ (leastOf lo cs k ≤ c ∧ c ≤ hi) → ascAt lo hi cs k = false)) := by
        intro c hc
        unfold leastOf ascAt
        rw [hc]
        by_cases hk0 : k = 0
        · subst hk0; simp
        · have hp := HA.out (k - 1) (by omega)
          unfold ascAt at hp
          simp at hp
          simp [hk0]
          constructor
          · intro a b; omega
          · intro a b c; omega
      generalize hcc : cs.getD k 0 = c at hcell
      have HK := HL.out c hcc
      have HKK : Hid ((leastOf lo cs k ≤ c ∧ c ≤ hi → ascAt lo hi cs k = true) ∧ (¬ (leastOf lo cs k ≤ c ∧ c ≤ hi) → ascAt lo hi cs k = false)) := HK
      have HN : Hid (c + 1 = leastOf lo cs (k + 1)) := by unfold leastOf; rw [if_neg (by omega), Nat.add_sub_cancel, hcc]; rfl
      have hll : -1099511627776 ≤ leastOf lo cs k := by
        unfold leastOf
        by_cases hk0 : k = 0
        · rw [if_pos hk0]; omega
        · rw [if_neg hk0]
          have hp := asc_in (HA.out (k - 1) (by omega))
          omega
      clear HL HK hcc
      generalize leastOf lo cs k = L at HKK hll
      by_cases c1 : c < L
      · have HF : Hid (ascIn lo hi cs = false) := asc_no k hlt (HKK.out.2 (by omega))
        go_wp2
        go_ret
        exact ⟨by rw [HF.out]; rfl, rfl⟩
      · by_cases c2 : c ≤ hi
        · have HF : Hid (ascAt lo hi cs k = true) := HKK.out.1 (by omega)
          go_wp2
          go_roundw
          case rel =>
            refine ⟨k + 1, by go_num, by rw [← HN.out], by omega, ?_, by first | rfl | trivial⟩
            intro j hj
            by_cases e : j = k
            · subst e; exact HF.out
            · exact HA.out j (by omega)
          case measure => simp [intOf]; omega
        · have HF : Hid (ascIn lo hi cs = false) := asc_no k hlt (HKK.out.2 (by omega))
          go_wp2
          go_ret
          exact ⟨by rw [HF.out]; rfl, rfl⟩
    · have HF : Hid (ascIn lo hi cs = true) := asc_yes fun j hj => HA.out j (by omega)
      go_wp2
      go_ret
      exact ⟨by rw [HF.out]; rfl, rfl⟩
end Go.Proofs.Ytobimpgapfecoaa
/- Cuts: whether they are right, by the program. -/
namespace Go.Proofs.Ytobimpgapfecoaa
open Go.RowKit
set_option maxRecDepth 100000
set_option maxHeartbeats 400000 in
theorem implCuts_any (v : Value) (cs : List Int) (w : World) (h : RowI w v cs) (hn : cs.length ≤ 1099511627776) (h0 : cs.length ≠ 0) :
    Calls Try.prog 117 #[v] w fun e w' => e = .returned (.bool (decide (cs.length ≤ 3) && cutsRise cs)) ∧ Below w.heap.size w w' := by
  have cA := ascending_any v cs (-9999) 9998 w h hn h0 (by omega) (by omega)
  rw [← cuts_asc] at cA
  obtain ⟨oa, cap, rfl, hc, hr⟩ := h
  clear hr hc
  have l1 : 1 ≤ (cs.length : Int) := by omega
  by_cases h3 : (cs.length : Int) ≤ 3
  rotate_left
  · have HF : Hid ((decide (cs.length ≤ 3) && cutsRise cs) = false) := by rw [decide_eq_false (by omega)]; rfl
    clear cA
    go_enter Try.func117, Try.ntmps117
    go_wp2
    go_ret
    exact ⟨by rw [HF.out]; rfl, Below.refl _ _⟩
  have HC : Hid ((decide (cs.length ≤ 3) && cutsRise cs) = cutsRise cs) := by rw [decide_eq_true (by omega)]; rfl
  go_enter Try.func117, Try.ntmps117
  go_wp2_with fail
  refine cA.mono ?_
  clear cA
  rintro e w1 ⟨rfl, rfl⟩
  go_wp2
  go_ret
  exact ⟨by rw [HC.out]; rfl, Below.refl _ _⟩
end Go.Proofs.Ytobimpgapfecoaa
