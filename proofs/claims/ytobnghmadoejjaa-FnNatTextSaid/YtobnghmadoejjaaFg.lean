/- The face NatFrom reads a great number. -/
import Derived.Test.YtobnghmadoejjaaWd
import Derived.Test.YtobnghmadoejjaaNt
import Derived.Test.YtobnghmadoejjaaFr
import Derived.WalkSmall
namespace Go.Proofs.Ytobnghmadoejjaa
open Go.RowKit
set_option maxRecDepth 100000

set_option maxHeartbeats 1600000 in
theorem implFrom_in (s : ByteArray) (l : List UInt8) (w : World) (hs0 : 0 < s.size) (hs1 : s.size ≤ 1048576) (hl : s.data.toList = l) (hh : l[0]? ≠ some 48 ∨ l.length = 1) :
    Calls Try.prog 21 #[.string s] w fun e w' => ∃ v, e = .returned (.tuple #[v, .bool (fromO l).isSome]) ∧ OwnA w' w.heap.size v (fromO l) ∧ Below w.heap.size w w' := by
  have hlen : l.length = s.size := by rw [← hl]; simp
  have HL : Hid (s.data.toList = l) := hl
  have HLen : Hid (l.length = s.size) := hlen
  have HH : Hid (l[0]? ≠ some 48 ∨ l.length = 1) := hh
  have HNE : Hid (l ≠ []) := fun e => by rw [e] at hlen; simp at hlen; omega
  have hfirst : (s[0].toNat ≠ 48) ∨ s.size = 1 := by
    rcases hh with h | h
    · left
      intro e
      apply h
      rw [← hl]
      have : s.data.toList[0]? = some s[0] := by simp [hs0]; rfl
      rw [this]
      congr 1
      apply UInt8.toNat_inj.1
      rw [e]; rfl
    · right; omega
  have hse : (s.toList == []) = false := by
    rw [ByteArray.toList_eq, hl]
    cases h : l with
    | nil => rw [h] at hlen; simp at hlen; omega
    | cons c r => rfl
  have hbd : ((((s[0].toNat : Nat) : Int) == 48) && decide (1 < s.size)) = false := by
    rcases hfirst with h | h
    · have : (((s[0].toNat : Nat) : Int) == 48) = false := by rw [beq_eq_false_iff_ne]; omega
      rw [this]; rfl
    · rw [h]; simp
  clear hlen hl hh
  obtain ⟨a0, b0⟩ := arr_1 42 w (fit 0)
  go_enter Try.func21, Try.ntmps21
  go_wp2
  all_goals
    rw [zero_cells]
    go_loopw [23] (fun i wr => ∃ k cur : Nat, i = .int .i64 (k : Int) ∧ k ≤ s.size ∧ cur < top ∧ Hid (Lib.decFrom 0 (l.take k) = some cur) ∧ Arr wr w.heap.size (fit cur) ∧ Below w.heap.size w wr) (fun i _ => s.size - (intOf i).toNat)
    case atStart => exact ⟨0, 0, rfl, by omega, by unfold top; omega, rfl, a0, b0⟩
    case round =>
      obtain ⟨k, cur, rfl, hk, hct, hE, Ax, hb⟩ := hrel
      have hAl := Ax.lt
      have hbs := hb.size
      have lc := fit_len cur
      by_cases hlt : k < s.size
      · have HB : Hid (l[k]? = some s[k]) := by show _ = _; rw [← HL.out]; simp [hlt]; rfl
        have hu8 : s[k].toNat < 256 := UInt8.toNat_lt _
        by_cases hlo : s[k].toNat < 48
        · have HF : Hid (fromO l = none) := from_bad (bad_byte l k _ HB.out (.inl hlo))
          go_wp2
          go_ret2
          rw [HF.out]
          exact ⟨_, rfl, OwnA.nil _ _, hb⟩
        · by_cases hhi : 57 < s[k].toNat
          · have HF : Hid (fromO l = none) := from_bad (bad_byte l k _ HB.out (.inr hhi))
            go_wp2
            go_ret2
            rw [HF.out]
            exact ⟨_, rfl, OwnA.nil _ _, hb⟩
          · have hE2 := Lib.decFrom_take l k 0 cur _ _ hE.out HB.out (good_byte _ (by omega) (by omega))
            obtain ⟨dg, hdg⟩ : ∃ dg, s[k].toNat = 48 + dg := ⟨s[k].toNat - 48, by omega⟩
            rw [hdg, show 48 + dg - 48 = dg by omega, show cur * 10 + dg = 10 * cur + dg by omega] at hE2
            have HE2 : Hid (Lib.decFrom 0 (l.take (k + 1)) = some (10 * cur + dg)) := hE2
            have c2 := dig_any cur dg wr hct (by omega)
            rw [show (dg : Int) = ((s[k].toNat : Nat) : Int) - 48 by omega] at c2
            clear hE hE2 HB hdg
            generalize 10 * cur + dg = nx at c2 HE2
            by_cases hfit : nx < top
            · rw [decide_eq_true hfit] at c2
              unfold fitV at c2
              have lx := fit_len nx
              go_wp2_with (first | (with_reducible refine wp_arr_load rfl _ rfl ?_; first | (refine ⟨w.heap.size, rfl, fit cur, Ax, lc, ?_⟩) | (refine ⟨w2.heap.size, rfl, fit nx, Aq2, lx, ?_⟩)) | (go_at_call 42; refine c2.mono ?_; clear c2; rintro e w2 ⟨sm, hst, rfl, hse, hb2⟩; obtain rfl := hse hfit; clear hse; have Ax2 := (Ax.below hb2).alloc (.cells (arr (fit sm)) 42); have Aq2 := ArrT.new 42 w2 (fit sm)) | (with_reducible refine wp_arr_init rfl _ _ rfl ?_; refine ⟨_, rfl, by simp, fit sm, rfl, lx, ?_⟩) | (with_reducible refine wp_arr_store rfl _ _ rfl ?_; refine ⟨w.heap.size, rfl, fit sm, rfl, lx, fit cur, Ax2, lc, ?_⟩) | (with_reducible refine wp_arr_load rfl _ rfl ?_; refine ⟨w2.heap.size, rfl, fit sm, Aq2, lx, ?_⟩))
              have hs2 := hb2.size
              have hb3 : Below w.heap.size w (w2.alloc (.cells (arr (fit sm)) 42)) := (hb.trans (hb2.mono hbs)).alloc (by omega) _
              have hb4 := below_setRow hb3 (g := w.heap.size) (Nat.le_refl _) (arr (fit sm))
              have Ax4 := Ax2.setRow (fit sm)
              go_roundw
              case rel => exact ⟨k + 1, sm, by go_num, by omega, hst, HE2, Ax4, hb4⟩
              case measure => simp [intOf]; omega
            · rw [decide_eq_false hfit] at c2
              have HF : Hid (fromO l = none) := from_great l (k + 1) nx HE2.out hfit
              unfold fitV at c2
              go_wp2_with (first | (with_reducible refine wp_arr_load rfl _ rfl ?_; refine ⟨w.heap.size, rfl, fit cur, Ax, lc, ?_⟩) | (go_at_call 42; refine c2.mono ?_; clear c2; rintro e w2 ⟨sm, hst, rfl, hse, hb2⟩; clear hse; have ls := fit_len sm) | (with_reducible refine wp_arr_init rfl _ _ rfl ?_; refine ⟨_, rfl, by simp, fit sm, rfl, ls, ?_⟩))
              go_ret2
              have hs2 := hb2.size
              have hb3 : Below w.heap.size w (w2.alloc (.cells (arr (fit sm)) 42)) := (hb.trans (hb2.mono hbs)).alloc (by omega) _
              rw [HF.out]
              exact ⟨_, rfl, OwnA.nil _ _, hb3⟩
      · obtain rfl : k = s.size := by omega
        have hall : Lib.decFrom 0 l = some cur := by
          have := hE.out
          rwa [List.take_of_length_le (by rw [HLen.out]; exact Nat.le_refl _)] at this
        have HF : Hid (fromO l = some cur) := from_yes hall hct (dec_back l cur HNE.out hall HH.out)
        have c3 := list_any cur wr hct
        unfold fitV at c3
        clear hE hall
        go_wp2_with (first | (with_reducible refine wp_arr_load rfl _ rfl ?_; refine ⟨w.heap.size, rfl, fit cur, Ax, lc, ?_⟩) | (go_at_call 41; refine c3.mono ?_; clear c3; rintro e w3 ⟨u, rfl, hou, hb3⟩))
        go_ret2
        rw [HF.out]
        exact ⟨u, rfl, (OwnA.of hou).base hbs, hb.trans (hb3.mono hbs)⟩

theorem implFrom_any (s : ByteArray) (w : World) (hs1 : s.size ≤ 1048576) :
    Calls Try.prog 21 #[.string s] w fun e w' => ∃ v, e = .returned (.tuple #[v, .bool (fromO s.data.toList).isSome]) ∧ OwnA w' w.heap.size v (fromO s.data.toList) ∧ Below w.heap.size w w' := by
  by_cases hs0 : 0 < s.size
  · by_cases hh : s.data.toList[0]? ≠ some 48 ∨ s.data.toList.length = 1
    · exact implFrom_in s _ w hs0 hs1 rfl hh
    · have h1 : s.data.toList[0]? = some 48 := Classical.byContradiction fun h => hh (.inl h)
      have h2 : 1 < s.data.toList.length := by
        have : s.data.toList.length = s.size := by simp
        rcases Nat.lt_or_ge 1 s.data.toList.length with h | h
        · exact h
        · exact absurd (.inr (by omega)) hh
      have HF : Hid (fromO s.data.toList = none) := from_nought _ h1 h2
      have hsz : 1 < s.size := by simpa using h2
      have h0 : s[0].toNat = 48 := by
        have : s.data.toList[0]? = some s[0] := by simp [hs0]; rfl
        rw [this] at h1
        injection h1 with h3
        rw [h3]; rfl
      have hse : (s.toList == []) = false := by
        rw [ByteArray.toList_eq]
        cases h : s.data.toList with
        | nil => rw [h] at h2; simp at h2
        | cons c r => rfl
      clear h1 h2 hh
      go_enter Try.func21, Try.ntmps21
      go_wp2
      go_ret2
      rw [HF.out]
      exact ⟨_, rfl, OwnA.nil _ _, Below.refl _ _⟩
  · have hz : s.data.toList = [] := by
      apply List.length_eq_zero_iff.1
      have : s.data.toList.length = s.size := by simp
      omega
    have HF : Hid (fromO s.data.toList = none) := by show _ = _; rw [hz]; exact from_no rfl (by rw [dec0]; simp)
    have hse : (s.toList == []) = true := by rw [ByteArray.toList_eq, hz]; rfl
    clear hz
    go_enter Try.func21, Try.ntmps21
    go_wp2
    go_ret2
    rw [HF.out]
    exact ⟨_, rfl, OwnA.nil _ _, Below.refl _ _⟩
end Go.Proofs.Ytobnghmadoejjaa
