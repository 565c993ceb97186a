/- Texts of this claim, put together: part 25. -/
import Derived.Test.YtobimpgapfecoaaFnOneBranchPack7
import Derived.Test.YtobimpgapfecoaaFnOneBranchPack24
import Derived.Test.YtobimpgapfecoaaFnOneBranchPack2
import Derived.Test.YtobimpgapfecoaaFnOneBranchPack1
/- How many questions with two answers there are, by the program. -/
namespace Go.Proofs.Ytobimpgapfecoaa
open Go.RowKit
set_option maxRecDepth 100000
set_option maxHeartbeats 400000 in
theorem twoWays_any (v : Value) (a : AttrD) (w : World) (h : AttrAt w v a) (hok : attrOk a = true) : Calls Try.prog 104 #[v] w fun e w' => e = .returned (.int .i64 (wayN a)) ∧ Below w.heap.size w w' := by
  have hk := ok_kind hok
  have B0 : ∀ o, Below w.heap.size w (w.alloc o) := fun o => (Below.refl _ _).alloc (Nat.le_refl _) _
  have c := fun o => nominal_any v a (w.alloc o) (h.later (B0 o))
  obtain ⟨vc, vv, rfl, hc, hv⟩ := h
  obtain ⟨oc, cc, rfl, -, -⟩ := hc
  obtain ⟨ov, cv, rfl, -, -⟩ := hv
  have K : Blk 55 (w.alloc (.cells #[.string a.name, .slice oc a.cuts.length cc, .slice ov a.vals.length cv] 55)) w.heap.size #[.string a.name, .slice oc a.cuts.length cc, .slice ov a.vals.length cv] := Blk.new _ _ _
  have B1 := B0 (.cells #[.string a.name, .slice oc a.cuts.length cc, .slice ov a.vals.length cv] 55)
  clear B0
  by_cases h0 : 0 < a.vals.length
  · have HE : Hid (wayN a = a.vals.length) := by unfold wayN; exact if_pos (by omega)
    rw [decide_eq_true h0] at c
    clear hk
    go_enter Try.func104, Try.ntmps104
    go_wp2_with fail
    refine (c _).mono ?_
    clear c
    rintro e w1 ⟨rfl, hb1⟩
    have k2 : w1.cell? ⟨w.heap.size, 2, none⟩ = some (.slice ov a.vals.length cv) := (K.below hb1).cell 2
    have B2 := B1.trans (hb1.mono B1.size)
    clear hb1 K B1
    go_wp2
    go_ret
    exact ⟨by rw [HE.out]; rfl, B2⟩
  · have HE : Hid (wayN a = a.cuts.length) := by unfold wayN; exact if_neg (by omega)
    rw [decide_eq_false h0] at c
    clear hk
    go_enter Try.func104, Try.ntmps104
    go_wp2_with fail
    refine (c _).mono ?_
    clear c
    rintro e w1 ⟨rfl, hb1⟩
    have k1 : w1.cell? ⟨w.heap.size, 1, none⟩ = some (.slice oc a.cuts.length cc) := (K.below hb1).cell 1
    have B2 := B1.trans (hb1.mono B1.size)
    clear hb1 K B1
    go_wp2
    go_ret
    exact ⟨by rw [HE.out]; rfl, B2⟩
end Go.Proofs.Ytobimpgapfecoaa
/- Whether numbers ascend, by the program. -/
namespace Go.Proofs.Ytobimpgapfecoaa
open Go.RowKit
set_option maxRecDepth 100000
set_option maxHeartbeats 400000 in
theorem ascending_any (v : Value) (cs : List Int) (lo hi : Int) (w : World) (h : RowI w v cs) (hn : cs.length ≤ 1099511627776) (h0 : cs.length ≠ 0) (hlo : -1099511627776 ≤ lo) (hhi : hi ≤ 1099511627776) :
    Calls Try.prog 119 #[v, .int .i64 lo, .int .i64 hi] w fun e w' => e = .returned (.bool (ascIn lo hi cs)) ∧ w' = w := by
  obtain ⟨oa, cap, rfl, hc, hr⟩ := h
  obtain ⟨g, o, rfl, hg, hj⟩ := hr (by omega)
  have HJ : Hid (∀ j, j < cs.length → w.cell? ⟨g, o + j, none⟩ = some (.int .i64 (cs.getD j 0))) := hj
  clear hj hr
  go_enter Try.func119, Try.ntmps119
  go_wp2
  go_loopw [1, 11] (fun l i wr => ∃ k : Nat, i = .int .i64 k ∧ l = .int .i64 (leastOf lo cs k) ∧ k ≤ cs.length ∧ (∀ j, j < k → ascAt lo hi cs j = true) ∧ wr = w) (fun _ i _ => cs.length - (intOf i).toNat)
  case atStart => exact ⟨0, rfl, rfl, by omega, by omega, rfl⟩
  case round =>
    obtain ⟨k, rfl, rfl, hk, hal, rfl⟩ := hrel
    have HA : Hid (∀ j, j < k → ascAt lo hi cs j = true) := hal
    clear hal
    by_cases hlt : k < cs.length
    · have hcell := HJ.out k hlt
      have HL : Hid (∀ c, cs.getD k 0 = c → (leastOf lo cs k ≤ c ∧ c ≤ hi → ascAt lo hi cs k = true) ∧ (¬ (leastOf lo cs k ≤ c ∧ c ≤ hi) → ascAt lo hi cs k = false)) := by
        intro c hc
        unfold leastOf ascAt
        rw [hc]
        by_cases hk0 : k = 0
        · subst hk0; simp
        · have hp := HA.out (k - 1) (by omega)
          unfold ascAt at hp
          simp at hp
          simp [hk0]
          constructor
          · intro a b; omega
          · intro a b c; omega
      generalize hcc : cs.getD k 0 = c at hcell
      have HK := HL.out c hcc
      have HKK : Hid ((leastOf lo cs k ≤ c ∧ c ≤ hi → ascAt lo hi cs k = true) ∧ (¬ (leastOf lo cs k ≤ c ∧ c ≤ hi) → ascAt lo hi cs k = false)) := HK
      have HN : Hid (c + 1 = leastOf lo cs (k + 1)) := by unfold leastOf; rw [if_neg (by omega), Nat.add_sub_cancel, hcc]; rfl
      have hll : -1099511627776 ≤ leastOf lo cs k := by
        unfold leastOf
        by_cases hk0 : k = 0
        · rw [if_pos hk0]; omega
        · rw [if_neg hk0]
          have hp := asc_in (HA.out (k - 1) (by omega))
          omega
      clear HL HK hcc
      generalize leastOf lo cs k = L at HKK hll
      by_cases c1 : c < L
      · have HF : Hid (ascIn lo hi cs = false) := asc_no k hlt (HKK.out.2 (by omega))
        go_wp2
        go_ret
        exact ⟨by rw [HF.out]; rfl, rfl⟩
      · by_cases c2 : c ≤ hi
        · have HF : Hid (ascAt lo hi cs k = true) := HKK.out.1 (by omega)
          go_wp2
          go_roundw
          case rel =>
            refine ⟨k + 1, by go_num, by rw [← HN.out], by omega, ?_, by first | rfl | trivial⟩
            intro j hj
            by_cases e : j = k
            · subst e; exact HF.out
            · exact HA.out j (by omega)
          case measure => simp [intOf]; omega
        · have HF : Hid (ascIn lo hi cs = false) := asc_no k hlt (HKK.out.2 (by omega))
          go_wp2
          go_ret
          exact ⟨by rw [HF.out]; rfl, rfl⟩
    · have HF : Hid (ascIn lo hi cs = true) := asc_yes fun j hj => HA.out j (by omega)
      go_wp2
      go_ret
      exact ⟨by rw [HF.out]; rfl, rfl⟩
end Go.Proofs.Ytobimpgapfecoaa
/- Cuts: whether they are right, by the program. -/
namespace Go.Proofs.Ytobimpgapfecoaa
open Go.RowKit
set_option maxRecDepth 100000
set_option maxHeartbeats 400000 in
theorem implCuts_any (v : Value) (cs : List Int) (w : World) (h : RowI w v cs) (hn : cs.length ≤ 1099511627776) (h0 : cs.length ≠ 0) :
    Calls Try.prog 117 #[v] w fun e w' => e = .returned (.bool (decide (cs.length ≤ 3) && cutsRise cs)) ∧ Below w.heap.size w w' := by
  have cA := ascending_any v cs (-9999) 9998 w h hn h0 (by omega) (by omega)
  rw [← cuts_asc] at cA
  obtain ⟨oa, cap, rfl, hc, hr⟩ := h
  clear hr hc
  have l1 : 1 ≤ (cs.length : Int) := by omega
  by_cases h3 : (cs.length : Int) ≤ 3
  rotate_left
  · have HF : Hid ((decide (cs.length ≤ 3) && cutsRise cs) = false) := by rw [decide_eq_false (by omega)]; rfl
    clear cA
    go_enter Try.func117, Try.ntmps117
    go_wp2
    go_ret
    exact ⟨by rw [HF.out]; rfl, Below.refl _ _⟩
  have HC : Hid ((decide (cs.length ≤ 3) && cutsRise cs) = cutsRise cs) := by rw [decide_eq_true (by omega)]; rfl
  go_enter Try.func117, Try.ntmps117
  go_wp2_with fail
  refine cA.mono ?_
  clear cA
  rintro e w1 ⟨rfl, rfl⟩
  go_wp2
  go_ret
  exact ⟨by rw [HC.out]; rfl, Below.refl _ _⟩
end Go.Proofs.Ytobimpgapfecoaa
/- A list of texts that a function is handed; whether it holds a text. -/
namespace Go.Proofs.Ytobimpgapfecoaa
open Go.RowKit
set_option maxRecDepth 100000
set_option maxHeartbeats 400000 in
theorem index_any (v : Value) (ss : List ByteArray) (t : ByteArray) (w : World) (h : RowS w v ss) (hn : ss.length ≤ 1099511627776) :
    Calls Try.prog 118 #[v, .string t] w fun e w' => ∃ i : Int, e = .returned (.int .i64 i) ∧ (decide (0 ≤ i) = hasT ss t) ∧ Below w.heap.size w w' := by
  obtain ⟨oa, cap, rfl, hc, hr⟩ := h
  have HR : Hid (0 < ss.length → ∃ g o, oa = some ⟨g, o, none⟩ ∧ g < w.heap.size ∧ ∀ j, j < ss.length → w.cell? ⟨g, o + j, none⟩ = some (.string (tx ss j))) := hr
  clear hr
  go_enter Try.func118, Try.ntmps118
  go_wp2
  go_loopw [8] (fun i wr => ∃ k : Nat, i = .int .i64 k ∧ k ≤ ss.length ∧ (∀ j, j < k → t ≠ tx ss j) ∧ Below w.heap.size w wr) (fun i _ => ss.length - (intOf i).toNat)
  case atStart => exact ⟨0, rfl, by omega, by omega, Below.refl _ _⟩
  case round =>
    obtain ⟨k, rfl, hk, hne, hb⟩ := hrel
    have HN : Hid (∀ j, j < k → t ≠ tx ss j) := hne
    clear hne
    by_cases hlt : k < ss.length
    · obtain ⟨g, o, rfl, hg, hj⟩ := HR.out (by omega)
      have hcell : wr.cell? ⟨g, o + k, none⟩ = some (.string (tx ss k)) := (hb.cell (p := ⟨g, o + k, none⟩) hg).trans (hj k hlt)
      clear hj
      by_cases he : t = tx ss k
      · have HM : Hid (hasT ss t = true) := hasT_yes hlt he
        have hq : (t.toList == (tx ss k).toList) = true := by rw [← he]; simp
        generalize tx ss k = u at hcell hq he
        clear he
        go_wp2
        go_ret
        exact ⟨_, rfl, by rw [HM.out]; simp, hb⟩
      · have hq : (t.toList == (tx ss k).toList) = false := by
          rw [beq_eq_false_iff_ne]; exact fun h => he (bytes_eq_iff.1 h)
        have HE : Hid (t ≠ tx ss k) := he
        clear he
        generalize hu : tx ss k = u at hcell hq
        clear hu
        go_wp2
        go_roundw
        case rel =>
          refine ⟨k + 1, by go_num, by omega, ?_, hb⟩
          intro j hj
          by_cases e : j = k
          · subst e; exact HE.out
          · exact HN.out j (by omega)
        case measure => simp [intOf]; omega
    · have HM : Hid (hasT ss t = false) := hasT_no fun j hj => HN.out j (by omega)
      go_wp2
      go_ret
      exact ⟨_, rfl, by rw [HM.out]; simp, hb⟩

theorem contains_any (v : Value) (ss : List ByteArray) (t : ByteArray) (w : World) (h : RowS w v ss) (hn : ss.length ≤ 1099511627776) :
    Calls Try.prog 99 #[v, .string t] w fun e w' => e = .returned (.bool (hasT ss t)) ∧ Below w.heap.size w w' := by
  have c := index_any v ss t w h hn
  generalize hasT ss t = G at c
  clear h hn
  go_enter Try.func99, Try.ntmps99
  go_wp2_with fail
  refine c.mono ?_
  rintro e w1 ⟨i, rfl, hi, hb⟩
  clear c
  subst hi
  go_wp2
  go_ret
  exact ⟨rfl, hb⟩
end Go.Proofs.Ytobimpgapfecoaa
