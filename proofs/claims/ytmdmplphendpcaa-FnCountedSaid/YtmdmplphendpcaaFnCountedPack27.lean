/- Texts of this claim, put together: part 27. -/
import Derived.Test.YtmdmplphendpcaaFnCountedPack1
import Derived.Test.YtmdmplphendpcaaFnCountedPack7
import Derived.Test.YtmdmplphendpcaaFnCountedPack3
import Derived.Test.YtmdmplphendpcaaFnCountedPack2
/- A list of texts that a function is handed; whether it holds a text. -/
namespace Go.Proofs.Ytmdmplphendpcaa
open Go.RowKit
set_option maxRecDepth 100000
set_option maxHeartbeats 400000 in
theorem index_any (v : Value) (ss : List ByteArray) (t : ByteArray) (w : World) (h : RowS w v ss) (hn : ss.length ≤ 1099511627776) :
    Calls Try.prog 107 #[v, .string t] w fun e w' => ∃ i : Int, e = .returned (.int .i64 i) ∧ (decide (0 ≤ i) = hasT ss t) ∧ Below w.heap.size w w' := by
  obtain ⟨oa, cap, rfl, hc, hr⟩ := h
  have HR : Hid (0 < ss.length → ∃ g o, oa = some ⟨g, o, none⟩ ∧ g < w.heap.size ∧ ∀ j, j < ss.length → w.cell? ⟨g, o + j, none⟩ = some (.string (tx ss j))) := hr
  clear hr
  go_enter Try.func107, Try.ntmps107
  go_wp2
  go_loopw [8] (fun i wr => ∃ k : Nat, i = .int .i64 k ∧ k ≤ ss.length ∧ (∀ j, j < k → t ≠ tx ss j) ∧ Below w.heap.size w wr) (fun i _ => ss.length - (intOf i).toNat)
  case atStart => exact ⟨0, rfl, by omega, by omega, Below.refl _ _⟩
  case round =>
    obtain ⟨k, rfl, hk, hne, hb⟩ := hrel
    have HN : Hid (∀ j, j < k → t ≠ tx ss j) := hne
    clear hne
    by_cases hlt : k < ss.length
    · obtain ⟨g, o, rfl, hg, hj⟩ := HR.out (by omega)
      have hcell : wr.cell? ⟨g, o + k, none⟩ = some (.string (tx ss k)) := (hb.cell (p := ⟨g, o + k, none⟩) hg).trans (hj k hlt)
      clear hj
      by_cases he : t = tx ss k
      · have HM : Hid (hasT ss t = true) := hasT_yes hlt he
        have hq : (t.toList == (tx ss k).toList) = true := by rw [← he]; simp
        generalize tx ss k = u at hcell hq he
        clear he
        go_wp2
        go_ret
        exact ⟨_, rfl, by rw [HM.out]; simp, hb⟩
      · have hq : (t.toList == (tx ss k).toList) = false := by
          rw [beq_eq_false_iff_ne]; exact fun h => he (bytes_eq_iff.1 h)
        have HE : Hid (t ≠ tx ss k) := he
        clear he
        generalize hu : tx ss k = u at hcell hq
        clear hu
        go_wp2
        go_roundw
        case rel =>
          refine ⟨k + 1, by go_num, by omega, ?_, hb⟩
          intro j hj
          by_cases e : j = k
          · subst e; exact HE.out
          · exact HN.out j (by omega)
        case measure => simp [intOf]; omega
    · have HM : Hid (hasT ss t = false) := hasT_no fun j hj => HN.out j (by omega)
      go_wp2
      go_ret
      exact ⟨_, rfl, by rw [HM.out]; simp, hb⟩

theorem contains_any (v : Value) (ss : List ByteArray) (t : ByteArray) (w : World) (h : RowS w v ss) (hn : ss.length ≤ 1099511627776) :
    Calls Try.prog 90 #[v, .string t] w fun e w' => e = .returned (.bool (hasT ss t)) ∧ Below w.heap.size w w' := by
  have c := index_any v ss t w h hn
  generalize hasT ss t = G at c
  clear h hn
  go_enter Try.func90, Try.ntmps90
  go_wp2_with fail
  refine c.mono ?_
  rintro e w1 ⟨i, rfl, hi, hb⟩
  clear c
  subst hi
  go_wp2
  go_ret
  exact ⟨rfl, hb⟩
end Go.Proofs.Ytmdmplphendpcaa
/- The place of a word among those that may be chosen, by the program. -/
namespace Go.Proofs.Ytmdmplphendpcaa
open Go.RowKit
set_option maxRecDepth 100000
set_option linter.unusedSimpArgs false
set_option maxHeartbeats 400000 in
theorem index_place (v : Value) (ss : List ByteArray) (t : ByteArray) (w : World) (h : RowS w v ss) (hn : ss.length ≤ 1099511627776) :
    Calls Try.prog 107 #[v, .string t] w fun e w' => e = .returned (.int .i64 (placeT ss t)) ∧ Below w.heap.size w w' := by
  obtain ⟨oa, cap, rfl, hc, hr⟩ := h
  have HR : Hid (0 < ss.length → ∃ g o, oa = some ⟨g, o, none⟩ ∧ g < w.heap.size ∧ ∀ j, j < ss.length → w.cell? ⟨g, o + j, none⟩ = some (.string (tx ss j))) := hr
  clear hr
  go_enter Try.func107, Try.ntmps107
  go_wp2
  go_loopw [8] (fun i wr => ∃ k : Nat, i = .int .i64 k ∧ k ≤ ss.length ∧ Hid (placeT ss t = placeFrom ss t k (ss.length - k)) ∧ Below w.heap.size w wr) (fun i _ => ss.length - (intOf i).toNat)
  case atStart => exact ⟨0, rfl, by omega, rfl, Below.refl _ _⟩
  case round =>
    obtain ⟨k, rfl, hk, HP, hb⟩ := hrel
    by_cases hlt : k < ss.length
    · obtain ⟨g, o, rfl, hg, hj⟩ := HR.out (by omega)
      have hcell : wr.cell? ⟨g, o + k, none⟩ = some (.string (tx ss k)) := (hb.cell (p := ⟨g, o + k, none⟩) hg).trans (hj k hlt)
      clear hj
      by_cases he : tx ss k = t
      · have HM : Hid (placeT ss t = (k : Int)) := by rw [HP.out, placeFrom_step hlt, if_pos he]; rfl
        have hq : (t.toList == (tx ss k).toList) = true := by rw [← he]; simp
        generalize tx ss k = u at hcell hq he
        clear he
        go_wp2
        go_ret
        exact ⟨by rw [HM.out]; rfl, hb⟩
      · have hq : (t.toList == (tx ss k).toList) = false := by
          rw [beq_eq_false_iff_ne]; exact fun h => he (bytes_eq_iff.1 h).symm
        have HM : Hid (placeT ss t = placeFrom ss t (k + 1) (ss.length - (k + 1))) := by rw [HP.out, placeFrom_step hlt, if_neg he]; rfl
        clear he
        generalize hu : tx ss k = u at hcell hq
        clear hu
        go_wp2
        go_roundw
        case rel => exact ⟨k + 1, by go_num, by omega, HM, hb⟩
        case measure => simp [intOf]; omega
    · have HM : Hid (placeT ss t = -1) := by rw [HP.out, show ss.length - k = 0 by omega]; rfl
      go_wp2
      go_ret
      exact ⟨by rw [HM.out]; rfl, hb⟩
theorem placeOk_any (p m : Int) (w : World) :
    Calls Try.prog 87 #[.int .i64 p, .int .i64 m] w fun e w' => e = .returned (.bool (decide (-1 ≤ p ∧ p ≤ m - 1))) ∧ w' = w := by
  by_cases h1 : -1 ≤ p
  · by_cases h2 : p < m
    · rw [decide_eq_true (show -1 ≤ p ∧ p ≤ m - 1 by omega)]
      go_enter Try.func87, Try.ntmps87
      go_wp2
      go_ret
      simp [h1, h2]
    · rw [decide_eq_false (show ¬ (-1 ≤ p ∧ p ≤ m - 1) by omega)]
      go_enter Try.func87, Try.ntmps87
      go_wp2
      go_ret
      simp [h1, h2]
  · rw [decide_eq_false (show ¬ (-1 ≤ p ∧ p ≤ m - 1) by omega)]
    go_enter Try.func87, Try.ntmps87
    go_wp2
    go_ret
    simp [h1]
end Go.Proofs.Ytmdmplphendpcaa
/- Whether an attribute is nominal, by the program. -/
namespace Go.Proofs.Ytmdmplphendpcaa
open Go.RowKit
set_option maxRecDepth 100000

theorem nominal_any (v : Value) (a : AttrD) (w : World) (h : AttrAt w v a) : Calls Try.prog 97 #[v] w fun e w' => e = .returned (.bool (decide (0 < a.vals.length))) ∧ Below w.heap.size w w' := by
  obtain ⟨vc, vv, rfl, hc, hv⟩ := h
  obtain ⟨ov, cv, rfl, hvc, hvr⟩ := hv
  clear hvr hc
  go_enter Try.func97, Try.ntmps97
  go_wp2
  go_ret
  exact ⟨rfl, (Below.refl _ _).alloc (Nat.le_refl _) _⟩
end Go.Proofs.Ytmdmplphendpcaa
/- Cuts: whether they are right, by the program. -/
namespace Go.Proofs.Ytmdmplphendpcaa
open Go.RowKit
set_option maxRecDepth 100000
set_option maxHeartbeats 400000 in
theorem implCuts_any (v : Value) (cs : List Int) (w : World) (h : RowI w v cs) (hn : cs.length ≤ 1099511627776) (h0 : cs.length ≠ 0) :
    Calls Try.prog 106 #[v] w fun e w' => e = .returned (.bool (decide (cs.length ≤ 3) && cutsRise cs)) ∧ Below w.heap.size w w' := by
  obtain ⟨oa, cap, rfl, hc, hr⟩ := h
  obtain ⟨g, o, rfl, hg, hj⟩ := hr (by omega)
  have HJ : Hid (∀ j, j < cs.length → w.cell? ⟨g, o + j, none⟩ = some (.int .i64 (cs.getD j 0))) := hj
  clear hj hr
  have l1 : ¬ (cs.length : Int) < 1 := by omega
  by_cases h3 : (cs.length : Int) ≤ 3
  rotate_left
  · have HF : Hid ((decide (cs.length ≤ 3) && cutsRise cs) = false) := by rw [decide_eq_false (by omega)]; rfl
    go_enter Try.func106, Try.ntmps106
    go_wp2
    go_ret
    exact ⟨by rw [HF.out]; rfl, Below.refl _ _⟩
  have HC : Hid ((decide (cs.length ≤ 3) && cutsRise cs) = cutsRise cs) := by rw [decide_eq_true (by omega)]; rfl
  go_enter Try.func106, Try.ntmps106
  go_wp2
  go_loopw [3, 16] (fun l i wr => ∃ k : Nat, i = .int .i64 k ∧ l = .int .i64 (leastAt cs k) ∧ k ≤ cs.length ∧ (∀ j, j < k → cutAt cs j = true) ∧ wr = w) (fun _ i _ => cs.length - (intOf i).toNat)
  case atStart => exact ⟨0, rfl, rfl, by omega, by omega, rfl⟩
  case round =>
    obtain ⟨k, rfl, rfl, hk, hal, rfl⟩ := hrel
    have HA : Hid (∀ j, j < k → cutAt cs j = true) := hal
    clear hal
    by_cases hlt : k < cs.length
    · have hcell := HJ.out k hlt
      have HL : Hid (∀ c, cs.getD k 0 = c → (leastAt cs k ≤ c ∧ c ≤ 9998 → cutAt cs k = true) ∧ (¬ (leastAt cs k ≤ c ∧ c ≤ 9998) → cutAt cs k = false)) := by
        intro c hc
        unfold leastAt cutAt
        rw [hc]
        by_cases hk0 : k = 0
        · subst hk0; simp
        · have hp := HA.out (k - 1) (by omega)
          unfold cutAt at hp
          simp at hp
          simp [hk0]
          constructor
          · intro a b; omega
          · intro a b c; omega
      generalize hcc : cs.getD k 0 = c at hcell
      have HK := HL.out c hcc
      have HKK : Hid ((leastAt cs k ≤ c ∧ c ≤ 9998 → cutAt cs k = true) ∧ (¬ (leastAt cs k ≤ c ∧ c ≤ 9998) → cutAt cs k = false)) := HK
      have HN : Hid (c + 1 = leastAt cs (k + 1)) := by unfold leastAt; rw [if_neg (by omega), Nat.add_sub_cancel, hcc]; rfl
      have hlo : -9999 ≤ leastAt cs k := by
        unfold leastAt
        by_cases hk0 : k = 0
        · rw [if_pos hk0]; omega
        · rw [if_neg hk0]
          have hp := cutAt_in (HA.out (k - 1) (by omega))
          omega
      clear HL HK hcc
      generalize leastAt cs k = L at HKK hlo
      by_cases c1 : c < L
      · have HF : Hid (cutsRise cs = false) := rise_no k hlt (HKK.out.2 (by omega))
        go_wp2
        go_ret
        exact ⟨by rw [HC.out, HF.out]; rfl, Below.refl _ _⟩
      · by_cases c2 : c ≤ 9998
        · have HF : Hid (cutAt cs k = true) := HKK.out.1 (by omega)
          go_wp2
          go_roundw
          case rel =>
            refine ⟨k + 1, by go_num, by rw [← HN.out], by omega, ?_, by first | rfl | trivial⟩
            intro j hj
            by_cases e : j = k
            · subst e; exact HF.out
            · exact HA.out j (by omega)
          case measure => simp [intOf]; omega
        · have HF : Hid (cutsRise cs = false) := rise_no k hlt (HKK.out.2 (by omega))
          go_wp2
          go_ret
          exact ⟨by rw [HC.out, HF.out]; rfl, Below.refl _ _⟩
    · have HF : Hid (cutsRise cs = true) := rise_yes fun j hj => HA.out j (by omega)
      go_wp2
      go_ret
      exact ⟨by rw [HC.out, HF.out]; rfl, Below.refl _ _⟩
end Go.Proofs.Ytmdmplphendpcaa
