/- Texts of this claim, put together: part 9. -/
import Derived.Test.YtfekcckckmhioaaDoorExTextPack1
import Derived.Test.YtfekcckckmhioaaDoorExTextPack8
import Derived.Test.YtfekcckckmhioaaDoorExTextPack3
import Derived.Test.YtfekcckckmhioaaDoorRows
import Derived.WalkKit
import Derived.ProofKit
import Derived.OpenShut
/- A list of texts that a function is handed; whether it holds a text. -/
namespace Go.Proofs.YtfekcckckmhioaaDoor
open Go.RowKit
set_option maxRecDepth 100000
set_option maxHeartbeats 400000 in
theorem index_any (v : Value) (ss : List ByteArray) (t : ByteArray) (w : World) (h : RowS w v ss) (hn : ss.length ≤ 1099511627776) :
    Calls Tryd.prog 58 #[v, .string t] w fun e w' => ∃ i : Int, e = .returned (.int .i64 i) ∧ (decide (0 ≤ i) = hasT ss t) ∧ Below w.heap.size w w' := by
  obtain ⟨oa, cap, rfl, hc, hr⟩ := h
  have HR : Hid (0 < ss.length → ∃ g o, oa = some ⟨g, o, none⟩ ∧ g < w.heap.size ∧ ∀ j, j < ss.length → w.cell? ⟨g, o + j, none⟩ = some (.string (tx ss j))) := hr
  clear hr
  go_enter Tryd.func58, Tryd.ntmps58
  go_wp2
  go_loopw [8] (fun i wr => ∃ k : Nat, i = .int .i64 k ∧ k ≤ ss.length ∧ (∀ j, j < k → t ≠ tx ss j) ∧ Below w.heap.size w wr) (fun i _ => ss.length - (intOf i).toNat)
  case atStart => exact ⟨0, rfl, by omega, by omega, Below.refl _ _⟩
  case round =>
    obtain ⟨k, rfl, hk, hne, hb⟩ := hrel
    have HN : Hid (∀ j, j < k → t ≠ tx ss j) := hne
    clear hne
    by_cases hlt : k < ss.length
    · obtain ⟨g, o, rfl, hg, hj⟩ := HR.out (by omega)
      have hcell : wr.cell? ⟨g, o + k, none⟩ = some (.string (tx ss k)) := (hb.cell (p := ⟨g, o + k, none⟩) hg).trans (hj k hlt)
      clear hj
      by_cases he : t = tx ss k
      · have HM : Hid (hasT ss t = true) := hasT_yes hlt he
        have hq : (t.toList == (tx ss k).toList) = true := by rw [← he]; simp
        generalize tx ss k = u at hcell hq he
        clear he
        go_wp2
        go_ret
        exact ⟨_, rfl, by rw [HM.out]; simp, hb⟩
      · have hq : (t.toList == (tx ss k).toList) = false := by
          rw [beq_eq_false_iff_ne]; exact fun h => he (bytes_eq_iff.1 h)
        have HE : Hid (t ≠ tx ss k) := he
        clear he
        generalize hu : tx ss k = u at hcell hq
        clear hu
        go_wp2
        go_roundw
        case rel =>
          refine ⟨k + 1, by go_num, by omega, ?_, hb⟩
          intro j hj
          by_cases e : j = k
          · subst e; exact HE.out
          · exact HN.out j (by omega)
        case measure => simp [intOf]; omega
    · have HM : Hid (hasT ss t = false) := hasT_no fun j hj => HN.out j (by omega)
      go_wp2
      go_ret
      exact ⟨_, rfl, by rw [HM.out]; simp, hb⟩

theorem contains_any (v : Value) (ss : List ByteArray) (t : ByteArray) (w : World) (h : RowS w v ss) (hn : ss.length ≤ 1099511627776) :
    Calls Tryd.prog 53 #[v, .string t] w fun e w' => e = .returned (.bool (hasT ss t)) ∧ Below w.heap.size w w' := by
  have c := index_any v ss t w h hn
  generalize hasT ss t = G at c
  clear h hn
  go_enter Tryd.func53, Tryd.ntmps53
  go_wp2_with fail
  refine c.mono ?_
  rintro e w1 ⟨i, rfl, hi, hb⟩
  clear c
  subst hi
  go_wp2
  go_ret
  exact ⟨rfl, hb⟩
end Go.Proofs.YtfekcckckmhioaaDoor
/- The place of a word among those that may be chosen, by the program. -/
namespace Go.Proofs.YtfekcckckmhioaaDoor
open Go.RowKit
set_option maxRecDepth 100000
set_option linter.unusedSimpArgs false
set_option maxHeartbeats 400000 in
theorem index_place (v : Value) (ss : List ByteArray) (t : ByteArray) (w : World) (h : RowS w v ss) (hn : ss.length ≤ 1099511627776) :
    Calls Tryd.prog 58 #[v, .string t] w fun e w' => e = .returned (.int .i64 (placeT ss t)) ∧ Below w.heap.size w w' := by
  obtain ⟨oa, cap, rfl, hc, hr⟩ := h
  have HR : Hid (0 < ss.length → ∃ g o, oa = some ⟨g, o, none⟩ ∧ g < w.heap.size ∧ ∀ j, j < ss.length → w.cell? ⟨g, o + j, none⟩ = some (.string (tx ss j))) := hr
  clear hr
  go_enter Tryd.func58, Tryd.ntmps58
  go_wp2
  go_loopw [8] (fun i wr => ∃ k : Nat, i = .int .i64 k ∧ k ≤ ss.length ∧ Hid (placeT ss t = placeFrom ss t k (ss.length - k)) ∧ Below w.heap.size w wr) (fun i _ => ss.length - (intOf i).toNat)
  case atStart => exact ⟨0, rfl, by omega, rfl, Below.refl _ _⟩
  case round =>
    obtain ⟨k, rfl, hk, HP, hb⟩ := hrel
    by_cases hlt : k < ss.length
    · obtain ⟨g, o, rfl, hg, hj⟩ := HR.out (by omega)
      have hcell : wr.cell? ⟨g, o + k, none⟩ = some (.string (tx ss k)) := (hb.cell (p := ⟨g, o + k, none⟩) hg).trans (hj k hlt)
      clear hj
      by_cases he : tx ss k = t
      · have HM : Hid (placeT ss t = (k : Int)) := by rw [HP.out, placeFrom_step hlt, if_pos he]; rfl
        have hq : (t.toList == (tx ss k).toList) = true := by rw [← he]; simp
        generalize tx ss k = u at hcell hq he
        clear he
        go_wp2
        go_ret
        exact ⟨by rw [HM.out]; rfl, hb⟩
      · have hq : (t.toList == (tx ss k).toList) = false := by
          rw [beq_eq_false_iff_ne]; exact fun h => he (bytes_eq_iff.1 h).symm
        have HM : Hid (placeT ss t = placeFrom ss t (k + 1) (ss.length - (k + 1))) := by rw [HP.out, placeFrom_step hlt, if_neg he]; rfl
        clear he
        generalize hu : tx ss k = u at hcell hq
        clear hu
        go_wp2
        go_roundw
        case rel => exact ⟨k + 1, by go_num, by omega, HM, hb⟩
        case measure => simp [intOf]; omega
    · have HM : Hid (placeT ss t = -1) := by rw [HP.out, show ss.length - k = 0 by omega]; rfl
      go_wp2
      go_ret
      exact ⟨by rw [HM.out]; rfl, hb⟩
theorem placeOk_any (p m : Int) (w : World) :
    Calls Tryd.prog 27 #[.int .i64 p, .int .i64 m] w fun e w' => e = .returned (.bool (decide (-1 ≤ p ∧ p ≤ m - 1))) ∧ w' = w := by
  by_cases h1 : -1 ≤ p
  · by_cases h2 : p < m
    · rw [decide_eq_true (show -1 ≤ p ∧ p ≤ m - 1 by omega)]
      go_enter Tryd.func27, Tryd.ntmps27
      go_wp2
      go_ret
      simp [h1, h2]
    · rw [decide_eq_false (show ¬ (-1 ≤ p ∧ p ≤ m - 1) by omega)]
      go_enter Tryd.func27, Tryd.ntmps27
      go_wp2
      go_ret
      simp [h1, h2]
  · rw [decide_eq_false (show ¬ (-1 ≤ p ∧ p ≤ m - 1) by omega)]
    go_enter Tryd.func27, Tryd.ntmps27
    go_wp2
    go_ret
    simp [h1]
end Go.Proofs.YtfekcckckmhioaaDoor
/- The specification's small helper on bounds. -/
namespace Go.Proofs.YtfekcckckmhioaaDoor
open Go.RowKit
set_option maxRecDepth 100000

theorem in_any (x lo hi : Int) (w : World) : Calls Tryd.prog 21 #[.int .i64 x, .int .i64 lo, .int .i64 hi] w fun e w' => e = .returned (.bool (decide (lo ≤ x ∧ x ≤ hi))) ∧ w' = w := by
  by_cases h0 : lo ≤ x <;> by_cases h1 : x ≤ hi
  all_goals
    go_enter Tryd.func21, Tryd.ntmps21
    go_wp2
    go_ret
    exact ⟨by simp [h0, h1], rfl⟩
end Go.Proofs.YtfekcckckmhioaaDoor
/- WordOk: the program's answer and the specification's, for every text. -/
namespace Go.Proofs.YtfekcckckmhioaaDoor
open Go.RowKit
set_option maxRecDepth 100000
set_option maxHeartbeats 400000 in
theorem specWord_any (s : ByteArray) (w : World) (hs : s.size ≤ 9223372036854775807) :
    Calls Tryd.prog 41 #[.string s] w fun e w' => e = .returned (.bool (wordOk s)) ∧ Below w.heap.size w w' := by
  by_cases hl : 1 ≤ s.size ∧ s.size ≤ 8
  · have hd : decide ((1 : Int) ≤ (s.size : Int) ∧ (s.size : Int) ≤ 8) = true := by simp; omega
    have HL : Hid (1 ≤ s.size ∧ s.size ≤ 8) := hl
    clear hl
    go_enter Tryd.func41, Tryd.ntmps41
    go_wp2_with fail
    refine (in_any _ _ _ _).mono ?_
    rintro e w1 ⟨rfl, rfl⟩
    rw [hd]
    clear hd
    go_wp2
    go_loopw [3] (fun i wr => ∃ k : Nat, i = .int .i64 k ∧ k ≤ s.size ∧ (∀ j (hj : j < s.size), j < k → lowB s[j] = true) ∧ wr = w1) (fun i _ => s.size - (intOf i).toNat)
    case atStart => exact ⟨0, rfl, by omega, by omega, rfl⟩
    case round =>
      obtain ⟨k, rfl, hk, hal, rfl⟩ := hrel
      have HA : Hid (∀ j (hj : j < s.size), j < k → lowB s[j] = true) := hal
      clear hal
      by_cases hlt : k < s.size
      · by_cases h1 : (s[k].toNat : Int) < 97
        · have HF : Hid (wordOk s = false) := word_no k hlt (low_no1 h1)
          go_wp2
          go_ret
          exact ⟨by rw [HF.out]; rfl, Below.refl _ _⟩
        · by_cases h2 : (s[k].toNat : Int) ≤ 122
          · have HF : Hid (lowB s[k] = true) := low_yes h1 h2
            go_wp2
            go_roundw
            case rel =>
              refine ⟨k + 1, by go_num, by omega, ?_, by first | rfl | trivial⟩
              intro j hj hjk
              by_cases e : j = k
              · subst e; exact HF.out
              · exact HA.out j hj (by omega)
            case measure => simp [intOf]; omega
          · have HF : Hid (wordOk s = false) := word_no k hlt (low_no2 h2)
            go_wp2
            go_ret
            exact ⟨by rw [HF.out]; rfl, Below.refl _ _⟩
      · have HF : Hid (wordOk s = true) := word_yes HL.out (fun j hj => HA.out j hj (by omega))
        go_wp2
        go_ret
        exact ⟨by rw [HF.out]; rfl, Below.refl _ _⟩
  · have hd : decide ((1 : Int) ≤ (s.size : Int) ∧ (s.size : Int) ≤ 8) = false := by simp; omega
    have HF : Hid (wordOk s = false) := word_len hl
    clear hl
    go_enter Tryd.func41, Tryd.ntmps41
    go_wp2_with fail
    refine (in_any _ _ _ _).mono ?_
    rintro e w1 ⟨rfl, rfl⟩
    rw [hd]
    clear hd
    go_wp2
    go_ret
    exact ⟨by rw [HF.out]; rfl, Below.refl _ _⟩
end Go.Proofs.YtfekcckckmhioaaDoor
