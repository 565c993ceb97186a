/- Texts of this claim, put together: part 12. -/
import Derived.Test.YtfflodcapcamcabDoorForkTextPack11
import Derived.Test.YtfflodcapcamcabDoorForkTextPack1
import Derived.Test.YtfflodcapcamcabDoorRows
import Derived.WalkKit
import Derived.ProofKit
import Derived.OpenShut
/- Cuts: whether they are right, by the program. -/
namespace Go.Proofs.YtfflodcapcamcabDoor
open Go.RowKit
set_option maxRecDepth 100000
set_option maxHeartbeats 400000 in
theorem implCuts_any (v : Value) (cs : List Int) (w : World) (h : RowI w v cs) (hn : cs.length ≤ 1099511627776) (h0 : cs.length ≠ 0) :
    Calls Tryd.prog 42 #[v] w fun e w' => e = .returned (.bool (decide (cs.length ≤ 3) && cutsRise cs)) ∧ Below w.heap.size w w' := by
  have cA := ascending_any v cs (-9999) 9998 w h hn h0 (by omega) (by omega)
  rw [← cuts_asc] at cA
  obtain ⟨oa, cap, rfl, hc, hr⟩ := h
  clear hr hc
  have l1 : 1 ≤ (cs.length : Int) := by omega
  by_cases h3 : (cs.length : Int) ≤ 3
  rotate_left
  · have HF : Hid ((decide (cs.length ≤ 3) && cutsRise cs) = false) := by rw [decide_eq_false (by omega)]; rfl
    clear cA
    go_enter Tryd.func42, Tryd.ntmps42
    go_wp2
    go_ret
    exact ⟨by rw [HF.out]; rfl, Below.refl _ _⟩
  have HC : Hid ((decide (cs.length ≤ 3) && cutsRise cs) = cutsRise cs) := by rw [decide_eq_true (by omega)]; rfl
  go_enter Tryd.func42, Tryd.ntmps42
  go_wp2_with fail
  refine cA.mono ?_
  clear cA
  rintro e w1 ⟨rfl, rfl⟩
  go_wp2
  go_ret
  exact ⟨by rw [HC.out]; rfl, Below.refl _ _⟩
end Go.Proofs.YtfflodcapcamcabDoor
/- A list of texts that a function is handed; whether it holds a text. -/
namespace Go.Proofs.YtfflodcapcamcabDoor
open Go.RowKit
set_option maxRecDepth 100000
set_option maxHeartbeats 400000 in
theorem index_any (v : Value) (ss : List ByteArray) (t : ByteArray) (w : World) (h : RowS w v ss) (hn : ss.length ≤ 1099511627776) :
    Calls Tryd.prog 43 #[v, .string t] w fun e w' => ∃ i : Int, e = .returned (.int .i64 i) ∧ (decide (0 ≤ i) = hasT ss t) ∧ Below w.heap.size w w' := by
  obtain ⟨oa, cap, rfl, hc, hr⟩ := h
  have HR : Hid (0 < ss.length → ∃ g o, oa = some ⟨g, o, none⟩ ∧ g < w.heap.size ∧ ∀ j, j < ss.length → w.cell? ⟨g, o + j, none⟩ = some (.string (tx ss j))) := hr
  clear hr
  go_enter Tryd.func43, Tryd.ntmps43
  go_wp2
  go_loopw [8] (fun i wr => ∃ k : Nat, i = .int .i64 k ∧ k ≤ ss.length ∧ (∀ j, j < k → t ≠ tx ss j) ∧ Below w.heap.size w wr) (fun i _ => ss.length - (intOf i).toNat)
  case atStart => exact ⟨0, rfl, by omega, by omega, Below.refl _ _⟩
  case round =>
    obtain ⟨k, rfl, hk, hne, hb⟩ := hrel
    have HN : Hid (∀ j, j < k → t ≠ tx ss j) := hne
    clear hne
    by_cases hlt : k < ss.length
    · obtain ⟨g, o, rfl, hg, hj⟩ := HR.out (by omega)
      have hcell : wr.cell? ⟨g, o + k, none⟩ = some (.string (tx ss k)) := (hb.cell (p := ⟨g, o + k, none⟩) hg).trans (hj k hlt)
      clear hj
      by_cases he : t = tx ss k
      · have HM : Hid (hasT ss t = true) := hasT_yes hlt he
        have hq : (t.toList == (tx ss k).toList) = true := by rw [← he]; simp
        generalize tx ss k = u at hcell hq he
        clear he
        go_wp2
        go_ret
        exact ⟨_, rfl, by rw [HM.out]; simp, hb⟩
      · have hq : (t.toList == (tx ss k).toList) = false := by
          rw [beq_eq_false_iff_ne]; exact fun h => he (bytes_eq_iff.1 h)
        have HE : Hid (t ≠ tx ss k) := he
        clear he
        generalize hu : tx ss k = u at hcell hq
        clear hu
        go_wp2
        go_roundw
        case rel =>
          refine ⟨k + 1, by go_num, by omega, ?_, hb⟩
          intro j hj
          by_cases e : j = k
          · subst e; exact HE.out
          · exact HN.out j (by omega)
        case measure => simp [intOf]; omega
    · have HM : Hid (hasT ss t = false) := hasT_no fun j hj => HN.out j (by omega)
      go_wp2
      go_ret
      exact ⟨_, rfl, by rw [HM.out]; simp, hb⟩

theorem contains_any (v : Value) (ss : List ByteArray) (t : ByteArray) (w : World) (h : RowS w v ss) (hn : ss.length ≤ 1099511627776) :
    Calls Tryd.prog 36 #[v, .string t] w fun e w' => e = .returned (.bool (hasT ss t)) ∧ Below w.heap.size w w' := by
  have c := index_any v ss t w h hn
  generalize hasT ss t = G at c
  clear h hn
  go_enter Tryd.func36, Tryd.ntmps36
  go_wp2_with fail
  refine c.mono ?_
  rintro e w1 ⟨i, rfl, hi, hb⟩
  clear c
  subst hi
  go_wp2
  go_ret
  exact ⟨rfl, hb⟩
end Go.Proofs.YtfflodcapcamcabDoor
/- The specification's small helper on bounds. -/
namespace Go.Proofs.YtfflodcapcamcabDoor
open Go.RowKit
set_option maxRecDepth 100000

theorem in_any (x lo hi : Int) (w : World) : Calls Tryd.prog 22 #[.int .i64 x, .int .i64 lo, .int .i64 hi] w fun e w' => e = .returned (.bool (decide (lo ≤ x ∧ x ≤ hi))) ∧ w' = w := by
  by_cases h0 : lo ≤ x <;> by_cases h1 : x ≤ hi
  all_goals
    go_enter Tryd.func22, Tryd.ntmps22
    go_wp2
    go_ret
    exact ⟨by simp [h0, h1], rfl⟩
end Go.Proofs.YtfflodcapcamcabDoor
/- WordOk: the program's answer and the specification's, for every text. -/
namespace Go.Proofs.YtfflodcapcamcabDoor
open Go.RowKit
set_option maxRecDepth 100000
set_option maxHeartbeats 400000 in
theorem specWord_any (s : ByteArray) (w : World) (hs : s.size ≤ 9223372036854775807) :
    Calls Tryd.prog 40 #[.string s] w fun e w' => e = .returned (.bool (wordOk s)) ∧ Below w.heap.size w w' := by
  by_cases hl : 1 ≤ s.size ∧ s.size ≤ 8
  · have hd : decide ((1 : Int) ≤ (s.size : Int) ∧ (s.size : Int) ≤ 8) = true := by simp; omega
    have HL : Hid (1 ≤ s.size ∧ s.size ≤ 8) := hl
    clear hl
    go_enter Tryd.func40, Tryd.ntmps40
    go_wp2_with fail
    refine (in_any _ _ _ _).mono ?_
    rintro e w1 ⟨rfl, rfl⟩
    rw [hd]
    clear hd
    go_wp2
    go_loopw [3] (fun i wr => ∃ k : Nat, i = .int .i64 k ∧ k ≤ s.size ∧ (∀ j (hj : j < s.size), j < k → lowB s[j] = true) ∧ wr = w1) (fun i _ => s.size - (intOf i).toNat)
    case atStart => exact ⟨0, rfl, by omega, by omega, rfl⟩
    case round =>
      obtain ⟨k, rfl, hk, hal, rfl⟩ := hrel
      have HA : Hid (∀ j (hj : j < s.size), j < k → lowB s[j] = true) := hal
      clear hal
      by_cases hlt : k < s.size
      · by_cases h1 : (s[k].toNat : Int) < 97
        · have HF : Hid (wordOk s = false) := word_no k hlt (low_no1 h1)
          go_wp2
          go_ret
          exact ⟨by rw [HF.out]; rfl, Below.refl _ _⟩
        · by_cases h2 : (s[k].toNat : Int) ≤ 122
          · have HF : Hid (lowB s[k] = true) := low_yes h1 h2
            go_wp2
            go_roundw
            case rel =>
              refine ⟨k + 1, by go_num, by omega, ?_, by first | rfl | trivial⟩
              intro j hj hjk
              by_cases e : j = k
              · subst e; exact HF.out
              · exact HA.out j hj (by omega)
            case measure => simp [intOf]; omega
          · have HF : Hid (wordOk s = false) := word_no k hlt (low_no2 h2)
            go_wp2
            go_ret
            exact ⟨by rw [HF.out]; rfl, Below.refl _ _⟩
      · have HF : Hid (wordOk s = true) := word_yes HL.out (fun j hj => HA.out j hj (by omega))
        go_wp2
        go_ret
        exact ⟨by rw [HF.out]; rfl, Below.refl _ _⟩
  · have hd : decide ((1 : Int) ≤ (s.size : Int) ∧ (s.size : Int) ≤ 8) = false := by simp; omega
    have HF : Hid (wordOk s = false) := word_len hl
    clear hl
    go_enter Tryd.func40, Tryd.ntmps40
    go_wp2_with fail
    refine (in_any _ _ _ _).mono ?_
    rintro e w1 ⟨rfl, rfl⟩
    rw [hd]
    clear hd
    go_wp2
    go_ret
    exact ⟨by rw [HF.out]; rfl, Below.refl _ _⟩
end Go.Proofs.YtfflodcapcamcabDoor
