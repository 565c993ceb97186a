/- WordOk: the program's answer and the specification's, for every text. -/
import Derived.Test.YtlpjigpnpafkiaaLi
import Derived.Test.YtlpjigpnpafkiaaBg
namespace Go.Proofs.Ytlpjigpnpafkiaa
open Go.RowKit
set_option maxRecDepth 100000

def lowB (c : UInt8) : Bool := decide (97 ≤ c.toNat) && decide (c.toNat ≤ 122)
/-- A word: 1 to 8 bytes from a to z. -/
def wordOk (s : ByteArray) : Bool := decide (1 ≤ s.size ∧ s.size ≤ 8) && s.data.toList.all lowB

theorem word_yes {s : ByteArray} (h : 1 ≤ s.size ∧ s.size ≤ 8) (ha : ∀ j (hj : j < s.size), lowB s[j] = true) : wordOk s = true := by
  unfold wordOk
  rw [Bool.and_eq_true]
  refine ⟨by simpa using h, ?_⟩
  rw [List.all_eq_true]
  intro c hc
  obtain ⟨j, hj, rfl⟩ := List.mem_iff_getElem.1 hc
  exact ha j (by simpa using hj)
theorem word_no {s : ByteArray} (j : Nat) (hj : j < s.size) (h : lowB s[j] = false) : wordOk s = false := by
  unfold wordOk
  rw [Bool.and_eq_false_iff]
  refine .inr ?_
  cases e : s.data.toList.all lowB with
  | false => rfl
  | true =>
    rw [List.all_eq_true] at e
    have := e s[j] (by
      have h2 : j < s.data.toList.length := by simpa using hj
      exact (List.getElem_mem h2 : s.data.toList[j] ∈ s.data.toList))
    rw [h] at this; cases this
theorem word_len {s : ByteArray} (h : ¬ (1 ≤ s.size ∧ s.size ≤ 8)) : wordOk s = false := by
  unfold wordOk
  rw [decide_eq_false h]; rfl
theorem word_size {s : ByteArray} (h : wordOk s = true) : 1 ≤ s.size ∧ s.size ≤ 8 := by
  unfold wordOk at h
  rw [Bool.and_eq_true] at h
  simpa using h.1
theorem low_no1 {c : UInt8} (h : (c.toNat : Int) < 97) : lowB c = false := by unfold lowB; simp; omega
theorem low_no2 {c : UInt8} (h : ¬ (c.toNat : Int) ≤ 122) : lowB c = false := by unfold lowB; simp; omega
theorem low_yes {c : UInt8} (h : ¬ (c.toNat : Int) < 97) (k : (c.toNat : Int) ≤ 122) : lowB c = true := by unfold lowB; simp; omega

set_option maxHeartbeats 400000 in
theorem specWord_any (s : ByteArray) (w : World) (hs : s.size ≤ 9223372036854775807) :
    Calls Try.prog 7 #[.string s] w fun e w' => e = .returned (.bool (wordOk s)) ∧ Below w.heap.size w w' := by
  by_cases hl : 1 ≤ s.size ∧ s.size ≤ 8
  · have hd : decide ((1 : Int) ≤ (s.size : Int) ∧ (s.size : Int) ≤ 8) = true := by simp; omega
    have HL : Hid (1 ≤ s.size ∧ s.size ≤ 8) := hl
    clear hl
    go_enter Try.func7, Try.ntmps7
    go_wp2_with fail
    refine (in_any _ _ _ _).mono ?_
    rintro e w1 ⟨rfl, rfl⟩
    rw [hd]
    clear hd
    go_wp2
    go_loopw [3] (fun i wr => ∃ k : Nat, i = .int .i64 k ∧ k ≤ s.size ∧ (∀ j (hj : j < s.size), j < k → lowB s[j] = true) ∧ wr = w1) (fun i _ => s.size - (intOf i).toNat)
    case atStart => exact ⟨0, rfl, by omega, by omega, rfl⟩
    case round =>
      obtain ⟨k, rfl, hk, hal, rfl⟩ := hrel
      have HA : Hid (∀ j (hj : j < s.size), j < k → lowB s[j] = true) := hal
      clear hal
      by_cases hlt : k < s.size
      · by_cases h1 : (s[k].toNat : Int) < 97
        · have HF : Hid (wordOk s = false) := word_no k hlt (low_no1 h1)
          go_wp2
          go_ret
          exact ⟨by rw [HF.out]; rfl, Below.refl _ _⟩
        · by_cases h2 : (s[k].toNat : Int) ≤ 122
          · have HF : Hid (lowB s[k] = true) := low_yes h1 h2
            go_wp2
            go_roundw
            case rel =>
              refine ⟨k + 1, by go_num, by omega, ?_, by first | rfl | trivial⟩
              intro j hj hjk
              by_cases e : j = k
              · subst e; exact HF.out
              · exact HA.out j hj (by omega)
            case measure => simp [intOf]; omega
          · have HF : Hid (wordOk s = false) := word_no k hlt (low_no2 h2)
            go_wp2
            go_ret
            exact ⟨by rw [HF.out]; rfl, Below.refl _ _⟩
      · have HF : Hid (wordOk s = true) := word_yes HL.out (fun j hj => HA.out j hj (by omega))
        go_wp2
        go_ret
        exact ⟨by rw [HF.out]; rfl, Below.refl _ _⟩
  · have hd : decide ((1 : Int) ≤ (s.size : Int) ∧ (s.size : Int) ≤ 8) = false := by simp; omega
    have HF : Hid (wordOk s = false) := word_len hl
    clear hl
    go_enter Try.func7, Try.ntmps7
    go_wp2_with fail
    refine (in_any _ _ _ _).mono ?_
    rintro e w1 ⟨rfl, rfl⟩
    rw [hd]
    clear hd
    go_wp2
    go_ret
    exact ⟨by rw [HF.out]; rfl, Below.refl _ _⟩

theorem below_iter (w : World) (s : ByteArray) (p : Nat) : Below w.heap.size w (w.iter s p) := (Below.refl _ _).alloc (Nat.le_refl _) _

set_option maxHeartbeats 400000 in
theorem implWord_any (s : ByteArray) (w : World) (hs : s.size ≤ 9223372036854775807) :
    Calls Try.prog 8 #[.string s] w fun e w' => e = .returned (.bool (wordOk s)) ∧ Below w.heap.size w w' := by
  by_cases h1 : 1 ≤ s.size
  · by_cases h8 : s.size ≤ 8
    · have HL : Hid (1 ≤ s.size ∧ s.size ≤ 8) := ⟨h1, h8⟩
      go_enter Try.func8, Try.ntmps8
      go_wp2
      go_loopw [] (fun wr => ∃ k : Nat, k ≤ s.size ∧ (∀ j (hj : j < s.size), j < k → lowB s[j] = true) ∧ wr = w.iter s k) (fun wr => s.size - wr.iterPos w.heap.size)
      case atStart => exact ⟨0, by omega, by omega, rfl⟩
      case round =>
        obtain ⟨k, hk, hal, rfl⟩ := hrel
        have HA : Hid (∀ j (hj : j < s.size), j < k → lowB s[j] = true) := hal
        clear hal
        by_cases hlt : k < s.size
        · by_cases ha : s[k].toNat < 128
          · have hnx : ∀ ty, (Instr.next (.pointer (some ⟨w.heap.size, 0, none⟩)) true ty).run Try.prog (w.iter s k) = _ := fun ty => run_next_ascii w s k ty hlt ha
            by_cases c1 : (s[k].toNat : Int) < 97
            · have HF : Hid (wordOk s = false) := word_no k hlt (low_no1 c1)
              go_wp2
              go_ret
              exact ⟨by rw [HF.out]; rfl, below_iter _ _ _⟩
            · by_cases c2 : (s[k].toNat : Int) ≤ 122
              · have HF : Hid (lowB s[k] = true) := low_yes c1 c2
                go_wp2
                go_roundw
                case rel =>
                  refine ⟨k + 1, by omega, ?_, rfl⟩
                  intro j hj hjk
                  by_cases e : j = k
                  · subst e; exact HF.out
                  · exact HA.out j hj (by omega)
                case measure => simp; omega
              · have HF : Hid (wordOk s = false) := word_no k hlt (low_no2 c2)
                go_wp2
                go_ret
                exact ⟨by rw [HF.out]; rfl, below_iter _ _ _⟩
          · have HF : Hid (wordOk s = false) := word_no k hlt (low_no2 (by omega))
            have hnx : ∀ ty, (Instr.next (.pointer (some ⟨w.heap.size, 0, none⟩)) true ty).run Try.prog (w.iter s k) = _ := fun ty => run_next_any w s k ty hlt
            have hd := (decode_high s k hlt (by omega)).1
            generalize (Utf8.decode s k).1 = r at hnx hd
            generalize k + (Utf8.decode s k).2 = k2 at hnx
            have g1 : ¬ (r : Int) < 97 := by omega
            have g2 : ¬ (r : Int) ≤ 122 := by omega
            go_wp2
            go_ret
            exact ⟨by rw [HF.out]; rfl, below_iter _ _ _⟩
        · have HF : Hid (wordOk s = true) := word_yes HL.out (fun j hj => HA.out j hj (by omega))
          have hnx : ∀ ty, (Instr.next (.pointer (some ⟨w.heap.size, 0, none⟩)) true ty).run Try.prog (w.iter s k) = _ := fun ty => run_next_end w s k ty hlt
          go_wp2
          go_ret
          exact ⟨by rw [HF.out]; rfl, below_iter _ _ _⟩
    · have HF : Hid (wordOk s = false) := word_len (by omega)
      go_enter Try.func8, Try.ntmps8
      go_wp2
      go_ret
      exact ⟨by rw [HF.out]; rfl, Below.refl _ _⟩
  · have HF : Hid (wordOk s = false) := word_len (by omega)
    go_enter Try.func8, Try.ntmps8
    go_wp2
    go_ret
    exact ⟨by rw [HF.out]; rfl, Below.refl _ _⟩
end Go.Proofs.Ytlpjigpnpafkiaa
