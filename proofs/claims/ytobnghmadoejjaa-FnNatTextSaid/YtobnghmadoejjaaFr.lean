/- Which great number a text is the digits of: plain facts. -/
import Derived.Test.YtobnghmadoejjaaNb
import Derived.Test.YtobnghmadoejjaaTx
namespace Go.Proofs.Ytobnghmadoejjaa

/-- What NatFrom answers. -/
def fromO (l : List UInt8) : Option Nat :=
  match Lib.decFrom 0 l with
  | some v => if v < top ∧ Lib.decDigits v = l then some v else none
  | none => none
theorem from_bad {l : List UInt8} (h : Lib.decFrom 0 l = none) : fromO l = none := by unfold fromO; rw [h]
theorem from_no {l : List UInt8} {v : Nat} (h : Lib.decFrom 0 l = some v) (hd : ¬ Lib.decDigits v = l) : fromO l = none := by unfold fromO; rw [h]; simp [hd]
theorem from_big {l : List UInt8} {v : Nat} (h : Lib.decFrom 0 l = some v) (hd : ¬ v < top) : fromO l = none := by unfold fromO; rw [h]; simp [hd]
theorem from_yes {l : List UInt8} {v : Nat} (h : Lib.decFrom 0 l = some v) (h1 : v < top) (hd : Lib.decDigits v = l) : fromO l = some v := by unfold fromO; rw [h]; simp [hd, h1]
theorem bad_byte (l : List UInt8) (k : Nat) (b : UInt8) (hb : l[k]? = some b) (hd : b.toNat < 48 ∨ 57 < b.toNat) : Lib.decFrom 0 l = none := by
  cases h : Lib.decFrom 0 l with
  | none => rfl
  | some n =>
    obtain ⟨d, hdv⟩ := Lib.digit_of_decFrom l 0 n h k b hb
    obtain ⟨h1, h2, _⟩ := digitVal_inv hdv
    omega
theorem good_byte (b : UInt8) (h1 : 48 ≤ b.toNat) (h2 : b.toNat ≤ 57) : Lib.digitVal b = some (b.toNat - 48) := by rw [Lib.digitVal, if_pos ⟨h1, h2⟩]
/-- Once too great, always too great. -/
theorem from_great (l : List UInt8) (k m : Nat) (h : Lib.decFrom 0 (l.take k) = some m) (hm : ¬ m < top) : fromO l = none := by
  cases hv : Lib.decFrom 0 l with
  | none => exact from_bad hv
  | some v =>
    refine from_big hv ?_
    have e : l = l.take k ++ l.drop k := (List.take_append_drop k l).symm
    rw [e, decFrom_append, h, Option.bind_some] at hv
    have := decFrom_mono _ _ _ hv
    omega
theorem dec_ne (u : Nat) : Lib.decDigits u ≠ [] := by
  rw [Lib.decDigits]; split <;> simp
/-- A nought ahead is a nought alone. -/
theorem dec_zero (u : Nat) : ∀ r, Lib.decDigits u = 48 :: r → r = [] := by
  induction u using Nat.strongRecOn with
  | _ u ih =>
    intro r h
    rw [Lib.decDigits] at h
    by_cases h10 : u < 10
    · rw [dif_pos h10] at h
      injection h with _ h2
      exact h2.symm
    · rw [dif_neg h10] at h
      cases hq : Lib.decDigits (u / 10) with
      | nil => exact absurd hq (dec_ne _)
      | cons c r' =>
        rw [hq, List.cons_append] at h
        injection h with h1 h2
        subst h1
        have := ih (u / 10) (by omega) r' hq
        subst this
        have e := decFrom_digits (u / 10)
        rw [hq] at e
        have e2 : Lib.decFrom 0 [48] = some 0 := by decide
        rw [e2] at e
        injection e with e3
        omega
theorem from_nought (l : List UInt8) (h0 : l[0]? = some 48) (h1 : 1 < l.length) : fromO l = none := by
  cases hv : Lib.decFrom 0 l with
  | none => exact from_bad hv
  | some v =>
    refine from_no hv fun hd => ?_
    cases l with
    | nil => simp at h1
    | cons c r =>
      simp at h0
      subst h0
      have := dec_zero v r hd
      subst this
      simp at h1
theorem byte_back (c : UInt8) (h1 : 48 ≤ c.toNat) (h2 : c.toNat ≤ 57) : UInt8.ofNat (48 + (c.toNat - 48)) = c := by
  rw [show 48 + (c.toNat - 48) = c.toNat by omega]
  simp
/-- Digits without a nought ahead are the digits of their number. -/
theorem dec_back (l : List UInt8) : ∀ v, l ≠ [] → Lib.decFrom 0 l = some v → (l[0]? ≠ some 48 ∨ l.length = 1) → Lib.decDigits v = l := by
  induction hn : l.length using Nat.strongRecOn generalizing l with
  | _ n ih =>
    intro v hne hv hh
    obtain ⟨p, c, rfl⟩ : ∃ p c, l = p ++ [c] := ⟨l.dropLast, l.getLast hne, (List.dropLast_concat_getLast hne).symm⟩
    rw [decFrom_append] at hv
    obtain ⟨u, hu, hc⟩ := Option.bind_eq_some_iff.1 hv
    simp only [Lib.decFrom] at hc
    cases hd : Lib.digitVal c with
    | none => rw [hd] at hc; cases hc
    | some d =>
      rw [hd] at hc
      simp only [Option.some.injEq] at hc
      obtain ⟨d1, d2, d3⟩ := digitVal_inv hd
      cases p with
      | nil =>
        simp only [Lib.decFrom, Option.some.injEq] at hu
        subst hu hc
        rw [Lib.decDigits, dif_pos (by omega), List.nil_append, show 48 + (0 * 10 + d) = 48 + (c.toNat - 48) by omega, byte_back c d1 d2]
      | cons x r =>
        have hx : x ≠ 48 := by
          rcases hh with h | h
          · intro e; apply h; rw [e]; rfl
          · exfalso; rw [← hn] at h; simp at h
        have h1 := ih (x :: r).length (by rw [← hn]; simp) (x :: r) rfl u (by simp) hu (.inl (by simpa using hx))
        have hupos : 0 < u := by
          rcases Nat.eq_zero_or_pos u with h0 | h0
          · exfalso
            subst h0
            rw [dec0] at h1
            injection h1 with h2 _
            exact hx h2.symm
          · exact h0
        rw [Lib.decDigits, dif_neg (by omega), show v / 10 = u by omega, h1, show 48 + v % 10 = 48 + (c.toNat - 48) by omega, byte_back c d1 d2]
theorem from_len (l : List UInt8) (h : 120 < l.length) : fromO l = none := by
  cases hv : Lib.decFrom 0 l with
  | none => exact from_bad hv
  | some v =>
    by_cases ht : v < top
    · refine from_no hv fun hd => ?_
      have := (digits_len 115 v (Nat.lt_of_lt_of_le ht top_lt)).2
      rw [hd] at this
      omega
    · exact from_big hv ht
end Go.Proofs.Ytobnghmadoejjaa
