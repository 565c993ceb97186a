/- Which number a text is the digits of: plain facts on lists of bytes. -/
import Derived.Lib.ItoaNum
import Derived.Lib.Atoi
import Derived.Lib.AtoiAll
namespace Go.Proofs.Ytfekcckckmhioaa

theorem dig_byte (d : Nat) (h : d < 10) : (UInt8.ofNat (48 + d)).toNat = 48 + d := by
  rw [UInt8.toNat_ofNat']; omega
theorem dig_val (d : Nat) (h : d < 10) : Lib.digitVal (UInt8.ofNat (48 + d)) = some d := by
  unfold Lib.digitVal
  rw [dig_byte d h, if_pos (by omega)]
  congr 1; omega

theorem decFrom_append (a b : List UInt8) : ∀ acc, Lib.decFrom acc (a ++ b) = (Lib.decFrom acc a).bind fun n => Lib.decFrom n b := by
  induction a with
  | nil => intro acc; rfl
  | cons c r ih =>
    intro acc
    simp only [List.cons_append, Lib.decFrom]
    cases Lib.digitVal c with
    | none => rfl
    | some d => exact ih _

theorem decFrom_digits (u : Nat) : Lib.decFrom 0 (Lib.decDigits u) = some u := by
  induction u using Nat.strongRecOn with
  | _ u ih =>
    rw [Lib.decDigits]
    by_cases h : u < 10
    · rw [dif_pos h]; simp only [Lib.decFrom, dig_val u h]; congr 1; omega
    · rw [dif_neg h, decFrom_append, ih (u / 10) (by omega)]
      simp only [Option.bind_some, Lib.decFrom, dig_val (u % 10) (by omega)]
      congr 1; omega

theorem digits_len (k : Nat) : ∀ u, u < 10 ^ (k + 1) → 1 ≤ (Lib.decDigits u).length ∧ (Lib.decDigits u).length ≤ k + 1 := by
  induction k with
  | zero => intro u h; rw [Lib.decDigits, dif_pos (by simpa using h)]; simp
  | succ k ih =>
    intro u h
    rw [Lib.decDigits]
    by_cases h10 : u < 10
    · rw [dif_pos h10]; simp
    · rw [dif_neg h10]
      have := ih (u / 10) (by rw [Nat.pow_succ] at h; omega)
      simp; omega

theorem decFrom_mono : ∀ (l : List UInt8) (acc v : Nat), Lib.decFrom acc l = some v → acc ≤ v
  | [], acc, v, h => by simp only [Lib.decFrom, Option.some.injEq] at h; omega
  | c :: r, acc, v, h => by
    simp only [Lib.decFrom] at h
    cases hd : Lib.digitVal c with
    | none => simp [hd] at h
    | some d => rw [hd] at h; have := decFrom_mono r _ v h; omega

theorem digitVal_inv {c : UInt8} {d : Nat} (h : Lib.digitVal c = some d) : 48 ≤ c.toNat ∧ c.toNat ≤ 57 ∧ d = c.toNat - 48 := by
  unfold Lib.digitVal at h
  split at h
  · next hc => simp only [Option.some.injEq] at h; exact ⟨hc.1, hc.2, h.symm⟩
  · cases h

theorem parse_of : ∀ (l : List UInt8) (acc v : Nat), Lib.decFrom acc l = some v → v < 1000000000000000000 → Lib.parseUint10 acc l = .ok v
  | [], acc, v, h, _ => by simp only [Lib.decFrom, Option.some.injEq] at h; rw [h]; rfl
  | c :: r, acc, v, h, hv => by
    simp only [Lib.decFrom] at h
    cases hd : Lib.digitVal c with
    | none => simp [hd] at h
    | some d =>
      rw [hd] at h
      obtain ⟨h1, h2, rfl⟩ := digitVal_inv hd
      have hm := decFrom_mono r _ v h
      rw [Lib.parseUint10, if_pos ⟨h1, h2⟩, if_neg (by omega), if_neg (by omega)]
      exact parse_of r _ v h hv

/-- The first byte of a row of digits is no sign. -/
theorem digits_head (u : Nat) : ∃ c r, Lib.decDigits u = c :: r ∧ 48 ≤ c.toNat ∧ c.toNat ≤ 57 := by
  have h := decFrom_digits u
  have hne : Lib.decDigits u ≠ [] := by
    rw [Lib.decDigits]; split <;> simp
  cases hl : Lib.decDigits u with
  | nil => exact absurd hl hne
  | cons c r =>
    rw [hl] at h
    simp only [Lib.decFrom] at h
    cases hd : Lib.digitVal c with
    | none => simp [hd] at h
    | some d => obtain ⟨h1, h2, _⟩ := digitVal_inv hd; exact ⟨c, r, rfl, h1, h2⟩

theorem atoi_nat (u : Nat) (h : u < 1000000000000000000) : Lib.atoiAll (Lib.decDigits u) = .ok (u : Int) := by
  obtain ⟨c, r, hl, h1, h2⟩ := digits_head u
  have hp : Lib.parseUint10 0 (c :: r) = .ok u := parse_of _ 0 u (by rw [← hl]; exact decFrom_digits u) h
  have hm : Lib.parseMag (c :: r) = .ok u := by rw [Lib.parseMag, if_neg (by simp)]; exact hp
  have hs : ¬ (c.toNat = 43 ∨ c.toNat = 45) := by omega
  have hs2 : ¬ c.toNat = 45 := by omega
  rw [hl, Lib.atoiAll]
  simp only [if_neg hs, hm]
  rw [if_neg (by omega), if_neg (by omega), if_neg hs2]
theorem atoi_neg (u : Nat) (h : u < 1000000000000000000) : Lib.atoiAll (45 :: Lib.decDigits u) = .ok (-(u : Int)) := by
  obtain ⟨c, r, hl, h1, h2⟩ := digits_head u
  have hp : Lib.parseUint10 0 (c :: r) = .ok u := parse_of _ 0 u (by rw [← hl]; exact decFrom_digits u) h
  have hm : Lib.parseMag (c :: r) = .ok u := by rw [Lib.parseMag, if_neg (by simp)]; exact hp
  have e45 : (45 : UInt8).toNat = 45 := rfl
  have hs : (45 : UInt8).toNat = 43 ∨ (45 : UInt8).toNat = 45 := .inr rfl
  rw [hl, Lib.atoiAll]
  simp only [if_pos hs, hm]
  rw [if_neg (by omega), if_neg (by omega), if_pos e45]
theorem atoi_itoa (n : Int) (h0 : -999999 ≤ n) (h1 : n ≤ 999999) : Lib.atoiAll (Lib.itoa n) = .ok n := by
  unfold Lib.itoa
  split
  · rw [atoi_neg n.natAbs (by omega)]; congr 1; omega
  · rw [atoi_nat n.toNat (by omega)]; congr 1; omega

/-- What mustDigits finds: the number from lo to hi of which l is the digits. -/
def must (lo hi : Int) (l : List UInt8) : Option Int :=
  match Lib.atoiAll l with
  | .ok v => if lo ≤ v ∧ v ≤ hi ∧ Lib.itoa v = l then some v else none
  | _ => none
theorem must_iff (lo hi : Int) (h0 : -999999 ≤ lo) (h1 : hi ≤ 999999) (l : List UInt8) (v : Int) : must lo hi l = some v ↔ lo ≤ v ∧ v ≤ hi ∧ Lib.itoa v = l := by
  unfold must
  constructor
  · intro h
    split at h
    · split at h
      · next hc => simp only [Option.some.injEq] at h; subst h; exact hc
      · cases h
    · cases h
  · rintro ⟨a, b, rfl⟩
    rw [atoi_itoa v (by omega) (by omega)]
    simp [a, b]

/-- What the specification's Number finds. -/
def numSpec (l : List UInt8) : Option Int :=
  if 1 ≤ l.length ∧ l.length ≤ 6 then
    match Lib.decFrom 0 l with
    | some v => if Lib.itoa v = l then some (v : Int) else none
    | none => none
  else none
theorem decFrom_lt : ∀ (l : List UInt8) (acc v : Nat), Lib.decFrom acc l = some v → v < (acc + 1) * 10 ^ l.length
  | [], acc, v, h => by simp only [Lib.decFrom, Option.some.injEq] at h; simp; omega
  | c :: r, acc, v, h => by
    simp only [Lib.decFrom] at h
    cases hd : Lib.digitVal c with
    | none => simp [hd] at h
    | some d =>
      rw [hd] at h
      obtain ⟨h1, h2, rfl⟩ := digitVal_inv hd
      have := decFrom_lt r _ v h
      rw [List.length_cons, Nat.pow_succ]
      have hle : (acc * 10 + (c.toNat - 48) + 1) * 10 ^ r.length ≤ ((acc + 1) * 10) * 10 ^ r.length := Nat.mul_le_mul_right _ (by omega)
      rw [Nat.mul_comm (10 ^ r.length) 10, ← Nat.mul_assoc]
      omega
theorem numSpec_iff (l : List UInt8) (v : Int) : numSpec l = some v ↔ 0 ≤ v ∧ v ≤ 999999 ∧ Lib.itoa v = l := by
  unfold numSpec
  constructor
  · intro h
    split at h
    · next hl =>
      split at h
      · next u hu =>
        split at h
        · next hi =>
          simp only [Option.some.injEq] at h
          subst h
          have h2 := decFrom_lt l 0 u hu
          have h3 : 10 ^ l.length ≤ 10 ^ 6 := Nat.pow_le_pow_right (by decide) hl.2
          refine ⟨by omega, ?_, hi⟩
          simp only [Nat.zero_add, Nat.one_mul] at h2
          omega
        · cases h
      · cases h
    · cases h
  · rintro ⟨a, b, rfl⟩
    obtain ⟨u, rfl⟩ := Int.eq_ofNat_of_zero_le a
    have e : Lib.itoa (u : Int) = Lib.decDigits u := by rw [Lib.itoa, if_neg (by omega)]; simp
    rw [e, if_pos (digits_len 5 u (by omega)), decFrom_digits]
    simp [e]
theorem number_one (l : List UInt8) : numSpec l = must 0 999999 l := by
  apply Option.ext
  intro v
  rw [numSpec_iff, must_iff 0 999999 (by decide) (by decide)]

/-- What the specification's Signed finds. -/
def sigSpec (l : List UInt8) : Option Int :=
  if 1 ≤ l.length ∧ l.length ≤ 5 then
    if l.head? = some 45 then
      match numSpec l.tail with
      | some v => if 1 ≤ v ∧ v ≤ 9999 then some (0 - v) else none
      | none => none
    else
      match numSpec l with
      | some v => if v ≤ 9999 then some v else none
      | none => none
  else none
theorem itoa_neg (u : Nat) (h : 0 < u) : Lib.itoa (-(u : Int)) = 45 :: Lib.decDigits u := by rw [Lib.itoa, if_pos (by omega)]; simp
theorem itoa_nat (u : Nat) : Lib.itoa (u : Int) = Lib.decDigits u := by rw [Lib.itoa, if_neg (by omega)]; simp
theorem sigSpec_iff (l : List UInt8) (v : Int) : sigSpec l = some v ↔ -9999 ≤ v ∧ v ≤ 9999 ∧ Lib.itoa v = l := by
  unfold sigSpec
  constructor
  · intro h
    split at h
    · split at h
      · next hh =>
        split at h
        · next x hx =>
          split at h
          · next hc =>
            simp only [Option.some.injEq] at h
            subst h
            obtain ⟨a, b, c⟩ := (numSpec_iff _ _).1 hx
            obtain ⟨u, rfl⟩ := Int.eq_ofNat_of_zero_le a
            refine ⟨by omega, by omega, ?_⟩
            rw [show (0 : Int) - (u : Int) = -(u : Int) by omega, itoa_neg u (by omega), ← itoa_nat, c]
            cases l with
            | nil => simp at hh
            | cons y r => simp only [List.head?_cons, Option.some.injEq] at hh; subst hh; rfl
          · cases h
        · cases h
      · split at h
        · next x hx =>
          split at h
          · next hc =>
            simp only [Option.some.injEq] at h
            subst h
            obtain ⟨a, b, c⟩ := (numSpec_iff _ _).1 hx
            exact ⟨by omega, hc, c⟩
          · cases h
        · cases h
    · cases h
  · rintro ⟨a, b, rfl⟩
    by_cases hn : v < 0
    · obtain ⟨u, rfl⟩ : ∃ u : Nat, v = -(u : Int) := ⟨v.natAbs, by omega⟩
      have hx : numSpec (Lib.decDigits u) = some (u : Int) := (numSpec_iff _ _).2 ⟨by omega, by omega, itoa_nat u⟩
      have hl := digits_len 3 u (by omega)
      rw [itoa_neg u (by omega), if_pos (by simp; omega)]
      simp only [List.head?_cons, if_true, List.tail_cons, hx]
      rw [if_pos (by omega)]
      congr 1; omega
    · obtain ⟨u, rfl⟩ := Int.eq_ofNat_of_zero_le (show 0 ≤ v by omega)
      have hx : numSpec (Lib.decDigits u) = some (u : Int) := (numSpec_iff _ _).2 ⟨by omega, by omega, itoa_nat u⟩
      have hl := digits_len 3 u (by omega)
      obtain ⟨c, r, hcr, h1, h2⟩ := digits_head u
      rw [itoa_nat u, if_pos (by omega)]
      have hh : ¬ (Lib.decDigits u).head? = some 45 := by
        rw [hcr]
        simp only [List.head?_cons, Option.some.injEq]
        intro e; subst e
        have : (45 : UInt8).toNat = 45 := rfl
        omega
      rw [if_neg hh, hx]
      simp only
      rw [if_pos (by omega)]
theorem signed_one (l : List UInt8) : sigSpec l = must (-9999) 9999 l := by
  apply Option.ext
  intro v
  rw [sigSpec_iff, must_iff (-9999) 9999 (by decide) (by decide)]
end Go.Proofs.Ytfekcckckmhioaa
