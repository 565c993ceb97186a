/- Texts of this claim, put together: part 18. -/
import Derived.Lib.ItoaNum
import Derived.Lib.Atoi
import Derived.Lib.AtoiAll
import Derived.Test.YteadkdllmeeocaaFnBestPack3
import Derived.Lib.Join
import Derived.Lib.Split
import Derived.Lib.SplitLaws
import Derived.Lib.CountLaws
import Derived.Lib.CutLaws
import Derived.Lib.IndexLaws
import Derived.Lib.IndexBytes
/- Chapter 6 in plain words: bins, numbers in order, cuts that are reckoned. -/
namespace Go.Proofs.Yteadkdllmeeocaa
def binN (cs : List Int) (x : Int) : Nat := cs.countP fun c => decide (c < x)
theorem binN_step (cs : List Int) (x : Int) (k : Nat) (h : k < cs.length) : binN (cs.take (k + 1)) x = binN (cs.take k) x + (if cs.getD k 0 < x then 1 else 0) := by
  unfold binN
  rw [List.take_succ_eq_append_getElem h, List.countP_append]
  simp [List.getD, List.getElem?_eq_getElem h, List.countP_cons]
theorem binN_le (cs : List Int) (x : Int) : binN cs x ≤ cs.length := List.countP_le_length

def leB : Int → Int → Bool := fun x y => decide (x ≤ y)
def sortI (zs : List Int) : List Int := zs.mergeSort fun x y => decide (x ≤ y)
theorem sortI_perm (zs : List Int) : (sortI zs).Perm zs := List.mergeSort_perm _ _
theorem sortI_len (zs : List Int) : (sortI zs).length = zs.length := (sortI_perm zs).length_eq
theorem sortI_rise (zs : List Int) : (sortI zs).Pairwise (· ≤ ·) := by
  have := List.pairwise_mergeSort (le := fun x y : Int => decide (x ≤ y)) (fun a b c h1 h2 => by simp at *; omega) (fun a b => by simp; omega) zs
  unfold sortI
  exact this.imp (fun h => by simpa using h)
theorem sortI_nil : sortI [] = [] := by simp [sortI]
theorem sort_one {xs ys : List Int} (h1 : xs.Pairwise (· ≤ ·)) (h2 : xs.Perm ys) : xs = sortI ys :=
  List.Perm.eq_of_pairwise (le := (· ≤ ·)) (fun a b _ _ h1 h2 => by omega) h1 (sortI_rise ys) (h2.trans (sortI_perm ys).symm)
theorem rise_at {xs : List Int} (h : xs.Pairwise (· ≤ ·)) {i j : Nat} (hij : i ≤ j) (hj : j < xs.length) : xs.getD i 0 ≤ xs.getD j 0 := by
  by_cases e : i = j
  · subst e; exact Int.le_refl _
  · have := List.pairwise_iff_getElem.1 h i j (by omega) hj (by omega)
    simpa [List.getD, List.getElem?_eq_getElem hj, List.getElem?_eq_getElem (show i < xs.length by omega)] using this
/-- A number put in its place. -/
theorem sort_put {ys : List Int} {x : Int} {at' : Nat} (h : at' ≤ (sortI ys).length) (h1 : ∀ j, at' ≤ j → j < (sortI ys).length → x < (sortI ys).getD j 0) (h2 : at' = 0 ∨ (sortI ys).getD (at' - 1) 0 ≤ x) :
    (sortI ys).take at' ++ [x] ++ (sortI ys).drop at' = sortI (ys ++ [x]) := by
  have R := sortI_rise ys
  have Pm := sortI_perm ys
  generalize sortI ys = out at *
  refine sort_one ?_ ?_
  · rw [List.append_assoc, List.pairwise_append]
    refine ⟨R.take, ?_, ?_⟩
    · rw [List.singleton_append, List.pairwise_cons]
      refine ⟨?_, R.drop⟩
      intro b hb
      obtain ⟨j, hj, rfl⟩ := List.getElem_of_mem hb
      rw [List.getElem_drop]
      rw [List.length_drop] at hj
      have := h1 (at' + j) (by omega) (by omega)
      simp [List.getD, List.getElem?_eq_getElem (show at' + j < out.length by omega)] at this
      omega
    · intro a ha b hb
      obtain ⟨i, hi, rfl⟩ := List.getElem_of_mem ha
      rw [List.length_take] at hi
      rw [List.getElem_take]
      have hx : out.getD i 0 ≤ x := by
        rcases h2 with h2 | h2
        · omega
        · have := rise_at R (show i ≤ at' - 1 by omega) (by omega)
          omega
      have ei : out.getD i 0 = out[i]'(by omega) := by simp [List.getD, List.getElem?_eq_getElem (show i < out.length by omega)]
      rw [List.singleton_append] at hb
      rcases List.mem_cons.1 hb with rfl | hb
      · omega
      · obtain ⟨j, hj, rfl⟩ := List.getElem_of_mem hb
        rw [List.getElem_drop]
        rw [List.length_drop] at hj
        have := h1 (at' + j) (by omega) (by omega)
        simp [List.getD, List.getElem?_eq_getElem (show at' + j < out.length by omega)] at this
        omega
  · rw [List.append_assoc, List.singleton_append]
    refine List.perm_middle.trans ?_
    rw [List.take_append_drop]
    exact (Pm.cons x).trans (List.perm_append_singleton x ys).symm

def rightK (k : Int) : Bool := decide (2 ≤ k ∧ k ≤ 4)
def cutIn (c : Int) : Bool := decide (-9999 ≤ c ∧ c ≤ 9998)
def eqAt (lo hi k : Int) (m : Nat) : List Int := (List.range m).map fun i : Nat => lo + ((hi - lo) * ((i : Int) + 1)) / k
theorem eqAt_succ (lo hi k : Int) (m : Nat) : eqAt lo hi k (m + 1) = eqAt lo hi k m ++ [lo + ((hi - lo) * ((m : Int) + 1)) / k] := by
  simp [eqAt, List.range_succ]
theorem eqAt_len (lo hi k : Int) (m : Nat) : (eqAt lo hi k m).length = m := by simp [eqAt]
def equalC (lo hi k : Int) : List Int :=
  if 2 ≤ k ∧ k ≤ 4 ∧ -9999 ≤ lo ∧ lo ≤ 9998 ∧ -9999 ≤ hi ∧ hi ≤ 9998 ∧ k ≤ hi - lo then eqAt lo hi k (k.toNat - 1) else []

theorem equalC_len (lo hi k : Int) : (equalC lo hi k).length ≤ 3 := by
  unfold equalC
  split
  · rw [eqAt_len]; omega
  · simp

def qAt (up : List Int) (k : Int) (i : Nat) : Int := up.getD (((up.length : Int) * i) / k).toNat 0
def qPut (out : List Int) (x : Int) : List Int := if out.length = 0 ∨ out.getD (out.length - 1) 0 < x then out ++ [x] else out
def qTo (up : List Int) (k : Int) : Nat → List Int
  | 0 => []
  | m + 1 => qPut (qTo up k m) (qAt up k (m + 1))
theorem qTo_len (up : List Int) (k : Int) (m : Nat) : (qTo up k m).length ≤ m := by
  induction m with
  | zero => simp [qTo]
  | succ m ih =>
    unfold qTo qPut
    split
    · simp; omega
    · omega
def allIn (zs : List Int) : Bool := zs.all cutIn
def quantC (zs : List Int) (k : Int) : List Int :=
  if 2 ≤ k ∧ k ≤ 4 ∧ 1 ≤ zs.length ∧ zs.length ≤ 64 ∧ allIn zs = true then qTo (sortI zs) k (k.toNat - 1) else []
theorem quantC_len (zs : List Int) (k : Int) : (quantC zs k).length ≤ 3 := by
  unfold quantC
  split
  · have := qTo_len (sortI zs) k (k.toNat - 1)
    omega
  · simp
theorem allIn_ends {zs : List Int} (h : 0 < zs.length) : allIn zs = (decide (-9999 ≤ (sortI zs).getD 0 0) && decide ((sortI zs).getD (zs.length - 1) 0 ≤ 9998)) := by
  have e : allIn zs = allIn (sortI zs) := by
    unfold allIn
    rw [Bool.eq_iff_iff, List.all_eq_true, List.all_eq_true]
    exact ⟨fun H x hx => H x ((sortI_perm zs).mem_iff.1 hx), fun H x hx => H x ((sortI_perm zs).mem_iff.2 hx)⟩
  have R := sortI_rise zs
  have L := sortI_len zs
  rw [e, ← L]
  rw [← L] at h
  generalize sortI zs = out at *
  have gd : ∀ i (hi : i < out.length), out.getD i 0 = out[i] := fun i hi => by simp [List.getD, List.getElem?_eq_getElem hi]
  unfold allIn
  rw [Bool.eq_iff_iff, List.all_eq_true, Bool.and_eq_true, decide_eq_true_eq, decide_eq_true_eq]
  constructor
  · intro H
    have a := H _ (List.getElem_mem h)
    have b := H _ (List.getElem_mem (show out.length - 1 < out.length by omega))
    rw [gd 0 h, gd _ (show out.length - 1 < out.length by omega)]
    simp [cutIn] at a b
    omega
  · rintro ⟨a, b⟩ x hx
    obtain ⟨i, hi, rfl⟩ := List.getElem_of_mem hx
    have c := rise_at R (show 0 ≤ i by omega) hi
    have d := rise_at R (show i ≤ out.length - 1 by omega) (by omega)
    rw [gd i hi] at c d
    simp [cutIn]
    omega
/-- The place that is asked lies within. -/
theorem q_in {n : Nat} {k : Int} {i : Nat} (hk : 2 ≤ k) (hn : 0 < n) (hi : (i : Int) < k) : 0 ≤ ((n : Int) * i) / k ∧ ((n : Int) * i) / k < n := by
  have h0 : 0 ≤ (n : Int) * i := Int.mul_nonneg (by omega) (by omega)
  refine ⟨Int.ediv_nonneg h0 (by omega), ?_⟩
  refine Int.ediv_lt_of_lt_mul (by omega) ?_
  exact Int.mul_lt_mul_of_pos_left hi (by omega)
end Go.Proofs.Yteadkdllmeeocaa
/- Which number a text is the digits of: plain facts on lists of bytes. -/
namespace Go.Proofs.Yteadkdllmeeocaa

theorem dig_byte (d : Nat) (h : d < 10) : (UInt8.ofNat (48 + d)).toNat = 48 + d := by
  rw [UInt8.toNat_ofNat']; omega
theorem dig_val (d : Nat) (h : d < 10) : Lib.digitVal (UInt8.ofNat (48 + d)) = some d := by
  unfold Lib.digitVal
  rw [dig_byte d h, if_pos (by omega)]
  congr 1; omega

theorem decFrom_append (a b : List UInt8) : ∀ acc, Lib.decFrom acc (a ++ b) = (Lib.decFrom acc a).bind fun n => Lib.decFrom n b := by
  induction a with
  | nil => intro acc; rfl
  | cons c r ih =>
    intro acc
    simp only [List.cons_append, Lib.decFrom]
    cases Lib.digitVal c with
    | none => rfl
    | some d => exact ih _

theorem decFrom_digits (u : Nat) : Lib.decFrom 0 (Lib.decDigits u) = some u := by
  induction u using Nat.strongRecOn with
  | _ u ih =>
    rw [Lib.decDigits]
    by_cases h : u < 10
    · rw [dif_pos h]; simp only [Lib.decFrom, dig_val u h]; congr 1; omega
    · rw [dif_neg h, decFrom_append, ih (u / 10) (by omega)]
      simp only [Option.bind_some, Lib.decFrom, dig_val (u % 10) (by omega)]
      congr 1; omega

theorem digits_len (k : Nat) : ∀ u, u < 10 ^ (k + 1) → 1 ≤ (Lib.decDigits u).length ∧ (Lib.decDigits u).length ≤ k + 1 := by
  induction k with
  | zero => intro u h; rw [Lib.decDigits, dif_pos (by simpa using h)]; simp
  | succ k ih =>
    intro u h
    rw [Lib.decDigits]
    by_cases h10 : u < 10
    · rw [dif_pos h10]; simp
    · rw [dif_neg h10]
      have := ih (u / 10) (by rw [Nat.pow_succ] at h; omega)
      simp; omega

theorem decFrom_mono : ∀ (l : List UInt8) (acc v : Nat), Lib.decFrom acc l = some v → acc ≤ v
  | [], acc, v, h => by simp only [Lib.decFrom, Option.some.injEq] at h; omega
  | c :: r, acc, v, h => by
    simp only [Lib.decFrom] at h
    cases hd : Lib.digitVal c with
    | none => simp [hd] at h
    | some d => rw [hd] at h; have := decFrom_mono r _ v h; omega

theorem digitVal_inv {c : UInt8} {d : Nat} (h : Lib.digitVal c = some d) : 48 ≤ c.toNat ∧ c.toNat ≤ 57 ∧ d = c.toNat - 48 := by
  unfold Lib.digitVal at h
  split at h
  · next hc => simp only [Option.some.injEq] at h; exact ⟨hc.1, hc.2, h.symm⟩
  · cases h

theorem parse_of : ∀ (l : List UInt8) (acc v : Nat), Lib.decFrom acc l = some v → v < 1000000000000000000 → Lib.parseUint10 acc l = .ok v
  | [], acc, v, h, _ => by simp only [Lib.decFrom, Option.some.injEq] at h; rw [h]; rfl
  | c :: r, acc, v, h, hv => by
    simp only [Lib.decFrom] at h
    cases hd : Lib.digitVal c with
    | none => simp [hd] at h
    | some d =>
      rw [hd] at h
      obtain ⟨h1, h2, rfl⟩ := digitVal_inv hd
      have hm := decFrom_mono r _ v h
      rw [Lib.parseUint10, if_pos ⟨h1, h2⟩, if_neg (by omega), if_neg (by omega)]
      exact parse_of r _ v h hv

/-- The first byte of a row of digits is no sign. -/
theorem digits_head (u : Nat) : ∃ c r, Lib.decDigits u = c :: r ∧ 48 ≤ c.toNat ∧ c.toNat ≤ 57 := by
  have h := decFrom_digits u
  have hne : Lib.decDigits u ≠ [] := by
    rw [Lib.decDigits]; split <;> simp
  cases hl : Lib.decDigits u with
  | nil => exact absurd hl hne
  | cons c r =>
    rw [hl] at h
    simp only [Lib.decFrom] at h
    cases hd : Lib.digitVal c with
    | none => simp [hd] at h
    | some d => obtain ⟨h1, h2, _⟩ := digitVal_inv hd; exact ⟨c, r, rfl, h1, h2⟩

theorem atoi_nat (u : Nat) (h : u < 1000000000000000000) : Lib.atoiAll (Lib.decDigits u) = .ok (u : Int) := by
  obtain ⟨c, r, hl, h1, h2⟩ := digits_head u
  have hp : Lib.parseUint10 0 (c :: r) = .ok u := parse_of _ 0 u (by rw [← hl]; exact decFrom_digits u) h
  have hm : Lib.parseMag (c :: r) = .ok u := by rw [Lib.parseMag, if_neg (by simp)]; exact hp
  have hs : ¬ (c.toNat = 43 ∨ c.toNat = 45) := by omega
  have hs2 : ¬ c.toNat = 45 := by omega
  rw [hl, Lib.atoiAll]
  simp only [if_neg hs, hm]
  rw [if_neg (by omega), if_neg (by omega), if_neg hs2]
theorem atoi_neg (u : Nat) (h : u < 1000000000000000000) : Lib.atoiAll (45 :: Lib.decDigits u) = .ok (-(u : Int)) := by
  obtain ⟨c, r, hl, h1, h2⟩ := digits_head u
  have hp : Lib.parseUint10 0 (c :: r) = .ok u := parse_of _ 0 u (by rw [← hl]; exact decFrom_digits u) h
  have hm : Lib.parseMag (c :: r) = .ok u := by rw [Lib.parseMag, if_neg (by simp)]; exact hp
  have e45 : (45 : UInt8).toNat = 45 := rfl
  have hs : (45 : UInt8).toNat = 43 ∨ (45 : UInt8).toNat = 45 := .inr rfl
  rw [hl, Lib.atoiAll]
  simp only [if_pos hs, hm]
  rw [if_neg (by omega), if_neg (by omega), if_pos e45]
theorem atoi_itoa (n : Int) (h0 : -999999 ≤ n) (h1 : n ≤ 999999) : Lib.atoiAll (Lib.itoa n) = .ok n := by
  unfold Lib.itoa
  split
  · rw [atoi_neg n.natAbs (by omega)]; congr 1; omega
  · rw [atoi_nat n.toNat (by omega)]; congr 1; omega

/-- What mustDigits finds: the number from lo to hi of which l is the digits. -/
def must (lo hi : Int) (l : List UInt8) : Option Int :=
  match Lib.atoiAll l with
  | .ok v => if lo ≤ v ∧ v ≤ hi ∧ Lib.itoa v = l then some v else none
  | _ => none
theorem must_iff (lo hi : Int) (h0 : -999999 ≤ lo) (h1 : hi ≤ 999999) (l : List UInt8) (v : Int) : must lo hi l = some v ↔ lo ≤ v ∧ v ≤ hi ∧ Lib.itoa v = l := by
  unfold must
  constructor
  · intro h
    split at h
    · split at h
      · next hc => simp only [Option.some.injEq] at h; subst h; exact hc
      · cases h
    · cases h
  · rintro ⟨a, b, rfl⟩
    rw [atoi_itoa v (by omega) (by omega)]
    simp [a, b]

/-- What the specification's Number finds. -/
def numSpec (l : List UInt8) : Option Int :=
  if 1 ≤ l.length ∧ l.length ≤ 6 then
    match Lib.decFrom 0 l with
    | some v => if Lib.itoa v = l then some (v : Int) else none
    | none => none
  else none
theorem decFrom_lt : ∀ (l : List UInt8) (acc v : Nat), Lib.decFrom acc l = some v → v < (acc + 1) * 10 ^ l.length
  | [], acc, v, h => by simp only [Lib.decFrom, Option.some.injEq] at h; simp; omega
  | c :: r, acc, v, h => by
    simp only [Lib.decFrom] at h
    cases hd : Lib.digitVal c with
    | none => simp [hd] at h
    | some d =>
      rw [hd] at h
      obtain ⟨h1, h2, rfl⟩ := digitVal_inv hd
      have := decFrom_lt r _ v h
      rw [List.length_cons, Nat.pow_succ]
      have hle : (acc * 10 + (c.toNat - 48) + 1) * 10 ^ r.length ≤ ((acc + 1) * 10) * 10 ^ r.length := Nat.mul_le_mul_right _ (by omega)
      rw [Nat.mul_comm (10 ^ r.length) 10, ← Nat.mul_assoc]
      omega
theorem numSpec_iff (l : List UInt8) (v : Int) : numSpec l = some v ↔ 0 ≤ v ∧ v ≤ 999999 ∧ Lib.itoa v = l := by
  unfold numSpec
  constructor
  · intro h
    split at h
    · next hl =>
      split at h
      · next u hu =>
        split at h
        · next hi =>
          simp only [Option.some.injEq] at h
          subst h
          have h2 := decFrom_lt l 0 u hu
          have h3 : 10 ^ l.length ≤ 10 ^ 6 := Nat.pow_le_pow_right (by decide) hl.2
          refine ⟨by omega, ?_, hi⟩
          simp only [Nat.zero_add, Nat.one_mul] at h2
          omega
        · cases h
      · cases h
    · cases h
  · rintro ⟨a, b, rfl⟩
    obtain ⟨u, rfl⟩ := Int.eq_ofNat_of_zero_le a
    have e : Lib.itoa (u : Int) = Lib.decDigits u := by rw [Lib.itoa, if_neg (by omega)]; simp
    rw [e, if_pos (digits_len 5 u (by omega)), decFrom_digits]
    simp [e]
theorem number_one (l : List UInt8) : numSpec l = must 0 999999 l := by
  apply Option.ext
  intro v
  rw [numSpec_iff, must_iff 0 999999 (by decide) (by decide)]

/-- What the specification's Signed finds. -/
def sigSpec (l : List UInt8) : Option Int :=
  if 1 ≤ l.length ∧ l.length ≤ 5 then
    if l.head? = some 45 then
      match numSpec l.tail with
      | some v => if 1 ≤ v ∧ v ≤ 9999 then some (0 - v) else none
      | none => none
    else
      match numSpec l with
      | some v => if v ≤ 9999 then some v else none
      | none => none
  else none
theorem itoa_neg (u : Nat) (h : 0 < u) : Lib.itoa (-(u : Int)) = 45 :: Lib.decDigits u := by rw [Lib.itoa, if_pos (by omega)]; simp
theorem itoa_nat (u : Nat) : Lib.itoa (u : Int) = Lib.decDigits u := by rw [Lib.itoa, if_neg (by omega)]; simp
theorem sigSpec_iff (l : List UInt8) (v : Int) : sigSpec l = some v ↔ -9999 ≤ v ∧ v ≤ 9999 ∧ Lib.itoa v = l := by
  unfold sigSpec
  constructor
  · intro h
    split at h
    · split at h
      · next hh =>
        split at h
        · next x hx =>
          split at h
          · next hc =>
            simp only [Option.some.injEq] at h
            subst h
            obtain ⟨a, b, c⟩ := (numSpec_iff _ _).1 hx
            obtain ⟨u, rfl⟩ := Int.eq_ofNat_of_zero_le a
            refine ⟨by omega, by omega, ?_⟩
            rw [show (0 : Int) - (u : Int) = -(u : Int) by omega, itoa_neg u (by omega), ← itoa_nat, c]
            cases l with
            | nil => simp at hh
            | cons y r => simp only [List.head?_cons, Option.some.injEq] at hh; subst hh; rfl
          · cases h
        · cases h
      · split at h
        · next x hx =>
          split at h
          · next hc =>
            simp only [Option.some.injEq] at h
            subst h
            obtain ⟨a, b, c⟩ := (numSpec_iff _ _).1 hx
            exact ⟨by omega, hc, c⟩
          · cases h
        · cases h
    · cases h
  · rintro ⟨a, b, rfl⟩
    by_cases hn : v < 0
    · obtain ⟨u, rfl⟩ : ∃ u : Nat, v = -(u : Int) := ⟨v.natAbs, by omega⟩
      have hx : numSpec (Lib.decDigits u) = some (u : Int) := (numSpec_iff _ _).2 ⟨by omega, by omega, itoa_nat u⟩
      have hl := digits_len 3 u (by omega)
      rw [itoa_neg u (by omega), if_pos (by simp; omega)]
      simp only [List.head?_cons, if_true, List.tail_cons, hx]
      rw [if_pos (by omega)]
      congr 1; omega
    · obtain ⟨u, rfl⟩ := Int.eq_ofNat_of_zero_le (show 0 ≤ v by omega)
      have hx : numSpec (Lib.decDigits u) = some (u : Int) := (numSpec_iff _ _).2 ⟨by omega, by omega, itoa_nat u⟩
      have hl := digits_len 3 u (by omega)
      obtain ⟨c, r, hcr, h1, h2⟩ := digits_head u
      rw [itoa_nat u, if_pos (by omega)]
      have hh : ¬ (Lib.decDigits u).head? = some 45 := by
        rw [hcr]
        simp only [List.head?_cons, Option.some.injEq]
        intro e; subst e
        have : (45 : UInt8).toNat = 45 := rfl
        omega
      rw [if_neg hh, hx]
      simp only
      rw [if_pos (by omega)]
theorem signed_one (l : List UInt8) : sigSpec l = must (-9999) 9999 l := by
  apply Option.ext
  intro v
  rw [sigSpec_iff, must_iff (-9999) 9999 (by decide) (by decide)]
end Go.Proofs.Yteadkdllmeeocaa
/- An attribute that is right: which kind it is, how long its texts are. -/
namespace Go.Proofs.Yteadkdllmeeocaa
open Go.RowKit
set_option maxRecDepth 100000

/-- Texts with another one between. -/
def joinT (ss : List ByteArray) (sep : ByteArray) : ByteArray := ⟨(Lib.join (ss.map (·.data.toList)) sep.data.toList).toArray⟩
def itB (n : Int) : ByteArray := ⟨(Lib.itoa n).toArray⟩
theorem joinT_nil (sep : ByteArray) : joinT [] sep = ⟨#[]⟩ := rfl
theorem bytes_ext {a b : ByteArray} (h : a.data.toList = b.data.toList) : a = b := ByteArray.ext (Array.toList_inj.1 h)
theorem join_snoc (xs : List (List UInt8)) (x sep : List UInt8) (h : xs ≠ []) : Lib.join (xs ++ [x]) sep = Lib.join xs sep ++ sep ++ x := by
  cases xs with
  | nil => exact absurd rfl h
  | cons y r =>
    rw [List.cons_append, Lib.join_cons, Lib.join_cons]
    simp [Lib.joinTail, List.append_assoc]
theorem joinT_one (x sep : ByteArray) : joinT [x] sep = x := by
  apply bytes_ext
  simp [joinT, Lib.join_one]
theorem joinT_snoc {ss : List ByteArray} {k : Nat} (hk : k < ss.length) (h : 0 < k) (sep : ByteArray) : joinT (ss.take (k + 1)) sep = joinT (ss.take k) sep ++ sep ++ tx ss k := by
  apply bytes_ext
  have e : ss.take (k + 1) = ss.take k ++ [tx ss k] := by rw [List.take_succ_eq_append_getElem hk, tx_eq hk]
  rw [e]
  simp only [joinT, List.map_append, List.map_cons, List.map_nil]
  rw [join_snoc _ _ _ (by simp; exact ⟨by omega, fun e => by simp [e] at hk⟩)]
  simp [ByteArray.data_append]
theorem joinT_zero {ss : List ByteArray} (hk : 0 < ss.length) (sep : ByteArray) : joinT (ss.take 1) sep = tx ss 0 := by
  cases ss with
  | nil => simp at hk
  | cons x r => rw [List.take_succ_cons, List.take_zero, joinT_one]; rfl
theorem joinT_size (ss : List ByteArray) (sep : ByteArray) (m : Nat) (h : ∀ s ∈ ss, s.size ≤ m) : (joinT ss sep).size ≤ ss.length * (m + sep.size) := by
  have h1 : (joinT ss sep).size = (Lib.join (ss.map (·.data.toList)) sep.data.toList).length := by simp [joinT, ByteArray.size]
  rw [h1]
  cases ss with
  | nil => simp [Lib.join_nil]
  | cons x r =>
    rw [List.map_cons, Lib.join_length]
    have h2 : ∀ (l : List ByteArray), (∀ s ∈ l, s.size ≤ m) → Lib.lens (l.map (·.data.toList)) ≤ l.length * m := by
      intro l
      induction l with
      | nil => simp [Lib.lens]
      | cons y l ih =>
        intro hl
        have h3 := ih fun s hs => hl s (List.mem_cons_of_mem _ hs)
        have h4 : y.data.toList.length ≤ m := by have := hl y List.mem_cons_self; simpa using this
        have h5 : Lib.lens (List.map (·.data.toList) (y :: l)) = y.data.toList.length + Lib.lens (l.map (·.data.toList)) := by simp [Lib.lens]
        rw [h5, List.length_cons, Nat.succ_mul]
        omega
    have h6 := h2 (x :: r) h
    rw [List.map_cons] at h6
    have h7 : sep.data.toList.length = sep.size := by simp
    rw [h7, List.length_map, List.length_cons]
    rw [List.length_cons] at h6
    rw [Nat.mul_add, Nat.mul_comm sep.size]
    have : r.length * sep.size ≤ (r.length + 1) * sep.size := Nat.mul_le_mul_right _ (by omega)
    omega
theorem joinT_take {ss : List ByteArray} (sep : ByteArray) : ∀ {k j : Nat}, k ≤ j → j ≤ ss.length → (joinT (ss.take k) sep).size ≤ (joinT (ss.take j) sep).size := by
  intro k j hkj hj
  induction j with
  | zero => obtain rfl : k = 0 := by omega
            exact Nat.le_refl _
  | succ j ih =>
    by_cases e : k = j + 1
    · rw [e]; exact Nat.le_refl _
    · refine Nat.le_trans (ih (by omega) (by omega)) ?_
      by_cases h0 : 0 < j
      · rw [joinT_snoc (by omega) h0]; simp [ByteArray.size_append]; omega
      · obtain rfl : j = 0 := by omega
        exact Nat.zero_le _
theorem joinT_part {ss : List ByteArray} {k : Nat} (sep : ByteArray) (hk : k < ss.length) (h : 0 < k) : (joinT (ss.take k) sep).size + sep.size + (tx ss k).size ≤ (joinT ss sep).size := by
  have h1 := joinT_take (ss := ss) sep (k := k + 1) (j := ss.length) (by omega) (Nat.le_refl _)
  rw [joinT_snoc hk h, List.take_length] at h1
  simpa [ByteArray.size_append] using h1
theorem joinT_first {ss : List ByteArray} (sep : ByteArray) (hk : 0 < ss.length) : (tx ss 0).size ≤ (joinT ss sep).size := by
  have h1 := joinT_take (ss := ss) sep (k := 1) (j := ss.length) (by omega) (Nat.le_refl _)
  rwa [joinT_zero hk, List.take_length] at h1

/-- The text of an attribute. -/
def attrText (a : AttrD) : ByteArray :=
  if attrOk a = true then (if a.vals.length = 0 then a.name ++ ⟨#[58]⟩ ++ joinT (a.cuts.map itB) ⟨#[44]⟩ else a.name ++ ⟨#[61]⟩ ++ joinT a.vals ⟨#[44]⟩) else ⟨#[]⟩
theorem ok_name {a : AttrD} (h : attrOk a = true) : wordOk a.name = true := by
  unfold attrOk at h
  rw [Bool.and_eq_true] at h
  exact h.1
theorem ok_vals {a : AttrD} (h : attrOk a = true) (h0 : a.vals.length ≠ 0) : a.cuts.length = 0 ∧ 2 ≤ a.vals.length ∧ a.vals.length ≤ 4 ∧ wordsOk a.vals = true := by
  have hc : a.cuts.length = 0 := by have := ok_kind h; omega
  unfold attrOk at h
  rw [Bool.and_eq_true, if_pos hc] at h
  have h2 := h.2
  unfold choices at h2
  rw [Bool.and_eq_true, decide_eq_true_eq] at h2
  exact ⟨hc, by omega, by omega, h2.2⟩
theorem ok_cuts {a : AttrD} (h : attrOk a = true) (h0 : a.vals.length = 0) : 1 ≤ a.cuts.length ∧ a.cuts.length ≤ 3 ∧ cutsRise a.cuts = true := by
  have hc : a.cuts.length ≠ 0 := by have := ok_kind h; omega
  unfold attrOk at h
  rw [Bool.and_eq_true, if_neg hc, Bool.and_eq_true, Bool.and_eq_true, decide_eq_true_eq, decide_eq_true_eq] at h
  exact ⟨by omega, h.2.2.1, h.2.2.2⟩
theorem rise_all {cs : List Int} (h : cutsRise cs = true) {k : Nat} (hk : k < cs.length) : -9999 ≤ cs.getD k 0 ∧ cs.getD k 0 ≤ 9998 := by
  unfold cutsRise at h
  rw [List.all_eq_true] at h
  have := h k (List.mem_range.2 hk)
  unfold cutAt at this
  rw [Bool.and_eq_true, decide_eq_true_eq] at this
  exact this.1
theorem itB_size {n : Int} (h0 : -9999 ≤ n) (h1 : n ≤ 9999) : (itB n).size ≤ 5 := by
  have e : (itB n).size = (Lib.itoa n).length := by simp [itB, ByteArray.size]
  rw [e, Lib.itoa]
  have h2 := digits_len 3 n.natAbs (by omega)
  have h3 := digits_len 3 n.toNat (by omega)
  split
  · simp only [List.length_cons]; omega
  · omega
end Go.Proofs.Yteadkdllmeeocaa
/- What stands between such bytes of a text: plain facts on lists of bytes; the library's Split answers it. -/
namespace Go.Proofs.Yteadkdllmeeocaa

def cuts (b : UInt8) : List UInt8 → List UInt8 → List (List UInt8)
  | cur, [] => [cur]
  | cur, c :: r => if c = b then cur :: cuts b [] r else cuts b (cur ++ [c]) r
theorem cuts_no (b : UInt8) : ∀ (r cur : List UInt8), (∀ c ∈ r, c ≠ b) → cuts b cur r = [cur ++ r]
  | [], cur, _ => by simp [cuts]
  | c :: r, cur, h => by
    rw [cuts, if_neg (h c (List.mem_cons_self ..)), cuts_no b r _ fun x hx => h x (List.mem_cons_of_mem _ hx)]
    simp
theorem cuts_hit (b : UInt8) (r : List UInt8) : ∀ (p cur : List UInt8), (∀ c ∈ p, c ≠ b) → cuts b cur (p ++ b :: r) = (cur ++ p) :: cuts b [] r
  | [], cur, _ => by simp [cuts]
  | c :: p, cur, h => by
    rw [List.cons_append, cuts, if_neg (h c (List.mem_cons_self ..)), cuts_hit b r p _ fun x hx => h x (List.mem_cons_of_mem _ hx)]
    simp
theorem cuts_len (b : UInt8) : ∀ (r cur : List UInt8), (cuts b cur r).length ≤ r.length + 1
  | [], cur => by simp [cuts]
  | c :: r, cur => by
    unfold cuts
    split
    · have := cuts_len b r []; simp; omega
    · have := cuts_len b r (cur ++ [c]); simp; omega

/-- The pieces behind the first, each with its byte ahead. -/
def tailJ (b : UInt8) (ps : List (List UInt8)) : List UInt8 := ps.flatMap fun p => b :: p
theorem cuts_join (b : UInt8) : ∀ (r cur : List UInt8), ∃ x xs, cuts b cur r = x :: xs ∧ x ++ tailJ b xs = cur ++ r
  | [], cur => ⟨cur, [], rfl, by simp [tailJ]⟩
  | c :: r, cur => by
    unfold cuts
    split
    · next h =>
      subst h
      obtain ⟨x, xs, h1, h2⟩ := cuts_join c r []
      refine ⟨cur, cuts c [] r, rfl, ?_⟩
      rw [h1]
      simp only [tailJ, List.flatMap_cons, List.cons_append]
      simp only [tailJ, List.nil_append] at h2
      rw [h2]
    · obtain ⟨x, xs, h1, h2⟩ := cuts_join b r (cur ++ [c])
      exact ⟨x, xs, h1, by rw [h2]; simp⟩
theorem cuts_clean (b : UInt8) : ∀ (r cur : List UInt8), (∀ c ∈ cur, c ≠ b) → ∀ x ∈ cuts b cur r, ∀ c ∈ x, c ≠ b
  | [], cur, h, x, hx => by simp only [cuts, List.mem_singleton] at hx; subst hx; exact h
  | c :: r, cur, h, x, hx => by
    unfold cuts at hx
    split at hx
    · rcases List.mem_cons.1 hx with rfl | hx
      · exact h
      · exact cuts_clean b r [] (by simp) x hx
    · next hc =>
      refine cuts_clean b r _ ?_ x hx
      intro y hy
      rcases List.mem_append.1 hy with h1 | h1
      · exact h y h1
      · simp only [List.mem_singleton] at h1; subst h1; exact hc

def mkB (l : List UInt8) : ByteArray := ⟨l.toArray⟩
theorem mkB_data (l : List UInt8) : (mkB l).data.toList = l := rfl
theorem mkB_of (s : ByteArray) : mkB s.data.toList = s := by apply ByteArray.ext; simp [mkB]
/-- The pieces of a text. -/
def pieces (b : UInt8) (s : ByteArray) : List ByteArray := (cuts b [] s.data.toList).map mkB
theorem pieces_len (b : UInt8) (s : ByteArray) : (pieces b s).length ≤ s.size + 1 := by
  unfold pieces
  have := cuts_len b s.data.toList []
  simpa using this

theorem index_one' (s : ByteArray) (b : UInt8) : Lib.indexB s ⟨#[b]⟩ = Lib.indexByte s.data.toList b := by
  unfold Lib.indexB
  exact Lib.index_one _ _

theorem split_pieces (b : UInt8) : ∀ (k : Nat) (s : ByteArray), s.size ≤ k → Lib.splitB ⟨#[b]⟩ 0 (Lib.countB s ⟨#[b]⟩) s = pieces b s := by
  intro k
  induction k with
  | zero =>
    intro s hs
    have e : s.data.toList = [] := by
      apply List.eq_nil_of_length_eq_zero
      have : s.data.toList.length = s.size := by simp
      omega
    have hi : Lib.indexB s ⟨#[b]⟩ = -1 := by rw [index_one', e]; rfl
    rw [Lib.countB_miss s _ hi, Lib.splitB_zero, pieces, e]
    simp only [cuts, List.map_cons, List.map_nil]
    rw [← e, mkB_of]
  | succ k ih =>
    intro s hs
    rcases Lib.indexB_cases s ⟨#[b]⟩ with hi | ⟨i, hi, hle⟩
    · have hn := Lib.indexByte_none ((index_one' s b).symm.trans hi)
      rw [Lib.splitB_miss _ _ _ _ hi, pieces, cuts_no b _ _ (fun c hc e => by
        obtain ⟨j, hj, hcj⟩ := List.mem_iff_getElem.1 hc
        exact hn j (by rw [List.getElem?_eq_getElem hj, hcj, e]))]
      simp [mkB_of]
    · have hsome := Lib.indexByte_some ((index_one' s b).symm.trans hi)
      have hsz : (⟨#[b]⟩ : ByteArray).size = 1 := rfl
      rw [hsz] at hle
      rw [Lib.countB_hit s _ i (by rw [hsz]; exact Nat.le_refl _) hi, Nat.add_comm 1, Lib.splitB_hit _ _ _ _ i hi, hsz, ih _ (by simp; omega)]
      have hl : s.data.toList = s.data.toList.take i ++ b :: s.data.toList.drop (i + 1) := by
        have hj : i < s.data.toList.length := by simpa using (show i < s.size by omega)
        have e : s.data.toList[i] = b := by
          have := hsome.1
          rw [List.getElem?_eq_getElem hj] at this
          exact Option.some.inj this
        rw [← e, ← List.drop_eq_getElem_cons hj, List.take_append_drop]
      have hd : (s.extract (i + 1) s.size).data.toList = s.data.toList.drop (i + 1) := Lib.extract_to_end s (i + 1)
      have ht : s.extract 0 (i + 0) = mkB (s.data.toList.take i) := by
        apply ByteArray.ext
        apply Array.toList_inj.1
        rw [Lib.extract_data]; simp [mkB]
      rw [ht]
      unfold pieces
      rw [hd]
      conv => rhs; rw [hl, cuts_hit b _ _ _ (fun c hc e => by
        obtain ⟨j, hj, hcj⟩ := List.mem_iff_getElem.1 hc
        rw [List.length_take] at hj
        rw [List.getElem_take] at hcj
        exact hsome.2 j (by omega) (by rw [List.getElem?_eq_getElem (by omega), hcj, e]))]
      simp
theorem split_all (b : UInt8) (s : ByteArray) : Lib.splitB ⟨#[b]⟩ 0 (Lib.countB s ⟨#[b]⟩) s = pieces b s := split_pieces b s.size s (Nat.le_refl _)
theorem count_pieces (b : UInt8) (s : ByteArray) : Lib.countB s ⟨#[b]⟩ + 1 = (pieces b s).length := by
  rw [← split_all, Lib.splitB_all ⟨#[b]⟩ (by exact Nat.le_refl _) 0 _ s rfl]
end Go.Proofs.Yteadkdllmeeocaa
