/- Texts of this claim, put together: part 9. -/
import Derived.Test.YtfflodcapcamcabDoorForkTextPack7
import Derived.Test.YtfflodcapcamcabDoorForkTextPack8
import Derived.Lib.ItoaNum
import Derived.Lib.Atoi
import Derived.Lib.AtoiAll
import Derived.Test.YtfflodcapcamcabDoorForkTextPack3
import Derived.Lib.Join
/- Chapter 9 in plain words: which questions may be asked, what their branches have together. -/
namespace Go.Proofs.YtfflodcapcamcabDoor
open Go.RowKit
set_option maxRecDepth 100000
theorem sch_attr {s : SchemaD} (h : schemaOk s = true) {j : Nat} (hj : j < s.attrs.length) : attrOk (ad s.attrs j) = true := by
  unfold schemaOk at h
  rw [Bool.and_eq_true, Bool.and_eq_true] at h
  have h2 := h.2.2
  unfold attrsOk at h2
  rw [List.all_eq_true] at h2
  have := h2 j (List.mem_range.2 hj)
  unfold attrAt at this
  rw [Bool.and_eq_true] at this
  exact this.1
/-- How many questions with two answers there are to a right attribute. -/
def wayN (a : AttrD) : Nat := if a.cuts.length = 0 then a.vals.length else a.cuts.length
theorem wayN_eq {a : AttrD} (h : attrOk a = true) : (wayN a : Int) = (if 0 < a.cuts.length then bins a - 2 else bins a - 1) + 1 := by
  have hk := ok_kind h
  unfold wayN bins
  rw [if_pos h]
  by_cases h0 : a.cuts.length = 0
  · rw [if_pos h0, if_neg (by omega), if_neg (fun e => (hk.1 e) h0)]
    omega
  · rw [if_neg h0, if_pos (by omega), if_pos (hk.2 h0)]
    omega
theorem top_eq {s : SchemaD} {f : ForkD} (h : attrOk (forkAttr s f) = true) : forkTop s f = (wayN (forkAttr s f) : Int) - 1 := by
  have := wayN_eq h
  unfold forkTop
  split <;> rename_i hc <;> simp only [hc, if_true, if_false] at this <;> omega
def placesOk (s : SchemaD) (l : List Int) : Bool := schemaOk s && (decide (0 < l.length) && ascIn 0 ((s.attrs.length : Int) - 1) l)
def candOf (s : SchemaD) (two : Bool) (a : Int) : List ForkD :=
  if (ad s.attrs a.toNat).cuts.length = 0 ∧ two = false then [⟨a, -1⟩] else (List.range (wayN (ad s.attrs a.toNat))).map fun p : Nat => (⟨a, (p : Int)⟩ : ForkD)
def candidates (s : SchemaD) (l : List Int) (two : Bool) : List ForkD := if placesOk s l = true then l.flatMap (candOf s two) else []
/-- What of a class one bin has in a branch. -/
def brAt (s : SchemaD) (f : ForkD) (i : Int) (c : List Int) (m k b : Nat) : Int := if branchOf s f b = i then colAt c m k b else 0
def brSum (s : SchemaD) (f : ForkD) (i : Int) (c : List Int) (m k n : Nat) : Int := sumL ((List.range n).map (brAt s f i c m k))
def totalsOk (s : SchemaD) (t : StatsD) (f : ForkD) (i : Int) : Bool := statsOk s t && (decide (t.cells.length ≠ 0) && (forkOk s f && decide (0 ≤ i ∧ i ≤ branches s f - 1)))
def branchTotals (s : SchemaD) (t : StatsD) (f : ForkD) (i : Int) : List Int :=
  if totalsOk s t f i = true then (List.range s.classes.length).map fun k => brSum s f i (il t.cells f.attr.toNat) s.classes.length k (bins (forkAttr s f)).toNat else []
theorem brSum_succ (s : SchemaD) (f : ForkD) (i : Int) (c : List Int) (m k n : Nat) : brSum s f i c m k (n + 1) = brSum s f i c m k n + brAt s f i c m k n := by
  unfold brSum
  rw [List.range_succ, List.map_append, List.map_singleton, sumL_snoc]
/-- The same, cell by cell. -/
def plAt (s : SchemaD) (f : ForkD) (i : Int) (c : List Int) (m k j : Nat) : Int := if j % m = k ∧ branchOf s f ((j / m : Nat) : Int) = i then c.getD j 0 else 0
def plSum (s : SchemaD) (f : ForkD) (i : Int) (c : List Int) (m k n : Nat) : Int := sumL ((List.range n).map (plAt s f i c m k))
theorem plSum_succ (s : SchemaD) (f : ForkD) (i : Int) (c : List Int) (m k n : Nat) : plSum s f i c m k (n + 1) = plSum s f i c m k n + plAt s f i c m k n := by
  unfold plSum
  rw [List.range_succ, List.map_append, List.map_singleton, sumL_snoc]
theorem plSum_row (s : SchemaD) (f : ForkD) (i : Int) (c : List Int) (m k n : Nat) (hk : k < m) : ∀ r, r ≤ m → plSum s f i c m k (n * m + r) = plSum s f i c m k (n * m) + if k < r then brAt s f i c m k n else 0 := by
  intro r
  induction r with
  | zero => intro _; simp
  | succ r ih =>
    intro hr
    have h1 : (n * m + r) % m = r := by rw [Nat.mul_comm, Nat.mul_add_mod]; exact Nat.mod_eq_of_lt (by omega)
    have h2 : (n * m + r) / m = n := by rw [Nat.mul_comm, Nat.mul_add_div (by omega), Nat.div_eq_of_lt (by omega)]; omega
    have h3 : plAt s f i c m k (n * m + r) = if r = k then brAt s f i c m k n else 0 := by
      unfold plAt brAt colAt
      rw [h1, h2]
      by_cases hkr : r = k
      · subst hkr
        by_cases hb : branchOf s f n = i
        · rw [if_pos (And.intro rfl hb), if_pos hb, if_pos rfl]
        · rw [if_neg (fun h => hb (And.right h)), if_neg hb, if_pos rfl]
      · rw [if_neg (fun h => hkr (And.left h)), if_neg hkr]
    rw [← Nat.add_assoc, plSum_succ, ih (by omega), h3]
    by_cases hkr : r = k
    · have e1 : ¬ k < r := by omega
      have e2 : k < r + 1 := by omega
      rw [if_neg e1, if_pos hkr, if_pos e2]; omega
    · by_cases hlt : k < r
      · have e2 : k < r + 1 := by omega
        rw [if_pos hlt, if_neg hkr, if_pos e2]; omega
      · have e2 : ¬ k < r + 1 := by omega
        rw [if_neg hlt, if_neg hkr, if_neg e2]; omega
theorem plSum_all (s : SchemaD) (f : ForkD) (i : Int) (c : List Int) (m k : Nat) (hk : k < m) : ∀ n, plSum s f i c m k (n * m) = brSum s f i c m k n := by
  intro n
  induction n with
  | zero => rw [Nat.zero_mul]; rfl
  | succ n ih => rw [Nat.succ_mul, plSum_row s f i c m k n hk m (Nat.le_refl _), if_pos hk, ih, brSum_succ]
/-- A part of a column is within the whole of it. -/
theorem brAt_le {s : SchemaD} {f : ForkD} {i : Int} {c : List Int} {m k b : Nat} (h : inW (colAt c m k b) = true) : 0 ≤ brAt s f i c m k b ∧ brAt s f i c m k b ≤ colAt c m k b := by
  have := of_decide_eq_true h
  unfold brAt
  split <;> omega
theorem brSum_le {s : SchemaD} {f : ForkD} {i : Int} {c : List Int} {m k : Nat} : ∀ n, (∀ b, b < n → inW (colAt c m k b) = true) → 0 ≤ brSum s f i c m k n ∧ brSum s f i c m k n ≤ n * 999 := by
  intro n
  induction n with
  | zero => intro _; constructor <;> exact Int.le_of_eq rfl
  | succ n ih =>
    intro h
    have h1 := ih fun b hb => h b (by omega)
    have h2 := of_decide_eq_true (h n (by omega))
    have h3 := brAt_le (s := s) (f := f) (i := i) (h n (by omega))
    rw [brSum_succ]
    omega
end Go.Proofs.YtfflodcapcamcabDoor
/- Which number a text is the digits of: plain facts on lists of bytes. -/
namespace Go.Proofs.YtfflodcapcamcabDoor

theorem dig_byte (d : Nat) (h : d < 10) : (UInt8.ofNat (48 + d)).toNat = 48 + d := by
  rw [UInt8.toNat_ofNat']; omega
theorem dig_val (d : Nat) (h : d < 10) : Lib.digitVal (UInt8.ofNat (48 + d)) = some d := by
  unfold Lib.digitVal
  rw [dig_byte d h, if_pos (by omega)]
  congr 1; omega

theorem decFrom_append (a b : List UInt8) : ∀ acc, Lib.decFrom acc (a ++ b) = (Lib.decFrom acc a).bind fun n => Lib.decFrom n b := by
  induction a with
  | nil => intro acc; rfl
  | cons c r ih =>
    intro acc
    simp only [List.cons_append, Lib.decFrom]
    cases Lib.digitVal c with
    | none => rfl
    | some d => exact ih _

theorem decFrom_digits (u : Nat) : Lib.decFrom 0 (Lib.decDigits u) = some u := by
  induction u using Nat.strongRecOn with
  | _ u ih =>
    rw [Lib.decDigits]
    by_cases h : u < 10
    · rw [dif_pos h]; simp only [Lib.decFrom, dig_val u h]; congr 1; omega
    · rw [dif_neg h, decFrom_append, ih (u / 10) (by omega)]
      simp only [Option.bind_some, Lib.decFrom, dig_val (u % 10) (by omega)]
      congr 1; omega

theorem digits_len (k : Nat) : ∀ u, u < 10 ^ (k + 1) → 1 ≤ (Lib.decDigits u).length ∧ (Lib.decDigits u).length ≤ k + 1 := by
  induction k with
  | zero => intro u h; rw [Lib.decDigits, dif_pos (by simpa using h)]; simp
  | succ k ih =>
    intro u h
    rw [Lib.decDigits]
    by_cases h10 : u < 10
    · rw [dif_pos h10]; simp
    · rw [dif_neg h10]
      have := ih (u / 10) (by rw [Nat.pow_succ] at h; omega)
      simp; omega

theorem decFrom_mono : ∀ (l : List UInt8) (acc v : Nat), Lib.decFrom acc l = some v → acc ≤ v
  | [], acc, v, h => by simp only [Lib.decFrom, Option.some.injEq] at h; omega
  | c :: r, acc, v, h => by
    simp only [Lib.decFrom] at h
    cases hd : Lib.digitVal c with
    | none => simp [hd] at h
    | some d => rw [hd] at h; have := decFrom_mono r _ v h; omega

theorem digitVal_inv {c : UInt8} {d : Nat} (h : Lib.digitVal c = some d) : 48 ≤ c.toNat ∧ c.toNat ≤ 57 ∧ d = c.toNat - 48 := by
  unfold Lib.digitVal at h
  split at h
  · next hc => simp only [Option.some.injEq] at h; exact ⟨hc.1, hc.2, h.symm⟩
  · cases h

theorem parse_of : ∀ (l : List UInt8) (acc v : Nat), Lib.decFrom acc l = some v → v < 1000000000000000000 → Lib.parseUint10 acc l = .ok v
  | [], acc, v, h, _ => by simp only [Lib.decFrom, Option.some.injEq] at h; rw [h]; rfl
  | c :: r, acc, v, h, hv => by
    simp only [Lib.decFrom] at h
    cases hd : Lib.digitVal c with
    | none => simp [hd] at h
    | some d =>
      rw [hd] at h
      obtain ⟨h1, h2, rfl⟩ := digitVal_inv hd
      have hm := decFrom_mono r _ v h
      rw [Lib.parseUint10, if_pos ⟨h1, h2⟩, if_neg (by omega), if_neg (by omega)]
      exact parse_of r _ v h hv

/-- The first byte of a row of digits is no sign. -/
theorem digits_head (u : Nat) : ∃ c r, Lib.decDigits u = c :: r ∧ 48 ≤ c.toNat ∧ c.toNat ≤ 57 := by
  have h := decFrom_digits u
  have hne : Lib.decDigits u ≠ [] := by
    rw [Lib.decDigits]; split <;> simp
  cases hl : Lib.decDigits u with
  | nil => exact absurd hl hne
  | cons c r =>
    rw [hl] at h
    simp only [Lib.decFrom] at h
    cases hd : Lib.digitVal c with
    | none => simp [hd] at h
    | some d => obtain ⟨h1, h2, _⟩ := digitVal_inv hd; exact ⟨c, r, rfl, h1, h2⟩

theorem atoi_nat (u : Nat) (h : u < 1000000000000000000) : Lib.atoiAll (Lib.decDigits u) = .ok (u : Int) := by
  obtain ⟨c, r, hl, h1, h2⟩ := digits_head u
  have hp : Lib.parseUint10 0 (c :: r) = .ok u := parse_of _ 0 u (by rw [← hl]; exact decFrom_digits u) h
  have hm : Lib.parseMag (c :: r) = .ok u := by rw [Lib.parseMag, if_neg (by simp)]; exact hp
  have hs : ¬ (c.toNat = 43 ∨ c.toNat = 45) := by omega
  have hs2 : ¬ c.toNat = 45 := by omega
  rw [hl, Lib.atoiAll]
  simp only [if_neg hs, hm]
  rw [if_neg (by omega), if_neg (by omega), if_neg hs2]
theorem atoi_neg (u : Nat) (h : u < 1000000000000000000) : Lib.atoiAll (45 :: Lib.decDigits u) = .ok (-(u : Int)) := by
  obtain ⟨c, r, hl, h1, h2⟩ := digits_head u
  have hp : Lib.parseUint10 0 (c :: r) = .ok u := parse_of _ 0 u (by rw [← hl]; exact decFrom_digits u) h
  have hm : Lib.parseMag (c :: r) = .ok u := by rw [Lib.parseMag, if_neg (by simp)]; exact hp
  have e45 : (45 : UInt8).toNat = 45 := rfl
  have hs : (45 : UInt8).toNat = 43 ∨ (45 : UInt8).toNat = 45 := .inr rfl
  rw [hl, Lib.atoiAll]
  simp only [if_pos hs, hm]
  rw [if_neg (by omega), if_neg (by omega), if_pos e45]
theorem atoi_itoa (n : Int) (h0 : -999999 ≤ n) (h1 : n ≤ 999999) : Lib.atoiAll (Lib.itoa n) = .ok n := by
  unfold Lib.itoa
  split
  · rw [atoi_neg n.natAbs (by omega)]; congr 1; omega
  · rw [atoi_nat n.toNat (by omega)]; congr 1; omega

/-- What mustDigits finds: the number from lo to hi of which l is the digits. -/
def must (lo hi : Int) (l : List UInt8) : Option Int :=
  match Lib.atoiAll l with
  | .ok v => if lo ≤ v ∧ v ≤ hi ∧ Lib.itoa v = l then some v else none
  | _ => none
theorem must_iff (lo hi : Int) (h0 : -999999 ≤ lo) (h1 : hi ≤ 999999) (l : List UInt8) (v : Int) : must lo hi l = some v ↔ lo ≤ v ∧ v ≤ hi ∧ Lib.itoa v = l := by
  unfold must
  constructor
  · intro h
    split at h
    · split at h
      · next hc => simp only [Option.some.injEq] at h; subst h; exact hc
      · cases h
    · cases h
  · rintro ⟨a, b, rfl⟩
    rw [atoi_itoa v (by omega) (by omega)]
    simp [a, b]

/-- What the specification's Number finds. -/
def numSpec (l : List UInt8) : Option Int :=
  if 1 ≤ l.length ∧ l.length ≤ 6 then
    match Lib.decFrom 0 l with
    | some v => if Lib.itoa v = l then some (v : Int) else none
    | none => none
  else none
theorem decFrom_lt : ∀ (l : List UInt8) (acc v : Nat), Lib.decFrom acc l = some v → v < (acc + 1) * 10 ^ l.length
  | [], acc, v, h => by simp only [Lib.decFrom, Option.some.injEq] at h; simp; omega
  | c :: r, acc, v, h => by
    simp only [Lib.decFrom] at h
    cases hd : Lib.digitVal c with
    | none => simp [hd] at h
    | some d =>
      rw [hd] at h
      obtain ⟨h1, h2, rfl⟩ := digitVal_inv hd
      have := decFrom_lt r _ v h
      rw [List.length_cons, Nat.pow_succ]
      have hle : (acc * 10 + (c.toNat - 48) + 1) * 10 ^ r.length ≤ ((acc + 1) * 10) * 10 ^ r.length := Nat.mul_le_mul_right _ (by omega)
      rw [Nat.mul_comm (10 ^ r.length) 10, ← Nat.mul_assoc]
      omega
theorem numSpec_iff (l : List UInt8) (v : Int) : numSpec l = some v ↔ 0 ≤ v ∧ v ≤ 999999 ∧ Lib.itoa v = l := by
  unfold numSpec
  constructor
  · intro h
    split at h
    · next hl =>
      split at h
      · next u hu =>
        split at h
        · next hi =>
          simp only [Option.some.injEq] at h
          subst h
          have h2 := decFrom_lt l 0 u hu
          have h3 : 10 ^ l.length ≤ 10 ^ 6 := Nat.pow_le_pow_right (by decide) hl.2
          refine ⟨by omega, ?_, hi⟩
          simp only [Nat.zero_add, Nat.one_mul] at h2
          omega
        · cases h
      · cases h
    · cases h
  · rintro ⟨a, b, rfl⟩
    obtain ⟨u, rfl⟩ := Int.eq_ofNat_of_zero_le a
    have e : Lib.itoa (u : Int) = Lib.decDigits u := by rw [Lib.itoa, if_neg (by omega)]; simp
    rw [e, if_pos (digits_len 5 u (by omega)), decFrom_digits]
    simp [e]
theorem number_one (l : List UInt8) : numSpec l = must 0 999999 l := by
  apply Option.ext
  intro v
  rw [numSpec_iff, must_iff 0 999999 (by decide) (by decide)]

/-- What the specification's Signed finds. -/
def sigSpec (l : List UInt8) : Option Int :=
  if 1 ≤ l.length ∧ l.length ≤ 5 then
    if l.head? = some 45 then
      match numSpec l.tail with
      | some v => if 1 ≤ v ∧ v ≤ 9999 then some (0 - v) else none
      | none => none
    else
      match numSpec l with
      | some v => if v ≤ 9999 then some v else none
      | none => none
  else none
theorem itoa_neg (u : Nat) (h : 0 < u) : Lib.itoa (-(u : Int)) = 45 :: Lib.decDigits u := by rw [Lib.itoa, if_pos (by omega)]; simp
theorem itoa_nat (u : Nat) : Lib.itoa (u : Int) = Lib.decDigits u := by rw [Lib.itoa, if_neg (by omega)]; simp
theorem sigSpec_iff (l : List UInt8) (v : Int) : sigSpec l = some v ↔ -9999 ≤ v ∧ v ≤ 9999 ∧ Lib.itoa v = l := by
  unfold sigSpec
  constructor
  · intro h
    split at h
    · split at h
      · next hh =>
        split at h
        · next x hx =>
          split at h
          · next hc =>
            simp only [Option.some.injEq] at h
            subst h
            obtain ⟨a, b, c⟩ := (numSpec_iff _ _).1 hx
            obtain ⟨u, rfl⟩ := Int.eq_ofNat_of_zero_le a
            refine ⟨by omega, by omega, ?_⟩
            rw [show (0 : Int) - (u : Int) = -(u : Int) by omega, itoa_neg u (by omega), ← itoa_nat, c]
            cases l with
            | nil => simp at hh
            | cons y r => simp only [List.head?_cons, Option.some.injEq] at hh; subst hh; rfl
          · cases h
        · cases h
      · split at h
        · next x hx =>
          split at h
          · next hc =>
            simp only [Option.some.injEq] at h
            subst h
            obtain ⟨a, b, c⟩ := (numSpec_iff _ _).1 hx
            exact ⟨by omega, hc, c⟩
          · cases h
        · cases h
    · cases h
  · rintro ⟨a, b, rfl⟩
    by_cases hn : v < 0
    · obtain ⟨u, rfl⟩ : ∃ u : Nat, v = -(u : Int) := ⟨v.natAbs, by omega⟩
      have hx : numSpec (Lib.decDigits u) = some (u : Int) := (numSpec_iff _ _).2 ⟨by omega, by omega, itoa_nat u⟩
      have hl := digits_len 3 u (by omega)
      rw [itoa_neg u (by omega), if_pos (by simp; omega)]
      simp only [List.head?_cons, if_true, List.tail_cons, hx]
      rw [if_pos (by omega)]
      congr 1; omega
    · obtain ⟨u, rfl⟩ := Int.eq_ofNat_of_zero_le (show 0 ≤ v by omega)
      have hx : numSpec (Lib.decDigits u) = some (u : Int) := (numSpec_iff _ _).2 ⟨by omega, by omega, itoa_nat u⟩
      have hl := digits_len 3 u (by omega)
      obtain ⟨c, r, hcr, h1, h2⟩ := digits_head u
      rw [itoa_nat u, if_pos (by omega)]
      have hh : ¬ (Lib.decDigits u).head? = some 45 := by
        rw [hcr]
        simp only [List.head?_cons, Option.some.injEq]
        intro e; subst e
        have : (45 : UInt8).toNat = 45 := rfl
        omega
      rw [if_neg hh, hx]
      simp only
      rw [if_pos (by omega)]
theorem signed_one (l : List UInt8) : sigSpec l = must (-9999) 9999 l := by
  apply Option.ext
  intro v
  rw [sigSpec_iff, must_iff (-9999) 9999 (by decide) (by decide)]
end Go.Proofs.YtfflodcapcamcabDoor
/- An attribute that is right: which kind it is, how long its texts are. -/
namespace Go.Proofs.YtfflodcapcamcabDoor
open Go.RowKit
set_option maxRecDepth 100000

/-- Texts with another one between. -/
def joinT (ss : List ByteArray) (sep : ByteArray) : ByteArray := ⟨(Lib.join (ss.map (·.data.toList)) sep.data.toList).toArray⟩
def itB (n : Int) : ByteArray := ⟨(Lib.itoa n).toArray⟩
theorem joinT_nil (sep : ByteArray) : joinT [] sep = ⟨#[]⟩ := rfl
theorem bytes_ext {a b : ByteArray} (h : a.data.toList = b.data.toList) : a = b := ByteArray.ext (Array.toList_inj.1 h)
theorem join_snoc (xs : List (List UInt8)) (x sep : List UInt8) (h : xs ≠ []) : Lib.join (xs ++ [x]) sep = Lib.join xs sep ++ sep ++ x := by
  cases xs with
  | nil => exact absurd rfl h
  | cons y r =>
    rw [List.cons_append, Lib.join_cons, Lib.join_cons]
    simp [Lib.joinTail, List.append_assoc]
theorem joinT_one (x sep : ByteArray) : joinT [x] sep = x := by
  apply bytes_ext
  simp [joinT, Lib.join_one]
theorem joinT_snoc {ss : List ByteArray} {k : Nat} (hk : k < ss.length) (h : 0 < k) (sep : ByteArray) : joinT (ss.take (k + 1)) sep = joinT (ss.take k) sep ++ sep ++ tx ss k := by
  apply bytes_ext
  have e : ss.take (k + 1) = ss.take k ++ [tx ss k] := by rw [List.take_succ_eq_append_getElem hk, tx_eq hk]
  rw [e]
  simp only [joinT, List.map_append, List.map_cons, List.map_nil]
  rw [join_snoc _ _ _ (by simp; exact ⟨by omega, fun e => by simp [e] at hk⟩)]
  simp [ByteArray.data_append]
theorem joinT_zero {ss : List ByteArray} (hk : 0 < ss.length) (sep : ByteArray) : joinT (ss.take 1) sep = tx ss 0 := by
  cases ss with
  | nil => simp at hk
  | cons x r => rw [List.take_succ_cons, List.take_zero, joinT_one]; rfl
theorem joinT_size (ss : List ByteArray) (sep : ByteArray) (m : Nat) (h : ∀ s ∈ ss, s.size ≤ m) : (joinT ss sep).size ≤ ss.length * (m + sep.size) := by
  have h1 : (joinT ss sep).size = (Lib.join (ss.map (·.data.toList)) sep.data.toList).length := by simp [joinT, ByteArray.size]
  rw [h1]
  cases ss with
  | nil => simp [Lib.join_nil]
  | cons x r =>
    rw [List.map_cons, Lib.join_length]
    have h2 : ∀ (l : List ByteArray), (∀ s ∈ l, s.size ≤ m) → Lib.lens (l.map (·.data.toList)) ≤ l.length * m := by
      intro l
      induction l with
      | nil => simp [Lib.lens]
      | cons y l ih =>
        intro hl
        have h3 := ih fun s hs => hl s (List.mem_cons_of_mem _ hs)
        have h4 : y.data.toList.length ≤ m := by have := hl y List.mem_cons_self; simpa using this
        have h5 : Lib.lens (List.map (·.data.toList) (y :: l)) = y.data.toList.length + Lib.lens (l.map (·.data.toList)) := by simp [Lib.lens]
        rw [h5, List.length_cons, Nat.succ_mul]
        omega
    have h6 := h2 (x :: r) h
    rw [List.map_cons] at h6
    have h7 : sep.data.toList.length = sep.size := by simp
    rw [h7, List.length_map, List.length_cons]
    rw [List.length_cons] at h6
    rw [Nat.mul_add, Nat.mul_comm sep.size]
    have : r.length * sep.size ≤ (r.length + 1) * sep.size := Nat.mul_le_mul_right _ (by omega)
    omega
theorem joinT_take {ss : List ByteArray} (sep : ByteArray) : ∀ {k j : Nat}, k ≤ j → j ≤ ss.length → (joinT (ss.take k) sep).size ≤ (joinT (ss.take j) sep).size := by
  intro k j hkj hj
  induction j with
  | zero => obtain rfl : k = 0 := by omega
            exact Nat.le_refl _
  | succ j ih =>
    by_cases e : k = j + 1
    · rw [e]; exact Nat.le_refl _
    · refine Nat.le_trans (ih (by omega) (by omega)) ?_
      by_cases h0 : 0 < j
      · rw [joinT_snoc (by omega) h0]; simp [ByteArray.size_append]; omega
      · obtain rfl : j = 0 := by omega
        exact Nat.zero_le _
theorem joinT_part {ss : List ByteArray} {k : Nat} (sep : ByteArray) (hk : k < ss.length) (h : 0 < k) : (joinT (ss.take k) sep).size + sep.size + (tx ss k).size ≤ (joinT ss sep).size := by
  have h1 := joinT_take (ss := ss) sep (k := k + 1) (j := ss.length) (by omega) (Nat.le_refl _)
  rw [joinT_snoc hk h, List.take_length] at h1
  simpa [ByteArray.size_append] using h1
theorem joinT_first {ss : List ByteArray} (sep : ByteArray) (hk : 0 < ss.length) : (tx ss 0).size ≤ (joinT ss sep).size := by
  have h1 := joinT_take (ss := ss) sep (k := 1) (j := ss.length) (by omega) (Nat.le_refl _)
  rwa [joinT_zero hk, List.take_length] at h1

/-- The text of an attribute. -/
def attrText (a : AttrD) : ByteArray :=
  if attrOk a = true then (if a.vals.length = 0 then a.name ++ ⟨#[58]⟩ ++ joinT (a.cuts.map itB) ⟨#[44]⟩ else a.name ++ ⟨#[61]⟩ ++ joinT a.vals ⟨#[44]⟩) else ⟨#[]⟩
theorem ok_name {a : AttrD} (h : attrOk a = true) : wordOk a.name = true := by
  unfold attrOk at h
  rw [Bool.and_eq_true] at h
  exact h.1
theorem ok_vals {a : AttrD} (h : attrOk a = true) (h0 : a.vals.length ≠ 0) : a.cuts.length = 0 ∧ 2 ≤ a.vals.length ∧ a.vals.length ≤ 4 ∧ wordsOk a.vals = true := by
  have hc : a.cuts.length = 0 := by have := ok_kind h; omega
  unfold attrOk at h
  rw [Bool.and_eq_true, if_pos hc] at h
  have h2 := h.2
  unfold choices at h2
  rw [Bool.and_eq_true, decide_eq_true_eq] at h2
  exact ⟨hc, by omega, by omega, h2.2⟩
theorem ok_cuts {a : AttrD} (h : attrOk a = true) (h0 : a.vals.length = 0) : 1 ≤ a.cuts.length ∧ a.cuts.length ≤ 3 ∧ cutsRise a.cuts = true := by
  have hc : a.cuts.length ≠ 0 := by have := ok_kind h; omega
  unfold attrOk at h
  rw [Bool.and_eq_true, if_neg hc, Bool.and_eq_true, Bool.and_eq_true, decide_eq_true_eq, decide_eq_true_eq] at h
  exact ⟨by omega, h.2.2.1, h.2.2.2⟩
theorem rise_all {cs : List Int} (h : cutsRise cs = true) {k : Nat} (hk : k < cs.length) : -9999 ≤ cs.getD k 0 ∧ cs.getD k 0 ≤ 9998 := by
  unfold cutsRise at h
  rw [List.all_eq_true] at h
  have := h k (List.mem_range.2 hk)
  unfold cutAt at this
  rw [Bool.and_eq_true, decide_eq_true_eq] at this
  exact this.1
theorem itB_size {n : Int} (h0 : -9999 ≤ n) (h1 : n ≤ 9999) : (itB n).size ≤ 5 := by
  have e : (itB n).size = (Lib.itoa n).length := by simp [itB, ByteArray.size]
  rw [e, Lib.itoa]
  have h2 := digits_len 3 n.natAbs (by omega)
  have h3 := digits_len 3 n.toNat (by omega)
  split
  · simp only [List.length_cons]; omega
  · omega
end Go.Proofs.YtfflodcapcamcabDoor
/- The text of a question, in plain words. -/
namespace Go.Proofs.YtfflodcapcamcabDoor
open Go.RowKit
set_option maxRecDepth 100000
def forkText (s : SchemaD) (f : ForkD) : ByteArray :=
  if forkOk s f = true then
    (if f.pos = -1 then (forkAttr s f).name ++ ⟨#[42]⟩ else if 0 < (forkAttr s f).cuts.length then (forkAttr s f).name ++ ⟨#[60, 61]⟩ ++ itB ((forkAttr s f).cuts.getD f.pos.toNat 0) else (forkAttr s f).name ++ ⟨#[61]⟩ ++ tx (forkAttr s f).vals f.pos.toNat)
  else ⟨#[]⟩
theorem text_no {s : SchemaD} {f : ForkD} (h : forkOk s f = false) : forkText s f = ⟨#[]⟩ := by unfold forkText; rw [if_neg (by rw [h]; exact Bool.false_ne_true)]
theorem text_each {s : SchemaD} {f : ForkD} {k : Nat} (h : forkOk s f = true) (hk : forkAttr s f = ad s.attrs k) (hp : f.pos = -1) : forkText s f = (ad s.attrs k).name ++ ⟨#[42]⟩ := by unfold forkText; rw [if_pos h, if_pos hp, hk]
theorem text_most {s : SchemaD} {f : ForkD} {k : Nat} (h : forkOk s f = true) (hk : forkAttr s f = ad s.attrs k) (hp : f.pos ≠ -1) (hc : 0 < (ad s.attrs k).cuts.length) : forkText s f = (ad s.attrs k).name ++ ⟨#[60, 61]⟩ ++ itB ((ad s.attrs k).cuts.getD f.pos.toNat 0) := by unfold forkText; rw [if_pos h, if_neg hp, hk, if_pos hc]
theorem text_just {s : SchemaD} {f : ForkD} {k : Nat} (h : forkOk s f = true) (hk : forkAttr s f = ad s.attrs k) (hp : f.pos ≠ -1) (hc : ¬ 0 < (ad s.attrs k).cuts.length) : forkText s f = (ad s.attrs k).name ++ ⟨#[61]⟩ ++ tx (ad s.attrs k).vals f.pos.toNat := by unfold forkText; rw [if_pos h, if_neg hp, hk, if_neg hc]
/-- Where a question stands among the cuts or the values of its attribute. -/
theorem pos_place {s : SchemaD} {f : ForkD} {k : Nat} (h : forkOk s f = true) (hk : forkAttr s f = ad s.attrs k) (hp : f.pos ≠ -1) : ∃ p : Nat, f.pos = (p : Int) ∧ p < wayN (ad s.attrs k) ∧ attrOk (ad s.attrs k) = true := by
  obtain ⟨h1, ⟨k', h2, h3, h4⟩, h5, h6⟩ := fork_parts h
  have hok : attrOk (ad s.attrs k) = true := by rw [← hk, h4]; exact sch_attr h1 h3
  rw [top_eq (by rw [hk]; exact hok), hk] at h6
  obtain ⟨p, hp2⟩ := Int.eq_ofNat_of_zero_le (show 0 ≤ f.pos by omega)
  exact ⟨p, hp2, by omega, hok⟩
end Go.Proofs.YtfflodcapcamcabDoor
