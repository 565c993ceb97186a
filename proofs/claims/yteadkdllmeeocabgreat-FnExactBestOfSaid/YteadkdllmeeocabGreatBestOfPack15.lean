/- Texts of this claim, put together: part 15. -/
import Derived.Test.YteadkdllmeeocabGreatBestOfPack10
import Derived.Test.YteadkdllmeeocabGreatBestOfPack2
import Derived.Test.YteadkdllmeeocabGreatBestOfPack3
import Derived.Lib.ItoaNum
import Derived.Lib.Atoi
import Derived.Lib.AtoiAll
import Derived.Test.YteadkdllmeeocabGreatBestOfPack7
import Derived.Lib.Join
/- Lists of questions, in plain words and in memory. -/
namespace Go.Proofs.YteadkdllmeeocabGreat
open Go.RowKit
set_option maxRecDepth 100000
/-- The cells of a list of questions. -/
def fkC : List ForkD → List Value
  | [] => []
  | f :: r => .int .i64 f.attr :: .int .i64 f.pos :: fkC r
theorem fkC_snoc (f : ForkD) : ∀ fs : List ForkD, fkC (fs ++ [f]) = fkC fs ++ [.int .i64 f.attr, .int .i64 f.pos]
  | [] => rfl
  | g :: r => by show _ :: _ :: fkC (r ++ [f]) = _; rw [fkC_snoc f r]; rfl
def fk (fs : List ForkD) (k : Nat) : ForkD := fs.getD k ⟨0, 0⟩
theorem fkC_len : ∀ fs : List ForkD, (fkC fs).length = fs.length * 2
  | [] => rfl
  | f :: r => by show (fkC r).length + 1 + 1 = _; rw [fkC_len r, List.length_cons]; omega
theorem fkC_at : ∀ (fs : List ForkD) (k : Nat), k < fs.length → (fkC fs)[k * 2]? = some (.int .i64 (fk fs k).attr) ∧ (fkC fs)[k * 2 + 1]? = some (.int .i64 (fk fs k).pos)
  | [], k, h => by simp at h
  | f :: r, 0, _ => ⟨rfl, rfl⟩
  | f :: r, k + 1, h => by
    have h2 := fkC_at r k (by simpa using h)
    rw [show (k + 1) * 2 = k * 2 + 1 + 1 by omega]
    exact h2
def OwnF (w w' : World) (v : Value) (fs : List ForkD) : Prop := w'.ownsRow w.heap.size 33 2 v fs.length (fkC fs) ∧ Below w.heap.size w w'
theorem forkInfo : (Tryz.prog.info? 33).map (fun i => (i.zero, i.size, i.bytes)) = some (some (.agg #[.int .i64 0, .int .i64 0]), 2, 16) := by kernel_rfl
theorem newcF2 (w : World) (a b : Value) (t : TypeId) : ∀ (j : Nat) (u : Value), ([a, b] : List Value)[j]? = some u → (w.alloc (.cells #[a, b] t)).cell? ((⟨w.heap.size, 0, none⟩ : Addr).add j) = some u := by
  intro j u hj
  have e : (⟨w.heap.size, 0, none⟩ : Addr).add j = ⟨w.heap.size, j, none⟩ := by cases j <;> simp [Addr.add]
  rw [e, (Blk.new t w #[a, b]).cell j]
  simpa using hj
theorem one2 (a b : Int) : ∀ u ∈ [Value.int .i64 a, Value.int .i64 b], u.oneCell' = true := by
  intro u hu
  simp only [List.mem_cons, List.not_mem_nil, or_false] at hu
  rcases hu with rfl | rfl <;> rfl
/-- The candidates of the first k attributes. -/
def candTo (s : SchemaD) (two : Bool) (l : List Int) (k : Nat) : List ForkD := (l.take k).flatMap (candOf s two)
theorem candTo_succ {s : SchemaD} {two : Bool} {l : List Int} {k : Nat} (h : k < l.length) : candTo s two l (k + 1) = candTo s two l k ++ candOf s two (l.getD k 0) := by
  unfold candTo
  rw [List.take_succ_eq_append_getElem h, List.flatMap_append, List.flatMap_singleton, List.getD_eq_getElem?_getD, List.getElem?_eq_getElem h]; rfl
theorem candTo_all (s : SchemaD) (two : Bool) (l : List Int) : candTo s two l l.length = l.flatMap (candOf s two) := by unfold candTo; rw [List.take_length]
def wayF (a : Int) (p : Nat) : List ForkD := (List.range p).map fun q : Nat => (⟨a, (q : Int)⟩ : ForkD)
theorem wayF_succ (a : Int) (p : Nat) : wayF a (p + 1) = wayF a p ++ [⟨a, (p : Int)⟩] := by unfold wayF; rw [List.range_succ, List.map_append]; rfl
theorem wayF_len (a : Int) (p : Nat) : (wayF a p).length = p := by simp [wayF]
theorem cand_one {s : SchemaD} {two : Bool} {a : Nat} (h : (ad s.attrs a).cuts.length = 0) (ht : two = false) : candOf s two (a : Int) = [⟨a, -1⟩] := by unfold candOf; exact if_pos ⟨h, ht⟩
theorem cand_ways {s : SchemaD} {two : Bool} {a : Nat} (h : ¬ ((ad s.attrs a).cuts.length = 0 ∧ two = false)) : candOf s two (a : Int) = wayF a (wayN (ad s.attrs a)) := by unfold candOf; exact if_neg h
theorem wayN_le {a : AttrD} (h : attrOk a = true) : wayN a ≤ 4 := by
  have h1 := wayN_eq h
  have h2 := small_bins a
  split at h1 <;> omega
theorem places_parts {s : SchemaD} {l : List Int} (h : placesOk s l = true) : schemaOk s = true ∧ ∀ k, k < l.length → ∃ a : Nat, l.getD k 0 = (a : Int) ∧ a < s.attrs.length := by
  unfold placesOk at h
  rw [Bool.and_eq_true, Bool.and_eq_true] at h
  refine ⟨h.1, fun k hk => ?_⟩
  have h2 := asc_at h.2.2 hk
  obtain ⟨a, ha⟩ := Int.eq_ofNat_of_zero_le h2.1
  exact ⟨a, ha, by omega⟩
theorem candOf_len {s : SchemaD} (two : Bool) (a : Int) (h : okSch s) : (candOf s two a).length ≤ 1099511627776 := by
  unfold candOf
  split
  · simp
  · rw [List.length_map, List.length_range]
    unfold wayN
    by_cases ha : a.toNat < s.attrs.length
    · have h1 := h.each _ (ad_mem ha)
      have h2 := h1.cuts
      have h3 := h1.vals.1
      split <;> omega
    · have e : ad s.attrs a.toNat = ⟨ByteArray.empty, [], []⟩ := by unfold ad; rw [List.getD_eq_getElem?_getD, List.getElem?_eq_none (by omega)]; rfl
      rw [e]; simp
theorem places_len {s : SchemaD} {l : List Int} (h : placesOk s l = true) : l.length ≤ 5 := by
  obtain ⟨h1, h2⟩ := places_parts h
  have h5 : s.attrs.length ≤ 5 := by
    unfold schemaOk at h1
    rw [Bool.and_eq_true, decide_eq_true_eq] at h1
    exact h1.1.2
  unfold placesOk at h
  rw [Bool.and_eq_true, Bool.and_eq_true] at h
  have h3 := h.2.2
  have hk : ∀ k, k < l.length → (k : Int) ≤ l.getD k 0 := by
    intro k
    induction k with
    | zero => intro hk; exact (asc_at h3 hk).1
    | succ k ih =>
      intro hk
      have h4 := ih (by omega)
      have h6 : ascAt 0 ((s.attrs.length : Int) - 1) l (k + 1) = true := by
        unfold ascIn at h3
        rw [List.all_eq_true] at h3
        exact h3 _ (List.mem_range.2 hk)
      unfold ascAt at h6
      rw [Bool.and_eq_true, Bool.or_eq_true] at h6
      rcases h6.2 with h7 | h7
      · have := of_decide_eq_true h7; omega
      · have := of_decide_eq_true h7
        rw [Nat.add_sub_cancel] at this
        omega
  rcases Nat.lt_or_ge l.length 6 with h8 | h8
  · omega
  · have h9 := hk 5 (by omega)
    have h10 := (asc_at h3 (show 5 < l.length by omega)).2
    omega
theorem candidates_len {s : SchemaD} {l : List Int} (two : Bool) : (candidates s l two).length ≤ 1099511627776 := by
  unfold candidates
  split
  · rename_i h
    obtain ⟨h1, h2⟩ := places_parts h
    have h3 := places_len h
    rw [List.length_flatMap]
    have h4 : ∀ x ∈ l.map (fun a => (candOf s two a).length), x ≤ 4 := by
      intro x hx
      obtain ⟨a, ha, rfl⟩ := List.mem_map.1 hx
      obtain ⟨j, hj, rfl⟩ := List.getElem_of_mem ha
      obtain ⟨b, hb, hb2⟩ := h2 j hj
      rw [List.getD_eq_getElem?_getD, List.getElem?_eq_getElem hj] at hb
      simp only [Option.getD_some] at hb
      rw [hb]
      have h5 := wayN_le (sch_attr h1 hb2)
      unfold candOf
      split
      · simp
      · rw [List.length_map, List.length_range]; exact h5
    have h6 : ∀ (xs : List Nat), (∀ x ∈ xs, x ≤ 4) → xs.sum ≤ 4 * xs.length := by
      intro xs
      induction xs with
      | nil => intro _; simp
      | cons y r ih =>
        intro hx
        have := ih fun x h => hx x (List.mem_cons_of_mem _ h)
        have := hx y List.mem_cons_self
        rw [List.sum_cons, List.length_cons]; omega
    have h7 := h6 _ h4
    rw [List.length_map] at h7
    omega
  · simp
end Go.Proofs.YteadkdllmeeocabGreat
/- Which number a text is the digits of: plain facts on lists of bytes. -/
namespace Go.Proofs.YteadkdllmeeocabGreat

theorem dig_byte (d : Nat) (h : d < 10) : (UInt8.ofNat (48 + d)).toNat = 48 + d := by
  rw [UInt8.toNat_ofNat']; omega
theorem dig_val (d : Nat) (h : d < 10) : Lib.digitVal (UInt8.ofNat (48 + d)) = some d := by
  unfold Lib.digitVal
  rw [dig_byte d h, if_pos (by omega)]
  congr 1; omega

theorem decFrom_append (a b : List UInt8) : ∀ acc, Lib.decFrom acc (a ++ b) = (Lib.decFrom acc a).bind fun n => Lib.decFrom n b := by
  induction a with
  | nil => intro acc; rfl
  | cons c r ih =>
    intro acc
    simp only [List.cons_append, Lib.decFrom]
    cases Lib.digitVal c with
    | none => rfl
    | some d => exact ih _

theorem decFrom_digits (u : Nat) : Lib.decFrom 0 (Lib.decDigits u) = some u := by
  induction u using Nat.strongRecOn with
  | _ u ih =>
    rw [Lib.decDigits]
    by_cases h : u < 10
    · rw [dif_pos h]; simp only [Lib.decFrom, dig_val u h]; congr 1; omega
    · rw [dif_neg h, decFrom_append, ih (u / 10) (by omega)]
      simp only [Option.bind_some, Lib.decFrom, dig_val (u % 10) (by omega)]
      congr 1; omega

theorem digits_len (k : Nat) : ∀ u, u < 10 ^ (k + 1) → 1 ≤ (Lib.decDigits u).length ∧ (Lib.decDigits u).length ≤ k + 1 := by
  induction k with
  | zero => intro u h; rw [Lib.decDigits, dif_pos (by simpa using h)]; simp
  | succ k ih =>
    intro u h
    rw [Lib.decDigits]
    by_cases h10 : u < 10
    · rw [dif_pos h10]; simp
    · rw [dif_neg h10]
      have := ih (u / 10) (by rw [Nat.pow_succ] at h; omega)
      simp; omega

theorem decFrom_mono : ∀ (l : List UInt8) (acc v : Nat), Lib.decFrom acc l = some v → acc ≤ v
  | [], acc, v, h => by simp only [Lib.decFrom, Option.some.injEq] at h; omega
  | c :: r, acc, v, h => by
    simp only [Lib.decFrom] at h
    cases hd : Lib.digitVal c with
    | none => simp [hd] at h
    | some d => rw [hd] at h; have := decFrom_mono r _ v h; omega

theorem digitVal_inv {c : UInt8} {d : Nat} (h : Lib.digitVal c = some d) : 48 ≤ c.toNat ∧ c.toNat ≤ 57 ∧ d = c.toNat - 48 := by
  unfold Lib.digitVal at h
  split at h
  · next hc => simp only [Option.some.injEq] at h; exact ⟨hc.1, hc.2, h.symm⟩
  · cases h

theorem parse_of : ∀ (l : List UInt8) (acc v : Nat), Lib.decFrom acc l = some v → v < 1000000000000000000 → Lib.parseUint10 acc l = .ok v
  | [], acc, v, h, _ => by simp only [Lib.decFrom, Option.some.injEq] at h; rw [h]; rfl
  | c :: r, acc, v, h, hv => by
    simp only [Lib.decFrom] at h
    cases hd : Lib.digitVal c with
    | none => simp [hd] at h
    | some d =>
      rw [hd] at h
      obtain ⟨h1, h2, rfl⟩ := digitVal_inv hd
      have hm := decFrom_mono r _ v h
      rw [Lib.parseUint10, if_pos ⟨h1, h2⟩, if_neg (by omega), if_neg (by omega)]
      exact parse_of r _ v h hv

/-- The first byte of a row of digits is no sign. -/
theorem digits_head (u : Nat) : ∃ c r, Lib.decDigits u = c :: r ∧ 48 ≤ c.toNat ∧ c.toNat ≤ 57 := by
  have h := decFrom_digits u
  have hne : Lib.decDigits u ≠ [] := by
    rw [Lib.decDigits]; split <;> simp
  cases hl : Lib.decDigits u with
  | nil => exact absurd hl hne
  | cons c r =>
    rw [hl] at h
    simp only [Lib.decFrom] at h
    cases hd : Lib.digitVal c with
    | none => simp [hd] at h
    | some d => obtain ⟨h1, h2, _⟩ := digitVal_inv hd; exact ⟨c, r, rfl, h1, h2⟩

theorem atoi_nat (u : Nat) (h : u < 1000000000000000000) : Lib.atoiAll (Lib.decDigits u) = .ok (u : Int) := by
  obtain ⟨c, r, hl, h1, h2⟩ := digits_head u
  have hp : Lib.parseUint10 0 (c :: r) = .ok u := parse_of _ 0 u (by rw [← hl]; exact decFrom_digits u) h
  have hm : Lib.parseMag (c :: r) = .ok u := by rw [Lib.parseMag, if_neg (by simp)]; exact hp
  have hs : ¬ (c.toNat = 43 ∨ c.toNat = 45) := by omega
  have hs2 : ¬ c.toNat = 45 := by omega
  rw [hl, Lib.atoiAll]
  simp only [if_neg hs, hm]
  rw [if_neg (by omega), if_neg (by omega), if_neg hs2]
theorem atoi_neg (u : Nat) (h : u < 1000000000000000000) : Lib.atoiAll (45 :: Lib.decDigits u) = .ok (-(u : Int)) := by
  obtain ⟨c, r, hl, h1, h2⟩ := digits_head u
  have hp : Lib.parseUint10 0 (c :: r) = .ok u := parse_of _ 0 u (by rw [← hl]; exact decFrom_digits u) h
  have hm : Lib.parseMag (c :: r) = .ok u := by rw [Lib.parseMag, if_neg (by simp)]; exact hp
  have e45 : (45 : UInt8).toNat = 45 := rfl
  have hs : (45 : UInt8).toNat = 43 ∨ (45 : UInt8).toNat = 45 := .inr rfl
  rw [hl, Lib.atoiAll]
  simp only [if_pos hs, hm]
  rw [if_neg (by omega), if_neg (by omega), if_pos e45]
theorem atoi_itoa (n : Int) (h0 : -999999 ≤ n) (h1 : n ≤ 999999) : Lib.atoiAll (Lib.itoa n) = .ok n := by
  unfold Lib.itoa
  split
  · rw [atoi_neg n.natAbs (by omega)]; congr 1; omega
  · rw [atoi_nat n.toNat (by omega)]; congr 1; omega

/-- What mustDigits finds: the number from lo to hi of which l is the digits. -/
def must (lo hi : Int) (l : List UInt8) : Option Int :=
  match Lib.atoiAll l with
  | .ok v => if lo ≤ v ∧ v ≤ hi ∧ Lib.itoa v = l then some v else none
  | _ => none
theorem must_iff (lo hi : Int) (h0 : -999999 ≤ lo) (h1 : hi ≤ 999999) (l : List UInt8) (v : Int) : must lo hi l = some v ↔ lo ≤ v ∧ v ≤ hi ∧ Lib.itoa v = l := by
  unfold must
  constructor
  · intro h
    split at h
    · split at h
      · next hc => simp only [Option.some.injEq] at h; subst h; exact hc
      · cases h
    · cases h
  · rintro ⟨a, b, rfl⟩
    rw [atoi_itoa v (by omega) (by omega)]
    simp [a, b]

/-- What the specification's Number finds. -/
def numSpec (l : List UInt8) : Option Int :=
  if 1 ≤ l.length ∧ l.length ≤ 6 then
    match Lib.decFrom 0 l with
    | some v => if Lib.itoa v = l then some (v : Int) else none
    | none => none
  else none
theorem decFrom_lt : ∀ (l : List UInt8) (acc v : Nat), Lib.decFrom acc l = some v → v < (acc + 1) * 10 ^ l.length
  | [], acc, v, h => by simp only [Lib.decFrom, Option.some.injEq] at h; simp; omega
  | c :: r, acc, v, h => by
    simp only [Lib.decFrom] at h
    cases hd : Lib.digitVal c with
    | none => simp [hd] at h
    | some d =>
      rw [hd] at h
      obtain ⟨h1, h2, rfl⟩ := digitVal_inv hd
      have := decFrom_lt r _ v h
      rw [List.length_cons, Nat.pow_succ]
      have hle : (acc * 10 + (c.toNat - 48) + 1) * 10 ^ r.length ≤ ((acc + 1) * 10) * 10 ^ r.length := Nat.mul_le_mul_right _ (by omega)
      rw [Nat.mul_comm (10 ^ r.length) 10, ← Nat.mul_assoc]
      omega
theorem numSpec_iff (l : List UInt8) (v : Int) : numSpec l = some v ↔ 0 ≤ v ∧ v ≤ 999999 ∧ Lib.itoa v = l := by
  unfold numSpec
  constructor
  · intro h
    split at h
    · next hl =>
      split at h
      · next u hu =>
        split at h
        · next hi =>
          simp only [Option.some.injEq] at h
          subst h
          have h2 := decFrom_lt l 0 u hu
          have h3 : 10 ^ l.length ≤ 10 ^ 6 := Nat.pow_le_pow_right (by decide) hl.2
          refine ⟨by omega, ?_, hi⟩
          simp only [Nat.zero_add, Nat.one_mul] at h2
          omega
        · cases h
      · cases h
    · cases h
  · rintro ⟨a, b, rfl⟩
    obtain ⟨u, rfl⟩ := Int.eq_ofNat_of_zero_le a
    have e : Lib.itoa (u : Int) = Lib.decDigits u := by rw [Lib.itoa, if_neg (by omega)]; simp
    rw [e, if_pos (digits_len 5 u (by omega)), decFrom_digits]
    simp [e]
theorem number_one (l : List UInt8) : numSpec l = must 0 999999 l := by
  apply Option.ext
  intro v
  rw [numSpec_iff, must_iff 0 999999 (by decide) (by decide)]

/-- What the specification's Signed finds. -/
def sigSpec (l : List UInt8) : Option Int :=
  if 1 ≤ l.length ∧ l.length ≤ 5 then
    if l.head? = some 45 then
      match numSpec l.tail with
      | some v => if 1 ≤ v ∧ v ≤ 9999 then some (0 - v) else none
      | none => none
    else
      match numSpec l with
      | some v => if v ≤ 9999 then some v else none
      | none => none
  else none
theorem itoa_neg (u : Nat) (h : 0 < u) : Lib.itoa (-(u : Int)) = 45 :: Lib.decDigits u := by rw [Lib.itoa, if_pos (by omega)]; simp
theorem itoa_nat (u : Nat) : Lib.itoa (u : Int) = Lib.decDigits u := by rw [Lib.itoa, if_neg (by omega)]; simp
theorem sigSpec_iff (l : List UInt8) (v : Int) : sigSpec l = some v ↔ -9999 ≤ v ∧ v ≤ 9999 ∧ Lib.itoa v = l := by
  unfold sigSpec
  constructor
  · intro h
    split at h
    · split at h
      · next hh =>
        split at h
        · next x hx =>
          split at h
          · next hc =>
            simp only [Option.some.injEq] at h
            subst h
            obtain ⟨a, b, c⟩ := (numSpec_iff _ _).1 hx
            obtain ⟨u, rfl⟩ := Int.eq_ofNat_of_zero_le a
            refine ⟨by omega, by omega, ?_⟩
            rw [show (0 : Int) - (u : Int) = -(u : Int) by omega, itoa_neg u (by omega), ← itoa_nat, c]
            cases l with
            | nil => simp at hh
            | cons y r => simp only [List.head?_cons, Option.some.injEq] at hh; subst hh; rfl
          · cases h
        · cases h
      · split at h
        · next x hx =>
          split at h
          · next hc =>
            simp only [Option.some.injEq] at h
            subst h
            obtain ⟨a, b, c⟩ := (numSpec_iff _ _).1 hx
            exact ⟨by omega, hc, c⟩
          · cases h
        · cases h
    · cases h
  · rintro ⟨a, b, rfl⟩
    by_cases hn : v < 0
    · obtain ⟨u, rfl⟩ : ∃ u : Nat, v = -(u : Int) := ⟨v.natAbs, by omega⟩
      have hx : numSpec (Lib.decDigits u) = some (u : Int) := (numSpec_iff _ _).2 ⟨by omega, by omega, itoa_nat u⟩
      have hl := digits_len 3 u (by omega)
      rw [itoa_neg u (by omega), if_pos (by simp; omega)]
      simp only [List.head?_cons, if_true, List.tail_cons, hx]
      rw [if_pos (by omega)]
      congr 1; omega
    · obtain ⟨u, rfl⟩ := Int.eq_ofNat_of_zero_le (show 0 ≤ v by omega)
      have hx : numSpec (Lib.decDigits u) = some (u : Int) := (numSpec_iff _ _).2 ⟨by omega, by omega, itoa_nat u⟩
      have hl := digits_len 3 u (by omega)
      obtain ⟨c, r, hcr, h1, h2⟩ := digits_head u
      rw [itoa_nat u, if_pos (by omega)]
      have hh : ¬ (Lib.decDigits u).head? = some 45 := by
        rw [hcr]
        simp only [List.head?_cons, Option.some.injEq]
        intro e; subst e
        have : (45 : UInt8).toNat = 45 := rfl
        omega
      rw [if_neg hh, hx]
      simp only
      rw [if_pos (by omega)]
theorem signed_one (l : List UInt8) : sigSpec l = must (-9999) 9999 l := by
  apply Option.ext
  intro v
  rw [sigSpec_iff, must_iff (-9999) 9999 (by decide) (by decide)]
end Go.Proofs.YteadkdllmeeocabGreat
/- An attribute that is right: which kind it is, how long its texts are. -/
namespace Go.Proofs.YteadkdllmeeocabGreat
open Go.RowKit
set_option maxRecDepth 100000

/-- Texts with another one between. -/
def joinT (ss : List ByteArray) (sep : ByteArray) : ByteArray := ⟨(Lib.join (ss.map (·.data.toList)) sep.data.toList).toArray⟩
def itB (n : Int) : ByteArray := ⟨(Lib.itoa n).toArray⟩
theorem joinT_nil (sep : ByteArray) : joinT [] sep = ⟨#[]⟩ := rfl
theorem bytes_ext {a b : ByteArray} (h : a.data.toList = b.data.toList) : a = b := ByteArray.ext (Array.toList_inj.1 h)
theorem join_snoc (xs : List (List UInt8)) (x sep : List UInt8) (h : xs ≠ []) : Lib.join (xs ++ [x]) sep = Lib.join xs sep ++ sep ++ x := by
  cases xs with
  | nil => exact absurd rfl h
  | cons y r =>
    rw [List.cons_append, Lib.join_cons, Lib.join_cons]
    simp [Lib.joinTail, List.append_assoc]
theorem joinT_one (x sep : ByteArray) : joinT [x] sep = x := by
  apply bytes_ext
  simp [joinT, Lib.join_one]
theorem joinT_snoc {ss : List ByteArray} {k : Nat} (hk : k < ss.length) (h : 0 < k) (sep : ByteArray) : joinT (ss.take (k + 1)) sep = joinT (ss.take k) sep ++ sep ++ tx ss k := by
  apply bytes_ext
  have e : ss.take (k + 1) = ss.take k ++ [tx ss k] := by rw [List.take_succ_eq_append_getElem hk, tx_eq hk]
  rw [e]
  simp only [joinT, List.map_append, List.map_cons, List.map_nil]
  rw [join_snoc _ _ _ (by simp; exact ⟨by omega, fun e => by simp [e] at hk⟩)]
  simp [ByteArray.data_append]
theorem joinT_zero {ss : List ByteArray} (hk : 0 < ss.length) (sep : ByteArray) : joinT (ss.take 1) sep = tx ss 0 := by
  cases ss with
  | nil => simp at hk
  | cons x r => rw [List.take_succ_cons, List.take_zero, joinT_one]; rfl
theorem joinT_size (ss : List ByteArray) (sep : ByteArray) (m : Nat) (h : ∀ s ∈ ss, s.size ≤ m) : (joinT ss sep).size ≤ ss.length * (m + sep.size) := by
  have h1 : (joinT ss sep).size = (Lib.join (ss.map (·.data.toList)) sep.data.toList).length := by simp [joinT, ByteArray.size]
  rw [h1]
  cases ss with
  | nil => simp [Lib.join_nil]
  | cons x r =>
    rw [List.map_cons, Lib.join_length]
    have h2 : ∀ (l : List ByteArray), (∀ s ∈ l, s.size ≤ m) → Lib.lens (l.map (·.data.toList)) ≤ l.length * m := by
      intro l
      induction l with
      | nil => simp [Lib.lens]
      | cons y l ih =>
        intro hl
        have h3 := ih fun s hs => hl s (List.mem_cons_of_mem _ hs)
        have h4 : y.data.toList.length ≤ m := by have := hl y List.mem_cons_self; simpa using this
        have h5 : Lib.lens (List.map (·.data.toList) (y :: l)) = y.data.toList.length + Lib.lens (l.map (·.data.toList)) := by simp [Lib.lens]
        rw [h5, List.length_cons, Nat.succ_mul]
        omega
    have h6 := h2 (x :: r) h
    rw [List.map_cons] at h6
    have h7 : sep.data.toList.length = sep.size := by simp
    rw [h7, List.length_map, List.length_cons]
    rw [List.length_cons] at h6
    rw [Nat.mul_add, Nat.mul_comm sep.size]
    have : r.length * sep.size ≤ (r.length + 1) * sep.size := Nat.mul_le_mul_right _ (by omega)
    omega
theorem joinT_take {ss : List ByteArray} (sep : ByteArray) : ∀ {k j : Nat}, k ≤ j → j ≤ ss.length → (joinT (ss.take k) sep).size ≤ (joinT (ss.take j) sep).size := by
  intro k j hkj hj
  induction j with
  | zero => obtain rfl : k = 0 := by omega
            exact Nat.le_refl _
  | succ j ih =>
    by_cases e : k = j + 1
    · rw [e]; exact Nat.le_refl _
    · refine Nat.le_trans (ih (by omega) (by omega)) ?_
      by_cases h0 : 0 < j
      · rw [joinT_snoc (by omega) h0]; simp [ByteArray.size_append]; omega
      · obtain rfl : j = 0 := by omega
        exact Nat.zero_le _
theorem joinT_part {ss : List ByteArray} {k : Nat} (sep : ByteArray) (hk : k < ss.length) (h : 0 < k) : (joinT (ss.take k) sep).size + sep.size + (tx ss k).size ≤ (joinT ss sep).size := by
  have h1 := joinT_take (ss := ss) sep (k := k + 1) (j := ss.length) (by omega) (Nat.le_refl _)
  rw [joinT_snoc hk h, List.take_length] at h1
  simpa [ByteArray.size_append] using h1
theorem joinT_first {ss : List ByteArray} (sep : ByteArray) (hk : 0 < ss.length) : (tx ss 0).size ≤ (joinT ss sep).size := by
  have h1 := joinT_take (ss := ss) sep (k := 1) (j := ss.length) (by omega) (Nat.le_refl _)
  rwa [joinT_zero hk, List.take_length] at h1

/-- The text of an attribute. -/
def attrText (a : AttrD) : ByteArray :=
  if attrOk a = true then (if a.vals.length = 0 then a.name ++ ⟨#[58]⟩ ++ joinT (a.cuts.map itB) ⟨#[44]⟩ else a.name ++ ⟨#[61]⟩ ++ joinT a.vals ⟨#[44]⟩) else ⟨#[]⟩
theorem ok_name {a : AttrD} (h : attrOk a = true) : wordOk a.name = true := by
  unfold attrOk at h
  rw [Bool.and_eq_true] at h
  exact h.1
theorem ok_vals {a : AttrD} (h : attrOk a = true) (h0 : a.vals.length ≠ 0) : a.cuts.length = 0 ∧ 2 ≤ a.vals.length ∧ a.vals.length ≤ 4 ∧ wordsOk a.vals = true := by
  have hc : a.cuts.length = 0 := by have := ok_kind h; omega
  unfold attrOk at h
  rw [Bool.and_eq_true, if_pos hc] at h
  have h2 := h.2
  unfold choices at h2
  rw [Bool.and_eq_true, decide_eq_true_eq] at h2
  exact ⟨hc, by omega, by omega, h2.2⟩
theorem ok_cuts {a : AttrD} (h : attrOk a = true) (h0 : a.vals.length = 0) : 1 ≤ a.cuts.length ∧ a.cuts.length ≤ 3 ∧ cutsRise a.cuts = true := by
  have hc : a.cuts.length ≠ 0 := by have := ok_kind h; omega
  unfold attrOk at h
  rw [Bool.and_eq_true, if_neg hc, Bool.and_eq_true, Bool.and_eq_true, decide_eq_true_eq, decide_eq_true_eq] at h
  exact ⟨by omega, h.2.2.1, h.2.2.2⟩
theorem rise_all {cs : List Int} (h : cutsRise cs = true) {k : Nat} (hk : k < cs.length) : -9999 ≤ cs.getD k 0 ∧ cs.getD k 0 ≤ 9998 := by
  unfold cutsRise at h
  rw [List.all_eq_true] at h
  have := h k (List.mem_range.2 hk)
  unfold cutAt at this
  rw [Bool.and_eq_true, decide_eq_true_eq] at this
  exact this.1
theorem itB_size {n : Int} (h0 : -9999 ≤ n) (h1 : n ≤ 9999) : (itB n).size ≤ 5 := by
  have e : (itB n).size = (Lib.itoa n).length := by simp [itB, ByteArray.size]
  rw [e, Lib.itoa]
  have h2 := digits_len 3 n.natAbs (by omega)
  have h3 := digits_len 3 n.toNat (by omega)
  split
  · simp only [List.length_cons]; omega
  · omega
end Go.Proofs.YteadkdllmeeocabGreat
/- The text of a question, in plain words. -/
namespace Go.Proofs.YteadkdllmeeocabGreat
open Go.RowKit
set_option maxRecDepth 100000
def forkText (s : SchemaD) (f : ForkD) : ByteArray :=
  if forkOk s f = true then
    (if f.pos = -1 then (forkAttr s f).name ++ ⟨#[42]⟩ else if 0 < (forkAttr s f).cuts.length then (forkAttr s f).name ++ ⟨#[60, 61]⟩ ++ itB ((forkAttr s f).cuts.getD f.pos.toNat 0) else (forkAttr s f).name ++ ⟨#[61]⟩ ++ tx (forkAttr s f).vals f.pos.toNat)
  else ⟨#[]⟩
theorem text_no {s : SchemaD} {f : ForkD} (h : forkOk s f = false) : forkText s f = ⟨#[]⟩ := by unfold forkText; rw [if_neg (by rw [h]; exact Bool.false_ne_true)]
theorem text_each {s : SchemaD} {f : ForkD} {k : Nat} (h : forkOk s f = true) (hk : forkAttr s f = ad s.attrs k) (hp : f.pos = -1) : forkText s f = (ad s.attrs k).name ++ ⟨#[42]⟩ := by unfold forkText; rw [if_pos h, if_pos hp, hk]
theorem text_most {s : SchemaD} {f : ForkD} {k : Nat} (h : forkOk s f = true) (hk : forkAttr s f = ad s.attrs k) (hp : f.pos ≠ -1) (hc : 0 < (ad s.attrs k).cuts.length) : forkText s f = (ad s.attrs k).name ++ ⟨#[60, 61]⟩ ++ itB ((ad s.attrs k).cuts.getD f.pos.toNat 0) := by unfold forkText; rw [if_pos h, if_neg hp, hk, if_pos hc]
theorem text_just {s : SchemaD} {f : ForkD} {k : Nat} (h : forkOk s f = true) (hk : forkAttr s f = ad s.attrs k) (hp : f.pos ≠ -1) (hc : ¬ 0 < (ad s.attrs k).cuts.length) : forkText s f = (ad s.attrs k).name ++ ⟨#[61]⟩ ++ tx (ad s.attrs k).vals f.pos.toNat := by unfold forkText; rw [if_pos h, if_neg hp, hk, if_neg hc]
/-- Where a question stands among the cuts or the values of its attribute. -/
theorem pos_place {s : SchemaD} {f : ForkD} {k : Nat} (h : forkOk s f = true) (hk : forkAttr s f = ad s.attrs k) (hp : f.pos ≠ -1) : ∃ p : Nat, f.pos = (p : Int) ∧ p < wayN (ad s.attrs k) ∧ attrOk (ad s.attrs k) = true := by
  obtain ⟨h1, ⟨k', h2, h3, h4⟩, h5, h6⟩ := fork_parts h
  have hok : attrOk (ad s.attrs k) = true := by rw [← hk, h4]; exact sch_attr h1 h3
  rw [top_eq (by rw [hk]; exact hok), hk] at h6
  obtain ⟨p, hp2⟩ := Int.eq_ofNat_of_zero_le (show 0 ≤ f.pos by omega)
  exact ⟨p, hp2, by omega, hok⟩
end Go.Proofs.YteadkdllmeeocabGreat
