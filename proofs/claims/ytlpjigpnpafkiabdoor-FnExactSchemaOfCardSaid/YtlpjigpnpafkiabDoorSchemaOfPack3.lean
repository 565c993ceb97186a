/- Texts of this claim, put together: part 3. -/
import Derived.WalkKit
import Derived.ProofKit
import Derived.OpenShut
import Derived.Deep.WholeRow
import Derived.Test.YtlpjigpnpafkiabDoorSchemaOfPack2
import Derived.Lib.ItoaNum
import Derived.Lib.Atoi
import Derived.Lib.AtoiAll
import Derived.Lib.Join
/- A block of cells of its own: it is read, it is written whole, it stays. -/
namespace Go.Proofs.YtlpjigpnpafkiabDoor
open Go.RowKit

/-- Block g holds these cells. -/
def Blk (t : TypeId) (w : World) (g : Nat) (cs : Array Value) : Prop := w.heap[g]? = some (.cells cs t (0, 0))
theorem Blk.lt {t : TypeId} {w : World} {g : Nat} {cs : Array Value} (h : Blk t w g cs) : g < w.heap.size := (Array.getElem?_eq_some_iff.1 h).1
theorem Blk.cell {t : TypeId} {w : World} {g : Nat} {cs : Array Value} (h : Blk t w g cs) (j : Nat) : w.cell? ⟨g, j, none⟩ = cs[j]? := cell_of_row w g j _ _ _ h
theorem Blk.frozen {t : TypeId} {w : World} {g : Nat} {cs : Array Value} (h : Blk t w g cs) (j : Nat) : w.frozen? ⟨g, j, none⟩ = false := by
  unfold World.frozen?
  rw [show w.heap[(⟨g, j, none⟩ : Addr).block]? = _ from h]
  simp
theorem Blk.new (t : TypeId) (w : World) (cs : Array Value) : Blk t (w.alloc (.cells cs t)) w.heap.size cs := heap_alloc_last w _
theorem Blk.below {t : TypeId} {w w' : World} {g : Nat} {cs : Array Value} (h : Blk t w g cs) (hb : Below w.heap.size w w') : Blk t w' g cs := by
  unfold Blk at h ⊢
  rw [hb.block g (Blk.lt h)]; exact h
theorem Blk.alloc {t : TypeId} {w : World} {g : Nat} {cs : Array Value} (h : Blk t w g cs) (o : Obj) : Blk t (w.alloc o) g cs := h.below ((Below.refl _ _).alloc (Nat.le_refl _) _)
theorem Blk.setRow {t : TypeId} {w : World} {g : Nat} {cs : Array Value} (h : Blk t w g cs) (b : Array Value) : Blk t (w.setRow g b) g b := setRow_heap w g _ _ _ _ h
theorem Blk.setRow_other {t : TypeId} {w : World} {g k : Nat} {cs : Array Value} (h : Blk t w g cs) (c : Array Value) (hk : g ≠ k) : Blk t (w.setRow k c) g cs := by
  unfold Blk at h ⊢
  rw [Go.setRow_other w k g c hk]; exact h
theorem Blk.setCell {t : TypeId} {w : World} {g : Nat} {cs : Array Value} (h : Blk t w g cs) (k : Nat) (v : Value) : Blk t (w.setCell ⟨g, k, none⟩ v) g (cs.setIfInBounds k v) := by
  unfold Blk at h ⊢
  have hlt : g < w.heap.size := (Array.getElem?_eq_some_iff.1 h).1
  have hv : w.heap[g] = .cells cs t (0, 0) := (Array.getElem?_eq_some_iff.1 h).2
  unfold World.setCell
  rw [Array.getElem?_eq_getElem (by simpa using hlt), Array.getElem_modify]
  simp [hv]
theorem Blk.setCell_other {t : TypeId} {w : World} {g : Nat} {cs : Array Value} (h : Blk t w g cs) (p : Addr) (v : Value) (hp : p.block ≠ g) : Blk t (w.setCell p v) g cs := by
  unfold Blk at h ⊢
  simp only [World.setCell, Array.getElem?_modify, if_neg hp]; exact h
theorem Blk.kept {t : TypeId} {w w' : World} {g : Nat} {cs : Array Value} {r : Option Nat} (h : Blk t w g cs) (hg : w.grownBy w' r) (hr : r ≠ some g) : Blk t w' g cs := by
  have hl := h.lt
  unfold Blk at h ⊢
  rw [hg.block g hl (fun e => hr e.symm)]; exact h
theorem grown_row {w w' : World} {r : Option Nat} (h : w.grownBy w' r) {p : Nat} (hp : w.heap.size ≤ p) (cs : Array Value) : w.grownBy (w'.setRow p cs) r :=
  ⟨h.os, h.tape, h.output, Nat.le_trans h.size (by simp [World.setRow]), fun j hj hne => (Go.setRow_other _ _ _ _ (by omega)).trans (h.block j hj hne)⟩
theorem grown_cell {w w' : World} {r : Option Nat} (h : w.grownBy w' r) {p k : Nat} (hp : w.heap.size ≤ p) (v : Value) : w.grownBy (w'.setCell ⟨p, k, none⟩ v) r :=
  ⟨h.os, h.tape, h.output, Nat.le_trans h.size (by simp [World.setCell]), fun j hj hne => by
    rw [← h.block j hj hne]
    simp only [World.setCell, Array.getElem?_modify]
    rw [if_neg (by omega)]⟩
theorem blk_1 (t : TypeId) (w : World) (c : Array Value) : Blk t (w.alloc (.cells c t)) w.heap.size c ∧ Below w.heap.size w (w.alloc (.cells c t)) :=
  ⟨Blk.new t w c, (Below.refl _ _).alloc (Nat.le_refl _) _⟩
theorem blk_2 (t u : TypeId) (w : World) (c d : Array Value) : Blk t ((w.alloc (.cells c t)).alloc (.cells d u)) w.heap.size c ∧ Blk u ((w.alloc (.cells c t)).alloc (.cells d u)) (w.heap.size + 1) d ∧
    Below w.heap.size w ((w.alloc (.cells c t)).alloc (.cells d u)) := by
  refine ⟨(Blk.new t w c).alloc _, ?_, ((Below.refl _ _).alloc (Nat.le_refl _) _).alloc (by simp) _⟩
  have := Blk.new u (w.alloc (.cells c t)) d
  simpa using this
theorem blk_3 (t u v : TypeId) (w : World) (c d e : Array Value) : Blk t (((w.alloc (.cells c t)).alloc (.cells d u)).alloc (.cells e v)) w.heap.size c ∧ Blk u (((w.alloc (.cells c t)).alloc (.cells d u)).alloc (.cells e v)) (w.heap.size + 1) d ∧
    Blk v (((w.alloc (.cells c t)).alloc (.cells d u)).alloc (.cells e v)) (w.heap.size + 1 + 1) e ∧ Below w.heap.size w (((w.alloc (.cells c t)).alloc (.cells d u)).alloc (.cells e v)) := by
  obtain ⟨h1, h2, h3⟩ := blk_2 t u w c d
  refine ⟨h1.alloc _, h2.alloc _, ?_, h3.alloc (by simp; omega) _⟩
  have := Blk.new v ((w.alloc (.cells c t)).alloc (.cells d u)) e
  simpa using this
theorem below_row {n : Nat} {w w' : World} (h : Below n w w') {g : Nat} (hg : n ≤ g) (c : Array Value) : Below n w (w'.setRow g c) :=
  h.trans ⟨rfl, rfl, rfl, by simp [World.setRow], fun k hk => Go.setRow_other _ _ _ _ (by omega)⟩
end Go.Proofs.YtlpjigpnpafkiabDoor
/- An attribute: whether it is right, how many bins it has, by the program and by the specification. (What is plain.) -/
namespace Go.Proofs.YtlpjigpnpafkiabDoor
open Go.RowKit
set_option maxRecDepth 100000
structure AttrD where
  name : ByteArray
  cuts : List Int
  vals : List ByteArray

/-- What a function knows of an attribute that it is handed. -/
def AttrAt (w : World) (v : Value) (a : AttrD) : Prop :=
  ∃ vc vv, v = .agg #[.string a.name, vc, vv] ∧ RowI w vc a.cuts ∧ RowS w vv a.vals
theorem AttrAt.later {w w' : World} {v : Value} {a : AttrD} (h : AttrAt w v a) (hb : Below w.heap.size w w') : AttrAt w' v a := by
  obtain ⟨vc, vv, rfl, h1, h2⟩ := h
  exact ⟨vc, vv, rfl, h1.later hb, h2.later hb⟩
/-- What is asked of the sizes. -/
structure okA (a : AttrD) : Prop where
  name : a.name.size ≤ 1099511627776
  cuts : a.cuts.length ≤ 1099511627776
  vals : okS a.vals

def cutAt (cs : List Int) (i : Nat) : Bool := decide (-9999 ≤ cs.getD i 0 ∧ cs.getD i 0 ≤ 9998) && (decide (i = 0) || decide (cs.getD (i - 1) 0 < cs.getD i 0))
theorem cutAt_in {cs : List Int} {i : Nat} (h : cutAt cs i = true) : -9999 ≤ cs.getD i 0 ∧ cs.getD i 0 ≤ 9998 := by
  unfold cutAt at h
  rw [Bool.and_eq_true] at h
  exact of_decide_eq_true h.1
def cutsRise (cs : List Int) : Bool := (List.range cs.length).all (cutAt cs)
theorem rise_yes {cs : List Int} (h : ∀ j, j < cs.length → cutAt cs j = true) : cutsRise cs = true := by
  unfold cutsRise
  rw [List.all_eq_true]
  intro j hj
  exact h j (List.mem_range.1 hj)
theorem rise_no {cs : List Int} (j : Nat) (hj : j < cs.length) (h : cutAt cs j = false) : cutsRise cs = false := by
  cases e : cutsRise cs with
  | false => rfl
  | true =>
    unfold cutsRise at e
    rw [List.all_eq_true] at e
    have := e j (List.mem_range.2 hj)
    rw [h] at this; cases this
def attrOk (a : AttrD) : Bool :=
  wordOk a.name && (if a.cuts.length = 0 then choices a.vals 4 else decide (a.vals.length = 0) && (decide (a.cuts.length ≤ 3) && cutsRise a.cuts))

/-- The least that the next cut may be. -/
def leastAt (cs : List Int) (k : Nat) : Int := if k = 0 then -9999 else cs.getD (k - 1) 0 + 1
end Go.Proofs.YtlpjigpnpafkiabDoor
/- Which number a text is the digits of: plain facts on lists of bytes. -/
namespace Go.Proofs.YtlpjigpnpafkiabDoor

theorem dig_byte (d : Nat) (h : d < 10) : (UInt8.ofNat (48 + d)).toNat = 48 + d := by
  rw [UInt8.toNat_ofNat']; omega
theorem dig_val (d : Nat) (h : d < 10) : Lib.digitVal (UInt8.ofNat (48 + d)) = some d := by
  unfold Lib.digitVal
  rw [dig_byte d h, if_pos (by omega)]
  congr 1; omega

theorem decFrom_append (a b : List UInt8) : ∀ acc, Lib.decFrom acc (a ++ b) = (Lib.decFrom acc a).bind fun n => Lib.decFrom n b := by
  induction a with
  | nil => intro acc; rfl
  | cons c r ih =>
    intro acc
    simp only [List.cons_append, Lib.decFrom]
    cases Lib.digitVal c with
    | none => rfl
    | some d => exact ih _

theorem decFrom_digits (u : Nat) : Lib.decFrom 0 (Lib.decDigits u) = some u := by
  induction u using Nat.strongRecOn with
  | _ u ih =>
    rw [Lib.decDigits]
    by_cases h : u < 10
    · rw [dif_pos h]; simp only [Lib.decFrom, dig_val u h]; congr 1; omega
    · rw [dif_neg h, decFrom_append, ih (u / 10) (by omega)]
      simp only [Option.bind_some, Lib.decFrom, dig_val (u % 10) (by omega)]
      congr 1; omega

theorem digits_len (k : Nat) : ∀ u, u < 10 ^ (k + 1) → 1 ≤ (Lib.decDigits u).length ∧ (Lib.decDigits u).length ≤ k + 1 := by
  induction k with
  | zero => intro u h; rw [Lib.decDigits, dif_pos (by simpa using h)]; simp
  | succ k ih =>
    intro u h
    rw [Lib.decDigits]
    by_cases h10 : u < 10
    · rw [dif_pos h10]; simp
    · rw [dif_neg h10]
      have := ih (u / 10) (by rw [Nat.pow_succ] at h; omega)
      simp; omega

theorem decFrom_mono : ∀ (l : List UInt8) (acc v : Nat), Lib.decFrom acc l = some v → acc ≤ v
  | [], acc, v, h => by simp only [Lib.decFrom, Option.some.injEq] at h; omega
  | c :: r, acc, v, h => by
    simp only [Lib.decFrom] at h
    cases hd : Lib.digitVal c with
    | none => simp [hd] at h
    | some d => rw [hd] at h; have := decFrom_mono r _ v h; omega

theorem digitVal_inv {c : UInt8} {d : Nat} (h : Lib.digitVal c = some d) : 48 ≤ c.toNat ∧ c.toNat ≤ 57 ∧ d = c.toNat - 48 := by
  unfold Lib.digitVal at h
  split at h
  · next hc => simp only [Option.some.injEq] at h; exact ⟨hc.1, hc.2, h.symm⟩
  · cases h

theorem parse_of : ∀ (l : List UInt8) (acc v : Nat), Lib.decFrom acc l = some v → v < 1000000000000000000 → Lib.parseUint10 acc l = .ok v
  | [], acc, v, h, _ => by simp only [Lib.decFrom, Option.some.injEq] at h; rw [h]; rfl
  | c :: r, acc, v, h, hv => by
    simp only [Lib.decFrom] at h
    cases hd : Lib.digitVal c with
    | none => simp [hd] at h
    | some d =>
      rw [hd] at h
      obtain ⟨h1, h2, rfl⟩ := digitVal_inv hd
      have hm := decFrom_mono r _ v h
      rw [Lib.parseUint10, if_pos ⟨h1, h2⟩, if_neg (by omega), if_neg (by omega)]
      exact parse_of r _ v h hv

/-- The first byte of a row of digits is no sign. -/
theorem digits_head (u : Nat) : ∃ c r, Lib.decDigits u = c :: r ∧ 48 ≤ c.toNat ∧ c.toNat ≤ 57 := by
  have h := decFrom_digits u
  have hne : Lib.decDigits u ≠ [] := by
    rw [Lib.decDigits]; split <;> simp
  cases hl : Lib.decDigits u with
  | nil => exact absurd hl hne
  | cons c r =>
    rw [hl] at h
    simp only [Lib.decFrom] at h
    cases hd : Lib.digitVal c with
    | none => simp [hd] at h
    | some d => obtain ⟨h1, h2, _⟩ := digitVal_inv hd; exact ⟨c, r, rfl, h1, h2⟩

theorem atoi_nat (u : Nat) (h : u < 1000000000000000000) : Lib.atoiAll (Lib.decDigits u) = .ok (u : Int) := by
  obtain ⟨c, r, hl, h1, h2⟩ := digits_head u
  have hp : Lib.parseUint10 0 (c :: r) = .ok u := parse_of _ 0 u (by rw [← hl]; exact decFrom_digits u) h
  have hm : Lib.parseMag (c :: r) = .ok u := by rw [Lib.parseMag, if_neg (by simp)]; exact hp
  have hs : ¬ (c.toNat = 43 ∨ c.toNat = 45) := by omega
  have hs2 : ¬ c.toNat = 45 := by omega
  rw [hl, Lib.atoiAll]
  simp only [if_neg hs, hm]
  rw [if_neg (by omega), if_neg (by omega), if_neg hs2]
theorem atoi_neg (u : Nat) (h : u < 1000000000000000000) : Lib.atoiAll (45 :: Lib.decDigits u) = .ok (-(u : Int)) := by
  obtain ⟨c, r, hl, h1, h2⟩ := digits_head u
  have hp : Lib.parseUint10 0 (c :: r) = .ok u := parse_of _ 0 u (by rw [← hl]; exact decFrom_digits u) h
  have hm : Lib.parseMag (c :: r) = .ok u := by rw [Lib.parseMag, if_neg (by simp)]; exact hp
  have e45 : (45 : UInt8).toNat = 45 := rfl
  have hs : (45 : UInt8).toNat = 43 ∨ (45 : UInt8).toNat = 45 := .inr rfl
  rw [hl, Lib.atoiAll]
  simp only [if_pos hs, hm]
  rw [if_neg (by omega), if_neg (by omega), if_pos e45]
theorem atoi_itoa (n : Int) (h0 : -999999 ≤ n) (h1 : n ≤ 999999) : Lib.atoiAll (Lib.itoa n) = .ok n := by
  unfold Lib.itoa
  split
  · rw [atoi_neg n.natAbs (by omega)]; congr 1; omega
  · rw [atoi_nat n.toNat (by omega)]; congr 1; omega

/-- What mustDigits finds: the number from lo to hi of which l is the digits. -/
def must (lo hi : Int) (l : List UInt8) : Option Int :=
  match Lib.atoiAll l with
  | .ok v => if lo ≤ v ∧ v ≤ hi ∧ Lib.itoa v = l then some v else none
  | _ => none
theorem must_iff (lo hi : Int) (h0 : -999999 ≤ lo) (h1 : hi ≤ 999999) (l : List UInt8) (v : Int) : must lo hi l = some v ↔ lo ≤ v ∧ v ≤ hi ∧ Lib.itoa v = l := by
  unfold must
  constructor
  · intro h
    split at h
    · split at h
      · next hc => simp only [Option.some.injEq] at h; subst h; exact hc
      · cases h
    · cases h
  · rintro ⟨a, b, rfl⟩
    rw [atoi_itoa v (by omega) (by omega)]
    simp [a, b]

/-- What the specification's Number finds. -/
def numSpec (l : List UInt8) : Option Int :=
  if 1 ≤ l.length ∧ l.length ≤ 6 then
    match Lib.decFrom 0 l with
    | some v => if Lib.itoa v = l then some (v : Int) else none
    | none => none
  else none
theorem decFrom_lt : ∀ (l : List UInt8) (acc v : Nat), Lib.decFrom acc l = some v → v < (acc + 1) * 10 ^ l.length
  | [], acc, v, h => by simp only [Lib.decFrom, Option.some.injEq] at h; simp; omega
  | c :: r, acc, v, h => by
    simp only [Lib.decFrom] at h
    cases hd : Lib.digitVal c with
    | none => simp [hd] at h
    | some d =>
      rw [hd] at h
      obtain ⟨h1, h2, rfl⟩ := digitVal_inv hd
      have := decFrom_lt r _ v h
      rw [List.length_cons, Nat.pow_succ]
      have hle : (acc * 10 + (c.toNat - 48) + 1) * 10 ^ r.length ≤ ((acc + 1) * 10) * 10 ^ r.length := Nat.mul_le_mul_right _ (by omega)
      rw [Nat.mul_comm (10 ^ r.length) 10, ← Nat.mul_assoc]
      omega
theorem numSpec_iff (l : List UInt8) (v : Int) : numSpec l = some v ↔ 0 ≤ v ∧ v ≤ 999999 ∧ Lib.itoa v = l := by
  unfold numSpec
  constructor
  · intro h
    split at h
    · next hl =>
      split at h
      · next u hu =>
        split at h
        · next hi =>
          simp only [Option.some.injEq] at h
          subst h
          have h2 := decFrom_lt l 0 u hu
          have h3 : 10 ^ l.length ≤ 10 ^ 6 := Nat.pow_le_pow_right (by decide) hl.2
          refine ⟨by omega, ?_, hi⟩
          simp only [Nat.zero_add, Nat.one_mul] at h2
          omega
        · cases h
      · cases h
    · cases h
  · rintro ⟨a, b, rfl⟩
    obtain ⟨u, rfl⟩ := Int.eq_ofNat_of_zero_le a
    have e : Lib.itoa (u : Int) = Lib.decDigits u := by rw [Lib.itoa, if_neg (by omega)]; simp
    rw [e, if_pos (digits_len 5 u (by omega)), decFrom_digits]
    simp [e]
theorem number_one (l : List UInt8) : numSpec l = must 0 999999 l := by
  apply Option.ext
  intro v
  rw [numSpec_iff, must_iff 0 999999 (by decide) (by decide)]

/-- What the specification's Signed finds. -/
def sigSpec (l : List UInt8) : Option Int :=
  if 1 ≤ l.length ∧ l.length ≤ 5 then
    if l.head? = some 45 then
      match numSpec l.tail with
      | some v => if 1 ≤ v ∧ v ≤ 9999 then some (0 - v) else none
      | none => none
    else
      match numSpec l with
      | some v => if v ≤ 9999 then some v else none
      | none => none
  else none
theorem itoa_neg (u : Nat) (h : 0 < u) : Lib.itoa (-(u : Int)) = 45 :: Lib.decDigits u := by rw [Lib.itoa, if_pos (by omega)]; simp
theorem itoa_nat (u : Nat) : Lib.itoa (u : Int) = Lib.decDigits u := by rw [Lib.itoa, if_neg (by omega)]; simp
theorem sigSpec_iff (l : List UInt8) (v : Int) : sigSpec l = some v ↔ -9999 ≤ v ∧ v ≤ 9999 ∧ Lib.itoa v = l := by
  unfold sigSpec
  constructor
  · intro h
    split at h
    · split at h
      · next hh =>
        split at h
        · next x hx =>
          split at h
          · next hc =>
            simp only [Option.some.injEq] at h
            subst h
            obtain ⟨a, b, c⟩ := (numSpec_iff _ _).1 hx
            obtain ⟨u, rfl⟩ := Int.eq_ofNat_of_zero_le a
            refine ⟨by omega, by omega, ?_⟩
            rw [show (0 : Int) - (u : Int) = -(u : Int) by omega, itoa_neg u (by omega), ← itoa_nat, c]
            cases l with
            | nil => simp at hh
            | cons y r => simp only [List.head?_cons, Option.some.injEq] at hh; subst hh; rfl
          · cases h
        · cases h
      · split at h
        · next x hx =>
          split at h
          · next hc =>
            simp only [Option.some.injEq] at h
            subst h
            obtain ⟨a, b, c⟩ := (numSpec_iff _ _).1 hx
            exact ⟨by omega, hc, c⟩
          · cases h
        · cases h
    · cases h
  · rintro ⟨a, b, rfl⟩
    by_cases hn : v < 0
    · obtain ⟨u, rfl⟩ : ∃ u : Nat, v = -(u : Int) := ⟨v.natAbs, by omega⟩
      have hx : numSpec (Lib.decDigits u) = some (u : Int) := (numSpec_iff _ _).2 ⟨by omega, by omega, itoa_nat u⟩
      have hl := digits_len 3 u (by omega)
      rw [itoa_neg u (by omega), if_pos (by simp; omega)]
      simp only [List.head?_cons, if_true, List.tail_cons, hx]
      rw [if_pos (by omega)]
      congr 1; omega
    · obtain ⟨u, rfl⟩ := Int.eq_ofNat_of_zero_le (show 0 ≤ v by omega)
      have hx : numSpec (Lib.decDigits u) = some (u : Int) := (numSpec_iff _ _).2 ⟨by omega, by omega, itoa_nat u⟩
      have hl := digits_len 3 u (by omega)
      obtain ⟨c, r, hcr, h1, h2⟩ := digits_head u
      rw [itoa_nat u, if_pos (by omega)]
      have hh : ¬ (Lib.decDigits u).head? = some 45 := by
        rw [hcr]
        simp only [List.head?_cons, Option.some.injEq]
        intro e; subst e
        have : (45 : UInt8).toNat = 45 := rfl
        omega
      rw [if_neg hh, hx]
      simp only
      rw [if_pos (by omega)]
theorem signed_one (l : List UInt8) : sigSpec l = must (-9999) 9999 l := by
  apply Option.ext
  intro v
  rw [sigSpec_iff, must_iff (-9999) 9999 (by decide) (by decide)]
end Go.Proofs.YtlpjigpnpafkiabDoor
/- An attribute that is right: which kind it is, how long its texts are. -/
namespace Go.Proofs.YtlpjigpnpafkiabDoor
open Go.RowKit
set_option maxRecDepth 100000

/-- One that is right has cuts or values, and not both. -/
theorem ok_kind {a : AttrD} (h : attrOk a = true) : (a.vals.length = 0 ↔ a.cuts.length ≠ 0) := by
  unfold attrOk at h
  rw [Bool.and_eq_true] at h
  have h2 := h.2
  by_cases h0 : a.cuts.length = 0
  · rw [if_pos h0] at h2
    unfold choices at h2
    rw [Bool.and_eq_true] at h2
    have := of_decide_eq_true h2.1
    omega
  · rw [if_neg h0, Bool.and_eq_true] at h2
    have := of_decide_eq_true h2.1
    omega

/-- Texts with another one between. -/
def joinT (ss : List ByteArray) (sep : ByteArray) : ByteArray := ⟨(Lib.join (ss.map (·.data.toList)) sep.data.toList).toArray⟩
def itB (n : Int) : ByteArray := ⟨(Lib.itoa n).toArray⟩
theorem joinT_nil (sep : ByteArray) : joinT [] sep = ⟨#[]⟩ := rfl
theorem bytes_ext {a b : ByteArray} (h : a.data.toList = b.data.toList) : a = b := ByteArray.ext (Array.toList_inj.1 h)
theorem join_snoc (xs : List (List UInt8)) (x sep : List UInt8) (h : xs ≠ []) : Lib.join (xs ++ [x]) sep = Lib.join xs sep ++ sep ++ x := by
  cases xs with
  | nil => exact absurd rfl h
  | cons y r =>
    rw [List.cons_append, Lib.join_cons, Lib.join_cons]
    simp [Lib.joinTail, List.append_assoc]
theorem joinT_one (x sep : ByteArray) : joinT [x] sep = x := by
  apply bytes_ext
  simp [joinT, Lib.join_one]
theorem joinT_snoc {ss : List ByteArray} {k : Nat} (hk : k < ss.length) (h : 0 < k) (sep : ByteArray) : joinT (ss.take (k + 1)) sep = joinT (ss.take k) sep ++ sep ++ tx ss k := by
  apply bytes_ext
  have e : ss.take (k + 1) = ss.take k ++ [tx ss k] := by rw [List.take_succ_eq_append_getElem hk, tx_eq hk]
  rw [e]
  simp only [joinT, List.map_append, List.map_cons, List.map_nil]
  rw [join_snoc _ _ _ (by simp; exact ⟨by omega, fun e => by simp [e] at hk⟩)]
  simp [ByteArray.data_append]
theorem joinT_zero {ss : List ByteArray} (hk : 0 < ss.length) (sep : ByteArray) : joinT (ss.take 1) sep = tx ss 0 := by
  cases ss with
  | nil => simp at hk
  | cons x r => rw [List.take_succ_cons, List.take_zero, joinT_one]; rfl
theorem joinT_size (ss : List ByteArray) (sep : ByteArray) (m : Nat) (h : ∀ s ∈ ss, s.size ≤ m) : (joinT ss sep).size ≤ ss.length * (m + sep.size) := by
  have h1 : (joinT ss sep).size = (Lib.join (ss.map (·.data.toList)) sep.data.toList).length := by simp [joinT, ByteArray.size]
  rw [h1]
  cases ss with
  | nil => simp [Lib.join_nil]
  | cons x r =>
    rw [List.map_cons, Lib.join_length]
    have h2 : ∀ (l : List ByteArray), (∀ s ∈ l, s.size ≤ m) → Lib.lens (l.map (·.data.toList)) ≤ l.length * m := by
      intro l
      induction l with
      | nil => simp [Lib.lens]
      | cons y l ih =>
        intro hl
        have h3 := ih fun s hs => hl s (List.mem_cons_of_mem _ hs)
        have h4 : y.data.toList.length ≤ m := by have := hl y List.mem_cons_self; simpa using this
        have h5 : Lib.lens (List.map (·.data.toList) (y :: l)) = y.data.toList.length + Lib.lens (l.map (·.data.toList)) := by simp [Lib.lens]
        rw [h5, List.length_cons, Nat.succ_mul]
        omega
    have h6 := h2 (x :: r) h
    rw [List.map_cons] at h6
    have h7 : sep.data.toList.length = sep.size := by simp
    rw [h7, List.length_map, List.length_cons]
    rw [List.length_cons] at h6
    rw [Nat.mul_add, Nat.mul_comm sep.size]
    have : r.length * sep.size ≤ (r.length + 1) * sep.size := Nat.mul_le_mul_right _ (by omega)
    omega
theorem joinT_take {ss : List ByteArray} (sep : ByteArray) : ∀ {k j : Nat}, k ≤ j → j ≤ ss.length → (joinT (ss.take k) sep).size ≤ (joinT (ss.take j) sep).size := by
  intro k j hkj hj
  induction j with
  | zero => obtain rfl : k = 0 := by omega
            exact Nat.le_refl _
  | succ j ih =>
    by_cases e : k = j + 1
    · rw [e]; exact Nat.le_refl _
    · refine Nat.le_trans (ih (by omega) (by omega)) ?_
      by_cases h0 : 0 < j
      · rw [joinT_snoc (by omega) h0]; simp [ByteArray.size_append]; omega
      · obtain rfl : j = 0 := by omega
        exact Nat.zero_le _
theorem joinT_part {ss : List ByteArray} {k : Nat} (sep : ByteArray) (hk : k < ss.length) (h : 0 < k) : (joinT (ss.take k) sep).size + sep.size + (tx ss k).size ≤ (joinT ss sep).size := by
  have h1 := joinT_take (ss := ss) sep (k := k + 1) (j := ss.length) (by omega) (Nat.le_refl _)
  rw [joinT_snoc hk h, List.take_length] at h1
  simpa [ByteArray.size_append] using h1
theorem joinT_first {ss : List ByteArray} (sep : ByteArray) (hk : 0 < ss.length) : (tx ss 0).size ≤ (joinT ss sep).size := by
  have h1 := joinT_take (ss := ss) sep (k := 1) (j := ss.length) (by omega) (Nat.le_refl _)
  rwa [joinT_zero hk, List.take_length] at h1

/-- The text of an attribute. -/
def attrText (a : AttrD) : ByteArray :=
  if attrOk a = true then (if a.vals.length = 0 then a.name ++ ⟨#[58]⟩ ++ joinT (a.cuts.map itB) ⟨#[44]⟩ else a.name ++ ⟨#[61]⟩ ++ joinT a.vals ⟨#[44]⟩) else ⟨#[]⟩
theorem ok_name {a : AttrD} (h : attrOk a = true) : wordOk a.name = true := by
  unfold attrOk at h
  rw [Bool.and_eq_true] at h
  exact h.1
theorem ok_vals {a : AttrD} (h : attrOk a = true) (h0 : a.vals.length ≠ 0) : a.cuts.length = 0 ∧ 2 ≤ a.vals.length ∧ a.vals.length ≤ 4 ∧ wordsOk a.vals = true := by
  have hc : a.cuts.length = 0 := by have := ok_kind h; omega
  unfold attrOk at h
  rw [Bool.and_eq_true, if_pos hc] at h
  have h2 := h.2
  unfold choices at h2
  rw [Bool.and_eq_true, decide_eq_true_eq] at h2
  exact ⟨hc, by omega, by omega, h2.2⟩
theorem ok_cuts {a : AttrD} (h : attrOk a = true) (h0 : a.vals.length = 0) : 1 ≤ a.cuts.length ∧ a.cuts.length ≤ 3 ∧ cutsRise a.cuts = true := by
  have hc : a.cuts.length ≠ 0 := by have := ok_kind h; omega
  unfold attrOk at h
  rw [Bool.and_eq_true, if_neg hc, Bool.and_eq_true, Bool.and_eq_true, decide_eq_true_eq, decide_eq_true_eq] at h
  exact ⟨by omega, h.2.2.1, h.2.2.2⟩
theorem rise_all {cs : List Int} (h : cutsRise cs = true) {k : Nat} (hk : k < cs.length) : -9999 ≤ cs.getD k 0 ∧ cs.getD k 0 ≤ 9998 := by
  unfold cutsRise at h
  rw [List.all_eq_true] at h
  have := h k (List.mem_range.2 hk)
  unfold cutAt at this
  rw [Bool.and_eq_true, decide_eq_true_eq] at this
  exact this.1
theorem itB_size {n : Int} (h0 : -9999 ≤ n) (h1 : n ≤ 9999) : (itB n).size ≤ 5 := by
  have e : (itB n).size = (Lib.itoa n).length := by simp [itB, ByteArray.size]
  rw [e, Lib.itoa]
  have h2 := digits_len 3 n.natAbs (by omega)
  have h3 := digits_len 3 n.toNat (by omega)
  split
  · simp only [List.length_cons]; omega
  · omega
end Go.Proofs.YtlpjigpnpafkiabDoor
