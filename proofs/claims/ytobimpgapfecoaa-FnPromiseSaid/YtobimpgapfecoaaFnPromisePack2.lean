/- Texts of this claim, put together: part 2. -/
import Derived.Test.YtobimpgapfecoaaFnPromisePack1
import Derived.WalkKit
import Derived.ProofKit
import Derived.OpenShut
import Derived.Deep.QuietTactic
import Derived.BigQuiet
import Derived.WalkSmall
/- Lists of integers of the call's own: their cells. -/
namespace Go.Proofs.Ytobimpgapfecoaa
open Go.RowKit
set_option maxRecDepth 100000

theorem getD_mapI (zs : List Int) (j : Nat) (h : j < zs.length) : (zs.map (Value.int .i64))[j]? = some (.int .i64 (zs.getD j 0)) := by simp [h]
/-- The cells of a row of the call's own. -/
theorem own_cellsI {w : World} {base g n cap : Nat} {zs : List Int} (hz : zs.length = n) (h : w.ownsRow base 3 1 (.slice (some ⟨g, 0, none⟩) n cap) n (zs.map (Value.int .i64))) : ∀ j, j < n → w.cell? ⟨g, 0 + j, none⟩ = some (.int .i64 (zs.getD j 0)) := by
  intro j hj
  rw [Nat.zero_add, h.cellAt j (by omega)]
  exact getD_mapI zs j (by omega)
theorem intInfo : (Try.prog.info? 3).map (fun i => (i.zero, i.size, i.bytes)) = some (some (.int .i64 0), 1, 8) := by kernel_rfl
end Go.Proofs.Ytobimpgapfecoaa
/- Great numbers as lists of limbs: plain facts on lists of numbers. -/
namespace Go.Proofs.Ytobimpgapfecoaa

def val : List Nat → Nat
  | [] => 0
  | l :: r => l + 16777216 * val r

theorem val_append (a b : List Nat) : val (a ++ b) = val a + 16777216 ^ a.length * val b := by
  induction a with
  | nil => simp [val]
  | cons x r ih =>
    simp only [List.cons_append, val, ih, List.length_cons, Nat.pow_succ, Nat.mul_add, Nat.add_assoc]
    rw [Nat.mul_comm (16777216 ^ r.length) 16777216, Nat.mul_assoc]

theorem val_snoc (a : List Nat) (d : Nat) : val (a ++ [d]) = val a + 16777216 ^ a.length * d := by
  rw [val_append]; simp [val]

theorem val_zeros (n : Nat) : val (List.replicate n 0) = 0 := by
  induction n with
  | zero => rfl
  | succ n ih => rw [List.replicate_succ, val, ih]

theorem val_lt (a : List Nat) (h : ∀ l ∈ a, l < 16777216) : val a < 16777216 ^ a.length := by
  induction a with
  | nil => simp [val]
  | cons x r ih =>
    have h1 := h x (by simp)
    have h2 := ih fun l hl => h l (by simp [hl])
    simp only [val, List.length_cons, Nat.pow_succ]
    omega

theorem val_take (a : List Nat) (k : Nat) (h : k < a.length) : val (a.take (k + 1)) = val (a.take k) + 16777216 ^ k * a.getD k 0 := by
  have e : a.take (k + 1) = a.take k ++ [a.getD k 0] := by
    rw [List.take_add_one, List.getElem?_eq_getElem h, List.getD_eq_getElem?_getD, List.getElem?_eq_getElem h]; rfl
  rw [e, val_snoc, List.length_take, Nat.min_eq_left (by omega)]

theorem val_drop (a : List Nat) (k : Nat) (h : k < a.length) : val (a.drop k) = a.getD k 0 + 16777216 * val (a.drop (k + 1)) := by
  rw [List.drop_eq_getElem_cons h, val, List.getD_eq_getElem?_getD, List.getElem?_eq_getElem h]; rfl

/-- The limbs of a number, the lowest first, no nought at the end. -/
def digs (n : Nat) : List Nat := if n = 0 then [] else n % 16777216 :: digs (n / 16777216)

theorem digs_zero : digs 0 = [] := by rw [digs, if_pos rfl]
theorem digs_pos (n : Nat) (h : 0 < n) : digs n = n % 16777216 :: digs (n / 16777216) := by rw [digs, if_neg (by omega)]

theorem val_digs (n : Nat) : val (digs n) = n := by
  induction n using Nat.strongRecOn with
  | _ n ih =>
    by_cases h : n = 0
    · subst h; rw [digs_zero]; rfl
    · rw [digs_pos n (by omega), val, ih (n / 16777216) (by omega)]; omega

theorem digs_lt (n : Nat) : ∀ l ∈ digs n, l < 16777216 := by
  induction n using Nat.strongRecOn with
  | _ n ih =>
    by_cases h : n = 0
    · subst h; rw [digs_zero]; simp
    · rw [digs_pos n (by omega)]
      intro l hl
      rcases List.mem_cons.1 hl with rfl | hl
      · omega
      · exact ih _ (by omega) l hl

theorem digs_last (n : Nat) : (digs n).getLast? ≠ some 0 := by
  induction n using Nat.strongRecOn with
  | _ n ih =>
    by_cases h : n = 0
    · subst h; rw [digs_zero]; simp
    · rw [digs_pos n (by omega)]
      by_cases h2 : n / 16777216 = 0
      · rw [h2, digs_zero]; simp; omega
      · have := ih (n / 16777216) (by omega)
        rw [digs_pos (n / 16777216) (by omega)] at this ⊢
        rw [List.getLast?_cons_cons]; exact this

/-- Limbs that are right, no nought at the end. -/
structure Norm (a : List Nat) : Prop where
  lt : ∀ l ∈ a, l < 16777216
  last : a.getLast? ≠ some 0

theorem digs_norm (n : Nat) : Norm (digs n) := ⟨digs_lt n, digs_last n⟩

theorem digs_val (a : List Nat) (h : Norm a) : digs (val a) = a := by
  induction a with
  | nil => rw [val, digs_zero]
  | cons x r ih =>
    have hx := h.lt x (by simp)
    have hr : Norm r := ⟨fun l hl => h.lt l (by simp [hl]), by
      have := h.last
      cases r with
      | nil => simp
      | cons y s => rw [List.getLast?_cons_cons] at this; exact this⟩
    have e := ih hr
    have hpos : 0 < x + 16777216 * val r := by
      cases r with
      | nil => have := h.last; simp at this; omega
      | cons y s =>
        have : val (y :: s) ≠ 0 := fun h0 => by rw [h0, digs_zero] at e; cases e
        omega
    rw [val, digs_pos _ hpos, show (x + 16777216 * val r) % 16777216 = x by omega, show (x + 16777216 * val r) / 16777216 = val r by omega, e]

theorem digs_len (k : Nat) : ∀ n, (digs n).length ≤ k ↔ n < 16777216 ^ k := by
  induction k with
  | zero =>
    intro n
    by_cases h : n = 0
    · subst h; rw [digs_zero]; simp
    · rw [digs_pos n (by omega)]; simp; omega
  | succ k ih =>
    intro n
    by_cases h : n = 0
    · subst h; rw [digs_zero]; simp [Nat.pow_pos]
    · rw [digs_pos n (by omega), List.length_cons, Nat.add_le_add_iff_right, ih, Nat.div_lt_iff_lt_mul (by decide), Nat.pow_succ]

/-- What is left where the noughts at the end are taken away. -/
theorem take_digs (a : List Nat) (k : Nat) (hlt : ∀ l ∈ a, l < 16777216) (hk : k ≤ a.length) (h0 : ∀ j, k ≤ j → j < a.length → a.getD j 0 = 0) (h1 : k = 0 ∨ a.getD (k - 1) 0 ≠ 0) :
    a.take k = digs (val a) := by
  have hd : a.drop k = List.replicate (a.length - k) 0 := by
    apply List.ext_getElem
    · simp
    · intro i h2 h3
      simp at h2
      have := h0 (k + i) (by omega) (by omega)
      rw [List.getD_eq_getElem?_getD, List.getElem?_eq_getElem (by omega)] at this
      simp at this ⊢; exact this
  have hv : val a = val (a.take k) := by
    conv => lhs; rw [← List.take_append_drop k a, val_append, hd, val_zeros]
    simp
  rw [hv]
  refine (digs_val _ ⟨fun l hl => hlt l (List.mem_of_mem_take hl), ?_⟩).symm
  rcases h1 with rfl | h1
  · simp
  · intro hc
    apply h1
    rw [List.getLast?_eq_getElem?] at hc
    have hk0 : k ≠ 0 := fun e => by subst e; simp at hc
    rw [List.length_take, Nat.min_eq_left hk, List.getElem?_take_of_lt (by omega)] at hc
    rw [List.getD_eq_getElem?_getD, hc]; rfl

theorem digs_app_zeros (a : List Nat) (n : Nat) : val (a ++ List.replicate n 0) = val a := by
  rw [val_append, val_zeros]; simp

/-- Lists of as many limbs that stand for one number are one list. -/
theorem val_inj : ∀ (a b : List Nat), a.length = b.length → (∀ l ∈ a, l < 16777216) → (∀ l ∈ b, l < 16777216) → val a = val b → a = b
  | [], [], _, _, _, _ => rfl
  | x :: r, y :: s, hl, ha, hb, hv => by
    have h1 := ha x (by simp)
    have h2 := hb y (by simp)
    simp only [val] at hv
    have hr := val_inj r s (by simpa using hl) (fun l h => ha l (by simp [h])) (fun l h => hb l (by simp [h])) (by omega)
    rw [hr] at hv ⊢
    obtain rfl : x = y := by omega
    rfl

/-- Which of two is greater is told at the highest limb at which they part. -/
theorem val_cmp (a b : List Nat) (i : Nat) (hl : a.length = b.length) (hi : i < a.length) (ha : ∀ l ∈ a, l < 16777216) (_hb : ∀ l ∈ b, l < 16777216)
    (he : ∀ j, i < j → j < a.length → a.getD j 0 = b.getD j 0) (hlt : a.getD i 0 < b.getD i 0) : val a < val b := by
  have hd : a.drop (i + 1) = b.drop (i + 1) := by
    apply List.ext_getElem
    · simp [hl]
    · intro j h2 h3
      simp at h2 h3
      have := he (i + 1 + j) (by omega) (by omega)
      simpa [List.getD_eq_getElem?_getD, List.getElem?_eq_getElem (show i + 1 + j < a.length by omega), List.getElem?_eq_getElem (show i + 1 + j < b.length by omega)] using this
  have e1 : val a = val (a.take i) + 16777216 ^ i * val (a.drop i) := by
    conv => lhs; rw [← List.take_append_drop i a, val_append, List.length_take, Nat.min_eq_left (by omega)]
  have e2 : val b = val (b.take i) + 16777216 ^ i * val (b.drop i) := by
    conv => lhs; rw [← List.take_append_drop i b, val_append, List.length_take, Nat.min_eq_left (by omega)]
  have l1 := val_lt (a.take i) fun l h => ha l (List.mem_of_mem_take h)
  rw [List.length_take, Nat.min_eq_left (by omega)] at l1
  rw [e1, e2, val_drop a i hi, val_drop b i (by omega), hd]
  have : 16777216 ^ i * (a.getD i 0 + 16777216 * val (b.drop (i + 1))) + 16777216 ^ i ≤ 16777216 ^ i * (b.getD i 0 + 16777216 * val (b.drop (i + 1))) := by
    rw [← Nat.mul_succ]
    exact Nat.mul_le_mul (Nat.le_refl _) (by omega)
  omega

def cmpN (x y : Nat) : Int := if x < y then -1 else if x = y then 0 else 1

/-- A list of limbs as the integers in its cells. -/
def up (a : List Nat) : List Int := a.map fun n : Nat => (n : Int)
theorem up_len (a : List Nat) : (up a).length = a.length := by simp [up]
theorem up_getD (a : List Nat) (j : Nat) : (up a).getD j 0 = ((a.getD j 0 : Nat) : Int) := by
  unfold up
  rw [List.getD_eq_getElem?_getD, List.getElem?_map, List.getD_eq_getElem?_getD]
  cases a[j]? <;> rfl
theorem up_take (a : List Nat) (k : Nat) : (up a).take k = up (a.take k) := by unfold up; rw [List.map_take]
theorem up_snoc (a : List Nat) (d : Nat) : up (a ++ [d]) = up a ++ [(d : Int)] := by simp [up]
theorem getD_lt (a : List Nat) (h : ∀ l ∈ a, l < 16777216) (j : Nat) : a.getD j 0 < 16777216 := by
  rw [List.getD_eq_getElem?_getD]
  by_cases hj : j < a.length
  · rw [List.getElem?_eq_getElem hj]; exact h _ (List.getElem_mem hj)
  · rw [List.getElem?_eq_none (by omega)]; decide

/-- Which lists of integers are great numbers. -/
def okL (zs : List Int) : Prop := zs.length ≤ 16 ∧ (∀ z ∈ zs, 0 ≤ z ∧ z < 16777216) ∧ zs.getLast? ≠ some 0
def nats (zs : List Int) : List Nat := zs.map Int.toNat
theorem okL_up (zs : List Int) (h : okL zs) : zs = up (nats zs) := by
  unfold up nats
  rw [List.map_map]
  conv => lhs; rw [← List.map_id zs]
  apply List.map_congr_left
  intro z hz
  have := (h.2.1 z hz).1
  simp; omega
theorem okL_norm (zs : List Int) (h : okL zs) : Norm (nats zs) := by
  refine ⟨?_, ?_⟩
  · intro l hl
    obtain ⟨z, hz, rfl⟩ := List.mem_map.1 hl
    have := h.2.1 z hz
    omega
  · unfold nats
    rw [List.getLast?_map]
    intro hc
    obtain ⟨z, hz, he⟩ := Option.map_eq_some_iff.1 hc
    have := h.2.1 z (List.mem_of_getLast? hz)
    exact h.2.2 (by rw [hz]; congr 1; omega)
theorem okL_of (a : List Nat) (h : Norm a) (hl : a.length ≤ 16) : okL (up a) := by
  refine ⟨by rw [up_len]; exact hl, ?_, ?_⟩
  · intro z hz
    obtain ⟨n, hn, rfl⟩ := List.mem_map.1 hz
    have := h.lt n hn
    omega
  · unfold up
    rw [List.getLast?_map]
    intro hc
    obtain ⟨n, hn, he⟩ := Option.map_eq_some_iff.1 hc
    exact h.last (by rw [hn]; congr 1; omega)
theorem nats_up (a : List Nat) : nats (up a) = a := by
  unfold nats up
  rw [List.map_map]
  conv => rhs; rw [← List.map_id a]
  apply List.map_congr_left
  intro n _
  simp
/-- What a list of integers stands for. -/
def num (zs : List Int) : Nat := val (nats zs)
theorem okL_digs (zs : List Int) (h : okL zs) : zs = up (digs (num zs)) := by
  unfold num
  rw [digs_val _ (okL_norm zs h)]; exact okL_up zs h
theorem okL_num_lt (zs : List Int) (h : okL zs) : num zs < 16777216 ^ 16 := by
  have h1 := val_lt (nats zs) (okL_norm zs h).lt
  refine Nat.lt_of_lt_of_le h1 (Nat.pow_le_pow_right (by decide) ?_)
  have := h.1
  simp [nats]; exact this

theorem take_set (a : List Nat) (k d : Nat) (h : k < a.length) : (a.set k d).take (k + 1) = a.take k ++ [d] := by
  rw [List.take_add_one, List.take_set_of_le (by omega), List.getElem?_set_self h]; rfl
theorem drop_set (a : List Nat) (k d : Nat) : (a.set k d).drop (k + 1) = a.drop (k + 1) := by
  rw [List.drop_set_of_lt (by omega)]
theorem set_lt (a : List Nat) (k d : Nat) (h : ∀ l ∈ a, l < 16777216) (hd : d < 16777216) : ∀ l ∈ a.set k d, l < 16777216 := by
  intro l hl
  rcases List.mem_or_eq_of_mem_set hl with h1 | rfl
  · exact h l h1
  · exact hd
theorem drop_getD {a b : List Nat} {k : Nat} (h : a.drop k = b.drop k) (j : Nat) (hj : k ≤ j) : a.getD j 0 = b.getD j 0 := by
  have : (a.drop k)[j - k]? = (b.drop k)[j - k]? := by rw [h]
  rw [List.getElem?_drop, List.getElem?_drop, show k + (j - k) = j by omega] at this
  rw [List.getD_eq_getElem?_getD, List.getD_eq_getElem?_getD, this]
theorem drop_next {a b : List Nat} {k : Nat} (h : a.drop k = b.drop k) : a.drop (k + 1) = b.drop (k + 1) := by
  have := congrArg (List.drop 1) h
  simpa [List.drop_drop, Nat.add_comm] using this
/-- One limb of a sum. -/
theorem carry_step (P v u s : Nat) (h : v = u) : v + P * (s % 16777216) + P * 16777216 * (s / 16777216) = u + P * s := by
  have e := Nat.mod_add_div s 16777216
  have : P * s = P * (s % 16777216) + P * (16777216 * (s / 16777216)) := by rw [← Nat.mul_add, e]
  rw [this, h, Nat.mul_assoc, Nat.add_assoc]

/-- As many limbs as are asked for. -/
def lim : Nat → Nat → List Nat
  | 0, _ => []
  | k + 1, n => n % 16777216 :: lim k (n / 16777216)
theorem lim_len : ∀ k n, (lim k n).length = k
  | 0, _ => rfl
  | k + 1, n => by rw [lim, List.length_cons, lim_len k]
theorem lim_lt : ∀ k n, ∀ l ∈ lim k n, l < 16777216
  | 0, _, l, h => by cases h
  | k + 1, n, l, h => by
    rw [lim] at h
    rcases List.mem_cons.1 h with rfl | h
    · omega
    · exact lim_lt k _ l h
theorem lim_val : ∀ k n, val (lim k n) = n % 16777216 ^ k
  | 0, n => by rw [lim, val]; omega
  | k + 1, n => by rw [lim, val, lim_val k, Nat.pow_succ, Nat.mul_comm (16777216 ^ k), Nat.mod_mul]
theorem lim_of (k : Nat) (a : List Nat) (hl : a.length = k) (h : ∀ l ∈ a, l < 16777216) : a = lim k (val a) := by
  subst hl
  refine val_inj _ _ (lim_len _ _).symm h (lim_lt _ _) ?_
  rw [lim_val, Nat.mod_eq_of_lt (val_lt a h)]
def fit (n : Nat) : List Nat := lim 16 n
def top : Nat := 16777216 ^ 16
theorem fit_len (n : Nat) : (fit n).length = 16 := lim_len 16 n
theorem fit_lt (n : Nat) : ∀ l ∈ fit n, l < 16777216 := lim_lt 16 n
theorem fit_val (n : Nat) (h : n < top) : val (fit n) = n := by unfold fit; rw [lim_val]; exact Nat.mod_eq_of_lt h
theorem fit_of (a : List Nat) (hl : a.length = 16) (h : ∀ l ∈ a, l < 16777216) : a = fit (val a) := lim_of 16 a hl h
theorem val_top (a : List Nat) (hl : a.length = 16) (h : ∀ l ∈ a, l < 16777216) : val a < top := by have := val_lt a h; rw [hl] at this; exact this
theorem fit_zero : fit 0 = List.replicate 16 0 := by decide
theorem fit_digs (n : Nat) (h : n < top) : fit n = digs n ++ List.replicate (16 - (digs n).length) 0 := by
  have hl := (digs_len 16 n).2 h
  have e : val (digs n ++ List.replicate (16 - (digs n).length) 0) = n := by rw [digs_app_zeros, val_digs]
  have := fit_of (digs n ++ List.replicate (16 - (digs n).length) 0) (by simp; omega) (by
    intro l hl
    rcases List.mem_append.1 hl with h1 | h1
    · exact digs_lt n l h1
    · have := List.eq_of_mem_replicate h1; omega)
  rw [e] at this; exact this.symm

theorem val_set (a : List Nat) (k d : Nat) (h : k < a.length) : val (a.set k d) + 16777216 ^ k * a.getD k 0 = val a + 16777216 ^ k * d := by
  have e1 : val a = val (a.take k) + 16777216 ^ k * val (a.drop k) := by
    conv => lhs; rw [← List.take_append_drop k a, val_append, List.length_take, Nat.min_eq_left (by omega)]
  have e2 : val (a.set k d) = val (a.take k) + 16777216 ^ k * (d + 16777216 * val (a.drop (k + 1))) := by
    conv => lhs; rw [← List.take_append_drop k (a.set k d), val_append, List.length_take, List.length_set, Nat.min_eq_left (by omega), List.take_set_of_le (by omega)]
    rw [List.drop_eq_getElem_cons (by simpa using h), val, List.getElem_set_self, drop_set]
  rw [e1, e2, val_drop a k h, Nat.mul_add, Nat.mul_add]
  omega
theorem getD_set_ne (a : List Nat) (k j d : Nat) (h : k ≠ j) : (a.set k d).getD j 0 = a.getD j 0 := by
  rw [List.getD_eq_getElem?_getD, List.getElem?_set_ne h, List.getD_eq_getElem?_getD]
theorem getD_set_eq (a : List Nat) (k d : Nat) (h : k < a.length) : (a.set k d).getD k 0 = d := by
  rw [List.getD_eq_getElem?_getD, List.getElem?_set_self h]; rfl
theorem fit0_getD (j : Nat) : (fit 0).getD j 0 = 0 := by
  rw [fit_zero, List.getD_eq_getElem?_getD]
  by_cases h : j < 16
  · rw [List.getElem?_replicate_of_lt h]; rfl
  · rw [List.getElem?_eq_none (by simp; omega)]; rfl
/-- The limbs of a list of integers, one behind the other, till all are there. -/
theorem fit_num (zs : List Int) (h : okL zs) (a : List Nat) (hl : a.length = 16) (h1 : ∀ j, j < zs.length → ((a.getD j 0 : Nat) : Int) = zs.getD j 0) (h2 : ∀ j, zs.length ≤ j → a.getD j 0 = 0) : a = fit (num zs) := by
  have hz := okL_digs zs h
  have hlen : (digs (num zs)).length = zs.length := by conv => rhs; rw [hz, up_len]
  have h16 := h.1
  rw [fit_digs _ (okL_num_lt zs h)]
  have hget : ∀ j, a.getD j 0 = (digs (num zs) ++ List.replicate (16 - (digs (num zs)).length) 0).getD j 0 := by
    intro j
    by_cases hj : j < zs.length
    · have e := h1 j hj
      rw [hz, up_getD] at e
      rw [List.getD_eq_getElem?_getD (l := _ ++ _), List.getElem?_append_left (by omega), ← List.getD_eq_getElem?_getD]
      omega
    · rw [h2 j (by omega), List.getD_eq_getElem?_getD, List.getElem?_append_right (by omega)]
      by_cases hj2 : j - (digs (num zs)).length < 16 - (digs (num zs)).length
      · rw [List.getElem?_replicate_of_lt hj2]; rfl
      · rw [List.getElem?_eq_none (by simp; omega)]; rfl
  apply List.ext_getElem
  · simp; omega
  · intro i g1 g2
    have := hget i
    rw [List.getD_eq_getElem?_getD, List.getD_eq_getElem?_getD, List.getElem?_eq_getElem g1, List.getElem?_eq_getElem g2] at this
    exact this

theorem val_takeD (a : List Nat) (k : Nat) : val (a.take (k + 1)) = val (a.take k) + 16777216 ^ k * a.getD k 0 := by
  by_cases h : k < a.length
  · exact val_take a k h
  · rw [List.take_of_length_le (by omega), List.take_of_length_le (by omega), List.getD_eq_getElem?_getD, List.getElem?_eq_none (by omega)]; simp

theorem pad_getD (a : List Nat) (n j : Nat) : (a ++ List.replicate n 0).getD j 0 = a.getD j 0 := by
  rw [List.getD_eq_getElem?_getD, List.getD_eq_getElem?_getD]
  by_cases h : j < a.length
  · rw [List.getElem?_append_left h]
  · rw [List.getElem?_append_right (by omega), List.getElem?_eq_none (l := a) (by omega)]
    by_cases h2 : j - a.length < n
    · rw [List.getElem?_replicate_of_lt h2]; rfl
    · rw [List.getElem?_eq_none (by simp; omega)]
theorem pad_lt (a : List Nat) (n : Nat) (h : ∀ l ∈ a, l < 16777216) : ∀ l ∈ a ++ List.replicate n 0, l < 16777216 := by
  intro l hl
  rcases List.mem_append.1 hl with h1 | h1
  · exact h l h1
  · have := List.eq_of_mem_replicate h1; omega
/-- .. of lists of different lengths: what is not there is nought. -/
theorem val_cmpD (a b : List Nat) (i : Nat) (ha : ∀ l ∈ a, l < 16777216) (hb : ∀ l ∈ b, l < 16777216)
    (he : ∀ j, i < j → a.getD j 0 = b.getD j 0) (hlt : a.getD i 0 < b.getD i 0) : val a < val b := by
  have hi : i < b.length := by
    rcases Nat.lt_or_ge i b.length with h | h
    · exact h
    · rw [List.getD_eq_getElem?_getD (l := b), List.getElem?_eq_none h] at hlt; simp at hlt
  have := val_cmp (a ++ List.replicate b.length 0) (b ++ List.replicate a.length 0) i (by simp; omega) (by simp; omega) (pad_lt a _ ha) (pad_lt b _ hb)
    (fun j h1 _ => by rw [pad_getD, pad_getD]; exact he j h1) (by rw [pad_getD, pad_getD]; exact hlt)
  rw [digs_app_zeros, digs_app_zeros] at this
  exact this
theorem val_eqD (a b : List Nat) (he : ∀ j, a.getD j 0 = b.getD j 0) : val a = val b := by
  have : a ++ List.replicate b.length 0 = b ++ List.replicate a.length 0 := by
    apply List.ext_getElem
    · simp; omega
    · intro j h1 h2
      have e : (a ++ List.replicate b.length 0).getD j 0 = (b ++ List.replicate a.length 0).getD j 0 := by rw [pad_getD, pad_getD]; exact he j
      rw [List.getD_eq_getElem?_getD, List.getD_eq_getElem?_getD, List.getElem?_eq_getElem h1, List.getElem?_eq_getElem h2] at e
      exact e
  have e := congrArg val this
  rw [digs_app_zeros, digs_app_zeros] at e
  exact e
theorem getD_past (a : List Nat) (j : Nat) (h : a.length ≤ j) : a.getD j 0 = 0 := by
  rw [List.getD_eq_getElem?_getD, List.getElem?_eq_none h]; rfl

instance (zs : List Int) : Decidable (okL zs) := by unfold okL; infer_instance
theorem okL_iff (zs : List Int) : okL zs ↔ zs.length ≤ 16 ∧ (∀ j, j < zs.length → 0 ≤ zs.getD j 0 ∧ zs.getD j 0 < 16777216) ∧ (zs.length = 0 ∨ zs.getD (zs.length - 1) 0 ≠ 0) := by
  unfold okL
  have h1 : (∀ z ∈ zs, 0 ≤ z ∧ z < 16777216) ↔ ∀ j, j < zs.length → 0 ≤ zs.getD j 0 ∧ zs.getD j 0 < 16777216 := by
    constructor
    · intro h j hj
      rw [List.getD_eq_getElem?_getD, List.getElem?_eq_getElem hj]
      exact h _ (List.getElem_mem hj)
    · intro h z hz
      obtain ⟨j, hj, rfl⟩ := List.mem_iff_getElem.1 hz
      have := h j hj
      rw [List.getD_eq_getElem?_getD, List.getElem?_eq_getElem hj] at this
      exact this
  have h2 : zs.getLast? ≠ some 0 ↔ (zs.length = 0 ∨ zs.getD (zs.length - 1) 0 ≠ 0) := by
    rw [List.getLast?_eq_getElem?]
    by_cases h0 : zs.length = 0
    · simp [List.length_eq_zero_iff.1 h0]
    · rw [List.getD_eq_getElem?_getD, List.getElem?_eq_getElem (by omega)]
      simp [h0]
  rw [h1, h2]

/-- Sum, difference, product of two lists, where there is one. -/
def addO (zs ys : List Int) : Option Nat := if okL zs ∧ okL ys ∧ num zs + num ys < top then some (num zs + num ys) else none
def subO (zs ys : List Int) : Option Nat := if okL zs ∧ okL ys ∧ num ys ≤ num zs then some (num zs - num ys) else none
def mulO (zs ys : List Int) : Option Nat := if okL zs ∧ okL ys ∧ num zs * num ys < top then some (num zs * num ys) else none
/-- Quotient and rest. -/
def divC (zs : List Int) (d : Int) : Prop := okL zs ∧ 1 ≤ d ∧ d ≤ 16777215
instance (zs : List Int) (d : Int) : Decidable (divC zs d) := by unfold divC; infer_instance
def divO (zs : List Int) (d : Int) : Option Nat := if divC zs d then some (num zs / d.toNat) else none
def remZ (zs : List Int) (d : Int) : Int := if divC zs d then ((num zs % d.toNat : Nat) : Int) else 0
/-- What NatCmp answers. -/
def cmpL (zs ys : List Int) : Int := if okL zs ∧ okL ys then cmpN (num zs) (num ys) else -2
/-- What NatOf answers. -/
def ofO (n : Int) : Option Nat := if 0 ≤ n then some n.toNat else none

/-- The last carry of a sum is nought. -/
theorem add_done {a b done : List Nat} {k cy : Nat} (ha : ∀ l ∈ a, l < 16777216) (hb : ∀ l ∈ b, l < 16777216) (hk : a.length < k) (hk2 : b.length < k)
    (hv : val done + 16777216 ^ k * cy = val (a.take k) + val (b.take k)) : cy = 0 ∧ val done = val a + val b := by
  rw [List.take_of_length_le (by omega), List.take_of_length_le (by omega)] at hv
  have h1 := val_lt a ha
  have h2 := val_lt b hb
  obtain ⟨m, rfl⟩ : ∃ m, k = m + 1 := ⟨k - 1, by omega⟩
  have h3 : 16777216 ^ a.length ≤ 16777216 ^ m := Nat.pow_le_pow_right (by decide) (by omega)
  have h4 : 16777216 ^ b.length ≤ 16777216 ^ m := Nat.pow_le_pow_right (by decide) (by omega)
  rw [Nat.pow_succ] at hv
  generalize 16777216 ^ m = P at hv h3 h4
  cases cy with
  | zero => omega
  | succ c => rw [Nat.mul_succ] at hv; omega
theorem add_step {a b done : List Nat} {k cy : Nat} (hl : done.length = k) (hv : val done + 16777216 ^ k * cy = val (a.take k) + val (b.take k)) (s : Nat) (hs : s = a.getD k 0 + b.getD k 0 + cy) :
    val (done ++ [s % 16777216]) + 16777216 ^ (k + 1) * (s / 16777216) = val (a.take (k + 1)) + val (b.take (k + 1)) := by
  subst hs
  rw [val_snoc, hl, val_takeD, val_takeD, Nat.pow_succ, carry_step _ _ _ _ rfl, Nat.mul_add, Nat.mul_add]
  omega
theorem snoc_lt {a : List Nat} {d : Nat} (h : ∀ l ∈ a, l < 16777216) (hd : d < 16777216) : ∀ l ∈ a ++ [d], l < 16777216 := by
  intro l hl
  rcases List.mem_append.1 hl with h1 | h1
  · exact h l h1
  · rw [List.mem_singleton.1 h1]; exact hd
theorem up_set (a : List Nat) (k d : Nat) : ((up a).map (Value.int .i64)).set k (.int .i64 (d : Int)) = (up (a.set k d)).map (Value.int .i64) := by
  unfold up
  rw [List.map_set, List.map_set]
theorem up_zeros (n : Nat) : (up (List.replicate n 0)).map (Value.int .i64) = List.replicate n (.int .i64 0) := by
  unfold up
  rw [List.map_replicate, List.map_replicate]; rfl
/-- One limb of a quotient. -/
theorem div_step {xs zs : List Nat} {m d rest : Nat} (hx : m < xs.length) (hz : m < zs.length)
    (hv : val (zs.drop (m + 1)) * d + rest = val (xs.drop (m + 1))) (q r : Nat) (hq : q = (rest * 16777216 + xs.getD m 0) / d) (hr : r = (rest * 16777216 + xs.getD m 0) % d) :
    val ((zs.set m q).drop m) * d + r = val (xs.drop m) := by
  rw [val_drop xs m hx, val_drop (zs.set m q) m (by simpa using hz), getD_set_eq _ _ _ hz, drop_set, ← hv]
  have e := Nat.div_add_mod (rest * 16777216 + xs.getD m 0) d
  rw [← hq, ← hr] at e
  rw [Nat.add_mul, Nat.mul_comm q d, Nat.mul_assoc 16777216, Nat.mul_add]
  omega
theorem div_lt {d rest X : Nat} (hr : rest < d) (hX : X < 16777216) : (rest * 16777216 + X) / d < 16777216 := by
  apply Nat.div_lt_of_lt_mul
  have h1 : rest + 1 ≤ d := hr
  have := Nat.mul_le_mul_right 16777216 h1
  rw [Nat.add_mul] at this
  omega
theorem div_done {q d r n : Nat} (hv : q * d + r = n) (hr : r < d) : q = n / d ∧ r = n % d := by
  have hd : 0 < d := by omega
  constructor
  · rw [← hv, Nat.mul_comm, Nat.mul_add_div hd, Nat.div_eq_of_lt hr, Nat.add_zero]
  · rw [← hv, Nat.mul_comm, Nat.mul_add_mod, Nat.mod_eq_of_lt hr]
end Go.Proofs.Ytobimpgapfecoaa
/- A list of integers that a function is handed. -/
namespace Go.Proofs.Ytobimpgapfecoaa
open Go.RowKit
set_option maxRecDepth 100000

/-- What a function knows of a list of integers that it is handed. -/
def RowI (w : World) (v : Value) (zs : List Int) : Prop :=
  ∃ oa cap, v = .slice oa zs.length cap ∧ zs.length ≤ cap ∧ (0 < zs.length → ∃ g o, oa = some ⟨g, o, none⟩ ∧ g < w.heap.size ∧ ∀ j, j < zs.length → w.cell? ⟨g, o + j, none⟩ = some (.int .i64 (zs.getD j 0)))
theorem RowI.later {w w' : World} {v : Value} {zs : List Int} (h : RowI w v zs) (hb : Below w.heap.size w w') : RowI w' v zs := by
  obtain ⟨oa, cap, rfl, hc, hr⟩ := h
  refine ⟨oa, cap, rfl, hc, fun h0 => ?_⟩
  obtain ⟨g, o, rfl, hg, hj⟩ := hr h0
  exact ⟨g, o, rfl, Nat.lt_of_lt_of_le hg hb.size, fun j hlt => (hb.cell (p := ⟨g, o + j, none⟩) hg).trans (hj j hlt)⟩
theorem RowI.of_own {w : World} {base n : Nat} {v : Value} {zs : List Int} (h : w.ownsRow base 3 1 v n (zs.map (Value.int .i64))) (hn : zs.length = n) : RowI w v zs := by
  subst hn
  rcases h.2 with ⟨rfl, h0⟩ | ⟨g, cap, cur, rfl, hg, hcur, hcap, r⟩
  · exact ⟨none, 0, by rw [h0], by omega, fun h1 => by omega⟩
  · refine ⟨some ⟨g, 0, none⟩, cap, rfl, ?_, fun h1 => ⟨g, 0, rfl, (Array.getElem?_eq_some_iff.1 hcur).1, ?_⟩⟩
    · exact hcap
    · exact own_cellsI rfl h
theorem own_base {w : World} {b b' e size n : Nat} {v : Value} {xs : List Value} (h : w.ownsRow b e size v n xs) (hb : b' ≤ b) : w.ownsRow b' e size v n xs := by
  refine ⟨h.1, ?_⟩
  rcases h.2 with h' | ⟨g, cap, cur, hv, hg, r⟩
  · exact .inl h'
  · exact .inr ⟨g, cap, cur, hv, by omega, r⟩
end Go.Proofs.Ytobimpgapfecoaa
/- Lists of words, lists of cuts: whether they are right, by the program and by the specification. (What is plain.) -/
namespace Go.Proofs.Ytobimpgapfecoaa
open Go.RowKit
set_option maxRecDepth 100000
/-- The word at a place is one, and stands nowhere ahead. -/
def wordAt (ss : List ByteArray) (i : Nat) : Bool := wordOk (tx ss i) && !hasT (ss.take i) (tx ss i)
def wordsOk (ss : List ByteArray) : Bool := (List.range ss.length).all (wordAt ss)
theorem words_yes {ss : List ByteArray} (h : ∀ j, j < ss.length → wordAt ss j = true) : wordsOk ss = true := by
  unfold wordsOk
  rw [List.all_eq_true]
  intro j hj
  exact h j (List.mem_range.1 hj)
theorem words_no {ss : List ByteArray} (j : Nat) (hj : j < ss.length) (h : wordAt ss j = false) : wordsOk ss = false := by
  cases e : wordsOk ss with
  | false => rfl
  | true =>
    unfold wordsOk at e
    rw [List.all_eq_true] at e
    have := e j (List.mem_range.2 hj)
    rw [h] at this; cases this
theorem words_all {ss : List ByteArray} (h : wordsOk ss = true) : ∀ s ∈ ss, wordOk s = true := by
  intro s hs
  obtain ⟨j, hj, rfl⟩ := List.mem_iff_getElem.1 hs
  unfold wordsOk at h
  rw [List.all_eq_true] at h
  have := h j (List.mem_range.2 hj)
  unfold wordAt at this
  rw [Bool.and_eq_true, tx_eq hj] at this
  exact this.1
theorem wordAt_no1 {ss : List ByteArray} {j : Nat} (h : wordOk (tx ss j) = false) : wordAt ss j = false := by unfold wordAt; rw [h]; rfl
theorem wordAt_no2 {ss : List ByteArray} {j : Nat} (h : hasT (ss.take j) (tx ss j) = true) : wordAt ss j = false := by unfold wordAt; rw [h]; simp
theorem wordAt_yes {ss : List ByteArray} {j : Nat} (h : wordOk (tx ss j) = true) (k : hasT (ss.take j) (tx ss j) = false) : wordAt ss j = true := by unfold wordAt; rw [h, k]; rfl
theorem tx_take {ss : List ByteArray} {j k : Nat} (h : j < k) : tx (ss.take k) j = tx ss j := by simp [tx, h]

/-- What is asked of the sizes of texts that a function is handed. -/
def okS (ss : List ByteArray) : Prop := ss.length ≤ 1099511627776 ∧ ∀ s ∈ ss, s.size ≤ 1099511627776
theorem okS.at {ss : List ByteArray} (h : okS ss) {j : Nat} (hj : j < ss.length) : (tx ss j).size ≤ 9223372036854775807 := by
  have := h.2 _ (tx_mem hj); omega

/-- So many words, no two alike. -/
def choices (ss : List ByteArray) (most : Int) : Bool := decide ((2 : Int) ≤ ss.length ∧ (ss.length : Int) ≤ most) && wordsOk ss
end Go.Proofs.Ytobimpgapfecoaa
