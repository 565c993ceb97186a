/- Texts of this claim, put together: part 9. -/
import Derived.Test.YtobimpgapfecoabPromisePack8
/- The total of counts, by the specification. (What is plain.) -/
namespace Go.Proofs.Ytobimpgapfecoab
open Go.RowKit
set_option maxRecDepth 100000
set_option linter.unusedSimpArgs false
def statsTotal (s : SchemaD) (t : StatsD) : Int := if statsOk s t = true then sumL t.totals else 0
theorem statsOk_parts {s : SchemaD} {t : StatsD} (h : statsOk s t = true) : schemaOk s = true ∧ t.totals.length = s.classes.length ∧ t.totals.all inW = true ∧ sumL t.totals ≤ 999 := by
  unfold statsOk at h
  rw [Bool.and_eq_true, Bool.and_eq_true, Bool.and_eq_true, Bool.and_eq_true, decide_eq_true_eq, decide_eq_true_eq] at h
  exact ⟨h.1, h.2.1, h.2.2.1, h.2.2.2.1⟩
theorem allW_at {l : List Int} (h : l.all inW = true) {k : Nat} (hk : k < l.length) : 0 ≤ l.getD k 0 ∧ l.getD k 0 ≤ 999 := by
  rw [List.all_eq_true] at h
  have := of_decide_eq_true (h _ (List.getElem_mem hk))
  rwa [List.getD_eq_getElem?_getD, List.getElem?_eq_getElem hk]
end Go.Proofs.Ytobimpgapfecoab
/- What counts promise, by the specification. (What is plain.) -/
namespace Go.Proofs.Ytobimpgapfecoab
open Go.RowKit
set_option maxRecDepth 100000
set_option linter.unusedSimpArgs false
def promise (s : SchemaD) (t : StatsD) : Int := if statsOk s t = true then statsTotal s t - t.totals.getD (topOf t.totals).toNat 0 else 0
theorem topFrom_range (l : List Int) : ∀ (n k : Nat) (a : Int), -1 ≤ a → a < (k : Int) → (0 ≤ a ∨ 0 < n) → 0 ≤ topFrom l a k n ∧ topFrom l a k n < (k : Int) + n := by
  intro n
  induction n with
  | zero => intro k a h0 h1 h2; simp only [topFrom]; omega
  | succ n ih =>
    intro k a h0 h1 h2
    simp only [topFrom]
    split
    · have := ih (k + 1) k (by omega) (by omega) (.inl (by omega)); omega
    · rename_i h
      have ha : 0 ≤ a := by
        by_cases h' : a < 0
        · exact absurd (.inl h') h
        · omega
      have := ih (k + 1) a (by omega) (by omega) (.inl ha); omega
theorem topOf_range {l : List Int} (h : 0 < l.length) : 0 ≤ topOf l ∧ topOf l < (l.length : Int) := by
  have := topFrom_range l l.length 0 (-1) (by omega) (by omega) (.inr h)
  unfold topOf; omega
theorem sum_nonneg {l : List Int} (h : l.all inW = true) : 0 ≤ sumL l := by
  have key : ∀ k, k ≤ l.length → 0 ≤ sumL (l.take k) := by
    intro k
    induction k with
    | zero => intro _; exact Int.le_refl 0
    | succ k ih => intro hk; rw [sum_take (by omega)]; have := ih (by omega); have := (allW_at h (show k < l.length by omega)).1; omega
  have := key l.length (Nat.le_refl _)
  rwa [List.take_length] at this
end Go.Proofs.Ytobimpgapfecoab
/- All weights together, by the program. -/
namespace Go.Proofs.Ytobimpgapfecoab
open Go.RowKit
set_option maxRecDepth 100000
set_option linter.unusedSimpArgs false
def weightsOk (l : List Int) : Bool := l.all inW && decide (sumL l ≤ 999)
def weightSum (l : List Int) : Int := if weightsOk l = true then sumL l else 0
theorem inW_iff {x : Int} : inW x = true ↔ 0 ≤ x ∧ x ≤ 999 := by unfold inW; rw [decide_eq_true_eq]
theorem all_at {l : List Int} (h : l.all inW = true) {k : Nat} (hk : k < l.length) : 0 ≤ l.getD k 0 ∧ l.getD k 0 ≤ 999 := by
  rw [List.all_eq_true] at h
  have := inW_iff.1 (h _ (List.getElem_mem hk))
  rwa [List.getD_eq_getElem?_getD, List.getElem?_eq_getElem hk]
theorem sum_rest {l : List Int} (h : l.all inW = true) : ∀ d k, k + d ≤ l.length → sumL (l.take k) ≤ sumL (l.take (k + d)) := by
  intro d
  induction d with
  | zero => intro k _; exact Int.le_refl _
  | succ d ih =>
    intro k hk
    have h1 := ih k (by omega)
    have h2 := (all_at h (show k + d < l.length by omega)).1
    rw [show k + (d + 1) = (k + d) + 1 by omega, sum_take (by omega)]
    omega
theorem weightsOk_no {l : List Int} {k : Nat} (hk : k < l.length) (h : l.getD k 0 < 0 ∨ l.getD k 0 > 999 - sumL (l.take k)) : weightsOk l = false := by
  cases e : weightsOk l with
  | false => rfl
  | true =>
    unfold weightsOk at e
    rw [Bool.and_eq_true, decide_eq_true_eq] at e
    have h1 := (all_at e.1 hk).1
    have h2 := sum_rest e.1 (l.length - (k + 1)) (k + 1) (by omega)
    rw [show k + 1 + (l.length - (k + 1)) = l.length by omega, List.take_length, sum_take hk] at h2
    omega
theorem weightsOk_yes {l : List Int} (h : ∀ j, j < l.length → inW (l.getD j 0) = true) (hs : sumL l ≤ 999) : weightsOk l = true := by
  unfold weightsOk
  rw [Bool.and_eq_true, decide_eq_true_eq]
  exact ⟨allW_yes h, hs⟩
set_option maxHeartbeats 800000 in
theorem weightOf_any (v : Value) (l : List Int) (w : World) (h : RowI w v l) (hn : l.length ≤ 1099511627776) :
    Calls Try.prog 76 #[v] w fun e w' => e = .returned (.tuple #[.int .i64 (weightSum l), .bool (weightsOk l)]) ∧ Below w.heap.size w w' := by
  obtain ⟨oa, cap, rfl, hc, hr⟩ := h
  have HR : Hid (0 < l.length → ∃ g o, oa = some ⟨g, o, none⟩ ∧ g < w.heap.size ∧ ∀ j, j < l.length → w.cell? ⟨g, o + j, none⟩ = some (.int .i64 (l.getD j 0))) := hr
  clear hr
  go_enter Try.func76, Try.ntmps76
  go_wp2
  go_loopw [4, 9] (fun a i wr => ∃ (k : Nat) (z : Int), i = .int .i64 k ∧ a = .int .i64 z ∧ k ≤ l.length ∧ 0 ≤ z ∧ z ≤ 999 ∧ Hid (z = sumL (l.take k) ∧ ∀ j, j < k → inW (l.getD j 0) = true) ∧ wr = w) (fun _ i _ => l.length - (intOf i).toNat)
  case atStart => exact ⟨0, 0, rfl, rfl, by omega, by omega, by omega, ⟨rfl, fun j hj => by omega⟩, rfl⟩
  case round =>
    obtain ⟨k, z, rfl, rfl, hk, hz0, hz1, HT, rfl⟩ := hrel
    by_cases hlt : k < l.length
    · obtain ⟨g, o, rfl, hg, hj⟩ := HR.out (by omega)
      have ha := hj k hlt
      have HNo : Hid (l.getD k 0 < 0 ∨ l.getD k 0 > 999 - z → weightsOk l = false) := fun h => weightsOk_no hlt (by rw [← HT.out.1]; exact h)
      have HST : Hid (sumL (l.take (k + 1)) = sumL (l.take k) + l.getD k 0) := sum_take hlt
      have HX : Hid (∀ j, j < k + 1 → j ≠ k → inW (l.getD j 0) = true) := fun j h1 h2 => HT.out.2 j (by omega)
      have HY : Hid (0 ≤ l.getD k 0 → l.getD k 0 ≤ 999 → inW (l.getD k 0) = true) := fun a b => inW_yes ⟨a, b⟩
      clear hj
      generalize hx : l.getD k 0 = x at ha HNo HST HY
      have HXX : Hid (l.getD k 0 = x) := hx
      clear hx
      by_cases h1 : x < 0
      · have HF := HNo.out (.inl h1)
        have HW : Hid (weightSum l = 0 ∧ weightsOk l = false) := ⟨by unfold weightSum; rw [HF]; rfl, HF⟩
        clear HF
        go_wp2
        exact bodyPost_ret (results_tmp2 rfl _ _ _) rfl ⟨by rw [HW.out.1, HW.out.2]; rfl, Below.refl _ _⟩
      · by_cases h2 : x > 999 - z
        · have HF := HNo.out (.inr h2)
          have HW : Hid (weightSum l = 0 ∧ weightsOk l = false) := ⟨by unfold weightSum; rw [HF]; rfl, HF⟩
          clear HF
          go_wp2
          exact bodyPost_ret (results_tmp2 rfl _ _ _) rfl ⟨by rw [HW.out.1, HW.out.2]; rfl, Below.refl _ _⟩
        · go_wp2
          go_roundw
          case rel =>
            refine ⟨k + 1, z + x, by go_num, rfl, by omega, by omega, by omega, ⟨by rw [HST.out, ← HT.out.1], fun j hj => ?_⟩, trivial⟩
            by_cases e : j = k
            · subst e; rw [HXX.out]; exact HY.out (by omega) (by omega)
            · exact HX.out j hj e
          case measure => simp [intOf]; omega
    · obtain rfl : k = l.length := by omega
      have HOK : Hid (weightsOk l = true) := weightsOk_yes HT.out.2 (by have := HT.out.1; rw [List.take_length] at this; omega)
      have HS : Hid (weightSum l = z) := by have := HT.out.1; rw [List.take_length] at this; show weightSum l = z; unfold weightSum; rw [if_pos HOK.out]; exact this.symm
      go_wp2
      exact bodyPost_ret (results_tmp2 rfl _ _ _) rfl ⟨by rw [HS.out, HOK.out]; rfl, Below.refl _ _⟩
end Go.Proofs.Ytobimpgapfecoab
/- Cells of one attribute held against the totals, in plain words. -/
namespace Go.Proofs.Ytobimpgapfecoab
open Go.RowKit
set_option maxRecDepth 100000
/-- The weight of one class in the first k cells. -/
def part (c : List Int) (m cls : Nat) : Nat → Int
  | 0 => 0
  | k + 1 => part c m cls k + (if k % m = cls then c.getD k 0 else 0)
theorem part_succ (c : List Int) (m cls k : Nat) : part c m cls (k + 1) = part c m cls k + (if k % m = cls then c.getD k 0 else 0) := rfl
def withinB (c T : List Int) (m : Nat) : Bool := c.all inW && (List.range m).all fun cls => decide (part c m cls c.length ≤ T.getD cls 0)
theorem part_mono {c : List Int} {m cls : Nat} (h : c.all inW = true) : ∀ d k, k + d ≤ c.length → part c m cls k ≤ part c m cls (k + d) := by
  intro d
  induction d with
  | zero => intro k _; exact Int.le_refl _
  | succ d ih =>
    intro k hk
    have h1 := ih k (by omega)
    have h2 := (all_at h (show k + d < c.length by omega)).1
    rw [show k + (d + 1) = (k + d) + 1 from rfl, part_succ]
    split <;> omega
theorem within_neg {c T : List Int} {m k : Nat} (hk : k < c.length) (h : c.getD k 0 < 0) : withinB c T m = false := by
  unfold withinB
  rw [allW_no hk (inW_no (by omega))]; rfl
theorem within_more {c T : List Int} {m k : Nat} (hm : 0 < m) (hk : k < c.length) (h : c.getD k 0 > T.getD (k % m) 0 - part c m (k % m) k) : withinB c T m = false := by
  cases e : withinB c T m with
  | false => rfl
  | true =>
    unfold withinB at e
    rw [Bool.and_eq_true, List.all_eq_true (l := List.range m)] at e
    have h1 := of_decide_eq_true (e.2 (k % m) (List.mem_range.2 (Nat.mod_lt _ hm)))
    have h2 := part_mono (m := m) (cls := k % m) e.1 (c.length - (k + 1)) (k + 1) (by omega)
    rw [show k + 1 + (c.length - (k + 1)) = c.length by omega] at h2
    have h3 : part c m (k % m) (k + 1) = part c m (k % m) k + c.getD k 0 := by show part c m (k % m) k + _ = _; rw [if_pos rfl]
    omega
theorem within_yes {c T : List Int} {m : Nat} (h1 : ∀ j, j < c.length → inW (c.getD j 0) = true) (h2 : ∀ cls, cls < m → part c m cls c.length ≤ T.getD cls 0) : withinB c T m = true := by
  unfold withinB
  rw [Bool.and_eq_true, List.all_eq_true (l := List.range m)]
  exact ⟨allW_yes h1, fun x hx => decide_eq_true (h2 x (List.mem_range.1 hx))⟩
/-- The first cells of a bin add to each class that stands ahead of them. -/
theorem part_bin (c : List Int) {m cls : Nat} (hc : cls < m) (b : Nat) : ∀ j, j ≤ m → part c m cls (b * m + j) = part c m cls (b * m) + (if cls < j then colAt c m cls b else 0) := by
  intro j
  induction j with
  | zero => intro _; simp
  | succ j ih =>
    intro hj
    rw [show b * m + (j + 1) = (b * m + j) + 1 from rfl, part_succ, ih (by omega)]
    have hmod : (b * m + j) % m = j := by rw [Nat.add_comm, Nat.mul_comm, Nat.add_mul_mod_self_left, Nat.mod_eq_of_lt (by omega)]
    rw [hmod]
    by_cases e : j = cls
    · subst e
      rw [if_pos rfl, if_neg (by omega), if_pos (by omega)]
      unfold colAt; omega
    · rw [if_neg e]
      by_cases h : cls < j
      · rw [if_pos h, if_pos (by omega)]; omega
      · rw [if_neg h, if_neg (by omega)]; omega
theorem part_col (c : List Int) {m cls : Nat} (hc : cls < m) : ∀ n, part c m cls (n * m) = sumL (colL c m cls n) := by
  intro n
  induction n with
  | zero => rw [Nat.zero_mul]; rfl
  | succ n ih =>
    rw [col_succ, ← ih, Nat.succ_mul, part_bin c hc n m (Nat.le_refl _), if_pos hc]
theorem within_cols {t : StatsD} {c : List Int} {m n : Nat} (hl : c.length = n * m) (hm : 0 < m) : withinB c t.totals m = (List.range m).all (colOk t c m n) := by
  rw [Bool.eq_iff_iff]
  unfold withinB
  rw [Bool.and_eq_true, List.all_eq_true, List.all_eq_true, List.all_eq_true]
  constructor
  · rintro ⟨h1, h2⟩ k hk
    have hk' := List.mem_range.1 hk
    unfold colOk
    rw [Bool.and_eq_true, decide_eq_true_eq, List.all_eq_true, ← part_col c hk', ← hl]
    refine ⟨fun x hx => ?_, of_decide_eq_true (h2 k hk)⟩
    unfold colL at hx
    obtain ⟨b, hb, rfl⟩ := List.mem_map.1 hx
    have hbl : b * m + k < c.length := by
      have := List.mem_range.1 hb
      rw [hl]
      calc b * m + k < b * m + m := by omega
        _ = (b + 1) * m := by rw [Nat.succ_mul]
        _ ≤ n * m := Nat.mul_le_mul_right _ (by omega)
    have := h1 _ (List.getElem_mem hbl)
    unfold colAt
    rwa [List.getD_eq_getElem?_getD, List.getElem?_eq_getElem hbl]
  · intro h
    refine ⟨fun x hx => ?_, fun k hk => ?_⟩
    · obtain ⟨i, hi, rfl⟩ := List.getElem_of_mem hx
      have hk : i % m < m := Nat.mod_lt _ hm
      have h1 := h (i % m) (List.mem_range.2 hk)
      unfold colOk at h1
      rw [Bool.and_eq_true, List.all_eq_true] at h1
      have hb : i / m < n := by rw [Nat.div_lt_iff_lt_mul hm]; omega
      have h2 := h1.1 (colAt c m (i % m) (i / m)) (by unfold colL; exact List.mem_map.2 ⟨i / m, List.mem_range.2 hb, rfl⟩)
      unfold colAt at h2
      rw [Nat.div_add_mod' i m, List.getD_eq_getElem?_getD, List.getElem?_eq_getElem hi] at h2
      exact h2
    · have h1 := h k hk
      unfold colOk at h1
      rw [Bool.and_eq_true, decide_eq_true_eq, ← part_col c (List.mem_range.1 hk), ← hl] at h1
      exact decide_eq_true h1.2
end Go.Proofs.Ytobimpgapfecoab
