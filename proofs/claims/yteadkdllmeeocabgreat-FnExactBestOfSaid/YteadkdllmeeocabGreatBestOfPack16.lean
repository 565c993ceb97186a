/- Texts of this claim, put together: part 16. -/
import Derived.Test.YteadkdllmeeocabGreatBestOfPack3
/- Chapter 6 in plain words: bins, numbers in order, cuts that are reckoned. -/
namespace Go.Proofs.YteadkdllmeeocabGreat
def binN (cs : List Int) (x : Int) : Nat := cs.countP fun c => decide (c < x)
theorem binN_step (cs : List Int) (x : Int) (k : Nat) (h : k < cs.length) : binN (cs.take (k + 1)) x = binN (cs.take k) x + (if cs.getD k 0 < x then 1 else 0) := by
  unfold binN
  rw [List.take_succ_eq_append_getElem h, List.countP_append]
  simp [List.getD, List.getElem?_eq_getElem h, List.countP_cons]
theorem binN_le (cs : List Int) (x : Int) : binN cs x ≤ cs.length := List.countP_le_length

def leB : Int → Int → Bool := fun x y => decide (x ≤ y)
def sortI (zs : List Int) : List Int := zs.mergeSort fun x y => decide (x ≤ y)
theorem sortI_perm (zs : List Int) : (sortI zs).Perm zs := List.mergeSort_perm _ _
theorem sortI_len (zs : List Int) : (sortI zs).length = zs.length := (sortI_perm zs).length_eq
theorem sortI_rise (zs : List Int) : (sortI zs).Pairwise (· ≤ ·) := by
  have := List.pairwise_mergeSort (le := fun x y : Int => decide (x ≤ y)) (fun a b c h1 h2 => by simp at *; omega) (fun a b => by simp; omega) zs
  unfold sortI
  exact this.imp (fun h => by simpa using h)
theorem sortI_nil : sortI [] = [] := by simp [sortI]
theorem sort_one {xs ys : List Int} (h1 : xs.Pairwise (· ≤ ·)) (h2 : xs.Perm ys) : xs = sortI ys :=
  List.Perm.eq_of_pairwise (le := (· ≤ ·)) (fun a b _ _ h1 h2 => by omega) h1 (sortI_rise ys) (h2.trans (sortI_perm ys).symm)
theorem rise_at {xs : List Int} (h : xs.Pairwise (· ≤ ·)) {i j : Nat} (hij : i ≤ j) (hj : j < xs.length) : xs.getD i 0 ≤ xs.getD j 0 := by
  by_cases e : i = j
  · subst e; exact Int.le_refl _
  · have := List.pairwise_iff_getElem.1 h i j (by omega) hj (by omega)
    simpa [List.getD, List.getElem?_eq_getElem hj, List.getElem?_eq_getElem (show i < xs.length by omega)] using this
/-- A number put in its place. -/
theorem sort_put {ys : List Int} {x : Int} {at' : Nat} (h : at' ≤ (sortI ys).length) (h1 : ∀ j, at' ≤ j → j < (sortI ys).length → x < (sortI ys).getD j 0) (h2 : at' = 0 ∨ (sortI ys).getD (at' - 1) 0 ≤ x) :
    (sortI ys).take at' ++ [x] ++ (sortI ys).drop at' = sortI (ys ++ [x]) := by
  have R := sortI_rise ys
  have Pm := sortI_perm ys
  generalize sortI ys = out at *
  refine sort_one ?_ ?_
  · rw [List.append_assoc, List.pairwise_append]
    refine ⟨R.take, ?_, ?_⟩
    · rw [List.singleton_append, List.pairwise_cons]
      refine ⟨?_, R.drop⟩
      intro b hb
      obtain ⟨j, hj, rfl⟩ := List.getElem_of_mem hb
      rw [List.getElem_drop]
      rw [List.length_drop] at hj
      have := h1 (at' + j) (by omega) (by omega)
      simp [List.getD, List.getElem?_eq_getElem (show at' + j < out.length by omega)] at this
      omega
    · intro a ha b hb
      obtain ⟨i, hi, rfl⟩ := List.getElem_of_mem ha
      rw [List.length_take] at hi
      rw [List.getElem_take]
      have hx : out.getD i 0 ≤ x := by
        rcases h2 with h2 | h2
        · omega
        · have := rise_at R (show i ≤ at' - 1 by omega) (by omega)
          omega
      have ei : out.getD i 0 = out[i]'(by omega) := by simp [List.getD, List.getElem?_eq_getElem (show i < out.length by omega)]
      rw [List.singleton_append] at hb
      rcases List.mem_cons.1 hb with rfl | hb
      · omega
      · obtain ⟨j, hj, rfl⟩ := List.getElem_of_mem hb
        rw [List.getElem_drop]
        rw [List.length_drop] at hj
        have := h1 (at' + j) (by omega) (by omega)
        simp [List.getD, List.getElem?_eq_getElem (show at' + j < out.length by omega)] at this
        omega
  · rw [List.append_assoc, List.singleton_append]
    refine List.perm_middle.trans ?_
    rw [List.take_append_drop]
    exact (Pm.cons x).trans (List.perm_append_singleton x ys).symm

def rightK (k : Int) : Bool := decide (2 ≤ k ∧ k ≤ 4)
def cutIn (c : Int) : Bool := decide (-9999 ≤ c ∧ c ≤ 9998)
def eqAt (lo hi k : Int) (m : Nat) : List Int := (List.range m).map fun i : Nat => lo + ((hi - lo) * ((i : Int) + 1)) / k
theorem eqAt_succ (lo hi k : Int) (m : Nat) : eqAt lo hi k (m + 1) = eqAt lo hi k m ++ [lo + ((hi - lo) * ((m : Int) + 1)) / k] := by
  simp [eqAt, List.range_succ]
theorem eqAt_len (lo hi k : Int) (m : Nat) : (eqAt lo hi k m).length = m := by simp [eqAt]
def equalC (lo hi k : Int) : List Int :=
  if 2 ≤ k ∧ k ≤ 4 ∧ -9999 ≤ lo ∧ lo ≤ 9998 ∧ -9999 ≤ hi ∧ hi ≤ 9998 ∧ k ≤ hi - lo then eqAt lo hi k (k.toNat - 1) else []

theorem equalC_len (lo hi k : Int) : (equalC lo hi k).length ≤ 3 := by
  unfold equalC
  split
  · rw [eqAt_len]; omega
  · simp

def qAt (up : List Int) (k : Int) (i : Nat) : Int := up.getD (((up.length : Int) * i) / k).toNat 0
def qPut (out : List Int) (x : Int) : List Int := if out.length = 0 ∨ out.getD (out.length - 1) 0 < x then out ++ [x] else out
def qTo (up : List Int) (k : Int) : Nat → List Int
  | 0 => []
  | m + 1 => qPut (qTo up k m) (qAt up k (m + 1))
theorem qTo_len (up : List Int) (k : Int) (m : Nat) : (qTo up k m).length ≤ m := by
  induction m with
  | zero => simp [qTo]
  | succ m ih =>
    unfold qTo qPut
    split
    · simp; omega
    · omega
def allIn (zs : List Int) : Bool := zs.all cutIn
def quantC (zs : List Int) (k : Int) : List Int :=
  if 2 ≤ k ∧ k ≤ 4 ∧ 1 ≤ zs.length ∧ zs.length ≤ 64 ∧ allIn zs = true then qTo (sortI zs) k (k.toNat - 1) else []
theorem quantC_len (zs : List Int) (k : Int) : (quantC zs k).length ≤ 3 := by
  unfold quantC
  split
  · have := qTo_len (sortI zs) k (k.toNat - 1)
    omega
  · simp
theorem allIn_ends {zs : List Int} (h : 0 < zs.length) : allIn zs = (decide (-9999 ≤ (sortI zs).getD 0 0) && decide ((sortI zs).getD (zs.length - 1) 0 ≤ 9998)) := by
  have e : allIn zs = allIn (sortI zs) := by
    unfold allIn
    rw [Bool.eq_iff_iff, List.all_eq_true, List.all_eq_true]
    exact ⟨fun H x hx => H x ((sortI_perm zs).mem_iff.1 hx), fun H x hx => H x ((sortI_perm zs).mem_iff.2 hx)⟩
  have R := sortI_rise zs
  have L := sortI_len zs
  rw [e, ← L]
  rw [← L] at h
  generalize sortI zs = out at *
  have gd : ∀ i (hi : i < out.length), out.getD i 0 = out[i] := fun i hi => by simp [List.getD, List.getElem?_eq_getElem hi]
  unfold allIn
  rw [Bool.eq_iff_iff, List.all_eq_true, Bool.and_eq_true, decide_eq_true_eq, decide_eq_true_eq]
  constructor
  · intro H
    have a := H _ (List.getElem_mem h)
    have b := H _ (List.getElem_mem (show out.length - 1 < out.length by omega))
    rw [gd 0 h, gd _ (show out.length - 1 < out.length by omega)]
    simp [cutIn] at a b
    omega
  · rintro ⟨a, b⟩ x hx
    obtain ⟨i, hi, rfl⟩ := List.getElem_of_mem hx
    have c := rise_at R (show 0 ≤ i by omega) hi
    have d := rise_at R (show i ≤ out.length - 1 by omega) (by omega)
    rw [gd i hi] at c d
    simp [cutIn]
    omega
/-- The place that is asked lies within. -/
theorem q_in {n : Nat} {k : Int} {i : Nat} (hk : 2 ≤ k) (hn : 0 < n) (hi : (i : Int) < k) : 0 ≤ ((n : Int) * i) / k ∧ ((n : Int) * i) / k < n := by
  have h0 : 0 ≤ (n : Int) * i := Int.mul_nonneg (by omega) (by omega)
  refine ⟨Int.ediv_nonneg h0 (by omega), ?_⟩
  refine Int.ediv_lt_of_lt_mul (by omega) ?_
  exact Int.mul_lt_mul_of_pos_left hi (by omega)
end Go.Proofs.YteadkdllmeeocabGreat
/- Which cuts are right, in plain words. -/
namespace Go.Proofs.YteadkdllmeeocabGreat
def cutsR (cs : List Int) : Bool := decide (cs.length ≠ 0) && (decide (cs.length ≤ 3) && cutsRise cs)
end Go.Proofs.YteadkdllmeeocabGreat
/- Cuts that rise, one more. -/
namespace Go.Proofs.YteadkdllmeeocabGreat
theorem rise_snoc {ts : List Int} {x : Int} (h : ∀ j, j < ts.length → cutAt ts j = true) (hl : ts.length = 0 ∨ ts.getD (ts.length - 1) 0 < x) (hx : -9999 ≤ x ∧ x ≤ 9998) :
    ∀ j, j < (ts ++ [x]).length → cutAt (ts ++ [x]) j = true := by
  intro j hj
  rw [List.length_append, List.length_singleton] at hj
  have gl : ∀ i, i < ts.length → (ts ++ [x]).getD i 0 = ts.getD i 0 := fun i hi => by
    simp [List.getD, List.getElem?_append_left hi]
  by_cases e : j < ts.length
  · have := h j e
    unfold cutAt at this ⊢
    rw [gl j e]
    by_cases e0 : j = 0
    · subst e0; simpa using this
    · rw [gl (j - 1) (by omega)]; exact this
  · obtain rfl : j = ts.length := by omega
    have hg : (ts ++ [x]).getD ts.length 0 = x := by simp [List.getD]
    unfold cutAt
    rw [hg]
    rw [decide_eq_true hx, Bool.true_and]
    rcases hl with hl | hl
    · rw [decide_eq_true hl]; rfl
    · by_cases e0 : ts.length = 0
      · rw [decide_eq_true e0]; rfl
      · rw [gl (ts.length - 1) (by omega), decide_eq_true hl, Bool.or_true]
end Go.Proofs.YteadkdllmeeocabGreat
/- Chapter 6 in plain words: cuts that are reckoned are right, bins rise, numbers in order are the same ones. -/
namespace Go.Proofs.YteadkdllmeeocabGreat
theorem qTo_rise {up : List Int} {k : Int} (hk : 2 ≤ k) (h0 : 0 < up.length) (hin : ∀ x ∈ up, cutIn x = true) (m : Nat) (hm : (m : Int) < k) : ∀ j, j < (qTo up k m).length → cutAt (qTo up k m) j = true := by
  induction m with
  | zero => intro j hj; simp [qTo] at hj
  | succ m ih =>
    have ih := ih (by omega)
    have hq := q_in (n := up.length) (i := m + 1) hk h0 hm
    have hx : cutIn (qAt up k (m + 1)) = true := by
      refine hin _ ?_
      unfold qAt
      have hlt : (((up.length : Int) * ((m + 1 : Nat) : Int)) / k).toNat < up.length := by omega
      rw [List.getD_eq_getElem?_getD, List.getElem?_eq_getElem hlt]
      exact List.getElem_mem hlt
    show ∀ j, j < (qPut (qTo up k m) (qAt up k (m + 1))).length → cutAt (qPut (qTo up k m) (qAt up k (m + 1))) j = true
    unfold qPut
    split
    · next h => exact rise_snoc ih h (by unfold cutIn at hx; exact of_decide_eq_true hx)
    · exact ih
theorem quant_right {zs : List Int} {k : Int} (h : (quantC zs k).length ≠ 0) : cutsR (quantC zs k) = true ∧ ((quantC zs k).length : Int) ≤ k - 1 := by
  by_cases c : 2 ≤ k ∧ k ≤ 4 ∧ 1 ≤ zs.length ∧ zs.length ≤ 64 ∧ allIn zs = true
  · have e : quantC zs k = qTo (sortI zs) k (k.toNat - 1) := if_pos c
    obtain ⟨c1, c2, c3, c4, c5⟩ := c
    have hl := qTo_len (sortI zs) k (k.toNat - 1)
    have hr := qTo_rise (up := sortI zs) (k := k) c1 (by rw [sortI_len]; omega) (fun x hx => by
      unfold allIn at c5
      rw [List.all_eq_true] at c5
      exact c5 x ((sortI_perm zs).mem_iff.1 hx)) (k.toNat - 1) (by omega)
    rw [e] at h ⊢
    refine ⟨?_, by omega⟩
    unfold cutsR
    rw [decide_eq_true h, decide_eq_true (by omega), rise_yes hr]
    rfl
  · exact absurd (show (quantC zs k).length = 0 by rw [show quantC zs k = [] from if_neg c]; rfl) h
theorem quant_in (zs : List Int) (k : Int) : ∀ c ∈ quantC zs k, c ≤ 9998 := by
  intro c hc
  have h0 : (quantC zs k).length ≠ 0 := fun e => by rw [List.length_eq_zero_iff.1 e] at hc; simp at hc
  have := (quant_right h0).1
  unfold cutsR at this
  rw [Bool.and_eq_true, Bool.and_eq_true] at this
  obtain ⟨i, hi, rfl⟩ := List.getElem_of_mem hc
  have h2 := this.2.2
  unfold cutsRise at h2
  rw [List.all_eq_true] at h2
  have h3 := (cutAt_in (h2 i (List.mem_range.2 hi))).2
  rwa [List.getD_eq_getElem?_getD, List.getElem?_eq_getElem hi] at h3
theorem equal_right {lo hi k : Int} (h : (equalC lo hi k).length ≠ 0) : cutsR (equalC lo hi k) = true ∧ ((equalC lo hi k).length : Int) = k - 1 := by
  by_cases c : 2 ≤ k ∧ k ≤ 4 ∧ -9999 ≤ lo ∧ lo ≤ 9998 ∧ -9999 ≤ hi ∧ hi ≤ 9998 ∧ k ≤ hi - lo
  · have e : equalC lo hi k = eqAt lo hi k (k.toNat - 1) := if_pos c
    obtain ⟨c1, c2, c3, c4, c5, c6, c7⟩ := c
    rw [e]
    refine ⟨?_, by rw [eqAt_len]; omega⟩
    unfold cutsR
    rw [eqAt_len, decide_eq_true (by omega), decide_eq_true (by omega)]
    have key : cutsRise (eqAt lo hi k (k.toNat - 1)) = true := by
      have hk : k = 2 ∨ k = 3 ∨ k = 4 := by omega
      rcases hk with rfl | rfl | rfl
      · refine rise_yes fun j hj => ?_
        rw [eqAt_len] at hj
        obtain rfl : j = 0 := by omega
        simp [cutAt, eqAt]
        omega
      · refine rise_yes fun j hj => ?_
        rw [eqAt_len] at hj
        have hj' : j = 0 ∨ j = 1 := by omega
        rcases hj' with rfl | rfl
        · simp [cutAt, eqAt, List.range_succ]; omega
        · simp [cutAt, eqAt, List.range_succ]; omega
      · refine rise_yes fun j hj => ?_
        rw [eqAt_len] at hj
        have hj' : j = 0 ∨ j = 1 ∨ j = 2 := by omega
        rcases hj' with rfl | rfl | rfl
        · simp [cutAt, eqAt, List.range_succ]; omega
        · simp [cutAt, eqAt, List.range_succ]; omega
        · simp [cutAt, eqAt, List.range_succ]; omega
    rw [key]; rfl
  · exact absurd (show (equalC lo hi k).length = 0 by rw [show equalC lo hi k = [] from if_neg c]; rfl) h
theorem binN_mono (cs : List Int) {x y : Int} (h : x ≤ y) : binN cs x ≤ binN cs y := by
  unfold binN
  refine List.countP_mono_left fun c _ hc => ?_
  simp at hc ⊢
  omega
theorem binN_top (zs : List Int) (k : Int) : binN (quantC zs k) 9223372036854775807 = (quantC zs k).length := by
  unfold binN
  rw [List.countP_eq_length]
  intro c hc
  have := quant_in zs k c hc
  simp; omega
def timesN (zs : List Int) (x : Int) : Nat := zs.countP fun c => decide (c = x)
theorem timesN_step (zs : List Int) (x : Int) (k : Nat) (h : k < zs.length) : timesN (zs.take (k + 1)) x = timesN (zs.take k) x + (if zs.getD k 0 = x then 1 else 0) := by
  unfold timesN
  rw [List.take_succ_eq_append_getElem h, List.countP_append]
  simp [List.getD, List.getElem?_eq_getElem h, List.countP_cons]
theorem timesN_le (zs : List Int) (x : Int) : timesN zs x ≤ zs.length := List.countP_le_length
theorem timesN_sort (zs : List Int) (x : Int) : timesN (sortI zs) x = timesN zs x := (sortI_perm zs).countP_eq _
end Go.Proofs.YteadkdllmeeocabGreat
