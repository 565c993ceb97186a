/- Chapter 6 in plain words: bins, numbers in order, cuts that are reckoned. -/
namespace Go.Proofs.Ytfekcckckmhioaa
def binN (cs : List Int) (x : Int) : Nat := cs.countP fun c => decide (c < x)
theorem binN_step (cs : List Int) (x : Int) (k : Nat) (h : k < cs.length) : binN (cs.take (k + 1)) x = binN (cs.take k) x + (if cs.getD k 0 < x then 1 else 0) := by
  unfold binN
  rw [List.take_succ_eq_append_getElem h, List.countP_append]
  simp [List.getD, List.getElem?_eq_getElem h, List.countP_cons]
theorem binN_le (cs : List Int) (x : Int) : binN cs x ≤ cs.length := List.countP_le_length

def leB : Int → Int → Bool := fun x y => decide (x ≤ y)
def sortI (zs : List Int) : List Int := zs.mergeSort fun x y => decide (x ≤ y)
theorem sortI_perm (zs : List Int) : (sortI zs).Perm zs := List.mergeSort_perm _ _
theorem sortI_len (zs : List Int) : (sortI zs).length = zs.length := (sortI_perm zs).length_eq
theorem sortI_rise (zs : List Int) : (sortI zs).Pairwise (· ≤ ·) := by
  have := List.pairwise_mergeSort (le := fun x y : Int => decide (x ≤ y)) (fun a b c h1 h2 => by simp at *; omega) (fun a b => by simp; omega) zs
  unfold sortI
  exact this.imp (fun h => by simpa using h)
theorem sortI_nil : sortI [] = [] := by simp [sortI]
theorem sort_one {xs ys : List Int} (h1 : xs.Pairwise (· ≤ ·)) (h2 : xs.Perm ys) : xs = sortI ys :=
  List.Perm.eq_of_pairwise (le := (· ≤ ·)) (fun a b _ _ h1 h2 => by omega) h1 (sortI_rise ys) (h2.trans (sortI_perm ys).symm)
theorem rise_at {xs : List Int} (h : xs.Pairwise (· ≤ ·)) {i j : Nat} (hij : i ≤ j) (hj : j < xs.length) : xs.getD i 0 ≤ xs.getD j 0 := by
  by_cases e : i = j
  · subst e; exact Int.le_refl _
  · have := List.pairwise_iff_getElem.1 h i j (by omega) hj (by omega)
    simpa [List.getD, List.getElem?_eq_getElem hj, List.getElem?_eq_getElem (show i < xs.length by omega)] using this
/-- A number put in its place. -/
theorem sort_put {ys : List Int} {x : Int} {at' : Nat} (h : at' ≤ (sortI ys).length) (h1 : ∀ j, at' ≤ j → j < (sortI ys).length → x < (sortI ys).getD j 0) (h2 : at' = 0 ∨ (sortI ys).getD (at' - 1) 0 ≤ x) :
    (sortI ys).take at' ++ [x] ++ (sortI ys).drop at' = sortI (ys ++ [x]) := by
  have R := sortI_rise ys
  have Pm := sortI_perm ys
  generalize sortI ys = out at *
  refine sort_one ?_ ?_
  · rw [List.append_assoc, List.pairwise_append]
    refine ⟨R.take, ?_, ?_⟩
    · rw [List.singleton_append, List.pairwise_cons]
      refine ⟨?_, R.drop⟩
      intro b hb
      obtain ⟨j, hj, rfl⟩ := List.getElem_of_mem hb
      rw [List.getElem_drop]
      rw [List.length_drop] at hj
      have := h1 (at' + j) (by omega) (by omega)
      simp [List.getD, List.getElem?_eq_getElem (show at' + j < out.length by omega)] at this
      omega
    · intro a ha b hb
      obtain ⟨i, hi, rfl⟩ := List.getElem_of_mem ha
      rw [List.length_take] at hi
      rw [List.getElem_take]
      have hx : out.getD i 0 ≤ x := by
        rcases h2 with h2 | h2
        · omega
        · have := rise_at R (show i ≤ at' - 1 by omega) (by omega)
          omega
      have ei : out.getD i 0 = out[i]'(by omega) := by simp [List.getD, List.getElem?_eq_getElem (show i < out.length by omega)]
      rw [List.singleton_append] at hb
      rcases List.mem_cons.1 hb with rfl | hb
      · omega
      · obtain ⟨j, hj, rfl⟩ := List.getElem_of_mem hb
        rw [List.getElem_drop]
        rw [List.length_drop] at hj
        have := h1 (at' + j) (by omega) (by omega)
        simp [List.getD, List.getElem?_eq_getElem (show at' + j < out.length by omega)] at this
        omega
  · rw [List.append_assoc, List.singleton_append]
    refine List.perm_middle.trans ?_
    rw [List.take_append_drop]
    exact (Pm.cons x).trans (List.perm_append_singleton x ys).symm

def rightK (k : Int) : Bool := decide (2 ≤ k ∧ k ≤ 4)
def cutIn (c : Int) : Bool := decide (-9999 ≤ c ∧ c ≤ 9998)
def eqAt (lo hi k : Int) (m : Nat) : List Int := (List.range m).map fun i : Nat => lo + ((hi - lo) * ((i : Int) + 1)) / k
theorem eqAt_succ (lo hi k : Int) (m : Nat) : eqAt lo hi k (m + 1) = eqAt lo hi k m ++ [lo + ((hi - lo) * ((m : Int) + 1)) / k] := by
  simp [eqAt, List.range_succ]
theorem eqAt_len (lo hi k : Int) (m : Nat) : (eqAt lo hi k m).length = m := by simp [eqAt]
def equalC (lo hi k : Int) : List Int :=
  if 2 ≤ k ∧ k ≤ 4 ∧ -9999 ≤ lo ∧ lo ≤ 9998 ∧ -9999 ≤ hi ∧ hi ≤ 9998 ∧ k ≤ hi - lo then eqAt lo hi k (k.toNat - 1) else []

theorem equalC_len (lo hi k : Int) : (equalC lo hi k).length ≤ 3 := by
  unfold equalC
  split
  · rw [eqAt_len]; omega
  · simp

def qAt (up : List Int) (k : Int) (i : Nat) : Int := up.getD (((up.length : Int) * i) / k).toNat 0
def qPut (out : List Int) (x : Int) : List Int := if out.length = 0 ∨ out.getD (out.length - 1) 0 < x then out ++ [x] else out
def qTo (up : List Int) (k : Int) : Nat → List Int
  | 0 => []
  | m + 1 => qPut (qTo up k m) (qAt up k (m + 1))
theorem qTo_len (up : List Int) (k : Int) (m : Nat) : (qTo up k m).length ≤ m := by
  induction m with
  | zero => simp [qTo]
  | succ m ih =>
    unfold qTo qPut
    split
    · simp; omega
    · omega
def allIn (zs : List Int) : Bool := zs.all cutIn
def quantC (zs : List Int) (k : Int) : List Int :=
  if 2 ≤ k ∧ k ≤ 4 ∧ 1 ≤ zs.length ∧ zs.length ≤ 64 ∧ allIn zs = true then qTo (sortI zs) k (k.toNat - 1) else []
theorem quantC_len (zs : List Int) (k : Int) : (quantC zs k).length ≤ 3 := by
  unfold quantC
  split
  · have := qTo_len (sortI zs) k (k.toNat - 1)
    omega
  · simp
theorem allIn_ends {zs : List Int} (h : 0 < zs.length) : allIn zs = (decide (-9999 ≤ (sortI zs).getD 0 0) && decide ((sortI zs).getD (zs.length - 1) 0 ≤ 9998)) := by
  have e : allIn zs = allIn (sortI zs) := by
    unfold allIn
    rw [Bool.eq_iff_iff, List.all_eq_true, List.all_eq_true]
    exact ⟨fun H x hx => H x ((sortI_perm zs).mem_iff.1 hx), fun H x hx => H x ((sortI_perm zs).mem_iff.2 hx)⟩
  have R := sortI_rise zs
  have L := sortI_len zs
  rw [e, ← L]
  rw [← L] at h
  generalize sortI zs = out at *
  have gd : ∀ i (hi : i < out.length), out.getD i 0 = out[i] := fun i hi => by simp [List.getD, List.getElem?_eq_getElem hi]
  unfold allIn
  rw [Bool.eq_iff_iff, List.all_eq_true, Bool.and_eq_true, decide_eq_true_eq, decide_eq_true_eq]
  constructor
  · intro H
    have a := H _ (List.getElem_mem h)
    have b := H _ (List.getElem_mem (show out.length - 1 < out.length by omega))
    rw [gd 0 h, gd _ (show out.length - 1 < out.length by omega)]
    simp [cutIn] at a b
    omega
  · rintro ⟨a, b⟩ x hx
    obtain ⟨i, hi, rfl⟩ := List.getElem_of_mem hx
    have c := rise_at R (show 0 ≤ i by omega) hi
    have d := rise_at R (show i ≤ out.length - 1 by omega) (by omega)
    rw [gd i hi] at c d
    simp [cutIn]
    omega
/-- The place that is asked lies within. -/
theorem q_in {n : Nat} {k : Int} {i : Nat} (hk : 2 ≤ k) (hn : 0 < n) (hi : (i : Int) < k) : 0 ≤ ((n : Int) * i) / k ∧ ((n : Int) * i) / k < n := by
  have h0 : 0 ≤ (n : Int) * i := Int.mul_nonneg (by omega) (by omega)
  refine ⟨Int.ediv_nonneg h0 (by omega), ?_⟩
  refine Int.ediv_lt_of_lt_mul (by omega) ?_
  exact Int.mul_lt_mul_of_pos_left hi (by omega)
end Go.Proofs.Ytfekcckckmhioaa
