/- Chapter 6 in plain words: cuts that are reckoned are right, bins rise, numbers in order are the same ones. -/
import Derived.Test.YtdibkmpkhlaadaaCup
import Derived.Test.YtdibkmpkhlaadaaVap
import Derived.Test.YtdibkmpkhlaadaaCkp
namespace Go.Proofs.Ytdibkmpkhlaadaa
theorem rise_snoc {ts : List Int} {x : Int} (h : ∀ j, j < ts.length → cutAt ts j = true) (hl : ts.length = 0 ∨ ts.getD (ts.length - 1) 0 < x) (hx : cutIn x = true) :
    ∀ j, j < (ts ++ [x]).length → cutAt (ts ++ [x]) j = true := by
  intro j hj
  rw [List.length_append, List.length_singleton] at hj
  have gl : ∀ i, i < ts.length → (ts ++ [x]).getD i 0 = ts.getD i 0 := fun i hi => by
    simp [List.getD, List.getElem?_append_left hi]
  by_cases e : j < ts.length
  · have := h j e
    unfold cutAt at this ⊢
    rw [gl j e]
    by_cases e0 : j = 0
    · subst e0; simpa using this
    · rw [gl (j - 1) (by omega)]; exact this
  · obtain rfl : j = ts.length := by omega
    have hg : (ts ++ [x]).getD ts.length 0 = x := by simp [List.getD]
    unfold cutAt
    rw [hg]
    unfold cutIn at hx
    rw [hx, Bool.true_and]
    rcases hl with hl | hl
    · rw [decide_eq_true hl]; rfl
    · by_cases e0 : ts.length = 0
      · rw [decide_eq_true e0]; rfl
      · rw [gl (ts.length - 1) (by omega), decide_eq_true hl, Bool.or_true]
theorem qTo_rise {up : List Int} {k : Int} (hk : 2 ≤ k) (h0 : 0 < up.length) (hin : ∀ x ∈ up, cutIn x = true) (m : Nat) (hm : (m : Int) < k) : ∀ j, j < (qTo up k m).length → cutAt (qTo up k m) j = true := by
  induction m with
  | zero => intro j hj; simp [qTo] at hj
  | succ m ih =>
    have ih := ih (by omega)
    have hq := q_in (n := up.length) (i := m + 1) hk h0 hm
    have hx : cutIn (qAt up k (m + 1)) = true := by
      refine hin _ ?_
      unfold qAt
      have hlt : (((up.length : Int) * ((m + 1 : Nat) : Int)) / k).toNat < up.length := by omega
      rw [List.getD_eq_getElem?_getD, List.getElem?_eq_getElem hlt]
      exact List.getElem_mem hlt
    show ∀ j, j < (qPut (qTo up k m) (qAt up k (m + 1))).length → cutAt (qPut (qTo up k m) (qAt up k (m + 1))) j = true
    unfold qPut
    split
    · next h => exact rise_snoc ih h hx
    · exact ih
theorem quant_right {zs : List Int} {k : Int} (h : (quantC zs k).length ≠ 0) : cutsR (quantC zs k) = true ∧ ((quantC zs k).length : Int) ≤ k - 1 := by
  by_cases c : 2 ≤ k ∧ k ≤ 4 ∧ 1 ≤ zs.length ∧ zs.length ≤ 64 ∧ allIn zs = true
  · have e : quantC zs k = qTo (sortI zs) k (k.toNat - 1) := if_pos c
    obtain ⟨c1, c2, c3, c4, c5⟩ := c
    have hl := qTo_len (sortI zs) k (k.toNat - 1)
    have hr := qTo_rise (up := sortI zs) (k := k) c1 (by rw [sortI_len]; omega) (fun x hx => by
      unfold allIn at c5
      rw [List.all_eq_true] at c5
      exact c5 x ((sortI_perm zs).mem_iff.1 hx)) (k.toNat - 1) (by omega)
    rw [e] at h ⊢
    refine ⟨?_, by omega⟩
    unfold cutsR
    rw [decide_eq_true h, decide_eq_true (by omega), rise_yes hr]
    rfl
  · exact absurd (show (quantC zs k).length = 0 by rw [show quantC zs k = [] from if_neg c]; rfl) h
theorem quant_in (zs : List Int) (k : Int) : ∀ c ∈ quantC zs k, c ≤ 9998 := by
  intro c hc
  have h0 : (quantC zs k).length ≠ 0 := fun e => by rw [List.length_eq_zero_iff.1 e] at hc; simp at hc
  have := (quant_right h0).1
  unfold cutsR at this
  rw [Bool.and_eq_true, Bool.and_eq_true] at this
  obtain ⟨i, hi, rfl⟩ := List.getElem_of_mem hc
  have h2 := this.2.2
  unfold cutsRise at h2
  rw [List.all_eq_true] at h2
  have h3 := (cutAt_in (h2 i (List.mem_range.2 hi))).2
  rwa [List.getD_eq_getElem?_getD, List.getElem?_eq_getElem hi] at h3
theorem equal_right {lo hi k : Int} (h : (equalC lo hi k).length ≠ 0) : cutsR (equalC lo hi k) = true ∧ ((equalC lo hi k).length : Int) = k - 1 := by
  by_cases c : 2 ≤ k ∧ k ≤ 4 ∧ -9999 ≤ lo ∧ lo ≤ 9998 ∧ -9999 ≤ hi ∧ hi ≤ 9998 ∧ k ≤ hi - lo
  · have e : equalC lo hi k = eqAt lo hi k (k.toNat - 1) := if_pos c
    obtain ⟨c1, c2, c3, c4, c5, c6, c7⟩ := c
    rw [e]
    refine ⟨?_, by rw [eqAt_len]; omega⟩
    unfold cutsR
    rw [eqAt_len, decide_eq_true (by omega), decide_eq_true (by omega)]
    have key : cutsRise (eqAt lo hi k (k.toNat - 1)) = true := by
      have hk : k = 2 ∨ k = 3 ∨ k = 4 := by omega
      rcases hk with rfl | rfl | rfl
      · refine rise_yes fun j hj => ?_
        rw [eqAt_len] at hj
        obtain rfl : j = 0 := by omega
        simp [cutAt, eqAt]
        omega
      · refine rise_yes fun j hj => ?_
        rw [eqAt_len] at hj
        have hj' : j = 0 ∨ j = 1 := by omega
        rcases hj' with rfl | rfl
        · simp [cutAt, eqAt, List.range_succ]; omega
        · simp [cutAt, eqAt, List.range_succ]; omega
      · refine rise_yes fun j hj => ?_
        rw [eqAt_len] at hj
        have hj' : j = 0 ∨ j = 1 ∨ j = 2 := by omega
        rcases hj' with rfl | rfl | rfl
        · simp [cutAt, eqAt, List.range_succ]; omega
        · simp [cutAt, eqAt, List.range_succ]; omega
        · simp [cutAt, eqAt, List.range_succ]; omega
    rw [key]; rfl
  · exact absurd (show (equalC lo hi k).length = 0 by rw [show equalC lo hi k = [] from if_neg c]; rfl) h
theorem binN_mono (cs : List Int) {x y : Int} (h : x ≤ y) : binN cs x ≤ binN cs y := by
  unfold binN
  refine List.countP_mono_left fun c _ hc => ?_
  simp at hc ⊢
  omega
theorem binN_top (zs : List Int) (k : Int) : binN (quantC zs k) 9223372036854775807 = (quantC zs k).length := by
  unfold binN
  rw [List.countP_eq_length]
  intro c hc
  have := quant_in zs k c hc
  simp; omega
def timesN (zs : List Int) (x : Int) : Nat := zs.countP fun c => decide (c = x)
theorem timesN_step (zs : List Int) (x : Int) (k : Nat) (h : k < zs.length) : timesN (zs.take (k + 1)) x = timesN (zs.take k) x + (if zs.getD k 0 = x then 1 else 0) := by
  unfold timesN
  rw [List.take_succ_eq_append_getElem h, List.countP_append]
  simp [List.getD, List.getElem?_eq_getElem h, List.countP_cons]
theorem timesN_le (zs : List Int) (x : Int) : timesN zs x ≤ zs.length := List.countP_le_length
theorem timesN_sort (zs : List Int) (x : Int) : timesN (sortI zs) x = timesN zs x := (sortI_perm zs).countP_eq _
end Go.Proofs.Ytdibkmpkhlaadaa
