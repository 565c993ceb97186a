/- Texts of this claim, put together: part 30. -/
import Derived.Test.YtobimpgapfecoaaFnAnyOrderPack8
import Derived.Test.YtobimpgapfecoaaFnAnyOrderPack3
import Derived.Test.YtobimpgapfecoaaFnAnyOrderPack4
/- What is added to counts, in either order; what is added is there: in plain words. -/
namespace Go.Proofs.Ytobimpgapfecoaa
open Go.RowKit
set_option maxRecDepth 100000
theorem sumL_foldl (l : List Int) (a : Int) : l.foldl (· + ·) a = a + sumL l := by
  unfold sumL
  induction l generalizing a with
  | nil => simp
  | cons b l ih => rw [List.foldl_cons, List.foldl_cons, ih (a + b), ih (0 + b)]; omega
theorem sumL_cons (a : Int) (l : List Int) : sumL (a :: l) = a + sumL l := by
  show l.foldl (· + ·) (0 + a) = _
  rw [sumL_foldl]; omega
theorem sumL_set : ∀ (l : List Int) (k : Nat) (v : Int), k < l.length → sumL (l.set k v) = sumL l - l.getD k 0 + v
  | [], k, v, h => absurd h (by simp)
  | a :: l, 0, v, _ => by rw [List.set_cons_zero, sumL_cons, sumL_cons]; simp only [List.getD_cons_zero]; omega
  | a :: l, k + 1, v, h => by
    rw [List.set_cons_succ, sumL_cons, sumL_cons, sumL_set l k v (by simpa using h), List.getD_cons_succ]; omega
theorem sumL_put {l : List Int} {k : Nat} (h : k < l.length) (x : Int) : sumL (cellPut l k x) = sumL l + x := by
  unfold cellPut; rw [sumL_set l k _ h]; omega
theorem put_len (l : List Int) (k : Nat) (x : Int) : (cellPut l k x).length = l.length := by unfold cellPut; rw [List.length_set]
theorem put_get (l : List Int) (k j : Nat) (x : Int) (h : k < l.length) : (cellPut l k x).getD j 0 = if j = k then l.getD k 0 + x else l.getD j 0 := by
  unfold cellPut
  rw [List.getD_eq_getElem?_getD]
  by_cases e : j = k
  · subst e; rw [if_pos rfl, List.getElem?_set_self h]; rfl
  · rw [if_neg e, List.getElem?_set_ne (fun h => e h.symm), ← List.getD_eq_getElem?_getD]
theorem getD_ext {l m : List Int} (h : l.length = m.length) (h2 : ∀ j, j < l.length → l.getD j 0 = m.getD j 0) : l = m := by
  refine List.ext_getElem h fun j h3 h4 => ?_
  have := h2 j h3
  rw [List.getD_eq_getElem?_getD, List.getD_eq_getElem?_getD, List.getElem?_eq_getElem h3, List.getElem?_eq_getElem h4] at this
  exact this
theorem put_comm (l : List Int) (k j : Nat) (x y : Int) (hk : k < l.length) (hj : j < l.length) : cellPut (cellPut l k x) j y = cellPut (cellPut l j y) k x := by
  refine getD_ext (by simp [put_len]) fun i _ => ?_
  rw [put_get (cellPut l k x) j i y (by rw [put_len]; exact hj), put_get (cellPut l j y) k i x (by rw [put_len]; exact hk), put_get l k j x hk, put_get l k i x hk, put_get l j k y hj, put_get l j i y hj]
  by_cases e1 : i = j <;> by_cases e2 : i = k
  · subst e1; subst e2; simp; omega
  · subst e1; rw [if_pos rfl, if_neg e2, if_neg e2, if_pos rfl]
  · subst e2; rw [if_neg e1, if_pos rfl, if_pos rfl, if_neg e1]
  · rw [if_neg e1, if_neg e2, if_neg e2, if_neg e1]
theorem all_getD {l : List Int} (h : ∀ j, j < l.length → 0 ≤ l.getD j 0 ∧ l.getD j 0 ≤ 999) : l.all inW = true := by
  rw [List.all_eq_true]
  intro a ha
  obtain ⟨j, hj, rfl⟩ := List.getElem_of_mem ha
  have := h j hj
  rw [List.getD_eq_getElem?_getD, List.getElem?_eq_getElem hj] at this
  exact decide_eq_true this
/-- One of some numbers that are not below 0 is at most all together. -/
theorem le_sum : ∀ (l : List Int), l.all inW = true → ∀ k, k < l.length → l.getD k 0 ≤ sumL l
  | [], _, k, h => absurd h (by simp)
  | a :: l, hl, k, h => by
    rw [List.all_cons, Bool.and_eq_true] at hl
    have ha := of_decide_eq_true hl.1
    have hs := sum_nonneg hl.2
    rw [sumL_cons]
    cases k with
    | zero => simp only [List.getD_cons_zero]; omega
    | succ k => rw [List.getD_cons_succ]; have := le_sum l hl.2 k (by simpa using h); omega
theorem place_eq {m b b' k k' : Nat} (hk : k < m) (hk' : k' < m) (h : b * m + k = b' * m + k') : b = b' ∧ k = k' := by
  have h1 : (b * m + k) / m = b := by rw [Nat.mul_comm, Nat.mul_add_div (by omega), Nat.div_eq_of_lt hk]; rfl
  have h2 : (b' * m + k') / m = b' := by rw [Nat.mul_comm, Nat.mul_add_div (by omega), Nat.div_eq_of_lt hk']; rfl
  have : b = b' := by rw [← h1, ← h2, h]
  subst this
  exact ⟨rfl, by omega⟩
theorem colL_len (c : List Int) (m k n : Nat) : (colL c m k n).length = n := by simp [colL]
theorem colL_get (c : List Int) (m k n j : Nat) (h : j < n) : (colL c m k n).getD j 0 = c.getD (j * m + k) 0 := by
  unfold colL
  rw [List.getD_eq_getElem?_getD, List.getElem?_map, List.getElem?_range h]
  rfl
/-- The column of a list of which one cell was turned. -/
theorem col_put {c : List Int} {m k n b q : Nat} (x : Int) (hk : k < m) (hq : q < m) (hb : b < n) (hc : b * m + q < c.length) :
    colL (cellPut c (b * m + q) x) m k n = if k = q then cellPut (colL c m k n) b x else colL c m k n := by
  by_cases e : k = q
  · subst e
    rw [if_pos rfl]
    refine getD_ext (by simp [put_len, colL_len]) fun j hj => ?_
    rw [colL_len] at hj
    rw [colL_get _ _ _ _ _ hj, put_get _ _ _ _ hc, put_get _ _ _ _ (by rw [colL_len]; exact hb), colL_get _ _ _ _ _ hb, colL_get _ _ _ _ _ hj]
    by_cases e : j = b
    · subst e; rw [if_pos rfl, if_pos rfl]
    · rw [if_neg e, if_neg fun h => e (place_eq hk hk h).1]
  · rw [if_neg e]
    refine getD_ext (by simp [colL_len]) fun j hj => ?_
    rw [colL_len] at hj
    rw [colL_get _ _ _ _ _ hj, colL_get _ _ _ _ _ hj, put_get _ _ _ _ hc, if_neg fun h => e (place_eq hk hq h).2]
theorem addTo_get (s : SchemaD) (e : ExD) (x : Int) (cs : List (List Int)) : ∀ n, n ≤ cs.length → ∀ j, j < n → il (addTo s e x cs n) j = if 0 ≤ e.bins.getD j 0 then cellPut (il cs j) (addAt s e j) x else il cs j
  | 0, _, j, h => absurd h (by omega)
  | n + 1, hn, j, h => by
    by_cases ej : j = n
    · subst ej
      unfold addTo
      split
      · rw [il_set (by rw [addTo_len]; omega), if_pos rfl]
      · exact addTo_rest s e x cs j j (Nat.le_refl _) (by omega)
    · have ih := addTo_get s e x cs n (by omega) j (by omega)
      rw [← ih]
      show il (if 0 ≤ e.bins.getD n 0 then (addTo s e x cs n).set n (cellPut (il cs n) (addAt s e n) x) else addTo s e x cs n) j = _
      split
      · rw [il_set (by rw [addTo_len]; omega), if_neg ej]
      · rfl
structure OkF (s : SchemaD) (t : StatsD) : Prop where
  sch : schemaOk s = true
  len : t.totals.length = s.classes.length
  tot : t.totals.all inW = true
  sum : sumL t.totals ≤ 999
  cells : t.cells.length = 0 ∨ (t.cells.length = s.attrs.length ∧ (List.range t.cells.length).all (cellOk s t) = true)
theorem okF_iff {s : SchemaD} {t : StatsD} : statsOk s t = true ↔ OkF s t := by
  constructor
  · intro h
    obtain ⟨h1, h2, h3, h4⟩ := statsOk_parts h
    refine ⟨h1, h2, h3, h4, ?_⟩
    unfold statsOk at h
    rw [Bool.and_eq_true, Bool.and_eq_true, Bool.and_eq_true, Bool.and_eq_true, Bool.or_eq_true, Bool.and_eq_true, decide_eq_true_eq, decide_eq_true_eq, decide_eq_true_eq, decide_eq_true_eq] at h
    exact h.2.2.2.2
  · intro h
    unfold statsOk
    rw [Bool.and_eq_true, Bool.and_eq_true, Bool.and_eq_true, Bool.and_eq_true, Bool.or_eq_true, Bool.and_eq_true, decide_eq_true_eq, decide_eq_true_eq, decide_eq_true_eq, decide_eq_true_eq]
    exact ⟨h.sch, h.len, h.tot, h.sum, h.cells⟩
theorem colOk_iff {t : StatsD} {c : List Int} {m n k : Nat} : colOk t c m n k = true ↔ (colL c m k n).all inW = true ∧ sumL (colL c m k n) ≤ t.totals.getD k 0 := by
  unfold colOk; rw [Bool.and_eq_true, decide_eq_true_eq]
theorem ex_bin {s : SchemaD} {e : ExD} (h : exOk s e = true) {i : Nat} (hi : i < e.bins.length) : e.bins.getD i 0 ≤ bins (ad s.attrs i) - 1 := by
  unfold exOk binsRight at h
  rw [Bool.and_eq_true, Bool.and_eq_true, Bool.and_eq_true, List.all_eq_true] at h
  have := h.2.2.2 i (List.mem_range.2 hi)
  exact (of_decide_eq_true this).2
/-- What is right stays right when something is added. -/
theorem add_right {s : SchemaD} {t : StatsD} {e : ExD} {x : Int} (h : addOk s t e x = true) : statsOk s (addSt s t e x) = true := by
  have hF := add_facts h
  unfold addOk at h
  rw [Bool.and_eq_true, Bool.and_eq_true, Bool.and_eq_true, Bool.and_eq_true, decide_eq_true_eq, decide_eq_true_eq, decide_eq_true_eq] at h
  obtain ⟨h1, h2, h3, h4, h5⟩ := h
  have hO := okF_iff.1 h1
  have ht : statsTotal s t = sumL t.totals := by unfold statsTotal; rw [if_pos h1]
  rw [ht] at h5
  obtain ⟨q, hq⟩ := Int.eq_ofNat_of_zero_le h3
  have hqc : q < s.classes.length := by have := hF.cls; omega
  have hqt : q < t.totals.length := by rw [hO.len]; exact hqc
  have hcn : e.cls.toNat = q := by omega
  have hsum : sumL (cellPut t.totals q x) = sumL t.totals + x := sumL_put hqt x
  have hat : ∀ {k}, k < t.totals.length → 0 ≤ t.totals.getD k 0 ∧ t.totals.getD k 0 ≤ 999 := fun hk => allW_at hO.tot hk
  have hle := le_sum _ hO.tot
  rw [okF_iff]
  refine ⟨hO.sch, ?_, ?_, ?_, ?_⟩
  · show (cellPut t.totals _ x).length = _; rw [put_len]; exact hO.len
  · show (cellPut t.totals e.cls.toNat x).all inW = true
    rw [hcn]
    refine all_getD fun j hj => ?_
    rw [put_len] at hj
    rw [put_get _ _ _ _ hqt]
    have a1 := hat hj
    have a2 := hat hqt
    have a3 := hle q hqt
    split <;> omega
  · show sumL (cellPut t.totals e.cls.toNat x) ≤ 999
    rw [hcn, hsum]; exact h5
  · show (addTo s e x t.cells t.cells.length).length = 0 ∨ (addTo s e x t.cells t.cells.length).length = s.attrs.length ∧ _
    rw [addTo_len]
    rcases hO.cells with h0 | ⟨h0, hall⟩
    · exact .inl h0
    · refine .inr ⟨h0, ?_⟩
      show (List.range (addTo s e x t.cells t.cells.length).length).all _ = true
      rw [addTo_len, List.all_eq_true]
      intro i hi
      have hi' := List.mem_range.1 hi
      have hok := List.all_eq_true.1 hall i hi
      unfold cellOk at hok ⊢
      rw [Bool.and_eq_true, decide_eq_true_eq] at hok ⊢
      have hcell := addTo_get s e x t.cells _ (Nat.le_refl _) i hi'
      show ((il (addTo s e x t.cells t.cells.length) i).length : Int) = _ ∧ (List.range s.classes.length).all (colOk (addSt s t e x) (il (addTo s e x t.cells t.cells.length) i) s.classes.length (bins (ad s.attrs i)).toNat) = true
      rw [hcell]
      obtain ⟨b0, b1⟩ := small_bins (ad s.attrs i)
      obtain ⟨nb, hnb⟩ := Int.eq_ofNat_of_zero_le b0
      have hnn : (bins (ad s.attrs i)).toNat = nb := by omega
      rw [hnn] at hok ⊢
      have htk : ∀ k, (addSt s t e x).totals.getD k 0 = if k = q then t.totals.getD q 0 + x else t.totals.getD k 0 := fun k => by
        show (cellPut t.totals e.cls.toNat x).getD k 0 = _
        rw [hcn, put_get _ _ _ _ hqt]
      refine ⟨?_, ?_⟩
      · split
        · rw [put_len]; exact hok.1
        · exact hok.1
      · rw [List.all_eq_true]
        intro k hk
        have hk' := List.mem_range.1 hk
        have hc := colOk_iff.1 (List.all_eq_true.1 hok.2 k hk)
        rw [colOk_iff, htk]
        have ux := h4.1
        split
        · rename_i hbin
          obtain ⟨p1, p2⟩ := (hF.cell i hi').2.2 hbin
          have hlt : e.bins.getD i 0 ≤ bins (ad s.attrs i) - 1 := ex_bin h2 (by rw [hF.bins]; omega)
          obtain ⟨bn, hbn⟩ := Int.eq_ofNat_of_zero_le hbin
          have hbnb : bn < nb := by omega
          have hA : addAt s e i = bn * s.classes.length + q := by unfold addAt; rw [hcn, show (e.bins.getD i 0).toNat = bn by omega]
          rw [hA] at p2 ⊢
          rw [col_put x hk' hqc hbnb p2]
          by_cases ek : k = q
          · subst ek
            rw [if_pos rfl, if_pos rfl]
            have hl : bn < (colL (il t.cells i) s.classes.length k nb).length := by rw [colL_len]; exact hbnb
            rw [sumL_put hl]
            refine ⟨all_getD fun j hj => ?_, by omega⟩
            rw [put_len] at hj
            rw [put_get _ _ _ _ hl]
            have a1 := allW_at hc.1 hj
            have a2 := allW_at hc.1 hl
            have a3 := le_sum _ hc.1 _ hl
            have a4 := hle k hqt
            have hc2 := hc.2
            split <;> omega
          · rw [if_neg ek, if_neg ek]; exact hc
        · refine ⟨hc.1, ?_⟩
          have := hc.2
          split
          · rename_i e; subst e; omega
          · exact this
theorem add_total {s : SchemaD} {t : StatsD} {e : ExD} {x : Int} (h : addOk s t e x = true) : statsTotal s (addSt s t e x) = statsTotal s t + x := by
  have hF := add_facts h
  have hr := add_right h
  unfold addOk at h
  rw [Bool.and_eq_true] at h
  unfold statsTotal
  rw [if_pos hr, if_pos h.1]
  exact sumL_put (by have := hF.cls; have := hF.len; omega) x
theorem add_iff {s : SchemaD} {t : StatsD} {e : ExD} {x : Int} : addOk s t e x = true ↔ statsOk s t = true ∧ exOk s e = true ∧ 0 ≤ e.cls ∧ (1 ≤ x ∧ x ≤ 7) ∧ statsTotal s t + x ≤ 999 := by
  unfold addOk
  rw [Bool.and_eq_true, Bool.and_eq_true, Bool.and_eq_true, Bool.and_eq_true, decide_eq_true_eq, decide_eq_true_eq, decide_eq_true_eq]
/-- Who may be added first may be added second. -/
theorem add_swap {s : SchemaD} {t : StatsD} {e f : ExD} {x u : Int} (h1 : addOk s t e x = true) (h2 : addOk s (addSt s t e x) f u = true) : addOk s t f u = true ∧ addOk s (addSt s t f u) e x = true := by
  have ht := add_total h1
  have a1 := add_iff.1 h1
  have a2 := add_iff.1 h2
  rw [ht] at a2
  have h3 : addOk s t f u = true := add_iff.2 ⟨a1.1, a2.2.1, a2.2.2.1, a2.2.2.2.1, by omega⟩
  refine ⟨h3, add_iff.2 ⟨add_right h3, a1.2.1, a1.2.2.1, a1.2.2.2.1, ?_⟩⟩
  rw [add_total h3]; omega
theorem il_ext {a b : List (List Int)} (h : a.length = b.length) (h2 : ∀ j, j < a.length → il a j = il b j) : a = b := by
  refine List.ext_getElem h fun j h3 h4 => ?_
  have := h2 j h3
  rwa [il_eq h3, il_eq h4] at this
theorem add_comm8 {s : SchemaD} {t : StatsD} {e f : ExD} {x u : Int} (h1 : addOk s t e x = true) (h2 : addOk s t f u = true) : addSt s (addSt s t e x) f u = addSt s (addSt s t f u) e x := by
  have hE := add_facts h1
  have hF := add_facts h2
  have e1 : cellPut (cellPut t.totals e.cls.toNat x) f.cls.toNat u = cellPut (cellPut t.totals f.cls.toNat u) e.cls.toNat x :=
    put_comm _ _ _ _ _ (by have := hE.cls; have := hE.len; omega) (by have := hF.cls; have := hF.len; omega)
  have e2 : addTo s f u (addTo s e x t.cells t.cells.length) (addTo s e x t.cells t.cells.length).length = addTo s e x (addTo s f u t.cells t.cells.length) (addTo s f u t.cells t.cells.length).length := by
    refine il_ext (by simp only [addTo_len]) fun j hj => ?_
    simp only [addTo_len] at hj
    rw [addTo_get _ _ _ _ _ (Nat.le_refl _) j (by simpa only [addTo_len] using hj), addTo_get _ _ _ _ _ (Nat.le_refl _) j hj, addTo_get _ _ _ _ _ (Nat.le_refl _) j (by simpa only [addTo_len] using hj), addTo_get _ _ _ _ _ (Nat.le_refl _) j hj]
    by_cases c1 : 0 ≤ e.bins.getD j 0 <;> by_cases c2 : 0 ≤ f.bins.getD j 0
    · rw [if_pos c1, if_pos c2, if_pos c2, if_pos c1]
      exact put_comm _ _ _ _ _ ((hE.cell j hj).2.2 c1).2 ((hF.cell j hj).2.2 c2).2
    · rw [if_pos c1, if_neg c2, if_neg c2, if_pos c1]
    · rw [if_neg c1, if_pos c2, if_neg c1]
    · rw [if_neg c1, if_neg c2, if_neg c1]
  unfold addSt
  simp only
  rw [e1, e2]
theorem statsSame_self (a : StatsD) : statsSame a a = true := by simp [statsSame]
/-- Either order: both may be added, and leave the same; or one may not, either way. -/
theorem any_order (s : SchemaD) (t : StatsD) (e f : ExD) (x u : Int) :
    (addOk s t e x = true ∧ addOk s (statsAdd s t e x) f u = true ∧ addOk s t f u = true ∧ addOk s (statsAdd s t f u) e x = true ∧ statsAdd s (statsAdd s t e x) f u = statsAdd s (statsAdd s t f u) e x) ∨
    ((addOk s t e x && addOk s (statsAdd s t e x) f u) = false ∧ (!addOk s t f u || !addOk s (statsAdd s t f u) e x) = true) := by
  by_cases h1 : addOk s t e x = true ∧ addOk s (statsAdd s t e x) f u = true
  · obtain ⟨h1, h2⟩ := h1
    rw [add_yes h1] at h2
    obtain ⟨h3, h4⟩ := add_swap h1 h2
    refine .inl ⟨h1, by rw [add_yes h1]; exact h2, h3, by rw [add_yes h3]; exact h4, ?_⟩
    rw [add_yes h1, add_yes h2, add_yes h3, add_yes h4]
    exact add_comm8 h1 h3
  · refine .inr ⟨?_, ?_⟩
    · rw [Bool.eq_false_iff]; intro h; rw [Bool.and_eq_true] at h; exact h1 h
    · by_cases h3 : addOk s t f u = true ∧ addOk s (statsAdd s t f u) e x = true
      · obtain ⟨h3, h4⟩ := h3
        rw [add_yes h3] at h4
        obtain ⟨h5, h6⟩ := add_swap h3 h4
        exact absurd ⟨h5, by rw [add_yes h5]; exact h6⟩ h1
      · cases h4 : addOk s t f u with
        | false => rfl
        | true =>
          cases h5 : addOk s (statsAdd s t f u) e x with
          | false => rfl
          | true => exact absurd ⟨h4, h5⟩ h3
end Go.Proofs.Ytobimpgapfecoaa
/- Two lists held against each other, in plain words. -/
namespace Go.Proofs.Ytobimpgapfecoaa
open Go.RowKit
set_option maxRecDepth 100000
theorem same_len {α : Type} [DecidableEq α] {a b : List α} (h : a.length ≠ b.length) : decide (a = b) = false := decide_eq_false fun e => h (by rw [e])
theorem sameI_yes {a b : List Int} (hl : a.length = b.length) (h : ∀ j, j < a.length → a.getD j 0 = b.getD j 0) : decide (a = b) = true := by
  apply decide_eq_true
  apply List.ext_getElem hl
  intro i h1 h2
  have := h i h1
  simpa [h1, h2] using this
theorem sameI_no {a b : List Int} {k : Nat} (h : a.getD k 0 ≠ b.getD k 0) : decide (a = b) = false := decide_eq_false fun e => h (by rw [e])
theorem sameS_yes {a b : List ByteArray} (hl : a.length = b.length) (h : ∀ j, j < a.length → tx a j = tx b j) : decide (a = b) = true := by
  apply decide_eq_true
  apply List.ext_getElem hl
  intro i h1 h2
  have := h i h1
  rwa [tx_eq h1, tx_eq h2] at this
theorem sameS_no {a b : List ByteArray} {k : Nat} (h : tx a k ≠ tx b k) : decide (a = b) = false := decide_eq_false fun e => h (by rw [e])

end Go.Proofs.Ytobimpgapfecoaa
/- Lists of lists of numbers held against each other, in plain words. -/
namespace Go.Proofs.Ytobimpgapfecoaa
open Go.RowKit
set_option maxRecDepth 100000
theorem cc_yes {a b : List (List Int)} (hl : a.length = b.length) (h : ∀ j, j < a.length → decide (il a j = il b j) = true) : decide (a = b) = true := by
  refine decide_eq_true (List.ext_getElem hl fun i h1 h2 => ?_)
  have := of_decide_eq_true (h i h1)
  rwa [il_eq h1, il_eq h2] at this
theorem cc_no {a b : List (List Int)} (k : Nat) (h : decide (il a k = il b k) = false) : decide (a = b) = false := by
  refine decide_eq_false fun e => ?_
  subst e
  simp at h
theorem st_tot {a b : StatsD} (h : decide (a.totals = b.totals) = false) : statsSame a b = false := by unfold statsSame; rw [h]; rfl
theorem st_tot' {a b : StatsD} (h : decide (a.totals = b.totals) = true) : statsSame a b = decide (a.cells = b.cells) := by unfold statsSame; rw [h]; rfl
theorem st_len {a b : StatsD} (h : a.cells.length ≠ b.cells.length) : statsSame a b = false := by unfold statsSame; rw [same_len h]; simp
theorem statsSame_iff {a b : StatsD} : statsSame a b = true ↔ a = b := by
  unfold statsSame
  rw [Bool.and_eq_true, decide_eq_true_eq, decide_eq_true_eq]
  constructor
  · rintro ⟨h1, h2⟩; cases a; cases b; simp at h1 h2; simp [h1, h2]
  · rintro rfl; exact ⟨rfl, rfl⟩
end Go.Proofs.Ytobimpgapfecoaa
/- Two lists of numbers held against each other, by the specification. -/
namespace Go.Proofs.Ytobimpgapfecoaa
open Go.RowKit
set_option maxRecDepth 100000
set_option maxHeartbeats 800000 in
theorem specSameI_any (va vb : Value) (za zb : List Int) (w : World) (ha : RowI w va za) (hb : RowI w vb zb) (hna : za.length ≤ 1099511627776) :
    Calls Try.prog 57 #[va, vb] w fun e w' => e = .returned (.bool (decide (za = zb))) ∧ Below w.heap.size w w' := by
  obtain ⟨oa, ca, rfl, hca, hra⟩ := ha
  obtain ⟨ob, cb, rfl, hcb, hrb⟩ := hb
  have HA : Hid (0 < za.length → ∃ g o, oa = some ⟨g, o, none⟩ ∧ g < w.heap.size ∧ ∀ j, j < za.length → w.cell? ⟨g, o + j, none⟩ = some (.int .i64 (za.getD j 0))) := hra
  have HB : Hid (0 < zb.length → ∃ g o, ob = some ⟨g, o, none⟩ ∧ g < w.heap.size ∧ ∀ j, j < zb.length → w.cell? ⟨g, o + j, none⟩ = some (.int .i64 (zb.getD j 0))) := hrb
  clear hra hrb
  by_cases hl : za.length = zb.length
  rotate_left
  · have HF : Hid (decide (za = zb) = false) := same_len hl
    have hq : ((za.length : Int) == (zb.length : Int)) = false := by simp; omega
    go_enter Try.func57, Try.ntmps57
    go_wp2
    go_ret
    exact ⟨by rw [HF.out]; rfl, Below.refl _ _⟩
  have HL : Hid (za.length = zb.length) := hl
  obtain ⟨n, hn⟩ : ∃ n, n = za.length := ⟨_, rfl⟩
  have HNA : Hid (n = za.length) := hn
  have HNB : Hid (n = zb.length) := hn.trans hl
  rw [← hl, ← hn]
  rw [← hn] at hca hna
  clear hl hn hcb
  go_enter Try.func57, Try.ntmps57
  go_wp2
  go_loopw [5] (fun i wr => ∃ k q : Nat, i = .int .i64 k ∧ k ≤ n ∧ (∀ j, j < k → za.getD j 0 = zb.getD j 0) ∧ wr = w.drewN q) (fun i _ => n - (intOf i).toNat)
  case atStart => exact ⟨0, 0, rfl, by omega, by omega, rfl⟩
  case round =>
    obtain ⟨k, q, rfl, hk, hal, rfl⟩ := hrel
    have HK : Hid (∀ j, j < k → za.getD j 0 = zb.getD j 0) := hal
    clear hal
    by_cases hlt : k < n
    · obtain ⟨g, o, rfl, _, hj⟩ := HA.out (by have := HNA.out; omega)
      obtain ⟨g', o', rfl, _, hj'⟩ := HB.out (by have := HNB.out; omega)
      have ha' := hj k (by have := HNA.out; omega)
      have hb' := hj' k (by have := HNB.out; omega)
      clear hj hj' HA HB
      by_cases he : za.getD k 0 = zb.getD k 0
      · have HE : Hid (za.getD k 0 = zb.getD k 0) := he
        have hq : (za.getD k 0 == zb.getD k 0) = true := by rw [he]; simp
        clear he
        generalize za.getD k 0 = x at ha' hq
        generalize zb.getD k 0 = y at hb' hq
        go_wp2
        go_quiet (fail)
        all_goals go_wp2
        all_goals go_roundw
        case rel =>
          refine ⟨k + 1, _, by go_num, by omega, ?_, by first | rfl | (simp only [World.drewN_drewN]; rfl)⟩
          intro j hj
          by_cases e : j = k
          · subst e; exact HE.out
          · exact HK.out j (by omega)
        case measure => simp [intOf]; omega
      · have HF : Hid (decide (za = zb) = false) := sameI_no he
        have hq : (za.getD k 0 == zb.getD k 0) = false := by simpa using he
        clear he
        generalize za.getD k 0 = x at ha' hq
        generalize zb.getD k 0 = y at hb' hq
        go_wp2
        go_quiet (fail)
        all_goals go_wp2
        all_goals go_ret
        all_goals exact ⟨by rw [HF.out]; rfl, below_drewN (below_drewN (Below.refl _ _) _) _⟩
    · have HF : Hid (decide (za = zb) = true) := sameI_yes HL.out fun j hj => HK.out j (by have := HNA.out; omega)
      go_wp2
      go_ret
      exact ⟨by rw [HF.out]; rfl, below_drewN (Below.refl _ _) _⟩
end Go.Proofs.Ytobimpgapfecoaa
