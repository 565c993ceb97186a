/- Texts of this claim, put together: part 28. -/
import Derived.Test.YteadkdllmeeocaaFnBestPack7
import Derived.Test.YteadkdllmeeocaaFnBestPack18
import Derived.Test.YteadkdllmeeocaaFnBestPack3
import Derived.Test.YteadkdllmeeocaaFnBestPack15
/- The text of a question, in plain words. -/
namespace Go.Proofs.Yteadkdllmeeocaa
open Go.RowKit
set_option maxRecDepth 100000
def forkText (s : SchemaD) (f : ForkD) : ByteArray :=
  if forkOk s f = true then
    (if f.pos = -1 then (forkAttr s f).name ++ ⟨#[42]⟩ else if 0 < (forkAttr s f).cuts.length then (forkAttr s f).name ++ ⟨#[60, 61]⟩ ++ itB ((forkAttr s f).cuts.getD f.pos.toNat 0) else (forkAttr s f).name ++ ⟨#[61]⟩ ++ tx (forkAttr s f).vals f.pos.toNat)
  else ⟨#[]⟩
theorem text_no {s : SchemaD} {f : ForkD} (h : forkOk s f = false) : forkText s f = ⟨#[]⟩ := by unfold forkText; rw [if_neg (by rw [h]; exact Bool.false_ne_true)]
theorem text_each {s : SchemaD} {f : ForkD} {k : Nat} (h : forkOk s f = true) (hk : forkAttr s f = ad s.attrs k) (hp : f.pos = -1) : forkText s f = (ad s.attrs k).name ++ ⟨#[42]⟩ := by unfold forkText; rw [if_pos h, if_pos hp, hk]
theorem text_most {s : SchemaD} {f : ForkD} {k : Nat} (h : forkOk s f = true) (hk : forkAttr s f = ad s.attrs k) (hp : f.pos ≠ -1) (hc : 0 < (ad s.attrs k).cuts.length) : forkText s f = (ad s.attrs k).name ++ ⟨#[60, 61]⟩ ++ itB ((ad s.attrs k).cuts.getD f.pos.toNat 0) := by unfold forkText; rw [if_pos h, if_neg hp, hk, if_pos hc]
theorem text_just {s : SchemaD} {f : ForkD} {k : Nat} (h : forkOk s f = true) (hk : forkAttr s f = ad s.attrs k) (hp : f.pos ≠ -1) (hc : ¬ 0 < (ad s.attrs k).cuts.length) : forkText s f = (ad s.attrs k).name ++ ⟨#[61]⟩ ++ tx (ad s.attrs k).vals f.pos.toNat := by unfold forkText; rw [if_pos h, if_neg hp, hk, if_neg hc]
/-- Where a question stands among the cuts or the values of its attribute. -/
theorem pos_place {s : SchemaD} {f : ForkD} {k : Nat} (h : forkOk s f = true) (hk : forkAttr s f = ad s.attrs k) (hp : f.pos ≠ -1) : ∃ p : Nat, f.pos = (p : Int) ∧ p < wayN (ad s.attrs k) ∧ attrOk (ad s.attrs k) = true := by
  obtain ⟨h1, ⟨k', h2, h3, h4⟩, h5, h6⟩ := fork_parts h
  have hok : attrOk (ad s.attrs k) = true := by rw [← hk, h4]; exact sch_attr h1 h3
  rw [top_eq (by rw [hk]; exact hok), hk] at h6
  obtain ⟨p, hp2⟩ := Int.eq_ofNat_of_zero_le (show 0 ≤ f.pos by omega)
  exact ⟨p, hp2, by omega, hok⟩
end Go.Proofs.Yteadkdllmeeocaa
/- Which cuts are right, in plain words. -/
namespace Go.Proofs.Yteadkdllmeeocaa
def cutsR (cs : List Int) : Bool := decide (cs.length ≠ 0) && (decide (cs.length ≤ 3) && cutsRise cs)
end Go.Proofs.Yteadkdllmeeocaa
/- Chapter 6 in plain words: cuts that are reckoned are right, bins rise, numbers in order are the same ones. -/
namespace Go.Proofs.Yteadkdllmeeocaa
theorem qTo_rise {up : List Int} {k : Int} (hk : 2 ≤ k) (h0 : 0 < up.length) (hin : ∀ x ∈ up, cutIn x = true) (m : Nat) (hm : (m : Int) < k) : ∀ j, j < (qTo up k m).length → cutAt (qTo up k m) j = true := by
  induction m with
  | zero => intro j hj; simp [qTo] at hj
  | succ m ih =>
    have ih := ih (by omega)
    have hq := q_in (n := up.length) (i := m + 1) hk h0 hm
    have hx : cutIn (qAt up k (m + 1)) = true := by
      refine hin _ ?_
      unfold qAt
      have hlt : (((up.length : Int) * ((m + 1 : Nat) : Int)) / k).toNat < up.length := by omega
      rw [List.getD_eq_getElem?_getD, List.getElem?_eq_getElem hlt]
      exact List.getElem_mem hlt
    show ∀ j, j < (qPut (qTo up k m) (qAt up k (m + 1))).length → cutAt (qPut (qTo up k m) (qAt up k (m + 1))) j = true
    unfold qPut
    split
    · next h => exact rise_snoc ih h (by unfold cutIn at hx; exact of_decide_eq_true hx)
    · exact ih
theorem quant_right {zs : List Int} {k : Int} (h : (quantC zs k).length ≠ 0) : cutsR (quantC zs k) = true ∧ ((quantC zs k).length : Int) ≤ k - 1 := by
  by_cases c : 2 ≤ k ∧ k ≤ 4 ∧ 1 ≤ zs.length ∧ zs.length ≤ 64 ∧ allIn zs = true
  · have e : quantC zs k = qTo (sortI zs) k (k.toNat - 1) := if_pos c
    obtain ⟨c1, c2, c3, c4, c5⟩ := c
    have hl := qTo_len (sortI zs) k (k.toNat - 1)
    have hr := qTo_rise (up := sortI zs) (k := k) c1 (by rw [sortI_len]; omega) (fun x hx => by
      unfold allIn at c5
      rw [List.all_eq_true] at c5
      exact c5 x ((sortI_perm zs).mem_iff.1 hx)) (k.toNat - 1) (by omega)
    rw [e] at h ⊢
    refine ⟨?_, by omega⟩
    unfold cutsR
    rw [decide_eq_true h, decide_eq_true (by omega), rise_yes hr]
    rfl
  · exact absurd (show (quantC zs k).length = 0 by rw [show quantC zs k = [] from if_neg c]; rfl) h
theorem quant_in (zs : List Int) (k : Int) : ∀ c ∈ quantC zs k, c ≤ 9998 := by
  intro c hc
  have h0 : (quantC zs k).length ≠ 0 := fun e => by rw [List.length_eq_zero_iff.1 e] at hc; simp at hc
  have := (quant_right h0).1
  unfold cutsR at this
  rw [Bool.and_eq_true, Bool.and_eq_true] at this
  obtain ⟨i, hi, rfl⟩ := List.getElem_of_mem hc
  have h2 := this.2.2
  unfold cutsRise at h2
  rw [List.all_eq_true] at h2
  have h3 := (cutAt_in (h2 i (List.mem_range.2 hi))).2
  rwa [List.getD_eq_getElem?_getD, List.getElem?_eq_getElem hi] at h3
theorem equal_right {lo hi k : Int} (h : (equalC lo hi k).length ≠ 0) : cutsR (equalC lo hi k) = true ∧ ((equalC lo hi k).length : Int) = k - 1 := by
  by_cases c : 2 ≤ k ∧ k ≤ 4 ∧ -9999 ≤ lo ∧ lo ≤ 9998 ∧ -9999 ≤ hi ∧ hi ≤ 9998 ∧ k ≤ hi - lo
  · have e : equalC lo hi k = eqAt lo hi k (k.toNat - 1) := if_pos c
    obtain ⟨c1, c2, c3, c4, c5, c6, c7⟩ := c
    rw [e]
    refine ⟨?_, by rw [eqAt_len]; omega⟩
    unfold cutsR
    rw [eqAt_len, decide_eq_true (by omega), decide_eq_true (by omega)]
    have key : cutsRise (eqAt lo hi k (k.toNat - 1)) = true := by
      have hk : k = 2 ∨ k = 3 ∨ k = 4 := by omega
      rcases hk with rfl | rfl | rfl
      · refine rise_yes fun j hj => ?_
        rw [eqAt_len] at hj
        obtain rfl : j = 0 := by omega
        simp [cutAt, eqAt]
        omega
      · refine rise_yes fun j hj => ?_
        rw [eqAt_len] at hj
        have hj' : j = 0 ∨ j = 1 := by omega
        rcases hj' with rfl | rfl
        · simp [cutAt, eqAt, List.range_succ]; omega
        · simp [cutAt, eqAt, List.range_succ]; omega
      · refine rise_yes fun j hj => ?_
        rw [eqAt_len] at hj
        have hj' : j = 0 ∨ j = 1 ∨ j = 2 := by omega
        rcases hj' with rfl | rfl | rfl
        · simp [cutAt, eqAt, List.range_succ]; omega
        · simp [cutAt, eqAt, List.range_succ]; omega
        · simp [cutAt, eqAt, List.range_succ]; omega
    rw [key]; rfl
  · exact absurd (show (equalC lo hi k).length = 0 by rw [show equalC lo hi k = [] from if_neg c]; rfl) h
theorem binN_mono (cs : List Int) {x y : Int} (h : x ≤ y) : binN cs x ≤ binN cs y := by
  unfold binN
  refine List.countP_mono_left fun c _ hc => ?_
  simp at hc ⊢
  omega
theorem binN_top (zs : List Int) (k : Int) : binN (quantC zs k) 9223372036854775807 = (quantC zs k).length := by
  unfold binN
  rw [List.countP_eq_length]
  intro c hc
  have := quant_in zs k c hc
  simp; omega
def timesN (zs : List Int) (x : Int) : Nat := zs.countP fun c => decide (c = x)
theorem timesN_step (zs : List Int) (x : Int) (k : Nat) (h : k < zs.length) : timesN (zs.take (k + 1)) x = timesN (zs.take k) x + (if zs.getD k 0 = x then 1 else 0) := by
  unfold timesN
  rw [List.take_succ_eq_append_getElem h, List.countP_append]
  simp [List.getD, List.getElem?_eq_getElem h, List.countP_cons]
theorem timesN_le (zs : List Int) (x : Int) : timesN zs x ≤ zs.length := List.countP_le_length
theorem timesN_sort (zs : List Int) (x : Int) : timesN (sortI zs) x = timesN zs x := (sortI_perm zs).countP_eq _
end Go.Proofs.Yteadkdllmeeocaa
/- What every candidate is, in plain words. -/
namespace Go.Proofs.Yteadkdllmeeocaa
open Go.RowKit
set_option maxRecDepth 100000
theorem asc_lt {lo hi : Int} {l : List Int} (h : ascIn lo hi l = true) : ∀ d i, i + d + 1 < l.length → l.getD i 0 < l.getD (i + d + 1) 0 := by
  have hs : ∀ i, i + 1 < l.length → l.getD i 0 < l.getD (i + 1) 0 := by
    intro i hi
    unfold ascIn at h
    rw [List.all_eq_true] at h
    have h2 := h (i + 1) (List.mem_range.2 hi)
    unfold ascAt at h2
    rw [Bool.and_eq_true, Bool.or_eq_true, decide_eq_true_eq, decide_eq_true_eq, decide_eq_true_eq] at h2
    rcases h2.2 with h3 | h3
    · omega
    · exact h3
  intro d
  induction d with
  | zero => intro i hi; exact hs i hi
  | succ d ih =>
    intro i hi
    have h1 := ih i (by omega)
    have h2 := hs (i + d + 1) (by omega)
    rw [show i + (d + 1) + 1 = i + d + 1 + 1 by omega]
    omega
theorem asc_ne {lo hi : Int} {l : List Int} (h : ascIn lo hi l = true) {i j : Nat} (hij : i < j) (hj : j < l.length) : l.getD i 0 < l.getD j 0 := by
  have := asc_lt h (j - i - 1) i (by omega)
  rwa [show i + (j - i - 1) + 1 = j by omega] at this
theorem times_one {lo hi : Int} {l : List Int} (h : ascIn lo hi l = true) {p : Nat} (hp : p < l.length) : timesN l (l.getD p 0) = 1 := by
  have hk : ∀ k, k ≤ l.length → timesN (l.take k) (l.getD p 0) = if p < k then 1 else 0 := by
    intro k
    induction k with
    | zero => intro _; rfl
    | succ k ih =>
      intro hk
      rw [timesN_step l _ k (by omega), ih (by omega)]
      by_cases e : k = p
      · subst e
        rw [if_neg (by omega), if_pos rfl, if_pos (by omega)]
      · have hne : ¬ l.getD k 0 = l.getD p 0 := by
          rcases Nat.lt_or_gt_of_ne e with h1 | h1
          · have := asc_ne h h1 hp; omega
          · have := asc_ne h h1 (show k < l.length by omega); omega
        rw [if_neg hne]
        by_cases h1 : p < k
        · rw [if_pos h1, if_pos (by omega)]
        · rw [if_neg h1, if_neg (by omega)]
  have := hk l.length (Nat.le_refl _)
  rwa [List.take_length, if_pos hp] at this
theorem fork_ways {s : SchemaD} {a : Nat} (h : schemaOk s = true) (ha : a < s.attrs.length) {p : Nat} (hp : p < wayN (ad s.attrs a)) : forkOk s ⟨(a : Int), (p : Int)⟩ = true := by
  have hf : forkAttr s ⟨(a : Int), (p : Int)⟩ = ad s.attrs a := rfl
  have ht := top_eq (s := s) (f := ⟨(a : Int), (p : Int)⟩) (by rw [hf]; exact sch_attr h ha)
  rw [hf] at ht
  unfold forkOk
  rw [h, ht, Bool.and_eq_true, Bool.and_eq_true, decide_eq_true_eq, decide_eq_true_eq]
  exact ⟨rfl, ⟨by show 0 ≤ (a : Int); omega, by show (a : Int) ≤ _; omega⟩, by show -1 ≤ (p : Int); omega, by show (p : Int) ≤ _; omega⟩
theorem fork_many {s : SchemaD} {a : Nat} (h : schemaOk s = true) (ha : a < s.attrs.length) : forkOk s ⟨(a : Int), -1⟩ = true := by
  have hf : forkAttr s ⟨(a : Int), -1⟩ = ad s.attrs a := rfl
  have hok := sch_attr h ha
  have ht := top_eq (s := s) (f := ⟨(a : Int), -1⟩) (by rw [hf]; exact hok)
  rw [hf] at ht
  unfold forkOk
  rw [h, ht, Bool.and_eq_true, Bool.and_eq_true, decide_eq_true_eq, decide_eq_true_eq]
  exact ⟨rfl, ⟨by show 0 ≤ (a : Int); omega, by show (a : Int) ≤ _; omega⟩, by show (-1 : Int) ≤ -1; omega, by show (-1 : Int) ≤ _; omega⟩
theorem wayN_pos {a : AttrD} (h : attrOk a = true) : 1 ≤ wayN a := by
  have hk := ok_kind h
  unfold wayN
  by_cases h0 : a.cuts.length = 0
  · rw [if_pos h0]
    rcases Nat.eq_zero_or_pos a.vals.length with h1 | h1
    · exact absurd h0 (hk.1 h1)
    · exact h1
  · rw [if_neg h0]; omega
theorem text_size {s : SchemaD} {f : ForkD} (h : forkOk s f = true) : forkText s f ≠ ⟨#[]⟩ := by
  obtain ⟨h1, ⟨k, h2, h3, h4⟩, -, -⟩ := fork_parts h
  have hw := (word_size (ok_name (sch_attr h1 h3))).1
  intro e
  have hz : (forkText s f).size = 0 := by rw [e]; rfl
  unfold forkText at hz
  rw [if_pos h, h4] at hz
  split at hz
  · rw [ByteArray.size_append] at hz; omega
  · split at hz
    · rw [ByteArray.size_append, ByteArray.size_append] at hz; omega
    · rw [ByteArray.size_append, ByteArray.size_append] at hz; omega
theorem cand_mem {s : SchemaD} {l : List Int} {two : Bool} (h : placesOk s l = true) {f : ForkD} (hf : f ∈ candidates s l two) : ∃ (p a : Nat), p < l.length ∧ l.getD p 0 = (a : Int) ∧ a < s.attrs.length ∧ f.attr = (a : Int) ∧ forkOk s f = true ∧ (two = true → f.pos ≠ -1) := by
  obtain ⟨hs, hp⟩ := places_parts h
  unfold candidates at hf
  rw [if_pos h, List.mem_flatMap] at hf
  obtain ⟨x, hx, hfx⟩ := hf
  obtain ⟨p, hpl, rfl⟩ := List.getElem_of_mem hx
  obtain ⟨a, ha, hal⟩ := hp p hpl
  have hx2 : l[p] = (a : Int) := by rw [← ha, List.getD_eq_getElem?_getD, List.getElem?_eq_getElem hpl]; rfl
  rw [hx2] at hfx
  refine ⟨p, a, hpl, ha, hal, ?_⟩
  unfold candOf at hfx
  split at hfx
  · rename_i hc
    rw [List.mem_singleton] at hfx
    subst hfx
    exact ⟨rfl, fork_many hs hal, fun ht => by rw [ht] at hc; cases hc.2⟩
  · obtain ⟨q, hq, rfl⟩ := List.mem_map.1 hfx
    exact ⟨rfl, fork_ways hs hal (List.mem_range.1 hq), fun _ => by show (q : Int) ≠ -1; omega⟩
theorem cand_more {s : SchemaD} {l : List Int} {two : Bool} (h : placesOk s l = true) : l.length ≤ (candidates s l two).length := by
  obtain ⟨hs, hp⟩ := places_parts h
  unfold candidates
  rw [if_pos h, List.length_flatMap]
  have h4 : ∀ x ∈ l.map (fun a => (candOf s two a).length), 1 ≤ x := by
    intro x hx
    obtain ⟨a, ha, rfl⟩ := List.mem_map.1 hx
    obtain ⟨j, hj, rfl⟩ := List.getElem_of_mem ha
    obtain ⟨b, hb, hb2⟩ := hp j hj
    rw [List.getD_eq_getElem?_getD, List.getElem?_eq_getElem hj] at hb
    simp only [Option.getD_some] at hb
    rw [hb]
    have h5 := wayN_pos (sch_attr hs hb2)
    unfold candOf
    split
    · simp
    · rw [List.length_map, List.length_range]; exact h5
  have h6 : ∀ (xs : List Nat), (∀ x ∈ xs, 1 ≤ x) → xs.length ≤ xs.sum := by
    intro xs
    induction xs with
    | nil => intro _; simp
    | cons y r ih =>
      intro hx
      have := ih fun x h => hx x (List.mem_cons_of_mem _ h)
      have := hx y List.mem_cons_self
      rw [List.sum_cons, List.length_cons]; omega
  have h7 := h6 _ h4
  rw [List.length_map] at h7
  exact h7
theorem cand_apart {s : SchemaD} {l : List Int} {two : Bool} (h : placesOk s l = true) : (candidates s l two).Pairwise (fun x y => x ≠ y) := by
  have hasc : ascIn 0 ((s.attrs.length : Int) - 1) l = true := by
    unfold placesOk at h
    rw [Bool.and_eq_true, Bool.and_eq_true] at h
    exact h.2.2
  have hat : ∀ (a : Int) (x : ForkD), x ∈ candOf s two a → x.attr = a := by
    intro a x hx
    unfold candOf at hx
    split at hx
    · rw [List.mem_singleton] at hx; subst hx; rfl
    · obtain ⟨q, _, rfl⟩ := List.mem_map.1 hx; rfl
  unfold candidates
  rw [if_pos h, List.pairwise_flatMap]
  refine ⟨fun a ha => ?_, ?_⟩
  · unfold candOf
    split
    · exact List.pairwise_singleton _ _
    · rw [List.pairwise_map]
      refine List.Pairwise.imp ?_ List.nodup_range
      intro p q hpq e
      injection e with _ e2
      exact hpq (Int.ofNat.inj e2)
  · rw [List.pairwise_iff_getElem]
    intro i j hi hj hij x hx y hy e
    have h1 := hat _ _ hx
    have h2 := hat _ _ hy
    have h3 := asc_ne hasc hij hj
    rw [List.getD_eq_getElem?_getD, List.getD_eq_getElem?_getD, List.getElem?_eq_getElem hi, List.getElem?_eq_getElem hj] at h3
    simp only [Option.getD_some] at h3
    rw [← h1, ← h2, e] at h3
    omega
/-- All of it, place by place. -/
theorem cand_facts {s : SchemaD} {l : List Int} {two : Bool} (h : placesOk s l = true) : l.length ≤ (candidates s l two).length ∧
    (∀ i, i < (candidates s l two).length → forkOk s (fk (candidates s l two) i) = true ∧ timesN l (fk (candidates s l two) i).attr = 1 ∧ (two = true → branches s (fk (candidates s l two) i) = 2) ∧ forkText s (fk (candidates s l two) i) ≠ ⟨#[]⟩) ∧
    (∀ i j, j < i → i < (candidates s l two).length → fk (candidates s l two) i ≠ fk (candidates s l two) j) := by
  have hasc : ascIn 0 ((s.attrs.length : Int) - 1) l = true := by
    unfold placesOk at h
    rw [Bool.and_eq_true, Bool.and_eq_true] at h
    exact h.2.2
  have hfk : ∀ i (hi : i < (candidates s l two).length), fk (candidates s l two) i = (candidates s l two)[i] := fun i hi => by
    unfold fk
    rw [List.getD_eq_getElem?_getD, List.getElem?_eq_getElem hi]; rfl
  refine ⟨cand_more h, fun i hi => ?_, fun i j hji hi => ?_⟩
  · rw [hfk i hi]
    obtain ⟨p, a, h1, h2, h3, h4, h5, h6⟩ := cand_mem h (List.getElem_mem hi)
    refine ⟨h5, by rw [h4, ← h2]; exact times_one hasc h1, fun ht => ?_, text_size h5⟩
    unfold branches
    rw [if_pos h5, if_neg (h6 ht)]
  · rw [hfk i hi, hfk j (by omega)]
    have := List.pairwise_iff_getElem.1 (cand_apart (two := two) h) j i (by omega) hi hji
    exact fun e => this e.symm
end Go.Proofs.Yteadkdllmeeocaa
