/- Texts of this claim, put together: part 18. -/
import Derived.Test.YtfekcckckmhioaaGreatDoorFnRowTextPack17
import Derived.Test.YtfekcckckmhioaaGreatDoorFnRowTextPack11
import Derived.Test.YtfekcckckmhioaaGreatDoorFnRowTextPack13
import Derived.Test.YtfekcckckmhioaaGreatDoorFnRowTextPack16
import Derived.Test.YtfekcckckmhioaaGreatDoorRows
import Derived.WalkKit
import Derived.ProofKit
import Derived.OpenShut
import Derived.LaidEql
import Derived.Stop.Asserts
import Derived.RowKitTokens
import Derived.Test.YtfekcckckmhioaaGreatDoorFnRowTextPack1
import Derived.Test.YtfekcckckmhioaaGreatDoorFnRowTextPack3
/- What is written of an example is read again; what is read of a row is right, or is refused with one reason. -/
namespace Go.Proofs.YtfekcckckmhioaaGreatDoor
open Go.RowKit
set_option maxRecDepth 100000
theorem placeFrom_skip {ss : List ByteArray} {t : ByteArray} {n : Nat} : ∀ {k : Nat}, k ≤ n → (∀ j, j < k → tx ss j ≠ t) → placeFrom ss t 0 n = placeFrom ss t k (n - k)
  | 0, _, _ => rfl
  | k + 1, h, hj => by rw [placeFrom_skip (k := k) (by omega) fun j hlt => hj j (by omega), placeFrom_step (by omega), if_neg (hj k (by omega))]
theorem place_none {ss : List ByteArray} {t : ByteArray} (h : ∀ j, j < ss.length → tx ss j ≠ t) : placeT ss t = -1 := by
  unfold placeT
  rw [placeFrom_skip (Nat.le_refl _) h, Nat.sub_self]; rfl
theorem place_hit {ss : List ByteArray} {k : Nat} (hk : k < ss.length) (h : ∀ j, j < k → tx ss j ≠ tx ss k) : placeT ss (tx ss k) = k := by
  unfold placeT
  rw [placeFrom_skip (k := k) (by omega) h, placeFrom_step hk, if_pos rfl]
theorem words_at {ss : List ByteArray} (h : wordsOk ss = true) {k : Nat} (hk : k < ss.length) : wordOk (tx ss k) = true ∧ hasT (ss.take k) (tx ss k) = false := by
  unfold wordsOk at h
  rw [List.all_eq_true] at h
  have := h k (List.mem_range.2 hk)
  unfold wordAt at this
  rw [Bool.and_eq_true] at this
  exact ⟨this.1, by simpa using this.2⟩
theorem place_word {ss : List ByteArray} (h : wordsOk ss = true) {k : Nat} (hk : k < ss.length) : placeT ss (tx ss k) = k := by
  refine place_hit hk fun j hj e => ?_
  have h1 := (words_at h hk).2
  rw [hasT_yes (k := j) (by simp; omega) (by rw [tx_take hj, e])] at h1
  cases h1
theorem ask_word : wordOk askB = false := by decide +kernel
theorem word_ask {ss : List ByteArray} (h : wordsOk ss = true) {k : Nat} (hk : k < ss.length) : tx ss k ≠ askB := fun e => by
  have := (words_at h hk).1
  rw [e, ask_word] at this; cases this
theorem place_ask {ss : List ByteArray} (h : wordsOk ss = true) : placeT ss askB = -1 := place_none fun _ hj => word_ask h hj
theorem rise_lt {cs : List Int} (h : cutsRise cs = true) : ∀ {j i : Nat}, i < j → j < cs.length → cs.getD i 0 < cs.getD j 0 := by
  have step : ∀ j, 0 < j → j < cs.length → cs.getD (j - 1) 0 < cs.getD j 0 := fun j h0 hj => by
    unfold cutsRise at h
    rw [List.all_eq_true] at h
    have := h j (List.mem_range.2 hj)
    unfold cutAt at this
    rw [Bool.and_eq_true, Bool.or_eq_true] at this
    rcases this.2 with h1 | h1
    · have := of_decide_eq_true h1; omega
    · exact of_decide_eq_true h1
  intro j
  induction j with
  | zero => intro i h; omega
  | succ j ih =>
    intro i hi hj
    have h1 := step (j + 1) (by omega) hj
    simp only [Nat.add_sub_cancel] at h1
    by_cases e : i = j
    · subst e; exact h1
    · have := ih (i := i) (by omega) (by omega); omega
theorem bin_split {cs : List Int} {k : Nat} {x : Int} (hk : k ≤ cs.length) (h1 : ∀ j, j < k → cs.getD j 0 < x) (h2 : ∀ j, k ≤ j → j < cs.length → ¬ cs.getD j 0 < x) : binN cs x = k := by
  have e0 : binN cs x = (cs.take k).countP (fun c => decide (c < x)) + (cs.drop k).countP (fun c => decide (c < x)) := by
    unfold binN
    conv => lhs; rw [← List.take_append_drop k cs]
    exact List.countP_append
  have e1 : (cs.take k).countP (fun c => decide (c < x)) = k := by
    rw [List.countP_eq_length.2]
    · simp; omega
    · intro c hc
      obtain ⟨i, hi, rfl⟩ := List.mem_iff_getElem.1 hc
      have hi2 : i < k ∧ i < cs.length := by rw [List.length_take] at hi; omega
      have := h1 i hi2.1
      simpa [hi2.2] using this
  have e2 : (cs.drop k).countP (fun c => decide (c < x)) = 0 := by
    rw [List.countP_eq_zero]
    intro c hc
    obtain ⟨i, hi, rfl⟩ := List.mem_iff_getElem.1 hc
    have hi2 : k + i < cs.length := by simp at hi; omega
    have := h2 (k + i) (by omega) hi2
    simpa [hi2] using this
  omega
theorem bin_at {cs : List Int} (h : cutsRise cs = true) {k : Nat} (hk : k < cs.length) : binN cs (cs.getD k 0) = k :=
  bin_split (by omega) (fun j hj => rise_lt h hj hk) fun j h1 h2 => by
    by_cases e : j = k
    · subst e; omega
    · have := rise_lt h (i := k) (j := j) (by omega) h2; omega
theorem bin_end {cs : List Int} (h : cutsRise cs = true) (h0 : 0 < cs.length) : binN cs (cs.getD (cs.length - 1) 0 + 1) = cs.length :=
  bin_split (Nat.le_refl _) (fun j hj => by
    by_cases e : j = cs.length - 1
    · subst e; omega
    · have := rise_lt h (i := j) (j := cs.length - 1) (by omega) (by omega); omega) fun j h1 h2 => by omega
theorem it_ask (n : Int) : itB n ≠ askB := fun e => by
  have h := clean_it n (b := 63) (by decide) (by decide)
  rw [e] at h
  exact h 63 (by simp [askB]) rfl
theorem cell_back {a : AttrD} (h : attrOk a = true) {b : Int} (h0 : -1 ≤ b) (h1 : b ≤ bins a - 1) : cellB a (cellText a b) = some b := by
  have hb : bins a = (if a.vals.length = 0 then (a.cuts.length : Int) + 1 else a.vals.length) := by unfold bins; rw [if_pos h]
  unfold cellText
  rw [if_pos ⟨h, h0, h1⟩]
  by_cases e : b = -1
  · rw [if_pos e, e]; exact if_pos rfl
  rw [if_neg e]
  by_cases hv : 0 < a.vals.length
  · have hv0 : a.vals.length ≠ 0 := by omega
    rw [if_neg hv0] at hb
    have hw := (ok_vals h hv0).2.2.2
    have hk : b.toNat < a.vals.length := by omega
    rw [if_pos hv]
    unfold cellB
    rw [if_neg (word_ask hw hk), if_pos hv, place_word hw hk, if_pos (by omega)]
    congr 1; omega
  · have hz : a.vals.length = 0 := by omega
    rw [if_pos hz] at hb
    obtain ⟨c1, c3, hr⟩ := ok_cuts h hz
    rw [if_neg hv]
    by_cases hlt : b < (a.cuts.length : Int)
    · have hk : b.toNat < a.cuts.length := by omega
      have hin := rise_all hr hk
      rw [if_pos hlt]
      unfold cellB
      rw [if_neg (it_ask _), if_neg hv, sig_of (by omega) (by omega), Option.map_some, bin_at hr hk]
      congr 1; omega
    · have hin := rise_all hr (k := a.cuts.length - 1) (by omega)
      rw [if_neg hlt]
      unfold cellB
      rw [if_neg (it_ask _), if_neg hv, sig_of (by omega) (by omega), Option.map_some, bin_end hr (by omega)]
      congr 1; omega
theorem cell_in {a : AttrD} (h : attrOk a = true) {t : ByteArray} {b : Int} (hc : cellB a t = some b) : -1 ≤ b ∧ b ≤ bins a - 1 := by
  have hb : bins a = (if a.vals.length = 0 then (a.cuts.length : Int) + 1 else a.vals.length) := by unfold bins; rw [if_pos h]
  unfold cellB at hc
  by_cases e : t = askB
  · rw [if_pos e] at hc
    injection hc with hc
    rw [hb]; split <;> omega
  · rw [if_neg e] at hc
    by_cases hv : 0 < a.vals.length
    · rw [if_pos hv] at hc
      by_cases hp : 0 ≤ placeT a.vals t
      · rw [if_pos hp] at hc
        injection hc with hc
        have := placeFrom_le (ss := a.vals) (t := t) a.vals.length 0
        rw [if_neg (by omega)] at hb
        unfold placeT at hp hc
        omega
      · rw [if_neg hp] at hc; cases hc
    · rw [if_neg hv] at hc
      cases hs : sigSpec t.data.toList with
      | none => rw [hs] at hc; cases hc
      | some n =>
        rw [hs, Option.map_some] at hc
        injection hc with hc
        have := binN_le a.cuts n
        rw [if_pos (by omega)] at hb
        omega
theorem cell_clean {a : AttrD} {b : Int} {c : UInt8} (hc : c = 44 ∨ c = 124) : clean c (cellText a b) := by
  have c1 : ¬ (97 ≤ c.toNat ∧ c.toNat ≤ 122) := by rcases hc with rfl | rfl <;> decide
  have c2 : c.toNat ≠ 45 := by rcases hc with rfl | rfl <;> decide
  have c3 : ¬ (48 ≤ c.toNat ∧ c.toNat ≤ 57) := by rcases hc with rfl | rfl <;> decide
  have c4 : (63 : UInt8) ≠ c := by rcases hc with rfl | rfl <;> decide
  unfold cellText
  split
  · next h =>
    obtain ⟨hk, h1, h2⟩ := h
    have hb : bins a = (if a.vals.length = 0 then (a.cuts.length : Int) + 1 else a.vals.length) := by unfold bins; rw [if_pos hk]
    split
    · exact clean_one c4
    · split
      · next hv =>
        rw [if_neg (by omega)] at hb
        exact clean_word (words_all (ok_vals hk (by omega)).2.2.2 _ (tx_mem (by omega))) c1
      · split
        · exact clean_it _ c2 c3
        · exact clean_it _ c2 c3
  · intro d hd; simp at hd
theorem exOk_parts {s : SchemaD} {e : ExD} (h : exOk s e = true) : schemaOk s = true ∧ e.bins.length = s.attrs.length ∧ (-1 ≤ e.cls ∧ e.cls ≤ (s.classes.length : Int) - 1) ∧ binsRight s e = true := by
  unfold exOk at h
  rw [Bool.and_eq_true, Bool.and_eq_true, Bool.and_eq_true] at h
  exact ⟨h.1, of_decide_eq_true h.2.1, of_decide_eq_true h.2.2.1, h.2.2.2⟩
theorem bin_right {s : SchemaD} {e : ExD} (h : binsRight s e = true) {j : Nat} (hj : j < e.bins.length) : -1 ≤ e.bins.getD j 0 ∧ e.bins.getD j 0 ≤ bins (ad s.attrs j) - 1 := by
  unfold binsRight at h
  rw [List.all_eq_true] at h
  exact of_decide_eq_true (h j (List.mem_range.2 hj))
theorem attrs_each {ls : List AttrD} (h : attrsOk ls = true) {j : Nat} (hj : j < ls.length) : attrOk (ad ls j) = true := by
  unfold attrsOk at h
  rw [List.all_eq_true] at h
  have := h j (List.mem_range.2 hj)
  unfold attrAt at this
  rw [Bool.and_eq_true] at this
  exact this.1
theorem cellText_8 (a : AttrD) (b : Int) : (cellText a b).size ≤ 8 := by
  unfold cellText
  split
  · next h =>
    obtain ⟨hk, h1, h2⟩ := h
    have hb : bins a = (if a.vals.length = 0 then (a.cuts.length : Int) + 1 else a.vals.length) := by unfold bins; rw [if_pos hk]
    split
    · decide
    · split
      · next hv =>
        rw [if_neg (by omega)] at hb
        exact (word_size (words_all (ok_vals hk (by omega)).2.2.2 _ (tx_mem (by omega)))).2
      · next hv =>
        have hz : a.vals.length = 0 := by omega
        obtain ⟨c1, c3, hr⟩ := ok_cuts hk hz
        split
        · have := rise_all hr (k := b.toNat) (by omega)
          have := itB_size (n := a.cuts.getD b.toNat 0) (by omega) (by omega)
          omega
        · have := rise_all hr (k := a.cuts.length - 1) (by omega)
          have := itB_size (n := a.cuts.getD (a.cuts.length - 1) 0 + 1) (by omega) (by omega)
          omega
  · decide
/-- What is written of a right example is read as that example. -/
theorem text_row {s : SchemaD} {e : ExD} (h : exOk s e = true) : rowOf s (exText s e) = (e, 0, 0) := by
  obtain ⟨hs, hl, ⟨c0, c1⟩, hr⟩ := exOk_parts h
  obtain ⟨⟨a1, a5⟩, ⟨k2, k3⟩, hw, hat⟩ := sch_parts hs
  have hcells : ∀ t ∈ cellsT s e e.bins.length, ∀ c : UInt8, c = 44 ∨ c = 124 → clean c t := fun t ht c hc => by
    obtain ⟨i, _, rfl⟩ := List.mem_map.1 ht
    exact cell_clean hc
  have hne : cellsT s e e.bins.length ≠ [] := fun e' => by
    have := cellsT_len s e e.bins.length
    rw [e'] at this; simp at this; omega
  have hcl : clean 124 (classText s e.cls) ∧ (classText s e.cls).size ≤ 8 := by
    unfold classText
    split
    · have hm := words_all hw _ (tx_mem (ss := s.classes) (j := e.cls.toNat) (by omega))
      exact ⟨clean_word hm (by decide), (word_size hm).2⟩
    · exact ⟨clean_one (by decide), by decide⟩
  have e1 : exText s e = joinT (cellsT s e e.bins.length) ⟨#[44]⟩ ++ ⟨#[124]⟩ ++ classText s e.cls := by unfold exText; rw [if_pos h]
  have e2 : pieces 124 (exText s e) = [joinT (cellsT s e e.bins.length) ⟨#[44]⟩, classText s e.cls] := by
    rw [e1]; exact pieces_two 124 _ _ (clean_join (fun t ht => hcells t ht 124 (.inr rfl)) (clean_one (by decide))) hcl.1
  have e3 : pieces 44 (joinT (cellsT s e e.bins.length) ⟨#[44]⟩) = cellsT s e e.bins.length := pieces_joinT 44 _ hne fun t ht => hcells t ht 44 (.inl rfl)
  have e4 : tx (pieces 124 (exText s e)) 0 = joinT (cellsT s e e.bins.length) ⟨#[44]⟩ := by rw [e2]; rfl
  have e5 : tx (pieces 124 (exText s e)) 1 = classText s e.cls := by rw [e2]; rfl
  have hsz : (exText s e).size ≤ 80 := by
    have hj := joinT_size (cellsT s e e.bins.length) ⟨#[44]⟩ 8 (fun t ht => by
      obtain ⟨i, _, rfl⟩ := List.mem_map.1 ht
      exact cellText_8 _ _)
    rw [cellsT_len] at hj
    have h1 : (⟨#[44]⟩ : ByteArray).size = 1 := rfl
    have h2 : (⟨#[124]⟩ : ByteArray).size = 1 := rfl
    rw [h1] at hj
    rw [e1, ByteArray.size_append, ByteArray.size_append, h2]
    have := hcl.2
    omega
  have hbf : binsFrom s.attrs (cellsT s e e.bins.length) (cellsT s e e.bins.length).length = some e.bins := by
    refine binsFrom_yes (by rw [cellsT_len]) fun j hj => ?_
    rw [cellsT_len] at hj
    have hb := bin_right hr hj
    have et : tx (cellsT s e e.bins.length) j = cellText (ad s.attrs j) (e.bins.getD j 0) := by
      rw [tx_eq (by rw [cellsT_len]; exact hj)]; simp [cellsT]
    rw [et]
    exact cell_back (attrs_each hat (by omega)) hb.1 hb.2
  have hp : placeT s.classes (classText s e.cls) = e.cls := by
    unfold classText
    split
    · rw [place_word hw (by omega)]; omega
    · rw [place_ask hw]; omega
  have hor : 0 ≤ placeT s.classes (tx (pieces 124 (exText s e)) 1) ∨ tx (pieces 124 (exText s e)) 1 = askB := by
    rw [e5, hp]
    by_cases h0 : 0 ≤ e.cls
    · exact .inl h0
    · exact .inr (if_neg h0)
  rw [rowOf_0 hs hsz (by rw [e2]; rfl) (by rw [e4, e3]) (by rw [cellsT_len, hl]) hbf hor, e5, hp]
/-- What is read of a row. -/
theorem row_total (s : SchemaD) (row : ByteArray) : (rowOf s row).2.1 = 0 ∧ exOk s (rowOf s row).1 = true ∧ (rowOf s row).2.2 = 0 ∨
    1 ≤ (rowOf s row).2.1 ∧ (rowOf s row).2.1 ≤ 6 ∧ (rowOf s row).1 = noEx ∧ 0 ≤ (rowOf s row).2.2 ∧ ((rowOf s row).2.2 = 0 ∨ (rowOf s row).2.1 = 5 ∧ (rowOf s row).2.2 < s.attrs.length) ∧ ((rowOf s row).2.1 = 1 ↔ schemaOk s = false) := by
  cases h1 : schemaOk s with
  | false => rw [rowOf_1 h1]; exact .inr (by simp)
  | true =>
    by_cases h2 : row.size ≤ 80
    rotate_left
    · rw [rowOf_2 h1 h2]; exact .inr (by simp)
    by_cases h3 : (pieces 124 row).length = 2
    rotate_left
    · rw [rowOf_3 h1 h2 h3]; exact .inr (by simp)
    by_cases h4 : (pieces 44 (tx (pieces 124 row) 0)).length = s.attrs.length
    rotate_left
    · rw [rowOf_4 h1 h2 h3 h4]; exact .inr (by simp)
    obtain ⟨⟨a1, a5⟩, ⟨k2, k3⟩, hw, hat⟩ := sch_parts h1
    cases h5 : binsFrom s.attrs (pieces 44 (tx (pieces 124 row) 0)) (pieces 44 (tx (pieces 124 row) 0)).length with
    | none =>
      have hfb : firstBad s.attrs (pieces 44 (tx (pieces 124 row) 0)) 0 (pieces 44 (tx (pieces 124 row) 0)).length < s.attrs.length := by
        refine Nat.lt_of_not_le fun hge => ?_
        have key : ∀ n k, k + n ≤ firstBad s.attrs (pieces 44 (tx (pieces 124 row) 0)) k n → ∀ j, k ≤ j → j < k + n → (cellB (ad s.attrs j) (tx (pieces 44 (tx (pieces 124 row) 0)) j)).isSome = true := by
          intro n
          induction n with
          | zero => intro k _ j h1 h2; omega
          | succ n ih =>
            intro k h j h1 h2
            unfold firstBad at h
            split at h
            · next hs =>
              by_cases e : j = k
              · subst e; exact hs
              · exact ih (k + 1) (by omega) j (by omega) (by omega)
            · omega
        have hall := key (pieces 44 (tx (pieces 124 row) 0)).length 0 (by omega)
        have some_all : ∀ n, (∀ j, j < n → (cellB (ad s.attrs j) (tx (pieces 44 (tx (pieces 124 row) 0)) j)).isSome = true) → (binsFrom s.attrs (pieces 44 (tx (pieces 124 row) 0)) n).isSome = true := by
          intro n
          induction n with
          | zero => intro _; rfl
          | succ n ih =>
            intro hj
            obtain ⟨l, hl⟩ := Option.isSome_iff_exists.1 (ih fun j hlt => hj j (by omega))
            obtain ⟨b, hb⟩ := Option.isSome_iff_exists.1 (hj n (by omega))
            rw [binsFrom_step hl hb]; rfl
        have := some_all (pieces 44 (tx (pieces 124 row) 0)).length fun j hj => hall j (Nat.zero_le _) (by omega)
        rw [h5] at this; cases this
      have er : rowOf s row = (noEx, 5, (firstBad s.attrs (pieces 44 (tx (pieces 124 row) 0)) 0 (pieces 44 (tx (pieces 124 row) 0)).length : Int)) := by
        unfold rowOf; rw [if_pos h1, if_pos h2]; simp only []; rw [if_pos h3, if_pos h4, h5]
      rw [er]
      exact .inr ⟨by simp, by simp, rfl, by simp, .inr ⟨rfl, by simpa using hfb⟩, by simp⟩
    | some l =>
      by_cases h6 : 0 ≤ placeT s.classes (tx (pieces 124 row) 1) ∨ tx (pieces 124 row) 1 = askB
      rotate_left
      · rw [rowOf_6 h1 h2 h3 rfl h4 h5 h6]; exact .inr (by simp)
      rw [rowOf_0 h1 h2 h3 rfl h4 h5 h6]
      refine .inl ⟨rfl, ?_, rfl⟩
      have hll := binsFrom_len h5
      have hpb := placeFrom_le (ss := s.classes) (t := tx (pieces 124 row) 1) s.classes.length 0
      unfold exOk
      rw [h1, decide_eq_true (p := l.length = s.attrs.length) (by omega), decide_eq_true (p := -1 ≤ (⟨l, placeT s.classes (tx (pieces 124 row) 1)⟩ : ExD).cls ∧ (⟨l, placeT s.classes (tx (pieces 124 row) 1)⟩ : ExD).cls ≤ (s.classes.length : Int) - 1) (by simp only [placeT]; omega)]
      simp only [Bool.true_and]
      refine binsRight_yes fun j hj => decide_eq_true ?_
      have hj2 : j < (pieces 44 (tx (pieces 124 row) 0)).length := by simp only at hj; omega
      have := binsFrom_all h5 j hj2
      exact cell_in (attrs_each hat (by omega)) this
theorem exText_ne {s : SchemaD} {e : ExD} (h : exOk s e = true) : exText s e ≠ ⟨#[]⟩ := fun e' => by
  have e1 : exText s e = joinT (cellsT s e e.bins.length) ⟨#[44]⟩ ++ ⟨#[124]⟩ ++ classText s e.cls := by unfold exText; rw [if_pos h]
  have h1 := congrArg ByteArray.size e1
  rw [e', ByteArray.size_append, ByteArray.size_append] at h1
  have h2 : (⟨#[124]⟩ : ByteArray).size = 1 := rfl
  have h3 : (⟨#[]⟩ : ByteArray).size = 0 := rfl
  omega
end Go.Proofs.YtfekcckckmhioaaGreatDoor
/- What a part of a row says of an attribute, by the program. -/
namespace Go.Proofs.YtfekcckckmhioaaGreatDoor
open Go.RowKit
set_option maxRecDepth 100000
set_option linter.unusedSimpArgs false
theorem ask_list7 : askB.toList = ([63] : List UInt8) := by decide +kernel
theorem ask_eq7 (t : ByteArray) : (t.toList == ([63] : List UInt8)) = decide (t = askB) := by
  rw [← ask_list7]
  by_cases h : t = askB
  · rw [decide_eq_true h, h]; simp
  · rw [decide_eq_false h, beq_eq_false_iff_ne]
    exact fun e => h (bytes_eq_iff.1 e)
theorem choiceRead_any (v : Value) (ss : List ByteArray) (t : ByteArray) (w : World) (h : RowS w v ss) (hn : ss.length ≤ 1099511627776) :
    Calls Tryz.prog 58 #[v, .string t] w fun e w' => e = .returned (.tuple #[.int .i64 (if t = askB then -1 else placeT ss t), .bool (decide (t = askB ∨ 0 ≤ placeT ss t))]) ∧ Below w.heap.size w w' := by
  have hq := ask_eq7 t
  by_cases h0 : t = askB
  · rw [if_pos h0, decide_eq_true (.inl h0)]
    rw [decide_eq_true h0] at hq
    obtain ⟨oa, cap, rfl, -, -⟩ := id h
    clear h h0
    go_enter Tryz.func58, Tryz.ntmps58
    go_wp2
    refine bodyPost_ret (results_tmp2 rfl _ _ _) rfl ⟨rfl, Below.refl _ _⟩
  · rw [if_neg h0]
    rw [decide_eq_false h0] at hq
    have e1 := index_place v ss t w h hn
    have hP := placeT_bounds ss t
    have HB : Hid (decide (t = askB ∨ 0 ≤ placeT ss t) = decide (0 ≤ placeT ss t)) := by
      by_cases hp : 0 ≤ placeT ss t
      · rw [decide_eq_true (.inr hp), decide_eq_true hp]; rfl
      · rw [decide_eq_false (fun h => h.elim h0 hp), decide_eq_false hp]; rfl
    rw [HB.out]
    obtain ⟨oa, cap, rfl, -, -⟩ := id h
    clear HB
    generalize placeT ss t = P at e1 hP
    clear h0 h
    go_enter Tryz.func58, Tryz.ntmps58
    go_wp2_with fail
    refine e1.mono ?_
    clear e1
    rintro e w1 ⟨rfl, hb1⟩
    go_wp2
    refine bodyPost_ret (results_tmp2 rfl _ _ _) rfl ⟨rfl, hb1⟩
set_option maxHeartbeats 800000 in
theorem cellRead_any (v : Value) (a : AttrD) (t : ByteArray) (u : TypeId) (ev : Value) (m : Int) (w : World) (h : AttrAt w v a) (hn : okA a) (ht : t.size ≤ 1048576) (hE : Env u ev m w) :
    Calls Tryz.prog 81 #[v, .string t] w fun e w' => e = .returned (.tuple #[.int .i64 (cellXi a t), .bool (cellB a t).isSome]) ∧ Below w.heap.size w w' := by
  have hat := h
  obtain ⟨vc, vv, rfl, hc, hv⟩ := h
  have HAT : Hid (∀ W, Below w.heap.size w W → AttrAt W (.agg #[.string a.name, vc, vv]) a) := fun W h => hat.later h
  have HC : Hid (∀ W, Below w.heap.size w W → RowI W vc a.cuts) := fun W h => hc.later h
  have HV : Hid (∀ W, Below w.heap.size w W → RowS W vv a.vals) := fun W h => hv.later h
  have HENV : Hid (∀ W, Below w.heap.size w W → Env u ev m W) := fun W h => hE.later h
  obtain ⟨oc, cc, rfl, -, -⟩ := id hc
  obtain ⟨ov, cv, rfl, -, -⟩ := id hv
  have lc := hn.cuts
  have lv := hn.vals.1
  clear hc hv hn hat hE
  obtain ⟨K0, B0⟩ := blk_1 57 w #[.string a.name, .slice oc a.cuts.length cc, .slice ov a.vals.length cv]
  have e0 := nominal_any _ a _ (HAT.out _ B0)
  have hq := ask_eq7 t
  by_cases hv0 : 0 < a.vals.length
  · rw [decide_eq_true hv0] at e0
    have HX : Hid ((cellB a t).isSome = decide (t = askB ∨ 0 ≤ placeT a.vals t) ∧ cellXi a t = (if t = askB then -1 else placeT a.vals t)) := by
      refine ⟨?_, if_pos hv0⟩
      unfold cellB
      by_cases h0 : t = askB
      · rw [if_pos h0, decide_eq_true (.inl h0)]; rfl
      · rw [if_neg h0, if_pos hv0]
        by_cases hp : 0 ≤ placeT a.vals t
        · rw [if_pos hp, decide_eq_true (.inr hp)]; rfl
        · rw [if_neg hp, decide_eq_false (fun h => h.elim h0 hp)]; rfl
    have HR : Hid (∀ W, Below w.heap.size w W → Calls Tryz.prog 58 #[.slice ov a.vals.length cv, .string t] W fun e w' => e = .returned (.tuple #[.int .i64 (if t = askB then -1 else placeT a.vals t), .bool (decide (t = askB ∨ 0 ≤ placeT a.vals t))]) ∧ Below W.heap.size W w') := fun W hW => choiceRead_any _ a.vals t W (HV.out W hW) lv
    generalize (if t = askB then -1 else placeT a.vals t) = P at HX HR
    generalize decide (t = askB ∨ 0 ≤ placeT a.vals t) = D at HX HR
    clear hq
    go_enter Tryz.func81, Tryz.ntmps81
    go_wp2_with fail
    refine e0.mono ?_
    clear e0
    rintro e w1 ⟨rfl, hb1⟩
    have B1 := B0.trans (hb1.mono (by simp))
    have k2 : w1.cell? ⟨w.heap.size, 2, none⟩ = some (.slice ov a.vals.length cv) := (K0.below hb1).cell 2
    have e1 := HR.out w1 B1
    clear K0 hb1 B0
    go_wp2_with fail
    refine e1.mono ?_
    clear e1
    rintro e w2 ⟨rfl, hb2⟩
    go_wp2
    refine bodyPost_ret (results_tmp2 rfl _ _ _) rfl ⟨by rw [HX.out.1, HX.out.2]; rfl, B1.trans (hb2.mono B1.size)⟩
  rw [decide_eq_false hv0] at e0
  by_cases h0 : t = askB
  · have HE : Hid (cellB a t = some (-1)) := if_pos h0
    have HZ : Hid (cellXi a t = -1) := by unfold cellXi; rw [if_neg hv0, if_pos h0]; rfl
    rw [decide_eq_true h0] at hq
    have HR : Hid (∀ W, Below w.heap.size w W → Calls Tryz.prog 58 #[.slice ov a.vals.length cv, .string t] W fun e w' => e = .returned (.tuple #[.int .i64 (-1), .bool true]) ∧ Below W.heap.size W w') := fun W hW => by
      have := choiceRead_any _ a.vals t W (HV.out W hW) lv
      rwa [if_pos h0, decide_eq_true (.inl h0)] at this
    clear h0
    go_enter Tryz.func81, Tryz.ntmps81
    go_wp2_with fail
    refine e0.mono ?_
    clear e0
    rintro e w1 ⟨rfl, hb1⟩
    have B1 := B0.trans (hb1.mono (by simp))
    have k2 : w1.cell? ⟨w.heap.size, 2, none⟩ = some (.slice ov a.vals.length cv) := (K0.below hb1).cell 2
    have e1 := HR.out w1 B1
    clear K0 hb1 B0
    go_wp2_with fail
    refine e1.mono ?_
    clear e1
    rintro e w2 ⟨rfl, hb2⟩
    go_wp2
    refine bodyPost_ret (results_tmp2 rfl _ _ _) rfl ⟨by rw [HE.out, HZ.out]; rfl, B1.trans (hb2.mono B1.size)⟩
  rw [decide_eq_false h0] at hq
  have HS : Hid (∀ W, Below w.heap.size w W → Calls Tryz.prog 101 #[.string t] W fun e w' => e = .returned (gotInt (sigSpec t.data.toList)) ∧ Below W.heap.size W w') := fun W hW => iSigned_any t u ev m W ht (HENV.out W hW)
  have HCE : Hid (cellB a t = (sigSpec t.data.toList).map fun n => (binN a.cuts n : Int)) := by unfold cellB; rw [if_neg h0, if_neg hv0]; rfl
  have HCX : Hid (cellXi a t = (binN a.cuts ((sigSpec t.data.toList).getD 0) : Int)) := by unfold cellXi; rw [if_neg hv0, if_neg h0]; rfl
  clear h0
  obtain ⟨n, b, hgot, hsome, hval⟩ : ∃ (n : Int) (b : Bool), gotInt (sigSpec t.data.toList) = .tuple #[.int .i64 n, .bool b] ∧ (cellB a t).isSome = b ∧ cellXi a t = (binN a.cuts n : Int) := by
    rw [HCE.out, HCX.out]
    cases sigSpec t.data.toList with
    | none => exact ⟨0, false, rfl, rfl, rfl⟩
    | some n => exact ⟨n, true, rfl, rfl, rfl⟩
  have HG : Hid ((cellB a t).isSome = b ∧ cellXi a t = (binN a.cuts n : Int)) := ⟨hsome, hval⟩
  have HS2 : Hid (∀ W, Below w.heap.size w W → Calls Tryz.prog 101 #[.string t] W fun e w' => e = .returned (.tuple #[.int .i64 n, .bool b]) ∧ Below W.heap.size W w') := fun W hW => by
    have := HS.out W hW
    rwa [hgot] at this
  clear hsome hval hgot HS HCE HCX
  go_enter Tryz.func81, Tryz.ntmps81
  go_wp2_with fail
  refine e0.mono ?_
  clear e0
  rintro e w1 ⟨rfl, hb1⟩
  have B1 := B0.trans (hb1.mono (by simp))
  have K1 := K0.below hb1
  have e1 := HS2.out w1 B1
  clear K0 hb1 B0
  go_wp2_with fail
  refine e1.mono ?_
  clear e1
  rintro e w2 ⟨rfl, hb2⟩
  have B2 := B1.trans (hb2.mono B1.size)
  have k1 : w2.cell? ⟨w.heap.size, 1, none⟩ = some (.slice oc a.cuts.length cc) := (K1.below hb2).cell 1
  have e2 := implBin_any _ a.cuts n w2 (HC.out w2 B2) lc
  clear K1 hb2 B1
  go_wp2_with fail
  refine e2.mono ?_
  clear e2
  rintro e w3 ⟨rfl, e3⟩
  rw [e3]
  go_wp2
  refine bodyPost_ret (results_tmp2 rfl _ _ _) rfl ⟨by rw [HG.out.1, HG.out.2]; rfl, B2⟩
end Go.Proofs.YtfekcckckmhioaaGreatDoor
/- errors.As at a pointer to one of the program's own error types: what the library's text does, walked once for every pair of types. -/
namespace Go.Proofs.YtfekcckckmhioaaGreatDoor
open Go.RowKit Go.Extern.Stop Go.Stop Go.Extern
set_option maxRecDepth 100000
set_option linter.unusedSimpArgs false
set_option linter.unusedVariables false
/-- errors.As(nil, target). -/
theorem as_nil (t : Value) (w : World) :
    Calls Tryz.prog 59 #[.nilIface, t] w fun e w' => e = .returned (.bool false) ∧ w' = w := by
  go_enter Tryz.func59, Tryz.ntmps59
  go_wp2
  go_ret
  exact ⟨rfl, rfl⟩
theorem as_methodKind (h : Value) (w : World) : (Go.method 336 144 (.agg #[h]) "Kind").run Tryz.prog w = .ok (166, h) w := by kernel_rfl
theorem as_methodElem (h : Value) (w : World) : (Go.method 336 144 (.agg #[h]) "Elem").run Tryz.prog w = .ok (182, .agg #[h]) w := by kernel_rfl
theorem as_methodImplements (h : Value) (w : World) : (Go.method 336 144 (.agg #[h]) "Implements").run Tryz.prog w = .ok (183, .agg #[h]) w := by kernel_rfl
theorem as_methodAssignableTo (h : Value) (w : World) : (Go.method 336 144 (.agg #[h]) "AssignableTo").run Tryz.prog w = .ok (180, .agg #[h]) w := by kernel_rfl
theorem as_rlm (z : Sem Value) (f : TypeId → Addr → Nat → Nat → Sem Value) (v : Value) :
    ReflectliteValue.method z f #[v] = (do match ← ReflectliteValue.parts v with | none => z | some (t, a, fl) => f t a fl (fl % 32)) := rfl
/-- What the library finds of a target's type: PT is a pointer to T. -/
structure AsT (PT T : TypeId) : Prop where
  valueOf : ∀ (t : Addr) (w : World), (ReflectliteValue.unpack (.iface PT (.pointer (some t)))).run Tryz.prog w = .ok (.agg #[.pointer (some ⟨10, PT, none⟩), .pointer (some ⟨w.heap.size, 0, none⟩), .int .u64 150]) (w.alloc (.cells #[.pointer (some t)] PT))
  typ : ∀ (a : Addr) (w : World), (ReflectliteValue.methodAny (ReflectliteValue.valueError "reflectlite.Value.Type" 0) (fun t _ _ _ => ReflectliteType.toType t) #[.agg #[.pointer (some ⟨10, PT, none⟩), .pointer (some a), .int .u64 150]]).run Tryz.prog w = .ok (.iface 144 (.agg #[.pointer (some ⟨10, PT, none⟩)])) w
  kindP : ∀ (w : World), ((ReflectliteType.abiMethod fun t => (fun a : Nat => Value.int IntKind.u8 (a : Int)) <$> Rtype.kind t) #[.pointer (some ⟨10, PT, none⟩)]).run Tryz.prog w = .ok (.int .u8 22) w
  kindT : ∀ (w : World), ((ReflectliteType.abiMethod fun t => (fun a : Nat => Value.int IntKind.u8 (a : Int)) <$> Rtype.kind t) #[.pointer (some ⟨10, T, none⟩)]).run Tryz.prog w = .ok (.int .u8 25) w
  isNil : ∀ (a p : Addr) (W : World), W.cell? a = some (.pointer (some p)) → (ReflectliteValue.method (ReflectliteValue.valueError "reflectlite.Value.IsNil" 0) ReflectliteValue.isNil #[.agg #[.pointer (some ⟨10, PT, none⟩), .pointer (some a), .int .u64 150]]).run Tryz.prog W = .ok (.bool false) W
  elem : ∀ (w : World), (ReflectliteType.method ReflectliteType.elem #[.agg #[.pointer (some ⟨10, PT, none⟩)]]).run Tryz.prog w = .ok (.iface 144 (.agg #[.pointer (some ⟨10, T, none⟩)])) w
  implements : ∀ (w : World), (ReflectliteType.relation "Implements" ReflectliteType.implements_ #[.agg #[.pointer (some ⟨10, T, none⟩)], .iface 144 (.agg #[.pointer (some ⟨10, 62, none⟩)])]).run Tryz.prog w = .ok (.bool true) w
/-- What the library finds of an error's type: it has neither As nor Unwrap. -/
structure AsE (E : TypeId) : Prop where
  typeOf : ∀ (v : Value) (w : World), (ReflectliteType.typeOf #[.iface E v]).run Tryz.prog w = .ok (.iface 144 (.agg #[.pointer (some ⟨10, E, none⟩)])) w
  noAs : ∀ (v : Value) (xT : TypeId) (w : World), (Instr.typeAssert (.iface E v) xT 149 true).run Tryz.prog w = .ok (.tuple #[.nilIface, .bool false]) w
  noUn : ∀ (v : Value) (xT : TypeId) (w : World), (Instr.typeAssert (.iface E v) xT 152 true).run Tryz.prog w = .ok (.tuple #[.nilIface, .bool false]) w
  noUns : ∀ (v : Value) (xT : TypeId) (w : World), (Instr.typeAssert (.iface E v) xT 154 true).run Tryz.prog w = .ok (.tuple #[.nilIface, .bool false]) w
def AsN (E T : TypeId) (b : Bool) : Prop := ∀ (w : World), (ReflectliteType.relation "AssignableTo" ReflectliteType.assignableTo #[.agg #[.pointer (some ⟨10, E, none⟩)], .iface 144 (.agg #[.pointer (some ⟨10, T, none⟩)])]).run Tryz.prog w = .ok (.bool b) w
/-- The package's variable that bears the type error. -/
def EtAt (w : World) : Prop := 0 < w.heap.size ∧ w.cell? ⟨0, 0, none⟩ = some (.iface 144 (.agg #[.pointer (some ⟨10, 62, none⟩)]))
theorem EtAt.later {w w' : World} (h : EtAt w) (hb : Below w.heap.size w w') : EtAt w' := ⟨Nat.lt_of_lt_of_le h.1 hb.size, (hb.cell (p := ⟨0, 0, none⟩) h.1).trans h.2⟩
set_option maxHeartbeats 4000000 in
/-- The error is of another type than what the target points to: no. -/
theorem as_miss {PT T E : TypeId} (hT : AsT PT T) (hE : AsE E) (hN : AsN E T false) (v : Value) (t : Addr) (w : World) (hg : EtAt w) :
    Calls Tryz.prog 59 #[.iface E v, .iface PT (.pointer (some t))] w fun ev w' => ev = .returned (.bool false) ∧ Below w.heap.size w w' := by
  have h6 := @run_callFunc_extern Tryz.prog 83 _ (fun args => ReflectliteValue.unpack (args.getD 0 (.tuple #[]))) Tryz.func83 (by kernel_rfl) (by kernel_rfl) (by kernel_rfl) (by kernel_rfl)
  have h7 := @run_callFunc_extern Tryz.prog 84 _ (ReflectliteValue.methodAny (ReflectliteValue.valueError "reflectlite.Value.Type" 0) (fun t _ _ _ => ReflectliteType.toType t)) Tryz.func84 (by kernel_rfl) (by kernel_rfl) (by kernel_rfl) (by kernel_rfl)
  have h8 := @run_callFunc_extern Tryz.prog 85 _ (ReflectliteValue.method (ReflectliteValue.valueError "reflectlite.Value.IsNil" 0) ReflectliteValue.isNil) Tryz.func85 (by kernel_rfl) (by kernel_rfl) (by kernel_rfl) (by kernel_rfl)
  have h27 := @run_callFunc_extern Tryz.prog 166 _ (ReflectliteType.abiMethod fun t => do pure (.int .u8 (← Rtype.kind t))) Tryz.func166 (by kernel_rfl) (by kernel_rfl) (by kernel_rfl) (by kernel_rfl)
  have h37 := @run_callFunc_extern Tryz.prog 182 _ (ReflectliteType.method ReflectliteType.elem) Tryz.func182 (by kernel_rfl) (by kernel_rfl) (by kernel_rfl) (by kernel_rfl)
  have h38 := @run_callFunc_extern Tryz.prog 183 _ (ReflectliteType.relation "Implements" ReflectliteType.implements_) Tryz.func183 (by kernel_rfl) (by kernel_rfl) (by kernel_rfl) (by kernel_rfl)
  have h10 := @run_callFunc_extern Tryz.prog 103 _ ReflectliteType.typeOf Tryz.func103 (by kernel_rfl) (by kernel_rfl) (by kernel_rfl) (by kernel_rfl)
  have h35 := @run_callFunc_extern Tryz.prog 180 _ (ReflectliteType.relation "AssignableTo" ReflectliteType.assignableTo) Tryz.func180 (by kernel_rfl) (by kernel_rfl) (by kernel_rfl) (by kernel_rfl)
  have tO := hE.typeOf
  have nA := hE.noAs
  have nU := hE.noUn
  have nV := hE.noUns
  have mA := as_methodAssignableTo
  have f6 := hT.valueOf
  have f7 := hT.typ
  have mK := as_methodKind
  have mE := as_methodElem
  have mI := as_methodImplements
  have k27 := hT.kindP
  have k25 := hT.kindT
  have e27 := hT.elem
  have i25 := hT.implements
  have a25 : ∀ (w : World), (ReflectliteType.relation "AssignableTo" ReflectliteType.assignableTo #[.agg #[.pointer (some ⟨10, E, none⟩)], .iface 144 (.agg #[.pointer (some ⟨10, T, none⟩)])]).run Tryz.prog w = .ok (.bool false) w := hN
  have n8 := hT.isNil ⟨w.heap.size, 0, none⟩ t ((w.alloc (.cells #[.pointer (some t)] PT)).alloc (.cells #[.pointer (some ⟨10, PT, none⟩), .pointer (some ⟨w.heap.size, 0, none⟩), .int .u64 150] 124)) (by simp)
  obtain ⟨hlt, hg0⟩ := hg
  have hg2 : ((w.alloc (.cells #[.pointer (some t)] PT)).alloc (.cells #[.pointer (some ⟨10, PT, none⟩), .pointer (some ⟨w.heap.size, 0, none⟩), .int .u64 150] 124)).cell? ⟨0, 0, none⟩ = some (.iface 144 (.agg #[.pointer (some ⟨10, 62, none⟩)])) := by
    rw [World.cell?_alloc_lt _ _ ⟨0, 0, none⟩ (by simp <;> omega), World.cell?_alloc_lt _ _ ⟨0, 0, none⟩ hlt]; exact hg0
  clear hT hE hN
  go_enter Tryz.func59, Tryz.ntmps59
  go_wp2
  refine wp_loop_rounds 1 ?_
  rw [rounds_succ]
  go_wp2
  go_ret
  exact ⟨rfl, ((((Below.refl _ _).alloc (Nat.le_refl _) _).alloc (by simp) _).alloc (by simp <;> omega) _)⟩
end Go.Proofs.YtfekcckckmhioaaGreatDoor
/- errors.As at each of the program's own error types. -/
namespace Go.Proofs.YtfekcckckmhioaaGreatDoor
open Go.RowKit Go.Extern.Stop Go.Stop Go.Extern
set_option maxRecDepth 100000
set_option linter.unusedSimpArgs false
set_option linter.unusedVariables false
/-- What the library does where the error is of the type that the target points to: a struct, of which it makes a Value, and sets the target. -/
structure AsH (PT T : TypeId) (cs : Array Value) (K : World → Addr → World) : Prop where
  valueOf : ∀ (w : World), (ReflectliteValue.unpack (.iface T (.agg cs))).run Tryz.prog w = .ok (.agg #[.pointer (some ⟨10, T, none⟩), .pointer (some ⟨w.heap.size, 0, none⟩), .int .u64 153]) (w.alloc (.cells cs T))
  elemV : ∀ (a p : Addr) (W : World), W.cell? a = some (.pointer (some p)) → (ReflectliteValue.method (ReflectliteValue.valueError "reflectlite.Value.Elem" 0) ReflectliteValue.elem #[.agg #[.pointer (some ⟨10, PT, none⟩), .pointer (some a), .int .u64 150]]).run Tryz.prog W = .ok (.agg #[.pointer (some ⟨10, T, none⟩), .pointer (some p), .int .u64 409]) W
  set : ∀ (ta : Addr) (W : World), ta.block < W.heap.size → (∀ v, cs[0]? = some v → ∃ old, W.cell? ta = some old) → W.frozen? ta = false → (ReflectliteValue.set #[.agg #[.pointer (some ⟨10, T, none⟩), .pointer (some ta), .int .u64 409], .agg #[.pointer (some ⟨10, T, none⟩), .pointer (some ⟨W.heap.size, 0, none⟩), .int .u64 153]]).run Tryz.prog (W.alloc (.cells cs T)) = .ok (.tuple #[]) (K (W.alloc (.cells cs T)) ta)
set_option maxHeartbeats 4000000 in
/-- The error is of the type that the target points to: yes, and the target is set. -/
theorem as_hit {PT T : TypeId} {cs : Array Value} {K : World → Addr → World} (hT : AsT PT T) (hE : AsE T) (hN : AsN T T true) (hH : AsH PT T cs K) (t : Addr) (w : World) (hg : EtAt w) (htb : t.block < w.heap.size) (ht : ∀ v, cs[0]? = some v → ∃ old, w.cell? t = some old) (hf : w.frozen? t = false) :
    Calls Tryz.prog 59 #[.iface T (.agg cs), .iface PT (.pointer (some t))] w fun ev w' => ev = .returned (.bool true) ∧ ∃ W, Below w.heap.size w W ∧ w' = K W t := by
  have h6 := @run_callFunc_extern Tryz.prog 83 _ (fun args => ReflectliteValue.unpack (args.getD 0 (.tuple #[]))) Tryz.func83 (by kernel_rfl) (by kernel_rfl) (by kernel_rfl) (by kernel_rfl)
  have h7 := @run_callFunc_extern Tryz.prog 84 _ (ReflectliteValue.methodAny (ReflectliteValue.valueError "reflectlite.Value.Type" 0) (fun t _ _ _ => ReflectliteType.toType t)) Tryz.func84 (by kernel_rfl) (by kernel_rfl) (by kernel_rfl) (by kernel_rfl)
  have h8 := @run_callFunc_extern Tryz.prog 85 _ (ReflectliteValue.method (ReflectliteValue.valueError "reflectlite.Value.IsNil" 0) ReflectliteValue.isNil) Tryz.func85 (by kernel_rfl) (by kernel_rfl) (by kernel_rfl) (by kernel_rfl)
  have h27 := @run_callFunc_extern Tryz.prog 166 _ (ReflectliteType.abiMethod fun t => do pure (.int .u8 (← Rtype.kind t))) Tryz.func166 (by kernel_rfl) (by kernel_rfl) (by kernel_rfl) (by kernel_rfl)
  have h37 := @run_callFunc_extern Tryz.prog 182 _ (ReflectliteType.method ReflectliteType.elem) Tryz.func182 (by kernel_rfl) (by kernel_rfl) (by kernel_rfl) (by kernel_rfl)
  have h38 := @run_callFunc_extern Tryz.prog 183 _ (ReflectliteType.relation "Implements" ReflectliteType.implements_) Tryz.func183 (by kernel_rfl) (by kernel_rfl) (by kernel_rfl) (by kernel_rfl)
  have h10 := @run_callFunc_extern Tryz.prog 103 _ ReflectliteType.typeOf Tryz.func103 (by kernel_rfl) (by kernel_rfl) (by kernel_rfl) (by kernel_rfl)
  have h35 := @run_callFunc_extern Tryz.prog 180 _ (ReflectliteType.relation "AssignableTo" ReflectliteType.assignableTo) Tryz.func180 (by kernel_rfl) (by kernel_rfl) (by kernel_rfl) (by kernel_rfl)
  have h11 := @run_callFunc_extern Tryz.prog 104 _ (ReflectliteValue.method (ReflectliteValue.valueError "reflectlite.Value.Elem" 0) ReflectliteValue.elem) Tryz.func104 (by kernel_rfl) (by kernel_rfl) (by kernel_rfl) (by kernel_rfl)
  have h12 := @run_callFunc_extern Tryz.prog 105 _ ReflectliteValue.set Tryz.func105 (by kernel_rfl) (by kernel_rfl) (by kernel_rfl) (by kernel_rfl)
  have tO := hE.typeOf
  have mA := as_methodAssignableTo
  have f6 := hT.valueOf
  have f7 := hT.typ
  have mK := as_methodKind
  have mE := as_methodElem
  have mI := as_methodImplements
  have k27 := hT.kindP
  have k25 := hT.kindT
  have e27 := hT.elem
  have i25 := hT.implements
  have v25 := hH.valueOf
  have a25 : ∀ (w : World), (ReflectliteType.relation "AssignableTo" ReflectliteType.assignableTo #[.agg #[.pointer (some ⟨10, T, none⟩)], .iface 144 (.agg #[.pointer (some ⟨10, T, none⟩)])]).run Tryz.prog w = .ok (.bool true) w := hN
  have n8 := hT.isNil ⟨w.heap.size, 0, none⟩ t ((w.alloc (.cells #[.pointer (some t)] PT)).alloc (.cells #[.pointer (some ⟨10, PT, none⟩), .pointer (some ⟨w.heap.size, 0, none⟩), .int .u64 150] 124)) (by simp)
  obtain ⟨hlt, hg0⟩ := hg
  have hg2 : ((w.alloc (.cells #[.pointer (some t)] PT)).alloc (.cells #[.pointer (some ⟨10, PT, none⟩), .pointer (some ⟨w.heap.size, 0, none⟩), .int .u64 150] 124)).cell? ⟨0, 0, none⟩ = some (.iface 144 (.agg #[.pointer (some ⟨10, 62, none⟩)])) := by
    rw [World.cell?_alloc_lt _ _ ⟨0, 0, none⟩ (by simp <;> omega), World.cell?_alloc_lt _ _ ⟨0, 0, none⟩ hlt]; exact hg0
  have BW : Below w.heap.size w (((w.alloc (.cells #[.pointer (some t)] PT)).alloc (.cells #[.pointer (some ⟨10, PT, none⟩), .pointer (some ⟨w.heap.size, 0, none⟩), .int .u64 150] 124)).alloc (.cells #[.pointer (some ⟨10, PT, none⟩), .pointer (some ⟨w.heap.size, 0, none⟩), .int .u64 150] 124)) := (((Below.refl _ _).alloc (Nat.le_refl _) _).alloc (by simp) _).alloc (by simp <;> omega) _
  have el := hH.elemV ⟨w.heap.size, 0, none⟩ t (((w.alloc (.cells #[.pointer (some t)] PT)).alloc (.cells #[.pointer (some ⟨10, PT, none⟩), .pointer (some ⟨w.heap.size, 0, none⟩), .int .u64 150] 124)).alloc (.cells #[.pointer (some ⟨10, PT, none⟩), .pointer (some ⟨w.heap.size, 0, none⟩), .int .u64 150] 124)) (by rw [World.cell?_alloc_lt _ _ ⟨w.heap.size, 0, none⟩ (by simp; omega), World.cell?_alloc_lt _ _ ⟨w.heap.size, 0, none⟩ (by simp)]; simp)
  have st := hH.set t (((w.alloc (.cells #[.pointer (some t)] PT)).alloc (.cells #[.pointer (some ⟨10, PT, none⟩), .pointer (some ⟨w.heap.size, 0, none⟩), .int .u64 150] 124)).alloc (.cells #[.pointer (some ⟨10, PT, none⟩), .pointer (some ⟨w.heap.size, 0, none⟩), .int .u64 150] 124)) (Nat.lt_of_lt_of_le htb BW.size) (fun v hv => by
    obtain ⟨old, ho⟩ := ht v hv
    exact ⟨old, (BW.cell htb).trans ho⟩) (by
    rw [World.frozen?_alloc_old _ _ t (by simp; omega), World.frozen?_alloc_old _ _ t (by simp; omega), World.frozen?_alloc_old _ _ t (Nat.ne_of_lt htb)]; exact hf)
  have HB : Hid (Below w.heap.size w ((((w.alloc (.cells #[.pointer (some t)] PT)).alloc (.cells #[.pointer (some ⟨10, PT, none⟩), .pointer (some ⟨w.heap.size, 0, none⟩), .int .u64 150] 124)).alloc (.cells #[.pointer (some ⟨10, PT, none⟩), .pointer (some ⟨w.heap.size, 0, none⟩), .int .u64 150] 124)).alloc (.cells cs T))) := BW.alloc BW.size _
  simp only [World.size_alloc] at st
  clear hT hE hN hH ht hf BW
  go_enter Tryz.func59, Tryz.ntmps59
  go_wp2
  refine wp_loop_rounds 1 ?_
  rw [rounds_succ]
  go_wp2
  go_ret
  exact ⟨rfl, _, HB.out, rfl⟩
theorem as_rls (v x : Value) : ReflectliteValue.set #[v, x] = (do
    let (some (dst, a, fl), some (src, b, _)) := (← ReflectliteValue.parts v, ← ReflectliteValue.parts x)
      | unsupported (.noEntry "extern/(internal/reflectlite.Value).Set.zeroValue")
    if fl / ReflectliteValue.flagAddr % 2 == 0 then unsupported (.noEntry "extern/(internal/reflectlite.Value).Set.unaddressable")
    let val ← loadVar src b
    if ← Rtype.directlyAssignable dst src then storeVar dst a val
    else if ← Rtype.implements dst src then
      if (← Rtype.kind src) == 20 then
        match val with
        | .nilIface => unsupported (.noEntry "extern/reflectlite: a nil value of one interface type handed on as a value of another")
        | _ => storeVar dst a val
      else storeVar dst a (.iface src val)
    else panicString ("reflectlite.Set: value of type " ++ (← Rtype.spelt src) ++ " is not assignable to type " ++ (← Rtype.spelt dst))
    pure (.tuple #[])) := rfl
theorem as_parts_schema (a : Addr) (w : World) : (ReflectliteValue.parts (.agg #[.pointer (some ⟨10, 95, none⟩), .pointer (some a), .int .u64 150])).run Tryz.prog w = .ok (some (95, a, 150)) w := by kernel_rfl
theorem as_elemOf_schema (w : World) : (Rtype.elem? 95).run Tryz.prog w = .ok (some 84) w := by kernel_rfl
theorem as_mk_schema (p : Addr) (w : World) : (ReflectliteValue.mk 84 p ReflectliteValue.flagAddr).run Tryz.prog w = .ok (.agg #[.pointer (some ⟨10, 84, none⟩), .pointer (some p), .int .u64 409]) w := by kernel_rfl
theorem as_partsD_schema (a : Addr) (w : World) : (ReflectliteValue.parts (.agg #[.pointer (some ⟨10, 84, none⟩), .pointer (some a), .int .u64 409])).run Tryz.prog w = .ok (some (84, a, 409)) w := by kernel_rfl
theorem as_partsS_schema (a : Addr) (w : World) : (ReflectliteValue.parts (.agg #[.pointer (some ⟨10, 84, none⟩), .pointer (some a), .int .u64 153])).run Tryz.prog w = .ok (some (84, a, 153)) w := by kernel_rfl
theorem as_direct_schema (w : World) : (Rtype.directlyAssignable 84 84).run Tryz.prog w = .ok true w := by kernel_rfl
theorem asT_schema : AsT 95 84 where
  valueOf := fun t w => by kernel_rfl
  typ := fun a w => by kernel_rfl
  kindP := fun w => by kernel_rfl
  kindT := fun w => by kernel_rfl
  isNil := fun a p W ha => by
    rw [as_rlm]
    simp only [Sem.run_bind, as_parts_schema, Result.andThen]
    simp [ReflectliteValue.isNil, loadVar, isAgg, underlying, Tryz.underlying95, ha, Result.andThen]
  elem := fun w => by kernel_rfl
  implements := fun w => by kernel_rfl
theorem asE_schema : AsE 84 where
  typeOf := fun v w => by kernel_rfl
  noAs := fun v xT w => run_typeAssert_lacksB Tryz.underlying149 (by kernel_rfl) (by kernel_rfl) v xT w
  noUn := fun v xT w => run_typeAssert_lacksB Tryz.underlying152 (by kernel_rfl) (by kernel_rfl) v xT w
  noUns := fun v xT w => run_typeAssert_lacksB Tryz.underlying154 (by kernel_rfl) (by kernel_rfl) v xT w
theorem asN_schema : AsN 84 84 true := fun w => by kernel_rfl
theorem as_size_schema (w : World) : (sizeOf 84).run Tryz.prog w = .ok 0 w := by kernel_rfl
theorem asH_schema : AsH 95 84 #[] (fun W _ => W) where
  valueOf := fun w => by kernel_rfl
  elemV := fun a p W ha => by
    rw [as_rlm]
    simp only [Sem.run_bind, as_parts_schema, Result.andThen]
    simp [ReflectliteValue.elem, loadVar, isAgg, underlying, Tryz.underlying95, ha, Result.andThen, as_elemOf_schema, as_mk_schema]
  set := fun ta W _ _ _ => by
    rw [as_rls]
    simp only [Sem.run_bind, as_partsD_schema, as_partsS_schema, Result.andThen]
    simp [ReflectliteValue.flagAddr, loadVar, isAgg, underlying, Tryz.underlying84, Result.andThen, as_direct_schema, as_size_schema, storeVar, Value.cells, storeCells, loadCells, loadCellsFrom]
theorem as_parts_long (a : Addr) (w : World) : (ReflectliteValue.parts (.agg #[.pointer (some ⟨10, 96, none⟩), .pointer (some a), .int .u64 150])).run Tryz.prog w = .ok (some (96, a, 150)) w := by kernel_rfl
theorem as_elemOf_long (w : World) : (Rtype.elem? 96).run Tryz.prog w = .ok (some 85) w := by kernel_rfl
theorem as_mk_long (p : Addr) (w : World) : (ReflectliteValue.mk 85 p ReflectliteValue.flagAddr).run Tryz.prog w = .ok (.agg #[.pointer (some ⟨10, 85, none⟩), .pointer (some p), .int .u64 409]) w := by kernel_rfl
theorem as_partsD_long (a : Addr) (w : World) : (ReflectliteValue.parts (.agg #[.pointer (some ⟨10, 85, none⟩), .pointer (some a), .int .u64 409])).run Tryz.prog w = .ok (some (85, a, 409)) w := by kernel_rfl
theorem as_partsS_long (a : Addr) (w : World) : (ReflectliteValue.parts (.agg #[.pointer (some ⟨10, 85, none⟩), .pointer (some a), .int .u64 153])).run Tryz.prog w = .ok (some (85, a, 153)) w := by kernel_rfl
theorem as_direct_long (w : World) : (Rtype.directlyAssignable 85 85).run Tryz.prog w = .ok true w := by kernel_rfl
theorem asT_long : AsT 96 85 where
  valueOf := fun t w => by kernel_rfl
  typ := fun a w => by kernel_rfl
  kindP := fun w => by kernel_rfl
  kindT := fun w => by kernel_rfl
  isNil := fun a p W ha => by
    rw [as_rlm]
    simp only [Sem.run_bind, as_parts_long, Result.andThen]
    simp [ReflectliteValue.isNil, loadVar, isAgg, underlying, Tryz.underlying96, ha, Result.andThen]
  elem := fun w => by kernel_rfl
  implements := fun w => by kernel_rfl
theorem asE_long : AsE 85 where
  typeOf := fun v w => by kernel_rfl
  noAs := fun v xT w => run_typeAssert_lacksB Tryz.underlying149 (by kernel_rfl) (by kernel_rfl) v xT w
  noUn := fun v xT w => run_typeAssert_lacksB Tryz.underlying152 (by kernel_rfl) (by kernel_rfl) v xT w
  noUns := fun v xT w => run_typeAssert_lacksB Tryz.underlying154 (by kernel_rfl) (by kernel_rfl) v xT w
theorem asN_long : AsN 85 85 true := fun w => by kernel_rfl
theorem as_size_long (w : World) : (sizeOf 85).run Tryz.prog w = .ok 0 w := by kernel_rfl
theorem asH_long : AsH 96 85 #[] (fun W _ => W) where
  valueOf := fun w => by kernel_rfl
  elemV := fun a p W ha => by
    rw [as_rlm]
    simp only [Sem.run_bind, as_parts_long, Result.andThen]
    simp [ReflectliteValue.elem, loadVar, isAgg, underlying, Tryz.underlying96, ha, Result.andThen, as_elemOf_long, as_mk_long]
  set := fun ta W _ _ _ => by
    rw [as_rls]
    simp only [Sem.run_bind, as_partsD_long, as_partsS_long, Result.andThen]
    simp [ReflectliteValue.flagAddr, loadVar, isAgg, underlying, Tryz.underlying85, Result.andThen, as_direct_long, as_size_long, storeVar, Value.cells, storeCells, loadCells, loadCellsFrom]
theorem as_parts_bar (a : Addr) (w : World) : (ReflectliteValue.parts (.agg #[.pointer (some ⟨10, 97, none⟩), .pointer (some a), .int .u64 150])).run Tryz.prog w = .ok (some (97, a, 150)) w := by kernel_rfl
theorem as_elemOf_bar (w : World) : (Rtype.elem? 97).run Tryz.prog w = .ok (some 86) w := by kernel_rfl
theorem as_mk_bar (p : Addr) (w : World) : (ReflectliteValue.mk 86 p ReflectliteValue.flagAddr).run Tryz.prog w = .ok (.agg #[.pointer (some ⟨10, 86, none⟩), .pointer (some p), .int .u64 409]) w := by kernel_rfl
theorem as_partsD_bar (a : Addr) (w : World) : (ReflectliteValue.parts (.agg #[.pointer (some ⟨10, 86, none⟩), .pointer (some a), .int .u64 409])).run Tryz.prog w = .ok (some (86, a, 409)) w := by kernel_rfl
theorem as_partsS_bar (a : Addr) (w : World) : (ReflectliteValue.parts (.agg #[.pointer (some ⟨10, 86, none⟩), .pointer (some a), .int .u64 153])).run Tryz.prog w = .ok (some (86, a, 153)) w := by kernel_rfl
theorem as_direct_bar (w : World) : (Rtype.directlyAssignable 86 86).run Tryz.prog w = .ok true w := by kernel_rfl
theorem asT_bar : AsT 97 86 where
  valueOf := fun t w => by kernel_rfl
  typ := fun a w => by kernel_rfl
  kindP := fun w => by kernel_rfl
  kindT := fun w => by kernel_rfl
  isNil := fun a p W ha => by
    rw [as_rlm]
    simp only [Sem.run_bind, as_parts_bar, Result.andThen]
    simp [ReflectliteValue.isNil, loadVar, isAgg, underlying, Tryz.underlying97, ha, Result.andThen]
  elem := fun w => by kernel_rfl
  implements := fun w => by kernel_rfl
theorem asE_bar : AsE 86 where
  typeOf := fun v w => by kernel_rfl
  noAs := fun v xT w => run_typeAssert_lacksB Tryz.underlying149 (by kernel_rfl) (by kernel_rfl) v xT w
  noUn := fun v xT w => run_typeAssert_lacksB Tryz.underlying152 (by kernel_rfl) (by kernel_rfl) v xT w
  noUns := fun v xT w => run_typeAssert_lacksB Tryz.underlying154 (by kernel_rfl) (by kernel_rfl) v xT w
theorem asN_bar : AsN 86 86 true := fun w => by kernel_rfl
theorem as_size_bar (w : World) : (sizeOf 86).run Tryz.prog w = .ok 0 w := by kernel_rfl
theorem asH_bar : AsH 97 86 #[] (fun W _ => W) where
  valueOf := fun w => by kernel_rfl
  elemV := fun a p W ha => by
    rw [as_rlm]
    simp only [Sem.run_bind, as_parts_bar, Result.andThen]
    simp [ReflectliteValue.elem, loadVar, isAgg, underlying, Tryz.underlying97, ha, Result.andThen, as_elemOf_bar, as_mk_bar]
  set := fun ta W _ _ _ => by
    rw [as_rls]
    simp only [Sem.run_bind, as_partsD_bar, as_partsS_bar, Result.andThen]
    simp [ReflectliteValue.flagAddr, loadVar, isAgg, underlying, Tryz.underlying86, Result.andThen, as_direct_bar, as_size_bar, storeVar, Value.cells, storeCells, loadCells, loadCellsFrom]
theorem as_parts_count (a : Addr) (w : World) : (ReflectliteValue.parts (.agg #[.pointer (some ⟨10, 98, none⟩), .pointer (some a), .int .u64 150])).run Tryz.prog w = .ok (some (98, a, 150)) w := by kernel_rfl
theorem as_elemOf_count (w : World) : (Rtype.elem? 98).run Tryz.prog w = .ok (some 91) w := by kernel_rfl
theorem as_mk_count (p : Addr) (w : World) : (ReflectliteValue.mk 91 p ReflectliteValue.flagAddr).run Tryz.prog w = .ok (.agg #[.pointer (some ⟨10, 91, none⟩), .pointer (some p), .int .u64 409]) w := by kernel_rfl
theorem as_partsD_count (a : Addr) (w : World) : (ReflectliteValue.parts (.agg #[.pointer (some ⟨10, 91, none⟩), .pointer (some a), .int .u64 409])).run Tryz.prog w = .ok (some (91, a, 409)) w := by kernel_rfl
theorem as_partsS_count (a : Addr) (w : World) : (ReflectliteValue.parts (.agg #[.pointer (some ⟨10, 91, none⟩), .pointer (some a), .int .u64 153])).run Tryz.prog w = .ok (some (91, a, 153)) w := by kernel_rfl
theorem as_direct_count (w : World) : (Rtype.directlyAssignable 91 91).run Tryz.prog w = .ok true w := by kernel_rfl
theorem asT_count : AsT 98 91 where
  valueOf := fun t w => by kernel_rfl
  typ := fun a w => by kernel_rfl
  kindP := fun w => by kernel_rfl
  kindT := fun w => by kernel_rfl
  isNil := fun a p W ha => by
    rw [as_rlm]
    simp only [Sem.run_bind, as_parts_count, Result.andThen]
    simp [ReflectliteValue.isNil, loadVar, isAgg, underlying, Tryz.underlying98, ha, Result.andThen]
  elem := fun w => by kernel_rfl
  implements := fun w => by kernel_rfl
theorem asE_count : AsE 91 where
  typeOf := fun v w => by kernel_rfl
  noAs := fun v xT w => run_typeAssert_lacksB Tryz.underlying149 (by kernel_rfl) (by kernel_rfl) v xT w
  noUn := fun v xT w => run_typeAssert_lacksB Tryz.underlying152 (by kernel_rfl) (by kernel_rfl) v xT w
  noUns := fun v xT w => run_typeAssert_lacksB Tryz.underlying154 (by kernel_rfl) (by kernel_rfl) v xT w
theorem asN_count : AsN 91 91 true := fun w => by kernel_rfl
theorem as_size_count (w : World) : (sizeOf 91).run Tryz.prog w = .ok 0 w := by kernel_rfl
theorem asH_count : AsH 98 91 #[] (fun W _ => W) where
  valueOf := fun w => by kernel_rfl
  elemV := fun a p W ha => by
    rw [as_rlm]
    simp only [Sem.run_bind, as_parts_count, Result.andThen]
    simp [ReflectliteValue.elem, loadVar, isAgg, underlying, Tryz.underlying98, ha, Result.andThen, as_elemOf_count, as_mk_count]
  set := fun ta W _ _ _ => by
    rw [as_rls]
    simp only [Sem.run_bind, as_partsD_count, as_partsS_count, Result.andThen]
    simp [ReflectliteValue.flagAddr, loadVar, isAgg, underlying, Tryz.underlying91, Result.andThen, as_direct_count, as_size_count, storeVar, Value.cells, storeCells, loadCells, loadCellsFrom]
theorem as_parts_cell (a : Addr) (w : World) : (ReflectliteValue.parts (.agg #[.pointer (some ⟨10, 99, none⟩), .pointer (some a), .int .u64 150])).run Tryz.prog w = .ok (some (99, a, 150)) w := by kernel_rfl
theorem as_elemOf_cell (w : World) : (Rtype.elem? 99).run Tryz.prog w = .ok (some 93) w := by kernel_rfl
theorem as_mk_cell (p : Addr) (w : World) : (ReflectliteValue.mk 93 p ReflectliteValue.flagAddr).run Tryz.prog w = .ok (.agg #[.pointer (some ⟨10, 93, none⟩), .pointer (some p), .int .u64 409]) w := by kernel_rfl
theorem as_partsD_cell (a : Addr) (w : World) : (ReflectliteValue.parts (.agg #[.pointer (some ⟨10, 93, none⟩), .pointer (some a), .int .u64 409])).run Tryz.prog w = .ok (some (93, a, 409)) w := by kernel_rfl
theorem as_partsS_cell (a : Addr) (w : World) : (ReflectliteValue.parts (.agg #[.pointer (some ⟨10, 93, none⟩), .pointer (some a), .int .u64 153])).run Tryz.prog w = .ok (some (93, a, 153)) w := by kernel_rfl
theorem as_direct_cell (w : World) : (Rtype.directlyAssignable 93 93).run Tryz.prog w = .ok true w := by kernel_rfl
theorem asT_cell : AsT 99 93 where
  valueOf := fun t w => by kernel_rfl
  typ := fun a w => by kernel_rfl
  kindP := fun w => by kernel_rfl
  kindT := fun w => by kernel_rfl
  isNil := fun a p W ha => by
    rw [as_rlm]
    simp only [Sem.run_bind, as_parts_cell, Result.andThen]
    simp [ReflectliteValue.isNil, loadVar, isAgg, underlying, Tryz.underlying99, ha, Result.andThen]
  elem := fun w => by kernel_rfl
  implements := fun w => by kernel_rfl
theorem asE_cell : AsE 93 where
  typeOf := fun v w => by kernel_rfl
  noAs := fun v xT w => run_typeAssert_lacksB Tryz.underlying149 (by kernel_rfl) (by kernel_rfl) v xT w
  noUn := fun v xT w => run_typeAssert_lacksB Tryz.underlying152 (by kernel_rfl) (by kernel_rfl) v xT w
  noUns := fun v xT w => run_typeAssert_lacksB Tryz.underlying154 (by kernel_rfl) (by kernel_rfl) v xT w
theorem asN_cell : AsN 93 93 true := fun w => by kernel_rfl
theorem as_size_cell (w : World) : (sizeOf 93).run Tryz.prog w = .ok 1 w := by kernel_rfl
theorem asH_cell (n : Int) : AsH 99 93 #[.int .i64 n] (fun W t => W.setCell t (.int .i64 n)) where
  valueOf := fun w => by kernel_rfl
  elemV := fun a p W ha => by
    rw [as_rlm]
    simp only [Sem.run_bind, as_parts_cell, Result.andThen]
    simp [ReflectliteValue.elem, loadVar, isAgg, underlying, Tryz.underlying99, ha, Result.andThen, as_elemOf_cell, as_mk_cell]
  set := fun ta W hb ho hf => by
    obtain ⟨old, ht⟩ := ho _ rfl
    have hlast : (W.alloc (.cells #[.int .i64 n] 93)).cell? ⟨W.heap.size, 0, none⟩ = some (.int .i64 n) := by simp
    have ht' : (W.alloc (.cells #[.int .i64 n] 93)).cell? ta = some old := by rw [World.cell?_alloc_lt _ _ ta hb]; exact ht
    have hf' : (W.alloc (.cells #[.int .i64 n] 93)).frozen? ta = false := by rw [World.frozen?_alloc_old _ _ ta (Nat.ne_of_lt hb)]; exact hf
    rw [as_rls]
    simp only [Sem.run_bind, as_partsD_cell, as_partsS_cell, Result.andThen]
    simp [ReflectliteValue.flagAddr, loadVar, isAgg, underlying, Tryz.underlying93, Result.andThen, as_direct_cell, as_size_cell, storeVar, Value.cells, storeCells, loadCells, loadCellsFrom, hlast, Addr.add]
    rw [run_store Tryz.prog _ ta _ _ (by rfl)]
    simp [ht', hf']
theorem as_parts_class (a : Addr) (w : World) : (ReflectliteValue.parts (.agg #[.pointer (some ⟨10, 100, none⟩), .pointer (some a), .int .u64 150])).run Tryz.prog w = .ok (some (100, a, 150)) w := by kernel_rfl
theorem as_elemOf_class (w : World) : (Rtype.elem? 100).run Tryz.prog w = .ok (some 90) w := by kernel_rfl
theorem as_mk_class (p : Addr) (w : World) : (ReflectliteValue.mk 90 p ReflectliteValue.flagAddr).run Tryz.prog w = .ok (.agg #[.pointer (some ⟨10, 90, none⟩), .pointer (some p), .int .u64 409]) w := by kernel_rfl
theorem as_partsD_class (a : Addr) (w : World) : (ReflectliteValue.parts (.agg #[.pointer (some ⟨10, 90, none⟩), .pointer (some a), .int .u64 409])).run Tryz.prog w = .ok (some (90, a, 409)) w := by kernel_rfl
theorem as_partsS_class (a : Addr) (w : World) : (ReflectliteValue.parts (.agg #[.pointer (some ⟨10, 90, none⟩), .pointer (some a), .int .u64 153])).run Tryz.prog w = .ok (some (90, a, 153)) w := by kernel_rfl
theorem as_direct_class (w : World) : (Rtype.directlyAssignable 90 90).run Tryz.prog w = .ok true w := by kernel_rfl
theorem asT_class : AsT 100 90 where
  valueOf := fun t w => by kernel_rfl
  typ := fun a w => by kernel_rfl
  kindP := fun w => by kernel_rfl
  kindT := fun w => by kernel_rfl
  isNil := fun a p W ha => by
    rw [as_rlm]
    simp only [Sem.run_bind, as_parts_class, Result.andThen]
    simp [ReflectliteValue.isNil, loadVar, isAgg, underlying, Tryz.underlying100, ha, Result.andThen]
  elem := fun w => by kernel_rfl
  implements := fun w => by kernel_rfl
theorem asE_class : AsE 90 where
  typeOf := fun v w => by kernel_rfl
  noAs := fun v xT w => run_typeAssert_lacksB Tryz.underlying149 (by kernel_rfl) (by kernel_rfl) v xT w
  noUn := fun v xT w => run_typeAssert_lacksB Tryz.underlying152 (by kernel_rfl) (by kernel_rfl) v xT w
  noUns := fun v xT w => run_typeAssert_lacksB Tryz.underlying154 (by kernel_rfl) (by kernel_rfl) v xT w
theorem asN_class : AsN 90 90 true := fun w => by kernel_rfl
theorem as_size_class (w : World) : (sizeOf 90).run Tryz.prog w = .ok 0 w := by kernel_rfl
theorem asH_class : AsH 100 90 #[] (fun W _ => W) where
  valueOf := fun w => by kernel_rfl
  elemV := fun a p W ha => by
    rw [as_rlm]
    simp only [Sem.run_bind, as_parts_class, Result.andThen]
    simp [ReflectliteValue.elem, loadVar, isAgg, underlying, Tryz.underlying100, ha, Result.andThen, as_elemOf_class, as_mk_class]
  set := fun ta W _ _ _ => by
    rw [as_rls]
    simp only [Sem.run_bind, as_partsD_class, as_partsS_class, Result.andThen]
    simp [ReflectliteValue.flagAddr, loadVar, isAgg, underlying, Tryz.underlying90, Result.andThen, as_direct_class, as_size_class, storeVar, Value.cells, storeCells, loadCells, loadCellsFrom]
theorem asN_long_schema : AsN 85 84 false := fun w => by kernel_rfl
theorem asN_bar_schema : AsN 86 84 false := fun w => by kernel_rfl
theorem asN_bar_long : AsN 86 85 false := fun w => by kernel_rfl
theorem asN_count_schema : AsN 91 84 false := fun w => by kernel_rfl
theorem asN_count_long : AsN 91 85 false := fun w => by kernel_rfl
theorem asN_count_bar : AsN 91 86 false := fun w => by kernel_rfl
theorem asN_cell_schema : AsN 93 84 false := fun w => by kernel_rfl
theorem asN_cell_long : AsN 93 85 false := fun w => by kernel_rfl
theorem asN_cell_bar : AsN 93 86 false := fun w => by kernel_rfl
theorem asN_cell_count : AsN 93 91 false := fun w => by kernel_rfl
theorem asN_class_schema : AsN 90 84 false := fun w => by kernel_rfl
theorem asN_class_long : AsN 90 85 false := fun w => by kernel_rfl
theorem asN_class_bar : AsN 90 86 false := fun w => by kernel_rfl
theorem asN_class_count : AsN 90 91 false := fun w => by kernel_rfl
theorem asN_class_cell : AsN 90 93 false := fun w => by kernel_rfl
end Go.Proofs.YtfekcckckmhioaaGreatDoor
