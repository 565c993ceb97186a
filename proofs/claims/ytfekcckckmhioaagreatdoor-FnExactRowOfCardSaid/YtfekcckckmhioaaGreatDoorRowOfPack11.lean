/- Texts of this claim, put together: part 11. -/
import Derived.Test.YtfekcckckmhioaaGreatDoorRowOfPack4
import Derived.Test.YtfekcckckmhioaaGreatDoorRowOfPack3
import Derived.Test.YtfekcckckmhioaaGreatDoorRowOfPack6
import Derived.Test.YtfekcckckmhioaaGreatDoorRowOfPack10
import Derived.Deep.RegionLaw
import Derived.Test.YtfekcckckmhioaaGreatDoorRowOfPack7
import Derived.Test.YtfekcckckmhioaaGreatDoorRowOfPack8
import Derived.Test.YtfekcckckmhioaaGreatDoorRowOfPack9
import Derived.Test.YtfekcckckmhioaaGreatDoorRowOfPack5
import Derived.Lib.QuietBelow
import Derived.BigQuiet
/- The text of a schema, in plain words. -/
namespace Go.Proofs.YtfekcckckmhioaaGreatDoor
open Go.RowKit
set_option maxRecDepth 100000

theorem attrText_size (a : AttrD) : (attrText a).size ≤ 45 := by
  unfold attrText
  split
  · rename_i h
    have hn := (word_size (ok_name h)).2
    have h1 : (⟨#[44]⟩ : ByteArray).size = 1 := rfl
    have h2 : (⟨#[58]⟩ : ByteArray).size = 1 := rfl
    have h3 : (⟨#[61]⟩ : ByteArray).size = 1 := rfl
    split
    · rename_i h0
      obtain ⟨l1, l3, hri⟩ := ok_cuts h h0
      have hj := joinT_size (a.cuts.map itB) ⟨#[44]⟩ 5 fun s hs => by
        obtain ⟨c, hc, rfl⟩ := List.mem_map.1 hs
        obtain ⟨j, hj, rfl⟩ := List.mem_iff_getElem.1 hc
        have := rise_all hri hj
        simp [hj] at this
        exact itB_size (by omega) (by omega)
      rw [h1, List.length_map] at hj
      rw [ByteArray.size_append, ByteArray.size_append, h2]
      omega
    · rename_i h0
      obtain ⟨-, l2, l4, hwo⟩ := ok_vals h h0
      have hj := joinT_size a.vals ⟨#[44]⟩ 8 fun s hs => (word_size (words_all hwo s hs)).2
      rw [h1] at hj
      rw [ByteArray.size_append, ByteArray.size_append, h3]
      omega
  · exact Nat.zero_le _
def schemaText (s : SchemaD) : ByteArray :=
  if schemaOk s = true then joinT (s.attrs.map attrText) ⟨#[59]⟩ ++ ⟨#[124]⟩ ++ joinT s.classes ⟨#[44]⟩ else ⟨#[]⟩
theorem sch_parts {s : SchemaD} (h : schemaOk s = true) : (1 ≤ s.attrs.length ∧ s.attrs.length ≤ 5) ∧ (2 ≤ s.classes.length ∧ s.classes.length ≤ 3) ∧ wordsOk s.classes = true ∧ attrsOk s.attrs = true := by
  unfold schemaOk choices at h
  rw [Bool.and_eq_true, Bool.and_eq_true, Bool.and_eq_true, decide_eq_true_eq, decide_eq_true_eq] at h
  exact ⟨h.1, ⟨by omega, by omega⟩, h.2.1.2, h.2.2⟩
theorem sch_bounds {s : SchemaD} (h : schemaOk s = true) : (joinT (s.attrs.map attrText) ⟨#[59]⟩).size ≤ 230 ∧ (joinT s.classes ⟨#[44]⟩).size ≤ 27 := by
  obtain ⟨h1, h2, h3, h4⟩ := sch_parts h
  have g1 : (⟨#[59]⟩ : ByteArray).size = 1 := rfl
  have g2 : (⟨#[44]⟩ : ByteArray).size = 1 := rfl
  have j1 := joinT_size (s.attrs.map attrText) ⟨#[59]⟩ 45 fun t ht => by
    obtain ⟨a, _, rfl⟩ := List.mem_map.1 ht
    exact attrText_size a
  have j2 := joinT_size s.classes ⟨#[44]⟩ 8 fun t ht => (word_size (words_all h3 t ht)).2
  rw [g1, List.length_map] at j1
  rw [g2] at j2
  omega
theorem at_take {ls : List AttrD} {k : Nat} (h : k < ls.length) : (ls.take (k + 1)).map attrText = (ls.take k).map attrText ++ [attrText (ad ls k)] := by
  rw [List.take_succ_eq_append_getElem h, List.map_append, ad_eq h]; rfl
end Go.Proofs.YtfekcckckmhioaaGreatDoor
/- How many bins, how great the cuts. -/
namespace Go.Proofs.YtfekcckckmhioaaGreatDoor
open Go.RowKit
set_option maxRecDepth 100000
theorem bins_le {a : AttrD} (hn : okA a) : 0 ≤ bins a ∧ bins a ≤ 1099511627777 := by
  unfold bins
  have := hn.cuts
  have := hn.vals.1
  split
  · split <;> omega
  · omega
theorem cuts_in {a : AttrD} (hk : attrOk a = true) : ∀ j, j < a.cuts.length → -9999 ≤ a.cuts.getD j 0 ∧ a.cuts.getD j 0 ≤ 9998 := by
  intro j hj
  unfold attrOk at hk
  rw [Bool.and_eq_true] at hk
  have h2 := hk.2
  rw [if_neg (by omega), Bool.and_eq_true, Bool.and_eq_true] at h2
  have h3 := h2.2.2
  unfold cutsRise at h3
  rw [List.all_eq_true] at h3
  exact cutAt_in (h3 j (List.mem_range.2 hj))
end Go.Proofs.YtfekcckckmhioaaGreatDoor
/- What is written of an example is read again; what is read of a row is right, or is refused with one reason. -/
namespace Go.Proofs.YtfekcckckmhioaaGreatDoor
open Go.RowKit
set_option maxRecDepth 100000
theorem placeFrom_skip {ss : List ByteArray} {t : ByteArray} {n : Nat} : ∀ {k : Nat}, k ≤ n → (∀ j, j < k → tx ss j ≠ t) → placeFrom ss t 0 n = placeFrom ss t k (n - k)
  | 0, _, _ => rfl
  | k + 1, h, hj => by rw [placeFrom_skip (k := k) (by omega) fun j hlt => hj j (by omega), placeFrom_step (by omega), if_neg (hj k (by omega))]
theorem place_none {ss : List ByteArray} {t : ByteArray} (h : ∀ j, j < ss.length → tx ss j ≠ t) : placeT ss t = -1 := by
  unfold placeT
  rw [placeFrom_skip (Nat.le_refl _) h, Nat.sub_self]; rfl
theorem place_hit {ss : List ByteArray} {k : Nat} (hk : k < ss.length) (h : ∀ j, j < k → tx ss j ≠ tx ss k) : placeT ss (tx ss k) = k := by
  unfold placeT
  rw [placeFrom_skip (k := k) (by omega) h, placeFrom_step hk, if_pos rfl]
theorem words_at {ss : List ByteArray} (h : wordsOk ss = true) {k : Nat} (hk : k < ss.length) : wordOk (tx ss k) = true ∧ hasT (ss.take k) (tx ss k) = false := by
  unfold wordsOk at h
  rw [List.all_eq_true] at h
  have := h k (List.mem_range.2 hk)
  unfold wordAt at this
  rw [Bool.and_eq_true] at this
  exact ⟨this.1, by simpa using this.2⟩
theorem place_word {ss : List ByteArray} (h : wordsOk ss = true) {k : Nat} (hk : k < ss.length) : placeT ss (tx ss k) = k := by
  refine place_hit hk fun j hj e => ?_
  have h1 := (words_at h hk).2
  rw [hasT_yes (k := j) (by simp; omega) (by rw [tx_take hj, e])] at h1
  cases h1
theorem ask_word : wordOk askB = false := by decide +kernel
theorem word_ask {ss : List ByteArray} (h : wordsOk ss = true) {k : Nat} (hk : k < ss.length) : tx ss k ≠ askB := fun e => by
  have := (words_at h hk).1
  rw [e, ask_word] at this; cases this
theorem place_ask {ss : List ByteArray} (h : wordsOk ss = true) : placeT ss askB = -1 := place_none fun _ hj => word_ask h hj
theorem rise_lt {cs : List Int} (h : cutsRise cs = true) : ∀ {j i : Nat}, i < j → j < cs.length → cs.getD i 0 < cs.getD j 0 := by
  have step : ∀ j, 0 < j → j < cs.length → cs.getD (j - 1) 0 < cs.getD j 0 := fun j h0 hj => by
    unfold cutsRise at h
    rw [List.all_eq_true] at h
    have := h j (List.mem_range.2 hj)
    unfold cutAt at this
    rw [Bool.and_eq_true, Bool.or_eq_true] at this
    rcases this.2 with h1 | h1
    · have := of_decide_eq_true h1; omega
    · exact of_decide_eq_true h1
  intro j
  induction j with
  | zero => intro i h; omega
  | succ j ih =>
    intro i hi hj
    have h1 := step (j + 1) (by omega) hj
    simp only [Nat.add_sub_cancel] at h1
    by_cases e : i = j
    · subst e; exact h1
    · have := ih (i := i) (by omega) (by omega); omega
theorem bin_split {cs : List Int} {k : Nat} {x : Int} (hk : k ≤ cs.length) (h1 : ∀ j, j < k → cs.getD j 0 < x) (h2 : ∀ j, k ≤ j → j < cs.length → ¬ cs.getD j 0 < x) : binN cs x = k := by
  have e0 : binN cs x = (cs.take k).countP (fun c => decide (c < x)) + (cs.drop k).countP (fun c => decide (c < x)) := by
    unfold binN
    conv => lhs; rw [← List.take_append_drop k cs]
    exact List.countP_append
  have e1 : (cs.take k).countP (fun c => decide (c < x)) = k := by
    rw [List.countP_eq_length.2]
    · simp; omega
    · intro c hc
      obtain ⟨i, hi, rfl⟩ := List.mem_iff_getElem.1 hc
      have hi2 : i < k ∧ i < cs.length := by rw [List.length_take] at hi; omega
      have := h1 i hi2.1
      simpa [hi2.2] using this
  have e2 : (cs.drop k).countP (fun c => decide (c < x)) = 0 := by
    rw [List.countP_eq_zero]
    intro c hc
    obtain ⟨i, hi, rfl⟩ := List.mem_iff_getElem.1 hc
    have hi2 : k + i < cs.length := by simp at hi; omega
    have := h2 (k + i) (by omega) hi2
    simpa [hi2] using this
  omega
theorem bin_at {cs : List Int} (h : cutsRise cs = true) {k : Nat} (hk : k < cs.length) : binN cs (cs.getD k 0) = k :=
  bin_split (by omega) (fun j hj => rise_lt h hj hk) fun j h1 h2 => by
    by_cases e : j = k
    · subst e; omega
    · have := rise_lt h (i := k) (j := j) (by omega) h2; omega
theorem bin_end {cs : List Int} (h : cutsRise cs = true) (h0 : 0 < cs.length) : binN cs (cs.getD (cs.length - 1) 0 + 1) = cs.length :=
  bin_split (Nat.le_refl _) (fun j hj => by
    by_cases e : j = cs.length - 1
    · subst e; omega
    · have := rise_lt h (i := j) (j := cs.length - 1) (by omega) (by omega); omega) fun j h1 h2 => by omega
theorem it_ask (n : Int) : itB n ≠ askB := fun e => by
  have h := clean_it n (b := 63) (by decide) (by decide)
  rw [e] at h
  exact h 63 (by simp [askB]) rfl
theorem cell_back {a : AttrD} (h : attrOk a = true) {b : Int} (h0 : -1 ≤ b) (h1 : b ≤ bins a - 1) : cellB a (cellText a b) = some b := by
  have hb : bins a = (if a.vals.length = 0 then (a.cuts.length : Int) + 1 else a.vals.length) := by unfold bins; rw [if_pos h]
  unfold cellText
  rw [if_pos ⟨h, h0, h1⟩]
  by_cases e : b = -1
  · rw [if_pos e, e]; exact if_pos rfl
  rw [if_neg e]
  by_cases hv : 0 < a.vals.length
  · have hv0 : a.vals.length ≠ 0 := by omega
    rw [if_neg hv0] at hb
    have hw := (ok_vals h hv0).2.2.2
    have hk : b.toNat < a.vals.length := by omega
    rw [if_pos hv]
    unfold cellB
    rw [if_neg (word_ask hw hk), if_pos hv, place_word hw hk, if_pos (by omega)]
    congr 1; omega
  · have hz : a.vals.length = 0 := by omega
    rw [if_pos hz] at hb
    obtain ⟨c1, c3, hr⟩ := ok_cuts h hz
    rw [if_neg hv]
    by_cases hlt : b < (a.cuts.length : Int)
    · have hk : b.toNat < a.cuts.length := by omega
      have hin := rise_all hr hk
      rw [if_pos hlt]
      unfold cellB
      rw [if_neg (it_ask _), if_neg hv, sig_of (by omega) (by omega), Option.map_some, bin_at hr hk]
      congr 1; omega
    · have hin := rise_all hr (k := a.cuts.length - 1) (by omega)
      rw [if_neg hlt]
      unfold cellB
      rw [if_neg (it_ask _), if_neg hv, sig_of (by omega) (by omega), Option.map_some, bin_end hr (by omega)]
      congr 1; omega
theorem cell_in {a : AttrD} (h : attrOk a = true) {t : ByteArray} {b : Int} (hc : cellB a t = some b) : -1 ≤ b ∧ b ≤ bins a - 1 := by
  have hb : bins a = (if a.vals.length = 0 then (a.cuts.length : Int) + 1 else a.vals.length) := by unfold bins; rw [if_pos h]
  unfold cellB at hc
  by_cases e : t = askB
  · rw [if_pos e] at hc
    injection hc with hc
    rw [hb]; split <;> omega
  · rw [if_neg e] at hc
    by_cases hv : 0 < a.vals.length
    · rw [if_pos hv] at hc
      by_cases hp : 0 ≤ placeT a.vals t
      · rw [if_pos hp] at hc
        injection hc with hc
        have := placeFrom_le (ss := a.vals) (t := t) a.vals.length 0
        rw [if_neg (by omega)] at hb
        unfold placeT at hp hc
        omega
      · rw [if_neg hp] at hc; cases hc
    · rw [if_neg hv] at hc
      cases hs : sigSpec t.data.toList with
      | none => rw [hs] at hc; cases hc
      | some n =>
        rw [hs, Option.map_some] at hc
        injection hc with hc
        have := binN_le a.cuts n
        rw [if_pos (by omega)] at hb
        omega
theorem cell_clean {a : AttrD} {b : Int} {c : UInt8} (hc : c = 44 ∨ c = 124) : clean c (cellText a b) := by
  have c1 : ¬ (97 ≤ c.toNat ∧ c.toNat ≤ 122) := by rcases hc with rfl | rfl <;> decide
  have c2 : c.toNat ≠ 45 := by rcases hc with rfl | rfl <;> decide
  have c3 : ¬ (48 ≤ c.toNat ∧ c.toNat ≤ 57) := by rcases hc with rfl | rfl <;> decide
  have c4 : (63 : UInt8) ≠ c := by rcases hc with rfl | rfl <;> decide
  unfold cellText
  split
  · next h =>
    obtain ⟨hk, h1, h2⟩ := h
    have hb : bins a = (if a.vals.length = 0 then (a.cuts.length : Int) + 1 else a.vals.length) := by unfold bins; rw [if_pos hk]
    split
    · exact clean_one c4
    · split
      · next hv =>
        rw [if_neg (by omega)] at hb
        exact clean_word (words_all (ok_vals hk (by omega)).2.2.2 _ (tx_mem (by omega))) c1
      · split
        · exact clean_it _ c2 c3
        · exact clean_it _ c2 c3
  · intro d hd; simp at hd
theorem exOk_parts {s : SchemaD} {e : ExD} (h : exOk s e = true) : schemaOk s = true ∧ e.bins.length = s.attrs.length ∧ (-1 ≤ e.cls ∧ e.cls ≤ (s.classes.length : Int) - 1) ∧ binsRight s e = true := by
  unfold exOk at h
  rw [Bool.and_eq_true, Bool.and_eq_true, Bool.and_eq_true] at h
  exact ⟨h.1, of_decide_eq_true h.2.1, of_decide_eq_true h.2.2.1, h.2.2.2⟩
theorem bin_right {s : SchemaD} {e : ExD} (h : binsRight s e = true) {j : Nat} (hj : j < e.bins.length) : -1 ≤ e.bins.getD j 0 ∧ e.bins.getD j 0 ≤ bins (ad s.attrs j) - 1 := by
  unfold binsRight at h
  rw [List.all_eq_true] at h
  exact of_decide_eq_true (h j (List.mem_range.2 hj))
theorem attrs_each {ls : List AttrD} (h : attrsOk ls = true) {j : Nat} (hj : j < ls.length) : attrOk (ad ls j) = true := by
  unfold attrsOk at h
  rw [List.all_eq_true] at h
  have := h j (List.mem_range.2 hj)
  unfold attrAt at this
  rw [Bool.and_eq_true] at this
  exact this.1
theorem cellText_8 (a : AttrD) (b : Int) : (cellText a b).size ≤ 8 := by
  unfold cellText
  split
  · next h =>
    obtain ⟨hk, h1, h2⟩ := h
    have hb : bins a = (if a.vals.length = 0 then (a.cuts.length : Int) + 1 else a.vals.length) := by unfold bins; rw [if_pos hk]
    split
    · decide
    · split
      · next hv =>
        rw [if_neg (by omega)] at hb
        exact (word_size (words_all (ok_vals hk (by omega)).2.2.2 _ (tx_mem (by omega)))).2
      · next hv =>
        have hz : a.vals.length = 0 := by omega
        obtain ⟨c1, c3, hr⟩ := ok_cuts hk hz
        split
        · have := rise_all hr (k := b.toNat) (by omega)
          have := itB_size (n := a.cuts.getD b.toNat 0) (by omega) (by omega)
          omega
        · have := rise_all hr (k := a.cuts.length - 1) (by omega)
          have := itB_size (n := a.cuts.getD (a.cuts.length - 1) 0 + 1) (by omega) (by omega)
          omega
  · decide
/-- What is written of a right example is read as that example. -/
theorem text_row {s : SchemaD} {e : ExD} (h : exOk s e = true) : rowOf s (exText s e) = (e, 0, 0) := by
  obtain ⟨hs, hl, ⟨c0, c1⟩, hr⟩ := exOk_parts h
  obtain ⟨⟨a1, a5⟩, ⟨k2, k3⟩, hw, hat⟩ := sch_parts hs
  have hcells : ∀ t ∈ cellsT s e e.bins.length, ∀ c : UInt8, c = 44 ∨ c = 124 → clean c t := fun t ht c hc => by
    obtain ⟨i, _, rfl⟩ := List.mem_map.1 ht
    exact cell_clean hc
  have hne : cellsT s e e.bins.length ≠ [] := fun e' => by
    have := cellsT_len s e e.bins.length
    rw [e'] at this; simp at this; omega
  have hcl : clean 124 (classText s e.cls) ∧ (classText s e.cls).size ≤ 8 := by
    unfold classText
    split
    · have hm := words_all hw _ (tx_mem (ss := s.classes) (j := e.cls.toNat) (by omega))
      exact ⟨clean_word hm (by decide), (word_size hm).2⟩
    · exact ⟨clean_one (by decide), by decide⟩
  have e1 : exText s e = joinT (cellsT s e e.bins.length) ⟨#[44]⟩ ++ ⟨#[124]⟩ ++ classText s e.cls := by unfold exText; rw [if_pos h]
  have e2 : pieces 124 (exText s e) = [joinT (cellsT s e e.bins.length) ⟨#[44]⟩, classText s e.cls] := by
    rw [e1]; exact pieces_two 124 _ _ (clean_join (fun t ht => hcells t ht 124 (.inr rfl)) (clean_one (by decide))) hcl.1
  have e3 : pieces 44 (joinT (cellsT s e e.bins.length) ⟨#[44]⟩) = cellsT s e e.bins.length := pieces_joinT 44 _ hne fun t ht => hcells t ht 44 (.inl rfl)
  have e4 : tx (pieces 124 (exText s e)) 0 = joinT (cellsT s e e.bins.length) ⟨#[44]⟩ := by rw [e2]; rfl
  have e5 : tx (pieces 124 (exText s e)) 1 = classText s e.cls := by rw [e2]; rfl
  have hsz : (exText s e).size ≤ 80 := by
    have hj := joinT_size (cellsT s e e.bins.length) ⟨#[44]⟩ 8 (fun t ht => by
      obtain ⟨i, _, rfl⟩ := List.mem_map.1 ht
      exact cellText_8 _ _)
    rw [cellsT_len] at hj
    have h1 : (⟨#[44]⟩ : ByteArray).size = 1 := rfl
    have h2 : (⟨#[124]⟩ : ByteArray).size = 1 := rfl
    rw [h1] at hj
    rw [e1, ByteArray.size_append, ByteArray.size_append, h2]
    have := hcl.2
    omega
  have hbf : binsFrom s.attrs (cellsT s e e.bins.length) (cellsT s e e.bins.length).length = some e.bins := by
    refine binsFrom_yes (by rw [cellsT_len]) fun j hj => ?_
    rw [cellsT_len] at hj
    have hb := bin_right hr hj
    have et : tx (cellsT s e e.bins.length) j = cellText (ad s.attrs j) (e.bins.getD j 0) := by
      rw [tx_eq (by rw [cellsT_len]; exact hj)]; simp [cellsT]
    rw [et]
    exact cell_back (attrs_each hat (by omega)) hb.1 hb.2
  have hp : placeT s.classes (classText s e.cls) = e.cls := by
    unfold classText
    split
    · rw [place_word hw (by omega)]; omega
    · rw [place_ask hw]; omega
  have hor : 0 ≤ placeT s.classes (tx (pieces 124 (exText s e)) 1) ∨ tx (pieces 124 (exText s e)) 1 = askB := by
    rw [e5, hp]
    by_cases h0 : 0 ≤ e.cls
    · exact .inl h0
    · exact .inr (if_neg h0)
  rw [rowOf_0 hs hsz (by rw [e2]; rfl) (by rw [e4, e3]) (by rw [cellsT_len, hl]) hbf hor, e5, hp]
/-- What is read of a row. -/
theorem row_total (s : SchemaD) (row : ByteArray) : (rowOf s row).2.1 = 0 ∧ exOk s (rowOf s row).1 = true ∧ (rowOf s row).2.2 = 0 ∨
    1 ≤ (rowOf s row).2.1 ∧ (rowOf s row).2.1 ≤ 6 ∧ (rowOf s row).1 = noEx ∧ 0 ≤ (rowOf s row).2.2 ∧ ((rowOf s row).2.2 = 0 ∨ (rowOf s row).2.1 = 5 ∧ (rowOf s row).2.2 < s.attrs.length) ∧ ((rowOf s row).2.1 = 1 ↔ schemaOk s = false) := by
  cases h1 : schemaOk s with
  | false => rw [rowOf_1 h1]; exact .inr (by simp)
  | true =>
    by_cases h2 : row.size ≤ 80
    rotate_left
    · rw [rowOf_2 h1 h2]; exact .inr (by simp)
    by_cases h3 : (pieces 124 row).length = 2
    rotate_left
    · rw [rowOf_3 h1 h2 h3]; exact .inr (by simp)
    by_cases h4 : (pieces 44 (tx (pieces 124 row) 0)).length = s.attrs.length
    rotate_left
    · rw [rowOf_4 h1 h2 h3 h4]; exact .inr (by simp)
    obtain ⟨⟨a1, a5⟩, ⟨k2, k3⟩, hw, hat⟩ := sch_parts h1
    cases h5 : binsFrom s.attrs (pieces 44 (tx (pieces 124 row) 0)) (pieces 44 (tx (pieces 124 row) 0)).length with
    | none =>
      have hfb : firstBad s.attrs (pieces 44 (tx (pieces 124 row) 0)) 0 (pieces 44 (tx (pieces 124 row) 0)).length < s.attrs.length := by
        refine Nat.lt_of_not_le fun hge => ?_
        have key : ∀ n k, k + n ≤ firstBad s.attrs (pieces 44 (tx (pieces 124 row) 0)) k n → ∀ j, k ≤ j → j < k + n → (cellB (ad s.attrs j) (tx (pieces 44 (tx (pieces 124 row) 0)) j)).isSome = true := by
          intro n
          induction n with
          | zero => intro k _ j h1 h2; omega
          | succ n ih =>
            intro k h j h1 h2
            unfold firstBad at h
            split at h
            · next hs =>
              by_cases e : j = k
              · subst e; exact hs
              · exact ih (k + 1) (by omega) j (by omega) (by omega)
            · omega
        have hall := key (pieces 44 (tx (pieces 124 row) 0)).length 0 (by omega)
        have some_all : ∀ n, (∀ j, j < n → (cellB (ad s.attrs j) (tx (pieces 44 (tx (pieces 124 row) 0)) j)).isSome = true) → (binsFrom s.attrs (pieces 44 (tx (pieces 124 row) 0)) n).isSome = true := by
          intro n
          induction n with
          | zero => intro _; rfl
          | succ n ih =>
            intro hj
            obtain ⟨l, hl⟩ := Option.isSome_iff_exists.1 (ih fun j hlt => hj j (by omega))
            obtain ⟨b, hb⟩ := Option.isSome_iff_exists.1 (hj n (by omega))
            rw [binsFrom_step hl hb]; rfl
        have := some_all (pieces 44 (tx (pieces 124 row) 0)).length fun j hj => hall j (Nat.zero_le _) (by omega)
        rw [h5] at this; cases this
      have er : rowOf s row = (noEx, 5, (firstBad s.attrs (pieces 44 (tx (pieces 124 row) 0)) 0 (pieces 44 (tx (pieces 124 row) 0)).length : Int)) := by
        unfold rowOf; rw [if_pos h1, if_pos h2]; simp only []; rw [if_pos h3, if_pos h4, h5]
      rw [er]
      exact .inr ⟨by simp, by simp, rfl, by simp, .inr ⟨rfl, by simpa using hfb⟩, by simp⟩
    | some l =>
      by_cases h6 : 0 ≤ placeT s.classes (tx (pieces 124 row) 1) ∨ tx (pieces 124 row) 1 = askB
      rotate_left
      · rw [rowOf_6 h1 h2 h3 rfl h4 h5 h6]; exact .inr (by simp)
      rw [rowOf_0 h1 h2 h3 rfl h4 h5 h6]
      refine .inl ⟨rfl, ?_, rfl⟩
      have hll := binsFrom_len h5
      have hpb := placeFrom_le (ss := s.classes) (t := tx (pieces 124 row) 1) s.classes.length 0
      unfold exOk
      rw [h1, decide_eq_true (p := l.length = s.attrs.length) (by omega), decide_eq_true (p := -1 ≤ (⟨l, placeT s.classes (tx (pieces 124 row) 1)⟩ : ExD).cls ∧ (⟨l, placeT s.classes (tx (pieces 124 row) 1)⟩ : ExD).cls ≤ (s.classes.length : Int) - 1) (by simp only [placeT]; omega)]
      simp only [Bool.true_and]
      refine binsRight_yes fun j hj => decide_eq_true ?_
      have hj2 : j < (pieces 44 (tx (pieces 124 row) 0)).length := by simp only at hj; omega
      have := binsFrom_all h5 j hj2
      exact cell_in (attrs_each hat (by omega)) this
theorem exText_ne {s : SchemaD} {e : ExD} (h : exOk s e = true) : exText s e ≠ ⟨#[]⟩ := fun e' => by
  have e1 : exText s e = joinT (cellsT s e e.bins.length) ⟨#[44]⟩ ++ ⟨#[124]⟩ ++ classText s e.cls := by unfold exText; rw [if_pos h]
  have h1 := congrArg ByteArray.size e1
  rw [e', ByteArray.size_append, ByteArray.size_append] at h1
  have h2 : (⟨#[124]⟩ : ByteArray).size = 1 := rfl
  have h3 : (⟨#[]⟩ : ByteArray).size = 0 := rfl
  omega
end Go.Proofs.YtfekcckckmhioaaGreatDoor
/- A row read as an example, by the specification. -/
namespace Go.Proofs.YtfekcckckmhioaaGreatDoor
open Go.RowKit
set_option maxRecDepth 100000
set_option linter.unusedSimpArgs false
theorem ownE_noneS (w : World) (b : Nat) : OwnE b w (.agg #[.slice none 0 0, .int .i64 0]) noEx := ⟨_, rfl, ⟨by simp [noEx], .inl ⟨rfl, rfl⟩⟩⟩
theorem own_rowS {w : World} {base e n : Nat} {v : Value} {xs : List Value} (h : w.ownsRow base e 1 v n xs) (k : Nat) (c : Array Value) (hp : k < base) : (w.setRow k c).ownsRow base e 1 v n xs := by
  refine ⟨h.1, ?_⟩
  rcases h.2 with h' | ⟨g, cap, cur, hv, hg, hc, r⟩
  · exact .inl h'
  · refine .inr ⟨g, cap, cur, hv, hg, ?_, r⟩
    rw [Go.setRow_other w k g c (by omega)]; exact hc
theorem own_cellS {w : World} {base e n : Nat} {v : Value} {xs : List Value} (h : w.ownsRow base e 1 v n xs) (p : Addr) (u : Value) (hp : p.block < base) : (w.setCell p u).ownsRow base e 1 v n xs := by
  refine ⟨h.1, ?_⟩
  rcases h.2 with h' | ⟨g, cap, cur, hv, hg, hc, r⟩
  · exact .inl h'
  · refine .inr ⟨g, cap, cur, hv, hg, ?_, r⟩
    simp only [World.setCell, Array.getElem?_modify]
    rw [if_neg (by omega)]; exact hc
theorem cellXs_small {a : AttrD} {t : ByteArray} (hn : okA a) : -9223372036854775808 ≤ cellXs a t ∧ cellXs a t ≤ 9223372036854775807 := by
  unfold cellXs
  have := hn.cuts
  have := hn.vals.1
  have h1 := placeT_bounds a.vals t
  split
  · omega
  · split
    · omega
    · cases sigSpec t.data.toList with
      | none => simp
      | some n => have := binN_le a.cuts n; simp only; omega
set_option maxHeartbeats 6400000 in
theorem specRowOf_any (vs vr : Value) (s : SchemaD) (row : ByteArray) (w : World) (hs : SchemaAt w vs s) (hr : BytesAt w vr row) (hn : okSch s) (hz : row.size ≤ 1099511627776) :
    Calls Tryz.prog 6 #[vs, vr] w fun e w' => ∃ v, e = .returned (.tuple #[v, .int .i64 (rowOf s row).2.1, .int .i64 (rowOf s row).2.2]) ∧ OwnE w.heap.size w' v (rowOf s row).1 ∧ Below w.heap.size w w' := by
  have mixed : Tryz.prog.follows .mixedOrders = true := by kernel_rfl
  obtain ⟨i0, hi, hi0, hi1, hi2⟩ := info_parts intInfo
  have HS : Hid (∀ W, Below w.heap.size w W → SchemaAt W vs s) := fun W h => hs.later h
  have HR : Hid (∀ W, Below w.heap.size w W → BytesAt W vr row) := fun W h => hr.later h
  have HOK : Hid (okSch s) := hn
  obtain ⟨va, vc, rfl, ra, rc⟩ := hs
  obtain ⟨oa, ka, rfl, -, -⟩ := id ra
  obtain ⟨oc, kc, rfl, -, -⟩ := id rc
  obtain ⟨or, kr, rfl, -⟩ := hr
  have la := hn.attrs
  have lc := hn.classes.1
  clear ra rc hn
  obtain ⟨K1, K2, B0⟩ := blk_2 35 30 w #[.slice oa s.attrs.length ka, .slice oc s.classes.length kc] #[.slice none 0 0, .int .i64 0]
  have e1 := specSchemaOk_any _ s _ (HS.out _ B0) HOK.out
  cases hk : schemaOk s with
  | false =>
    have HF : Hid (rowOf s row = (noEx, 1, 0)) := rowOf_1 hk
    rw [hk] at e1
    clear hk
    go_enter Tryz.func6, Tryz.ntmps6
    go_wp2_with fail
    refine e1.mono ?_
    clear e1
    rintro r w1 ⟨rfl, hb1⟩
    have HT2 : Hid (Blk 30 w1 (w.heap.size + 1) #[.slice none 0 0, .int .i64 0]) := K2.below hb1
    have B1 := B0.trans (hb1.mono B0.size)
    clear K1 K2 hb1 B0
    go_wp2_with (with_reducible refine wp_ex_store rfl _ _ rfl ?_; refine ⟨_, rfl, _, _, _, _, rfl, _, _, HT2.out, ?_⟩)
    exact bodyPost_ret (res_ex2 Tryz.results6 _ _ _ _ _ _ _ rfl rfl rfl (HT2.out.setRow _)) rfl ⟨_, by rw [HF.out]; rfl, by rw [HF.out]; exact ownE_noneS _ _, below_row B1 (by omega) _⟩
  | true =>
    have HSK : Hid (schemaOk s = true) := hk
    rw [hk] at e1
    clear hk
    go_enter Tryz.func6, Tryz.ntmps6
    go_wp2_with fail
    refine e1.mono ?_
    clear e1
    rintro r w1 ⟨rfl, hb1⟩
    have HT2 : Hid (Blk 30 w1 (w.heap.size + 1) #[.slice none 0 0, .int .i64 0]) := K2.below hb1
    have HT1 : Hid (Blk 35 w1 w.heap.size #[.slice oa s.attrs.length ka, .slice oc s.classes.length kc]) := K1.below hb1
    have B1 := B0.trans (hb1.mono B0.size)
    clear K1 K2 hb1 B0
    by_cases h80 : (row.size : Int) > 80
    · have HF : Hid (rowOf s row = (noEx, 2, 0)) := rowOf_2 HSK.out (by omega)
      go_wp2_with (with_reducible refine wp_ex_store rfl _ _ rfl ?_; refine ⟨_, rfl, _, _, _, _, rfl, _, _, HT2.out, ?_⟩)
      exact bodyPost_ret (res_ex2 Tryz.results6 _ _ _ _ _ _ _ rfl rfl rfl (HT2.out.setRow _)) rfl ⟨_, by rw [HF.out]; rfl, by rw [HF.out]; exact ownE_noneS _ _, below_row B1 (by omega) _⟩
    have h80' : row.size ≤ 80 := by omega
    obtain ⟨or', kr', er, hcv⟩ := HR.out w1 B1
    cases er
    have cv := hcv w1 (Below.refl _ _)
    have cP := specParts_any row 124 w1 (by omega)
    have hpl := pieces_len 124 row
    have HPZ : Hid (∀ p ∈ pieces 124 row, p.size ≤ 80) := fun p hp => Nat.le_trans (pieces_small 124 row p hp) h80'
    obtain ⟨hs2, hhs⟩ : ∃ x, x = pieces 124 row := ⟨_, rfl⟩
    have HHS : Hid (hs2 = pieces 124 row) := hhs
    rw [← hhs] at cP hpl HPZ
    clear hhs hcv
    have H80 : Hid (row.size ≤ 80) := h80'
    clear h80'
    go_wp2_with fail
    refine cP.mono ?_
    clear cP cv
    rintro r w2 ⟨v2, rfl, ho2, hb2⟩
    have B2 := B1.trans (hb2.mono B1.size)
    replace HT2 : Hid (Blk 30 w2 (w.heap.size + 1) #[.slice none 0 0, .int .i64 0]) := HT2.out.below hb2
    replace HT1 : Hid (Blk 35 w2 w.heap.size #[.slice oa s.attrs.length ka, .slice oc s.classes.length kc]) := HT1.out.below hb2
    obtain ⟨oh, kh, rfl⟩ := own_slice ho2
    have HRH : Hid (RowS w2 (.slice oh hs2.length kh) hs2) := RowS.of_own ho2 rfl
    clear hb2 B1 ho2
    by_cases h2 : hs2.length = 2
    rotate_left
    · have HF : Hid (rowOf s row = (noEx, 3, 0)) := rowOf_3 HSK.out H80.out (by rw [← HHS.out]; exact h2)
      have hq : ((hs2.length : Int) != 2) = true := by rw [bne_iff_ne]; omega
      clear h2
      go_wp2_with (with_reducible refine wp_ex_store rfl _ _ rfl ?_; refine ⟨_, rfl, _, _, _, _, rfl, _, _, HT2.out, ?_⟩)
      exact bodyPost_ret (res_ex2 Tryz.results6 _ _ _ _ _ _ _ rfl rfl rfl (HT2.out.setRow _)) rfl ⟨_, by rw [HF.out]; rfl, by rw [HF.out]; exact ownE_noneS _ _, below_row B2 (by omega) _⟩
    have H3 : Hid ((pieces 124 row).length = 2) := by rw [← HHS.out]; exact h2
    obtain ⟨oh', kh', eh, hkh, hrh⟩ := HRH.out
    cases eh
    obtain ⟨gh, fh, rfl, hgh, hjh⟩ := hrh (by omega)
    have hc0 := hjh 0 (by omega)
    have hc1 := hjh 1 (by omega)
    rw [Nat.add_zero] at hc0
    rw [h2] at hkh HRH ⊢
    have hz0 := HPZ.out _ (tx_mem (ss := hs2) (j := 0) (by omega))
    have hz1 := HPZ.out _ (tx_mem (ss := hs2) (j := 1) (by omega))
    clear hrh hjh h2 hpl
    have cP := specParts_any (tx hs2 0) 44 w2 (by omega)
    have hpl := pieces_len 44 (tx hs2 0)
    have HPZ0 : Hid (∀ p ∈ pieces 44 (tx hs2 0), p.size ≤ 80) := fun p hp => by have := pieces_small 44 _ p hp; omega
    obtain ⟨ps, hps⟩ : ∃ x, x = pieces 44 (tx hs2 0) := ⟨_, rfl⟩
    have HPS : Hid (pieces 44 (tx (pieces 124 row) 0) = ps) := by rw [← HHS.out]; exact hps.symm
    rw [← hps] at cP hpl HPZ0
    clear hps
    have HPL : Hid (ps.length ≤ 1000) := show ps.length ≤ 1000 by omega
    generalize tx hs2 0 = t0 at cP hpl hc0 hz0
    generalize htx1 : tx hs2 1 = t1 at hz1 hc1
    have HTX1 : Hid (tx (pieces 124 row) 1 = t1) := by rw [← HHS.out]; exact htx1
    have HC1 : Hid (gh < w2.heap.size ∧ w2.cell? ⟨gh, fh + 1, none⟩ = some (.string t1)) := ⟨hgh, hc1⟩
    clear htx1 hpl hc1
    go_wp2_with fail
    refine cP.mono ?_
    clear cP hc0 hz0
    rintro r w3 ⟨v3, rfl, ho3, hb3⟩
    have B3 := B2.trans (hb3.mono B2.size)
    replace HT2 : Hid (Blk 30 w3 (w.heap.size + 1) #[.slice none 0 0, .int .i64 0]) := HT2.out.below hb3
    replace HT1 : Hid (Blk 35 w3 w.heap.size #[.slice oa s.attrs.length ka, .slice oc s.classes.length kc]) := HT1.out.below hb3
    replace HC1 : Hid (gh < w3.heap.size ∧ w3.cell? ⟨gh, fh + 1, none⟩ = some (.string t1)) := ⟨Nat.lt_of_lt_of_le HC1.out.1 hb3.size, (hb3.cell (p := ⟨gh, fh + 1, none⟩) HC1.out.1).trans HC1.out.2⟩
    obtain ⟨op, kp, rfl⟩ := own_slice ho3
    have HRP : Hid (∀ W, Below w3.heap.size w3 W → RowS W (.slice op ps.length kp) ps) := fun W h => (RowS.of_own ho3 rfl).later h
    clear hb3 B2 ho3 hgh
    have k0 : w3.cell? ⟨w.heap.size, 0, none⟩ = some (.slice oa s.attrs.length ka) := HT1.out.cell 0
    have hlp := HPL.out
    by_cases hl : ps.length = s.attrs.length
    rotate_left
    · have HF : Hid (rowOf s row = (noEx, 4, 0)) := rowOf_4 HSK.out H80.out H3.out (by rw [HPS.out]; exact hl)
      have hq : ((ps.length : Int) != (s.attrs.length : Int)) = true := by rw [bne_iff_ne]; omega
      clear hl
      go_wp2_with (with_reducible refine wp_ex_store rfl _ _ rfl ?_; refine ⟨_, rfl, _, _, _, _, rfl, _, _, HT2.out, ?_⟩)
      exact bodyPost_ret (res_ex2 Tryz.results6 _ _ _ _ _ _ _ rfl rfl rfl (HT2.out.setRow _)) rfl ⟨_, by rw [HF.out]; rfl, by rw [HF.out]; exact ownE_noneS _ _, below_row B3 (by omega) _⟩
    have HL : Hid (ps.length = s.attrs.length) := hl
    have hq : ((ps.length : Int) != (s.attrs.length : Int)) = false := by rw [hl]; simp
    clear hl
    obtain ⟨KO, BO⟩ := blk_1 30 w3 #[.slice none 0 0, .int .i64 0]
    have HB3 : Hid (Below w.heap.size w w3) := B3
    have hs3 : w.heap.size + 2 ≤ w3.heap.size := by have := HT2.out.lt; omega
    go_wp2
    clear k0
    go_loopw [10, 11, 12] (fun i _ _ wr => ∃ (k : Nat) (v : Value) (l : List Int), i = .int .i64 k ∧ k ≤ ps.length ∧ Hid (binsFrom s.attrs ps k = some l) ∧ wr.ownsRow (w3.heap.size + 1) 3 1 v k (l.map (Value.int .i64)) ∧ Blk 30 wr w3.heap.size #[v, .int .i64 0] ∧ Below w3.heap.size w3 wr) (fun i _ _ _ => ps.length - (intOf i).toNat)
    case atStart => exact ⟨0, .slice none 0 0, [], rfl, by omega, rfl, ⟨by simp, .inl ⟨rfl, rfl⟩⟩, KO, BO⟩
    case round =>
      obtain ⟨k, v, l, rfl, hk, HBF, hown, hblk, hbr⟩ := hrel
      clear KO BO
      have hbw := HB3.out.trans (hbr.mono HB3.out.size)
      by_cases hlt : k < ps.length
      · have hkA : k < s.attrs.length := by have := HL.out; omega
        obtain ⟨va', vc', e', rA, -⟩ := HS.out wr hbw
        cases e'
        obtain ⟨oa', ka', e', -, hrA⟩ := rA
        cases e'
        obtain ⟨ga, fa, rfl, hga, hjA⟩ := hrA (by omega)
        obtain ⟨x1, x2, c0, c1, c2, r1, r2⟩ := hjA k hkA
        obtain ⟨y1, z1, rfl, -, -⟩ := id r1
        obtain ⟨y2, z2, rfl, -, -⟩ := id r2
        obtain ⟨op', kp', e', -, hrP⟩ := HRP.out wr hbr
        cases e'
        obtain ⟨gp, fp, rfl, hgp, hjP⟩ := hrP (by omega)
        have b0 := hjP k hlt
        have k0 : wr.cell? ⟨w.heap.size, 0, none⟩ = some (.slice (some ⟨ga, fa, none⟩) s.attrs.length ka) := (HT1.out.below hbr).cell 0
        have cR := fun d os => Calls.regrown_of (specCell_any (.agg #[.string (ad s.attrs k).name, .slice y1 (ad s.attrs k).cuts.length z1, .slice y2 (ad s.attrs k).vals.length z2]) (ad s.attrs k) (tx ps k) (Go.Sort.grow (redrawn wr d) os) ⟨_, _, rfl, r1.later (below_regrown wr d os), r2.later (below_regrown wr d os)⟩ (HOK.out.each _ (ad_mem hkA)) (by have := HPZ0.out _ (tx_mem hlt); omega))
        have d0 := fun d os => cell_regrown c0 d os
        have d1 := fun d os => cell_regrown c1 d os
        have d2 := fun d os => cell_regrown c2 d os
        have d3 := fun d os => cell_regrown b0 d os
        have d4 := fun d os => cell_regrown k0 d os
        have hxs := cellXs_small (t := tx ps k) (HOK.out.each _ (ad_mem hkA))
        obtain ⟨ov, cv, rfl⟩ := own_slice hown
        have HBR : Hid (∀ d os, Below w3.heap.size w3 (Go.Sort.grow (redrawn wr d) os) ∧ Below w.heap.size w (Go.Sort.grow (redrawn wr d) os) ∧ Blk 30 (Go.Sort.grow (redrawn wr d) os) w3.heap.size #[.slice ov k cv, .int .i64 0] ∧ (Go.Sort.grow (redrawn wr d) os).ownsRow (w3.heap.size + 1) 3 1 (.slice ov k cv) k (l.map (Value.int .i64)) ∧ Blk 30 (Go.Sort.grow (redrawn wr d) os) (w.heap.size + 1) #[.slice none 0 0, .int .i64 0]) := fun d os => ⟨hbr.trans ((below_regrown wr d os).mono hbr.size), hbw.trans ((below_regrown wr d os).mono hbw.size), hblk.below (below_regrown wr d os), own_below hown (below_regrown wr d os), (HT2.out.below hbr).below (below_regrown wr d os)⟩
        clear hjA hrA hjP hrP r1 r2 c0 c1 c2 b0 k0 hbr hbw hga hgp hown hblk
        cases hcb : cellB (ad s.attrs k) (tx ps k) with
        | none =>
          have HF : Hid (rowOf s row = (noEx, 5, (k : Int))) := rowOf_5 HSK.out H80.out H3.out HPS.out HL.out hlt (fun j hj => by rw [binsFrom_all HBF.out j hj]; rfl) hcb
          rw [hcb] at cR
          clear hcb
          generalize cellXs (ad s.attrs k) (tx ps k) = X at cR hxs
          generalize tx ps k = tk at cR d3
          go_wp2
          refine wp_region_quiet_below mixed (by kernel_rfl) ?_
          repeat (go_big_quiet_step (with_reducible exact cR _ _))
          refine wpQuiet_nil ?_
          intro _ hw'
          obtain ⟨⟨dq, osq⟩, hw''⟩ := hw'
          subst hw''
          clear cR d0 d1 d2 d3 d4
          go_wp2_with (with_reducible refine wp_ex_store rfl _ _ rfl ?_; refine ⟨_, rfl, _, _, _, _, rfl, _, _, (HBR.out dq osq).2.2.2.2, ?_⟩)
          exact bodyPost_ret (res_ex2 Tryz.results6 _ _ _ _ _ _ _ rfl rfl rfl ((HBR.out dq osq).2.2.2.2.setRow _)) rfl ⟨_, by rw [HF.out]; rfl, by rw [HF.out]; exact ownE_noneS _ _, below_row (HBR.out dq osq).2.1 (by omega) _⟩
        | some b =>
          have HN : Hid (binsFrom s.attrs ps (k + 1) = some (l ++ [b])) := binsFrom_step HBF.out hcb
          have hxb := cellXs_val hcb
          rw [hcb, hxb] at cR
          rw [hxb] at hxs
          clear hcb hxb
          generalize tx ps k = tk at cR d3
          go_wp2
          refine wp_region_quiet_below mixed (by kernel_rfl) ?_
          repeat (go_big_quiet_step (with_reducible exact cR _ _))
          refine wpQuiet_nil ?_
          intro _ hw'
          obtain ⟨⟨dq, osq⟩, hw''⟩ := hw'
          subst hw''
          clear cR d0 d1 d2 d3 d4
          obtain ⟨g1, g2, g3, g4, g5⟩ := HBR.out dq osq
          clear HBR
          generalize Go.Sort.grow (redrawn wr dq) osq = w4 at g1 g2 g3 g4 g5
          have q0 : w4.cell? ⟨w3.heap.size, 0, none⟩ = some (.slice ov k cv) := g3.cell 0
          have hsz4 := g1.size
          have HG : Hid (Below w3.heap.size w3 w4 ∧ Blk 30 w4 w3.heap.size #[.slice ov k cv, .int .i64 0]) := ⟨g1, g3⟩
          have hlt4 := g3.lt
          clear g1 g2 g3 g5
          go_wp2_with (at_builtin; refine wpList_append_own _ rfl _ _ 28 rfl (w3.heap.size + 1) 3 i0 (.int .i64 0) 1 8 Tryz.underlying28 hi hi0 hi1 hi2 rfl (by decide) _ _ _ rfl (g4.alloc _) ⟨w4.heap.size, 0, none⟩ 1 1 [_] rfl rfl (newc _ _ _) ?d2 ?d3 ?d4 ?d5 ?_)
          case d2 => intro u hu; simp at hu; subst hu; rfl
          case d3 => unfold maxLen; omega
          case d4 => omega
          case d5 => simp; omega
          intro v' w5 hown' hgrow _
          obtain ⟨ov', cv', rfl⟩ := own_slice hown'
          have K5 : Blk 30 w5 w3.heap.size #[.slice ov k cv, .int .i64 0] := (HG.out.2.alloc _).kept hgrow (fun e => by have := (g4.lt _ e).1; omega)
          have R : w5.ownsRow (w3.heap.size + 1) 3 1 (.slice ov' (k + 1) cv') (k + 1) ((l ++ [b]).map (Value.int .i64)) := by simpa using hown'
          have BB : Below w3.heap.size w3 w5 := (HG.out.1.alloc hsz4 _).grown hgrow (by simp; omega) fun j hj => by have := (g4.lt j hj).1; omega
          have f5 := K5.frozen 0
          have q5 : w5.cell? ⟨w3.heap.size, 0, none⟩ = some (.slice ov k cv) := K5.cell 0
          have HFIN : Hid ((w5.setCell ⟨w3.heap.size, 0, none⟩ (.slice ov' (k + 1) cv')).ownsRow (w3.heap.size + 1) 3 1 (.slice ov' (k + 1) cv') (k + 1) ((l ++ [b]).map (Value.int .i64)) ∧ Blk 30 (w5.setCell ⟨w3.heap.size, 0, none⟩ (.slice ov' (k + 1) cv')) w3.heap.size #[.slice ov' (k + 1) cv', .int .i64 0] ∧ Below w3.heap.size w3 (w5.setCell ⟨w3.heap.size, 0, none⟩ (.slice ov' (k + 1) cv'))) := ⟨own_cellS R _ _ (by simp), K5.setCell 0 _, BB.setCell (p := ⟨w3.heap.size, 0, none⟩) (by simp) _⟩
          clear hown' hgrow g4 K5 R BB q0 HG
          go_wp2
          go_roundw
          case rel => exact ⟨k + 1, _, _, by go_num, by omega, HN, HFIN.out.1, HFIN.out.2.1, HFIN.out.2.2⟩
          case measure => simp [intOf]; omega
      · obtain rfl : k = ps.length := by omega
        have hll := binsFrom_len HBF.out
        obtain ⟨ov, cv, rfl⟩ := own_slice hown
        have bd : Below wr.heap.size wr wr.drew := below_drewN (Below.refl _ _) 1
        have hbd := hbr.trans (bd.mono hbr.size)
        have hbdw := hbw.trans (bd.mono hbw.size)
        obtain ⟨va', vc', e', -, rC⟩ := HS.out wr.drew hbdw
        cases e'
        have cC := specPlace_any _ s.classes t1 wr.drew rC lc
        have d1 : wr.drew.cell? ⟨w.heap.size, 1, none⟩ = some (.slice oc s.classes.length kc) := (HT1.out.below hbr).cell 1
        have d2 : wr.drew.cell? ⟨gh, fh + 1, none⟩ = some (.string t1) := (hbr.cell (p := ⟨gh, fh + 1, none⟩) HC1.out.1).trans HC1.out.2
        have HKD : Hid (Blk 30 wr.drew w3.heap.size #[.slice ov ps.length cv, .int .i64 0] ∧ Blk 30 wr.drew (w.heap.size + 1) #[.slice none 0 0, .int .i64 0] ∧ wr.drew.ownsRow (w3.heap.size + 1) 3 1 (.slice ov ps.length cv) ps.length (l.map (Value.int .i64)) ∧ Below w.heap.size w wr.drew ∧ Below w3.heap.size w3 wr.drew) := ⟨hblk.below bd, HT2.out.below hbd, own_below hown bd, hbdw, hbd⟩
        have hpb := placeT_bounds s.classes t1
        have HCF : Hid (0 ≤ placeT s.classes t1 ∨ t1 = askB → rowOf s row = (⟨l, placeT s.classes t1⟩, 0, 0)) := fun hor => by
          have h1 := rowOf_0 HSK.out H80.out H3.out HPS.out HL.out HBF.out (by rw [HTX1.out]; exact hor)
          rwa [HTX1.out] at h1
        have HCN : Hid (¬ (0 ≤ placeT s.classes t1 ∨ t1 = askB) → rowOf s row = (noEx, 6, 0)) := fun hor => rowOf_6 HSK.out H80.out H3.out HPS.out HL.out HBF.out (by rw [HTX1.out]; exact hor)
        generalize placeT s.classes t1 = X at cC HCF HCN hpb
        have hask := ask_eq t1
        have HLL : Hid (l.length = ps.length) := hll
        clear hll hown hblk hbr hbw bd hbd hbdw rC
        go_wp2
        go_region_law (first
          | (refine step_wp rfl ?_; unfold Oper.wp; go_simp; go_at_call 28; refine cC.mono ?_; clear cC; rintro r w4 ⟨rfl, hb4⟩; have K4 := HKD.out.1.below hb4; have c4 : w4.cell? ⟨w3.heap.size, 1, none⟩ = some (.int .i64 0) := K4.cell 1; have f4 := K4.frozen 1))
        all_goals
          obtain ⟨a1, a2, a3, a4, a5⟩ := HKD.out
          have S1 := K4.setCell 1 (.int .i64 X)
          have S2 := (a2.below hb4).setCell_other ⟨w3.heap.size, 1, none⟩ (.int .i64 X) (by simp; omega)
          have S3 := own_cellS (own_below a3 hb4) ⟨w3.heap.size, 1, none⟩ (.int .i64 X) (by simp)
          have S4 := (a4.trans (hb4.mono a4.size)).setCell (p := ⟨w3.heap.size, 1, none⟩) (by simp; omega) (.int .i64 X)
          have S7 := (a5.trans (hb4.mono a5.size)).setCell (p := ⟨w3.heap.size, 1, none⟩) (by simp) (.int .i64 X)
          have S5 : (w4.setCell ⟨w3.heap.size, 1, none⟩ (.int .i64 X)).cell? ⟨gh, fh + 1, none⟩ = some (.string t1) := (S7.cell (p := ⟨gh, fh + 1, none⟩) HC1.out.1).trans HC1.out.2
          have S6 : (w4.setCell ⟨w3.heap.size, 1, none⟩ (.int .i64 X)).cell? ⟨w3.heap.size, 1, none⟩ = some (.int .i64 X) := S1.cell 1
          have HSX : Hid (Blk 30 (w4.setCell ⟨w3.heap.size, 1, none⟩ (.int .i64 X)) w3.heap.size #[.slice ov ps.length cv, .int .i64 X] ∧ Blk 30 (w4.setCell ⟨w3.heap.size, 1, none⟩ (.int .i64 X)) (w.heap.size + 1) #[.slice none 0 0, .int .i64 0] ∧ (w4.setCell ⟨w3.heap.size, 1, none⟩ (.int .i64 X)).ownsRow (w3.heap.size + 1) 3 1 (.slice ov ps.length cv) ps.length (l.map (Value.int .i64)) ∧ Below w.heap.size w (w4.setCell ⟨w3.heap.size, 1, none⟩ (.int .i64 X))) := ⟨S1, S2, S3, S4⟩
          clear S1 S2 S3 S4 S7 a1 a2 a3 a4 a5 hb4 K4 c4 f4 d1 d2 HKD
          by_cases hX : X < 0
          · have hXn : ¬ (0 ≤ X) := by omega
            by_cases ha : t1 = askB
            · have HF : Hid (rowOf s row = (⟨l, X⟩, 0, 0)) := HCF.out (.inr ha)
              rw [decide_eq_true ha] at hask
              have hbn : (t1.toList != ([63] : List UInt8)) = false := by rw [bne, hask]; rfl
              clear ha HCF HCN
              go_wp2_with (first | (with_reducible refine wp_ex_load rfl _ rfl ?_; refine ⟨_, rfl, _, _, HSX.out.1, ?_⟩) | (with_reducible refine wp_ex_store rfl _ _ rfl ?_; refine ⟨_, rfl, _, _, _, _, rfl, _, _, HSX.out.2.1, ?_⟩))
              exact bodyPost_ret (res_ex2 Tryz.results6 _ _ _ _ _ _ _ rfl rfl rfl (HSX.out.2.1.setRow _)) rfl ⟨_, by rw [HF.out]; rfl, by rw [HF.out]; exact ⟨_, rfl, show (_ : World).ownsRow _ _ _ _ l.length _ by rw [HLL.out]; exact own_base (own_rowS HSX.out.2.2.1 _ _ (by omega)) (by omega)⟩, below_row HSX.out.2.2.2 (by omega) _⟩
            · have HF : Hid (rowOf s row = (noEx, 6, 0)) := HCN.out (fun h => h.elim hXn ha)
              rw [decide_eq_false ha] at hask
              have hbn : (t1.toList != ([63] : List UInt8)) = true := by rw [bne, hask]; rfl
              clear ha HCF HCN
              go_wp2_with (with_reducible refine wp_ex_store rfl _ _ rfl ?_; refine ⟨_, rfl, _, _, _, _, rfl, _, _, HSX.out.2.1, ?_⟩)
              exact bodyPost_ret (res_ex2 Tryz.results6 _ _ _ _ _ _ _ rfl rfl rfl (HSX.out.2.1.setRow _)) rfl ⟨_, by rw [HF.out]; rfl, by rw [HF.out]; exact ownE_noneS _ _, below_row HSX.out.2.2.2 (by omega) _⟩
          · have HF : Hid (rowOf s row = (⟨l, X⟩, 0, 0)) := HCF.out (.inl (by omega))
            clear hask HCF HCN
            go_wp2_with (first | (with_reducible refine wp_ex_load rfl _ rfl ?_; refine ⟨_, rfl, _, _, HSX.out.1, ?_⟩) | (with_reducible refine wp_ex_store rfl _ _ rfl ?_; refine ⟨_, rfl, _, _, _, _, rfl, _, _, HSX.out.2.1, ?_⟩))
            exact bodyPost_ret (res_ex2 Tryz.results6 _ _ _ _ _ _ _ rfl rfl rfl (HSX.out.2.1.setRow _)) rfl ⟨_, by rw [HF.out]; rfl, by rw [HF.out]; exact ⟨_, rfl, show (_ : World).ownsRow _ _ _ _ l.length _ by rw [HLL.out]; exact own_base (own_rowS HSX.out.2.2.1 _ _ (by omega)) (by omega)⟩, below_row HSX.out.2.2.2 (by omega) _⟩
end Go.Proofs.YtfekcckckmhioaaGreatDoor
