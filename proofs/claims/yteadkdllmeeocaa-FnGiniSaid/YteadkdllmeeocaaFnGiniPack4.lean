/- Texts of this claim, put together: part 4. -/
import Derived.Test.YteadkdllmeeocaaFnGiniPack3
import Derived.Test.YteadkdllmeeocaaRows
import Derived.WalkKit
import Derived.ProofKit
import Derived.OpenShut
import Derived.Test.YteadkdllmeeocaaFnGiniPack1
/- Draws of chapter 10: what stands in classes. -/
namespace Go.Proofs.Yteadkdllmeeocaa
open Go.RowKit
set_option maxRecDepth 100000
set_option maxHeartbeats 1600000 in
theorem l10Totals_any (g : Nat) (a : Option Addr) (len cap : Nat) (zs : List Int) (w : World) (hc : IsCur w g a len cap) (hr : IsRow .u8 w a len cap zs) :
    Calls Try.prog 27 #[.pointer (some ⟨g, 0, none⟩)] w fun e w' => ∃ v, ∃ ys : List Int, e = .returned v ∧ ys.length ≤ 4 ∧ w'.ownsRow w.heap.size 3 1 v ys.length (ys.map (Value.int .i64)) ∧ IsCur w' g a len cap ∧ w.grownBy w' (some g) := by
  obtain ⟨i0, hi, hz0, hz1, hz2⟩ := info_parts intInfo
  have hgw : g < w.heap.size := hc.lt
  have HR : Hid (∀ w', w.grownBy w' (some g) → IsRow .u8 w' a len cap zs) := fun w' h => hr.aside hc h
  have hc0 := hc.alloc (.cells #[] 3)
  have G0 : w.grownBy (w.alloc (.cells #[] 3)) (some g) := grown_alloc w _ _
  have O0 := ownI_lit0 w w.heap.size (Nat.le_refl _)
  have e1 := l1Below_any g a len cap zs 4 _ hc0 (HR.out _ G0) (by decide) (by decide)
  clear hc hr
  go_enter Try.func27, Try.ntmps27
  go_wp2_with fail
  refine e1.mono ?_
  clear e1
  rintro e w1 ⟨n, rfl, hn, hc1, hg1⟩
  have hown1 := own_cur O0 hgw hg1
  have hg01 := grown_trans G0 hg1
  clear hc0 O0 G0 hg1
  go_wp2
  go_loopw [3, 5] (fun v i wr => ∃ (k : Nat) (ys : List Int), i = .int .i64 k ∧ k ≤ n ∧ ys.length = k ∧ wr.ownsRow w.heap.size 3 1 v ys.length (ys.map (Value.int .i64)) ∧ IsCur wr g a len cap ∧ w.grownBy wr (some g)) (fun _ i _ => n - (intOf i).toNat)
  case atStart => exact ⟨0, [], rfl, by omega, rfl, hown1, hc1, hg01⟩
  case round =>
    obtain ⟨k, ys, rfl, hk, hyl, hown, hc, hg⟩ := hrel
    clear hown1 hc1 hg01
    have hs := hg.size
    by_cases hlt : k < n
    · have e2 := pickN [0, 0, 1, 5, 12, 333, 999] g a len cap zs wr hc (HR.out _ hg) (by simp) (by simp)
      simp only [List.map_cons, List.map_nil, List.length_cons, List.length_nil, Nat.zero_add, Nat.reduceAdd] at e2
      go_wp2_with fail
      refine e2.mono ?_
      clear e2
      rintro e w4 ⟨d, rfl, hd, hc4, hg4⟩
      have hown4 := own_cur hown hgw hg4
      have hg04 := grown_trans hg hg4
      clear hown hc hg hg4 hd
      have hs4 := hg04.size
      go_wp2_with (at_builtin; refine wpList_append_own _ rfl _ _ 24 rfl w.heap.size 3 i0 (.int .i64 0) 1 8 Try.underlying24 hi hz0 hz1 hz2 rfl (by decide) _ _ _ rfl (hown4.alloc _) ⟨w4.heap.size, 0, none⟩ 1 1 [_] rfl rfl (newc _ _ _) (ints_oneCell .i64 [_]) (by unfold maxLen; omega) (by omega) (by simp; omega) ?_)
      intro v' w5 hown' hgrow hnv
      have R := step_drawI (z := d) hgw hg04 hown4 (by rw [hyl]; exact hown') hgrow
      clear hown' hgrow hnv hown4 hg04
      go_wp2
      go_roundw
      case rel => exact ⟨k + 1, ys ++ [d], by go_num, by omega, by simp [hyl], R.1, R.2.2 hc4, R.2.1⟩
      case measure => simp [intOf]; omega
    · have hyl2 : ys.length ≤ 3 := by omega
      have e2 := once_any g a len cap zs 8 wr hc (HR.out _ hg) (by decide) (by decide)
      clear hyl
      go_wp2_with fail
      refine e2.mono ?_
      clear e2
      rintro e w2 ⟨b, rfl, hc2, hg2⟩
      have hown2 := own_cur hown hgw hg2
      have hg02 := grown_trans hg hg2
      clear hown hc hg hg2
      cases b with
      | false =>
        go_wp2
        go_ret
        exact ⟨_, ys, rfl, by omega, hown2, hc2, hg02⟩
      | true =>
        have e2 := pickN [-1, 1000, 7, 9223372036854775807] g a len cap zs w2 hc2 (HR.out _ hg02) (by simp) (by simp)
        simp only [List.map_cons, List.map_nil, List.length_cons, List.length_nil, Nat.zero_add, Nat.reduceAdd] at e2
        go_wp2_with fail
        refine e2.mono ?_
        clear e2
        rintro e w4 ⟨d, rfl, hd, hc4, hg4⟩
        have hown4 := own_cur hown2 hgw hg4
        have hg04 := grown_trans hg02 hg4
        clear hown2 hc2 hg02 hg4 hd
        have hs4 := hg04.size
        go_wp2_with (at_builtin; refine wpList_append_own _ rfl _ _ 24 rfl w.heap.size 3 i0 (.int .i64 0) 1 8 Try.underlying24 hi hz0 hz1 hz2 rfl (by decide) _ _ _ rfl (hown4.alloc _) ⟨w4.heap.size, 0, none⟩ 1 1 [_] rfl rfl (newc _ _ _) (ints_oneCell .i64 [_]) (by unfold maxLen; omega) (by omega) (by simp; omega) ?_)
        intro v' w5 hown' hgrow hnv
        have R := step_drawI (z := d) hgw hg04 hown4 hown' hgrow
        clear hown' hgrow hnv hown4 hg04
        go_wp2
        go_ret
        exact ⟨_, ys ++ [d], rfl, by simp; omega, R.1, R.2.2 hc4, R.2.1⟩
set_option maxHeartbeats 1600000 in
theorem drawGini_any (a : Option Addr) (len cap : Nat) (zs : List Int) (w : World) (hr : IsRow .u8 w a len cap zs) (hn : len ≤ 1048576) :
    Calls Try.prog 10 #[.slice a len cap] w fun e w' => ∃ v, ∃ ys : List Int, e = .returned v ∧ ys.length ≤ 4 ∧ w'.ownsRow w.heap.size 3 1 v ys.length (ys.map (Value.int .i64)) ∧ Below w.heap.size w w' := by
  go_enter Try.func10, Try.ntmps10
  go_wp2_with fail
  refine (l1New_any a len cap zs w hr hn).mono ?_
  rintro e w1 ⟨rfl, hc1, hb1, hs1⟩
  have hs1' : w.heap.size < w1.heap.size := by omega
  clear hs1
  have hr1 := hr.later hb1
  clear hr
  go_wp2_with fail
  refine (l10Totals_any w.heap.size a len cap zs w1 hc1 hr1).mono ?_
  rintro e w2 ⟨v, ys, rfl, hyl, hown, hc2, hg2⟩
  have B2 := hb1.trans (grown_below hg2 (Nat.le_refl _) hb1.size)
  go_wp2
  go_ret
  exact ⟨v, ys, rfl, hyl, own_base hown (by omega), B2⟩
end Go.Proofs.Yteadkdllmeeocaa
/- Whether a code is too great. -/
namespace Go.Proofs.Yteadkdllmeeocaa
open Go.RowKit
set_option maxRecDepth 100000

theorem big_any (a : Option Addr) (len cap : Nat) (w : World) (hn : len ≤ 9223372036854775807) : Calls Try.prog 9 #[.slice a len cap] w fun e w' => e = .returned (.bool (decide (1048576 < len))) ∧ w' = w := by
  by_cases h : 1048576 < len
  all_goals
    go_enter Try.func9, Try.ntmps9
    go_wp2
    go_ret
    exact ⟨by simp; omega, rfl⟩
end Go.Proofs.Yteadkdllmeeocaa
/- A list of texts that a function is handed; whether it holds a text. (What is plain.) -/
namespace Go.Proofs.Yteadkdllmeeocaa
open Go.RowKit
set_option maxRecDepth 100000
def tx (ss : List ByteArray) (j : Nat) : ByteArray := ss.getD j ByteArray.empty
theorem tx_eq {ss : List ByteArray} {j : Nat} (h : j < ss.length) : tx ss j = ss[j] := by simp [tx, h]
theorem tx_mem {ss : List ByteArray} {j : Nat} (h : j < ss.length) : tx ss j ∈ ss := by rw [tx_eq h]; exact List.getElem_mem h
theorem tx_map {ss : List ByteArray} {j : Nat} (h : j < ss.length) : (ss.map Value.string)[j]? = some (.string (tx ss j)) := by simp [tx, h]

/-- What a function knows of a list of texts that it is handed. -/
def RowS (w : World) (v : Value) (ss : List ByteArray) : Prop :=
  ∃ oa cap, v = .slice oa ss.length cap ∧ ss.length ≤ cap ∧ (0 < ss.length → ∃ g o, oa = some ⟨g, o, none⟩ ∧ g < w.heap.size ∧ ∀ j, j < ss.length → w.cell? ⟨g, o + j, none⟩ = some (.string (tx ss j)))
theorem RowS.later {w w' : World} {v : Value} {ss : List ByteArray} (h : RowS w v ss) (hb : Below w.heap.size w w') : RowS w' v ss := by
  obtain ⟨oa, cap, rfl, hc, hr⟩ := h
  refine ⟨oa, cap, rfl, hc, fun h0 => ?_⟩
  obtain ⟨g, o, rfl, hg, hj⟩ := hr h0
  exact ⟨g, o, rfl, Nat.lt_of_lt_of_le hg hb.size, fun j hlt => (hb.cell (p := ⟨g, o + j, none⟩) hg).trans (hj j hlt)⟩
theorem RowS.of_own {w : World} {base n : Nat} {v : Value} {ss : List ByteArray} (h : w.ownsRow base 9 1 v n (ss.map Value.string)) (hn : ss.length = n) : RowS w v ss := by
  subst hn
  rcases h.2 with ⟨rfl, h0⟩ | ⟨g, cap, cur, rfl, hg, hcur, hcap, r⟩
  · exact ⟨none, 0, by rw [h0], by omega, fun h1 => by omega⟩
  · refine ⟨some ⟨g, 0, none⟩, cap, rfl, hcap, fun h1 => ⟨g, 0, rfl, (Array.getElem?_eq_some_iff.1 hcur).1, fun j hj => ?_⟩⟩
    rw [Nat.zero_add, h.cellAt j (by omega)]; exact tx_map hj
theorem RowS.take {w : World} {oa : Option Addr} {n cap : Nat} {ss : List ByteArray} (h : RowS w (.slice oa n cap) ss) {i : Nat} (hi : i ≤ n) : RowS w (.slice oa i cap) (ss.take i) := by
  obtain ⟨oa', cap', e, hc, hr⟩ := h
  injection e with e1 e2 e3
  subst e1 e2 e3
  have hl : (ss.take i).length = i := by simp; omega
  refine ⟨oa, cap, by rw [hl], by omega, fun h0 => ?_⟩
  obtain ⟨g, o, rfl, hg, hj⟩ := hr (by omega)
  refine ⟨g, o, rfl, hg, fun j hlt => ?_⟩
  rw [hj j (by omega)]
  have : j < i := by omega
  simp [tx, this]

theorem bytes_eq_iff {a b : ByteArray} : a.toList = b.toList ↔ a = b := by
  constructor
  · intro h
    have h2 : a.data.toList = b.data.toList := by rw [← ByteArray.toList_eq, ← ByteArray.toList_eq]; exact h
    exact ByteArray.ext (Array.toList_inj.1 h2)
  · rintro rfl; rfl

/-- Whether a text is among others. -/
def hasT (ss : List ByteArray) (t : ByteArray) : Bool := ss.any fun u => t.toList == u.toList
theorem hasT_yes {ss : List ByteArray} {t : ByteArray} {k : Nat} (h : k < ss.length) (e : t = tx ss k) : hasT ss t = true := by
  unfold hasT
  rw [List.any_eq_true]
  exact ⟨tx ss k, tx_mem h, by rw [e]; simp⟩
theorem hasT_no {ss : List ByteArray} {t : ByteArray} (h : ∀ j, j < ss.length → t ≠ tx ss j) : hasT ss t = false := by
  unfold hasT
  rw [List.any_eq_false]
  intro u hu he
  obtain ⟨j, hj, e⟩ := List.mem_iff_getElem.1 hu
  exact h j hj (by rw [tx_eq hj, e]; exact bytes_eq_iff.1 (by simpa using he))
end Go.Proofs.Yteadkdllmeeocaa
/- WordOk: the program's answer and the specification's, for every text. (What is plain.) -/

namespace Go.Proofs.Yteadkdllmeeocaa
open Go.RowKit
set_option maxRecDepth 100000
def lowB (c : UInt8) : Bool := decide (97 ≤ c.toNat) && decide (c.toNat ≤ 122)
/-- A word: 1 to 8 bytes from a to z. -/
def wordOk (s : ByteArray) : Bool := decide (1 ≤ s.size ∧ s.size ≤ 8) && s.data.toList.all lowB

theorem word_yes {s : ByteArray} (h : 1 ≤ s.size ∧ s.size ≤ 8) (ha : ∀ j (hj : j < s.size), lowB s[j] = true) : wordOk s = true := by
  unfold wordOk
  rw [Bool.and_eq_true]
  refine ⟨by simpa using h, ?_⟩
  rw [List.all_eq_true]
  intro c hc
  obtain ⟨j, hj, rfl⟩ := List.mem_iff_getElem.1 hc
  exact ha j (by simpa using hj)
theorem word_no {s : ByteArray} (j : Nat) (hj : j < s.size) (h : lowB s[j] = false) : wordOk s = false := by
  unfold wordOk
  rw [Bool.and_eq_false_iff]
  refine .inr ?_
  cases e : s.data.toList.all lowB with
  | false => rfl
  | true =>
    rw [List.all_eq_true] at e
    have := e s[j] (by
      have h2 : j < s.data.toList.length := by simpa using hj
      exact (List.getElem_mem h2 : s.data.toList[j] ∈ s.data.toList))
    rw [h] at this; cases this
theorem word_len {s : ByteArray} (h : ¬ (1 ≤ s.size ∧ s.size ≤ 8)) : wordOk s = false := by
  unfold wordOk
  rw [decide_eq_false h]; rfl
theorem word_size {s : ByteArray} (h : wordOk s = true) : 1 ≤ s.size ∧ s.size ≤ 8 := by
  unfold wordOk at h
  rw [Bool.and_eq_true] at h
  simpa using h.1
theorem low_no1 {c : UInt8} (h : (c.toNat : Int) < 97) : lowB c = false := by unfold lowB; simp; omega
theorem low_no2 {c : UInt8} (h : ¬ (c.toNat : Int) ≤ 122) : lowB c = false := by unfold lowB; simp; omega
theorem low_yes {c : UInt8} (h : ¬ (c.toNat : Int) < 97) (k : (c.toNat : Int) ≤ 122) : lowB c = true := by unfold lowB; simp; omega

theorem below_iter (w : World) (s : ByteArray) (p : Nat) : Below w.heap.size w (w.iter s p) := (Below.refl _ _).alloc (Nat.le_refl _) _
end Go.Proofs.Yteadkdllmeeocaa
