/- Draws of chapter 6: a list of numbers; bounds and how many parts. -/
import Derived.Test.YtdibkmpkhlaadaaDk
import Derived.Test.YtdibkmpkhlaadaaDo
import Derived.Test.YtdibkmpkhlaadaaOi
namespace Go.Proofs.Ytdibkmpkhlaadaa
open Go.RowKit
set_option maxRecDepth 100000
/-- A list that is drawn, one number more. -/
theorem step_drawI {w wq w5 : World} {v v' : Value} {ys : List Int} {z : Int} {g : Nat} {o : Obj} (hgw : g < w.heap.size) (hgq : w.grownBy wq (some g)) (hown : wq.ownsRow w.heap.size 3 1 v ys.length (ys.map (Value.int .i64)))
    (hown' : w5.ownsRow w.heap.size 3 1 v' (ys.length + 1) (ys.map (Value.int .i64) ++ [.int .i64 z])) (hgrow : (wq.alloc o).grownBy w5 v.ownBlock) :
    w5.ownsRow w.heap.size 3 1 v' (ys ++ [z]).length ((ys ++ [z]).map (Value.int .i64)) ∧ w.grownBy w5 (some g) ∧ (∀ {a len cap}, IsCur wq g a len cap → IsCur w5 g a len cap) := by
  have hob : ∀ j, v.ownBlock = some j → w.heap.size ≤ j := fun j hj => (hown.lt j hj).1
  refine ⟨by simpa using hown', grown_own (grown_trans hgq (grown_alloc wq _ _)) hgrow hob, fun hc => (hc.alloc _).kept hgrow (fun e => by have := hob g e; omega)⟩
set_option maxHeartbeats 1600000 in
theorem l6Draw_any (g : Nat) (a : Option Addr) (len cap : Nat) (zs : List Int) (w : World) (hc : IsCur w g a len cap) (hr : IsRow .u8 w a len cap zs) :
    Calls Try.prog 33 #[.pointer (some ⟨g, 0, none⟩)] w fun e w' => ∃ v, ∃ ys : List Int, e = .returned v ∧ ys.length ≤ 66 ∧ w'.ownsRow w.heap.size 3 1 v ys.length (ys.map (Value.int .i64)) ∧ IsCur w' g a len cap ∧ w.grownBy w' (some g) := by
  obtain ⟨i0, hi, hz0, hz1, hz2⟩ := info_parts intInfo
  have hgw : g < w.heap.size := hc.lt
  have HR : Hid (∀ w', w.grownBy w' (some g) → IsRow .u8 w' a len cap zs) := fun w' h => hr.aside hc h
  have hc0 := hc.alloc (.cells #[] 3)
  have G0 : w.grownBy (w.alloc (.cells #[] 3)) (some g) := grown_alloc w _ _
  have O0 := ownI_lit0 w w.heap.size (Nat.le_refl _)
  have e1 := pickN [0, 1, 2, 3, 5, 9, 64, 65] g a len cap zs _ hc0 (HR.out _ G0) (by simp) (by simp)
  simp only [List.map_cons, List.map_nil, List.length_cons, List.length_nil, Nat.zero_add, Nat.reduceAdd] at e1
  rw [show (w.alloc (.cells #[] 3)).heap.size = w.heap.size + 1 by simp] at e1
  clear hc hr
  go_enter Try.func33, Try.ntmps33
  go_wp2_with fail
  refine e1.mono ?_
  clear e1
  rintro e w1 ⟨n, rfl, hn, hc1, hg1⟩
  have hn0 : 0 ≤ n ∧ n ≤ 65 := by
    simp only [List.mem_cons, List.not_mem_nil, or_false] at hn
    omega
  obtain ⟨hn0, hn1⟩ := hn0
  have hown1 := own_cur O0 hgw hg1
  have hg01 := grown_trans G0 hg1
  clear hn hc0 O0 G0 hg1
  go_wp2
  go_loopw [3, 5] (fun v i wr => ∃ (k : Nat) (ys : List Int), i = .int .i64 k ∧ (k : Int) ≤ n ∧ ys.length = k ∧ wr.ownsRow w.heap.size 3 1 v ys.length (ys.map (Value.int .i64)) ∧ IsCur wr g a len cap ∧ w.grownBy wr (some g)) (fun _ i _ => n.toNat - (intOf i).toNat)
  case atStart => exact ⟨0, [], rfl, by omega, rfl, hown1, hc1, hg01⟩
  case round =>
    obtain ⟨k, ys, rfl, hk, hyl, hown, hc, hg⟩ := hrel
    clear hown1 hc1 hg01
    have hs := hg.size
    by_cases hlt : (k : Int) < n
    · have e2 := l1Below_any g a len cap zs 12 wr hc (HR.out _ hg) (by decide) (by decide)
      go_wp2_with fail
      refine e2.mono ?_
      clear e2
      rintro e w2 ⟨x1, rfl, hx1, hc2, hg2⟩
      have hown2 := own_cur hown hgw hg2
      have hg02 := grown_trans hg hg2
      clear hown hc hg hg2
      have e2 := l1BelowBig_any g a len cap zs 300 w2 hc2 (HR.out _ hg02) (by decide) (by decide)
      go_wp2_with fail
      refine e2.mono ?_
      clear e2
      rintro e w3 ⟨x2, rfl, hx2, hc3, hg3⟩
      have hown3 := own_cur hown2 hgw hg3
      have hg03 := grown_trans hg02 hg3
      clear hown2 hc2 hg02 hg3
      have e2 := pickN [(x1 : Int), -9999, 9998, (x2 : Int) - 150, 4, 4] g a len cap zs w3 hc3 (HR.out _ hg03) (by simp) (by simp)
      simp only [List.map_cons, List.map_nil, List.length_cons, List.length_nil, Nat.zero_add, Nat.reduceAdd] at e2
      go_wp2_with fail
      refine e2.mono ?_
      clear e2
      rintro e w4 ⟨d, rfl, hd, hc4, hg4⟩
      have hown4 := own_cur hown3 hgw hg4
      have hg04 := grown_trans hg03 hg4
      clear hown3 hc3 hg03 hg4 hd
      have hs4 := hg04.size
      go_wp2_with (at_builtin; refine wpList_append_own _ rfl _ _ 26 rfl w.heap.size 3 i0 (.int .i64 0) 1 8 Try.underlying26 hi hz0 hz1 hz2 rfl (by decide) _ _ _ rfl (hown4.alloc _) ⟨w4.heap.size, 0, none⟩ 1 1 [_] rfl rfl (newc _ _ _) (ints_oneCell .i64 [_]) (by unfold maxLen; omega) (by omega) (by simp; omega) ?_)
      intro v' w5 hown' hgrow hnv
      have R := step_drawI (z := d) hgw hg04 hown4 (by rw [hyl]; exact hown') hgrow
      clear hown' hgrow hnv hown4 hg04
      go_wp2
      go_roundw
      case rel => exact ⟨k + 1, ys ++ [d], by go_num, by omega, by simp [hyl], R.1, R.2.2 hc4, R.2.1⟩
      case measure => simp [intOf]; omega
    · have hyl2 : ys.length ≤ 65 := by omega
      have e2 := once_any g a len cap zs 8 wr hc (HR.out _ hg) (by decide) (by decide)
      clear hyl
      go_wp2_with fail
      refine e2.mono ?_
      clear e2
      rintro e w2 ⟨b, rfl, hc2, hg2⟩
      have hown2 := own_cur hown hgw hg2
      have hg02 := grown_trans hg hg2
      clear hown hc hg hg2
      cases b with
      | false =>
        go_wp2
        go_ret
        exact ⟨_, ys, rfl, by omega, hown2, hc2, hg02⟩
      | true =>
        have e2 := pickN [9999, -10000, 9223372036854775807] g a len cap zs w2 hc2 (HR.out _ hg02) (by simp) (by simp)
        simp only [List.map_cons, List.map_nil, List.length_cons, List.length_nil, Nat.zero_add, Nat.reduceAdd] at e2
        go_wp2_with fail
        refine e2.mono ?_
        clear e2
        rintro e w4 ⟨d, rfl, hd, hc4, hg4⟩
        have hown4 := own_cur hown2 hgw hg4
        have hg04 := grown_trans hg02 hg4
        clear hown2 hc2 hg02 hg4 hd
        have hs4 := hg04.size
        go_wp2_with (at_builtin; refine wpList_append_own _ rfl _ _ 26 rfl w.heap.size 3 i0 (.int .i64 0) 1 8 Try.underlying26 hi hz0 hz1 hz2 rfl (by decide) _ _ _ rfl (hown4.alloc _) ⟨w4.heap.size, 0, none⟩ 1 1 [_] rfl rfl (newc _ _ _) (ints_oneCell .i64 [_]) (by unfold maxLen; omega) (by omega) (by simp; omega) ?_)
        intro v' w5 hown' hgrow hnv
        have R := step_drawI (z := d) hgw hg04 hown4 hown' hgrow
        clear hown' hgrow hnv hown4 hg04
        go_wp2
        go_ret
        exact ⟨_, ys ++ [d], rfl, by simp; omega, R.1, R.2.2 hc4, R.2.1⟩
set_option maxHeartbeats 1600000 in
theorem drawQuant_any (a : Option Addr) (len cap : Nat) (zs : List Int) (w : World) (hr : IsRow .u8 w a len cap zs) (hn : len ≤ 1048576) :
    Calls Try.prog 14 #[.slice a len cap] w fun e w' => ∃ v, ∃ ys : List Int, ∃ k : Int, e = .returned (.tuple #[v, .int .i64 k]) ∧ 1 ≤ k ∧ k ≤ 5 ∧ ys.length ≤ 66 ∧ w'.ownsRow w.heap.size 3 1 v ys.length (ys.map (Value.int .i64)) ∧ Below w.heap.size w w' := by
  go_enter Try.func14, Try.ntmps14
  go_wp2_with fail
  refine (l1New_any a len cap zs w hr hn).mono ?_
  rintro e w1 ⟨rfl, hc1, hb1, hs1⟩
  have hs1' : w.heap.size < w1.heap.size := by omega
  clear hs1
  have hr1 := hr.later hb1
  clear hr
  go_wp2_with fail
  refine (l6Draw_any w.heap.size a len cap zs w1 hc1 hr1).mono ?_
  rintro e w2 ⟨v, ys, rfl, hyl, hown, hc2, hg2⟩
  have hr2 := hr1.aside hc1 hg2
  have hs2 := hg2.size
  have B2 := hb1.trans (grown_below hg2 (Nat.le_refl _) hb1.size)
  clear hr1 hc1 hg2 hb1
  have e1 := pickN [2, 3, 4, 4, 1, 5] w.heap.size a len cap zs w2 hc2 hr2 (by simp) (by simp)
  simp only [List.map_cons, List.map_nil, List.length_cons, List.length_nil, Nat.zero_add, Nat.reduceAdd] at e1
  go_wp2_with fail
  refine e1.mono ?_
  clear e1
  rintro e w3 ⟨d, rfl, hd, hc3, hg3⟩
  have hd0 : 1 ≤ d ∧ d ≤ 5 := by
    simp only [List.mem_cons, List.not_mem_nil, or_false] at hd
    omega
  have hown3 := own_cur hown (by omega) hg3
  have B3 := B2.trans (grown_below hg3 (Nat.le_refl _) B2.size)
  clear hd hc3 hg3 hc2 hr2 B2 hown
  go_wp2
  exact bodyPost_ret (results_tmp2 rfl _ _ _) rfl ⟨v, ys, d, rfl, hd0.1, hd0.2, hyl, own_base hown3 (by omega), B3⟩
set_option maxHeartbeats 1600000 in
theorem drawEqual_any (a : Option Addr) (len cap : Nat) (zs : List Int) (w : World) (hr : IsRow .u8 w a len cap zs) (hn : len ≤ 1048576) :
    Calls Try.prog 10 #[.slice a len cap] w fun e w' => ∃ lo hi k : Int, e = .returned (.tuple #[.int .i64 lo, .int .i64 hi, .int .i64 k]) ∧ 1 ≤ k ∧ k ≤ 5 ∧ Below w.heap.size w w' := by
  go_enter Try.func10, Try.ntmps10
  go_wp2_with fail
  refine (l1New_any a len cap zs w hr hn).mono ?_
  rintro e w1 ⟨rfl, hc1, hb1, hs1⟩
  have hs1' : w.heap.size < w1.heap.size := by omega
  clear hs1
  have hr1 := hr.later hb1
  clear hr
  have e1 := pickN [0, -9999, 5, -10000, -9223372036854775808] w.heap.size a len cap zs w1 hc1 hr1 (by simp) (by simp)
  simp only [List.map_cons, List.map_nil, List.length_cons, List.length_nil, Nat.zero_add, Nat.reduceAdd] at e1
  go_wp2_with fail
  refine e1.mono ?_
  clear e1
  rintro e w2 ⟨lo, rfl, hd, hc2, hg2⟩
  have hr2 := hr1.aside hc1 hg2
  have B2 := hb1.trans (grown_below hg2 (Nat.le_refl _) hb1.size)
  clear hr1 hc1 hg2 hb1 hd
  have e1 := pickN [3, 9, 10, 9998, 9999, 7, 9223372036854775807] w.heap.size a len cap zs w2 hc2 hr2 (by simp) (by simp)
  simp only [List.map_cons, List.map_nil, List.length_cons, List.length_nil, Nat.zero_add, Nat.reduceAdd] at e1
  go_wp2_with fail
  refine e1.mono ?_
  clear e1
  rintro e w3 ⟨hi, rfl, hd, hc3, hg3⟩
  have hr3 := hr2.aside hc2 hg3
  have B3 := B2.trans (grown_below hg3 (Nat.le_refl _) B2.size)
  clear hr2 hc2 hg3 B2 hd
  have e1 := pickN [2, 3, 4, 4, 1, 5] w.heap.size a len cap zs w3 hc3 hr3 (by simp) (by simp)
  simp only [List.map_cons, List.map_nil, List.length_cons, List.length_nil, Nat.zero_add, Nat.reduceAdd] at e1
  go_wp2_with fail
  refine e1.mono ?_
  clear e1
  rintro e w4 ⟨d, rfl, hd, hc4, hg4⟩
  have hd0 : 1 ≤ d ∧ d ≤ 5 := by
    simp only [List.mem_cons, List.not_mem_nil, or_false] at hd
    omega
  have B4 := B3.trans (grown_below hg4 (Nat.le_refl _) B3.size)
  clear hd hc4 hg4 hc3 hr3 B3
  go_wp2
  exact bodyPost_ret (v := .tuple #[.int .i64 lo, .int .i64 hi, .int .i64 d]) (by simp [results, Try.results10, go_sem]) rfl ⟨lo, hi, d, rfl, hd0.1, hd0.2, B4⟩
end Go.Proofs.Ytdibkmpkhlaadaa
