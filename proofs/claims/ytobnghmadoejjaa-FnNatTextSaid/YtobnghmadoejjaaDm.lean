/- Great numbers that are drawn: whatever is drawn is a list of few integers in memory of its own. -/
import Derived.Test.YtobnghmadoejjaaDo
import Derived.Test.YtobnghmadoejjaaSa
namespace Go.Proofs.Ytobnghmadoejjaa
open Go.RowKit
set_option maxRecDepth 100000

theorem own_cur {w w' : World} {base n g : Nat} {v : Value} {xs : List Value} (h : w.ownsRow base 3 1 v n xs) (hg : g < base) (hk : w.grownBy w' (some g)) : w'.ownsRow base 3 1 v n xs := by
  refine h.kept hk ?_
  cases e : v.ownBlock with
  | none => exact .inl rfl
  | some k =>
    refine .inr fun e' => ?_
    have := (h.lt k e).1
    injection e'
    omega
theorem grown_alloc (w : World) (o : Obj) (r : Option Nat) : w.grownBy (w.alloc o) r := ⟨rfl, rfl, rfl, by simp, fun k hk _ => Below.heap_alloc w o k hk⟩
theorem grown_own {w wq w4 : World} {r : Option Nat} {g : Nat} (h : w.grownBy wq (some g)) (k : wq.grownBy w4 r) (hr : ∀ j, r = some j → w.heap.size ≤ j) : w.grownBy w4 (some g) :=
  ⟨k.os.trans h.os, k.tape.trans h.tape, k.output.trans h.output, Nat.le_trans h.size k.size, fun j hj hne => (k.block j (Nat.lt_of_lt_of_le hj h.size) (fun e => by have := hr j e.symm; omega)).trans (h.block j hj hne)⟩
theorem grown_of_below {w w' : World} (h : Below w.heap.size w w') (r : Option Nat) : w.grownBy w' r := ⟨h.os, h.tape, h.output, h.size, fun k hk _ => h.block k hk⟩
/-- The cursor's own things, behind whatever leaves its block. -/
theorem IsCur.kept {w w' : World} {g : Nat} {a : Option Addr} {len cap : Nat} {r : Option Nat} (h : IsCur w g a len cap) (hk : w.grownBy w' r) (hr : r ≠ some g) : IsCur w' g a len cap := by
  have hlt := h.lt
  obtain ⟨i, y, hi, hb⟩ := h
  exact ⟨i, y, hi, (hk.block g hlt (fun e => hr e.symm)).trans hb⟩

/-- One of a few numbers, picked out of a list that was just laid. -/
theorem pickN (xs : List Int) (g : Nat) (a : Option Addr) (len cap : Nat) (zs : List Int) (w : World) (hc : IsCur w g a len cap) (hr : IsRow .u8 w a len cap zs) (h1 : 1 ≤ xs.length) (h2 : xs.length ≤ 256) :
    Calls Try.prog 38 #[.pointer (some ⟨g, 0, none⟩), .slice (some ⟨w.heap.size, 0, none⟩) xs.length xs.length] (w.alloc (.cells (xs.map (Value.int .i64)).toArray 3)) fun e w' =>
      ∃ x : Int, e = .returned (.int .i64 x) ∧ x ∈ xs ∧ IsCur w' g a len cap ∧ w.grownBy w' (some g) := by
  have hlt := hc.lt
  have hb : Below w.heap.size w (w.alloc (.cells (xs.map (Value.int .i64)).toArray 3)) := (Below.refl _ _).alloc (Nat.le_refl _) _
  refine (l1PickInt_any g a len cap zs w.heap.size xs _ (hc.alloc _) (hr.later hb) h1 h2 (by omega) (new_ints w xs 3)).mono ?_
  rintro e w' ⟨x, rfl, hx, hc', hg⟩
  exact ⟨x, rfl, hx, hc', grown_trans (grown_alloc w _ _) hg⟩

set_option maxHeartbeats 1600000 in
theorem right_any (g : Nat) (a : Option Addr) (len cap : Nat) (zs : List Int) (w : World) (hc : IsCur w g a len cap) (hr : IsRow .u8 w a len cap zs) :
    Calls Try.prog 47 #[.pointer (some ⟨g, 0, none⟩)] w fun e w' => ∃ v n, e = .returned v ∧ n < top ∧ OwnA w' w.heap.size v (some n) ∧ v ≠ .slice none 0 0 ∧ IsCur w' g a len cap ∧ w.grownBy w' (some g) := by
  obtain ⟨i0, hi, hz0, hz1, hz2⟩ := info_parts intInfo
  have hgw : g < w.heap.size := hc.lt
  have e0 := pickN [0, 1, 1, 2, 2, 3, 4, 8, 15, 16] g a len cap zs w hc hr (by decide) (by decide)
  simp only [List.map_cons, List.map_nil, List.length_cons, List.length_nil, Nat.zero_add, Nat.reduceAdd] at e0
  go_enter Try.func47, Try.ntmps47
  go_wp2_with fail
  refine e0.mono ?_
  clear e0
  rintro e w1 ⟨n, rfl, hn, hc1, hg1⟩
  have hr1 := hr.aside hc hg1
  have hn0 : 0 ≤ n ∧ n ≤ 16 := by
    simp only [List.mem_cons, List.not_mem_nil, or_false] at hn
    omega
  obtain ⟨N, rfl⟩ := Int.eq_ofNat_of_zero_le hn0.1
  have hN : N ≤ 16 := by omega
  clear hn hn0
  have hs1 := hg1.size
  have hr0 := ownI_lit0 w1 w.heap.size hs1
  have hcL : IsCur (w1.alloc (.cells #[] 3)) g a len cap := hc1.alloc _
  have hrL : IsRow .u8 (w1.alloc (.cells #[] 3)) a len cap zs := hr1.later ((Below.refl _ _).alloc (Nat.le_refl _) _)
  have hgL : w.grownBy (w1.alloc (.cells #[] 3)) (some g) := grown_trans hg1 (grown_alloc w1 _ _)
  have HC0 : Hid (IsCur w g a len cap) := hc
  have HR0 : Hid (IsRow .u8 w a len cap zs) := hr
  clear hc hr hc1 hr1 hg1
  go_wp2
  go_loopw [4, 5] (fun out i wr => ∃ (k : Nat) (done : List Nat), i = .int .i64 (k : Int) ∧ k ≤ N ∧ done.length = k ∧ Hid (∀ l ∈ done, l < 16777216) ∧ wr.ownsRow w.heap.size 3 1 out done.length ((up done).map (Value.int .i64)) ∧ out ≠ .slice none 0 0 ∧
      IsCur wr g a len cap ∧ IsRow .u8 wr a len cap zs ∧ w.grownBy wr (some g)) (fun _ i _ => N - (intOf i).toNat)
  case atStart => exact ⟨0, [], rfl, by omega, rfl, (fun l hl => by cases hl), hr0, (by intro h; cases h), hcL, hrL, hgL⟩
  case round =>
    obtain ⟨k, done, rfl, hk, hlen, hdl, hown, hne, hc, hr, hg⟩ := hrel
    have HNE : Hid (u4 ≠ .slice none 0 0) := hne
    clear hr0 hcL hrL hgL hne
    by_cases hlt : k < N
    · have e1 := l1BelowBig_any g a len cap zs 16777216 wr hc hr (by decide) (by decide)
      go_wp2_with fail
      refine e1.mono ?_
      clear e1
      rintro e w2 ⟨x, rfl, hx, hc2, hg2⟩
      have hr2 := hr.aside hc hg2
      have e2 := l1BelowBig_any g a len cap zs 16777216 w2 hc2 hr2 (by decide) (by decide)
      go_wp2_with fail
      refine e2.mono ?_
      clear e2
      rintro e w3 ⟨y, rfl, hy, hc3, hg3⟩
      have hr3 := hr2.aside hc2 hg3
      have e3 := pickN [0, 1, 9, (x : Int), 16777215, (y : Int)] g a len cap zs w3 hc3 hr3 (by simp) (by simp)
      simp only [List.map_cons, List.map_nil, List.length_cons, List.length_nil, Nat.zero_add, Nat.reduceAdd] at e3
      go_wp2_with fail
      refine e3.mono ?_
      clear e3
      rintro e w4 ⟨z, rfl, hz, hc4, hg4⟩
      have hr4 := hr3.aside hc3 hg4
      have hzb : 0 ≤ z ∧ z < 16777216 := by
        simp only [List.mem_cons, List.not_mem_nil, or_false] at hz
        omega
      obtain ⟨d, rfl⟩ := Int.eq_ofNat_of_zero_le hzb.1
      have hd : d < 16777216 := by omega
      have hgq : w.grownBy w4 (some g) := grown_trans hg (grown_trans hg2 (grown_trans hg3 hg4))
      have hown4 := own_cur (own_cur (own_cur hown hgw hg2) hgw hg3) hgw hg4
      have hs4 := hgq.size
      clear hz hzb hc hr hc2 hr2 hc3 hr3 hown hg hg2 hg3 hg4
      go_wp2_with (at_builtin; refine wpList_append_own _ rfl _ _ 24 rfl w.heap.size 3 i0 (.int .i64 0) 1 8 Try.underlying24 hi hz0 hz1 hz2 rfl (by decide) _ _ _ rfl (hown4.alloc _) ⟨w4.heap.size, 0, none⟩ 1 1 [_] rfl rfl (newc _ _ _) (ints_oneCell .i64 [_]) (by unfold maxLen; omega) (by omega) (by simp; omega) ?_)
      intro v' w5 hown' hgrow hnv
      have hob : ∀ j, u4.ownBlock = some j → w.heap.size ≤ j := fun j hj => (hown4.lt j hj).1
      have hg5 : w.grownBy w5 (some g) := grown_own (grown_trans hgq (grown_alloc w4 _ _)) hgrow hob
      have hc5 : IsCur w5 g a len cap := (hc4.alloc _).kept hgrow (fun e => by have := hob g e; omega)
      have hr5 : IsRow .u8 w5 a len cap zs := HR0.out.aside HC0.out hg5
      have hR : w5.ownsRow w.heap.size 3 1 v' (done ++ [d]).length ((up (done ++ [d])).map (Value.int .i64)) := by simpa [up_snoc, hlen] using hown'
      have HNV : Hid (v' ≠ .slice none 0 0) := hnv
      clear hown' hgrow hnv hown4 hob hc4 hr4 hgq
      go_wp2
      go_roundw
      case rel => exact ⟨k + 1, done ++ [d], by go_num, by omega, by simp [hlen], snoc_lt hdl.out hd, hR, HNV.out, hc5, hr5, hg5⟩
      case measure => simp [intOf]; omega
    · obtain rfl : k = N := by omega
      obtain ⟨gv, cp, cur, hout, hgb, hcur, hcap, hrr⟩ : ∃ g cap cur, _ ∧ _ ∧ _ ∧ _ ∧ _ := by
        rcases hown.2 with ⟨h0, _⟩ | h
        · exact absurd h0 HNE.out
        · exact h
      subst hout
      have hgg : gv < wr.heap.size := (Array.getElem?_eq_some_iff.1 hcur).1
      have hcell : ∀ j, j < done.length → wr.cell? ⟨gv, 0 + j, none⟩ = some (.int .i64 ((done.getD j 0 : Nat) : Int)) := fun j hj => by
        have := own_cellsI (zs := up done) (n := done.length) (up_len done) hown j hj
        rw [up_getD] at this; exact this
      have e4 := trim_any gv 0 done.length cp done wr rfl (by omega) (by omega) hgg hdl.out hcell
      have hvt : val done < top := by
        have h1 := val_lt done hdl.out
        exact Nat.lt_of_lt_of_le h1 (Nat.pow_le_pow_right (by decide) (by omega))
      have hsg := hg.size
      clear hcell hcap hrr hcur hgb hown hdl
      rw [hlen] at e4
      generalize val done = V at e4 hvt
      go_wp2_with (go_at_call 32; refine e4.mono ?_; clear e4; rintro e w2 ⟨v, rfl, hov, hne, hb4⟩)
      go_ret
      exact ⟨v, V, rfl, hvt, hov.base hsg, hne, hc.kept (grown_of_below hb4 none) (by simp), grown_trans hg (grown_of_below hb4 _)⟩

def rowLen : Value → Nat
  | .slice _ n _ => n
  | _ => 0
theorem own_rowLen {w : World} {b e n : Nat} {v : Value} {xs : List Value} (h : w.ownsRow b e 1 v n xs) : rowLen v = n := by
  rcases h.2 with ⟨rfl, h0⟩ | ⟨g, c, cur, rfl, _⟩
  · exact h0.symm
  · rfl
theorem own_form {w : World} {b e n : Nat} {v : Value} {xs : List Value} (h : w.ownsRow b e 1 v n xs) (hne : v ≠ .slice none 0 0) : ∃ g c, v = .slice (some ⟨g, 0, none⟩) n c ∧ g < w.heap.size ∧ n ≤ c := by
  rcases h.2 with ⟨h0, _⟩ | ⟨g, c, cur, hv, _, hcur, hc, _⟩
  · exact absurd h0 hne
  · exact ⟨g, c, hv, (Array.getElem?_eq_some_iff.1 hcur).1, hc⟩
/-- A list that is drawn, one number more. -/
theorem step_draw {w wq w5 : World} {v v' : Value} {ys : List Int} {z : Int} {g : Nat} {o : Obj} (hgw : g < w.heap.size) (hgq : w.grownBy wq (some g)) (hown : wq.ownsRow w.heap.size 3 1 v ys.length (ys.map (Value.int .i64)))
    (hown' : w5.ownsRow w.heap.size 3 1 v' (ys.length + 1) (ys.map (Value.int .i64) ++ [.int .i64 z])) (hgrow : (wq.alloc o).grownBy w5 v.ownBlock) :
    w5.ownsRow w.heap.size 3 1 v' (ys ++ [z]).length ((ys ++ [z]).map (Value.int .i64)) ∧ w.grownBy w5 (some g) ∧ (∀ {a len cap}, IsCur wq g a len cap → IsCur w5 g a len cap) := by
  have hob : ∀ j, v.ownBlock = some j → w.heap.size ≤ j := fun j hj => (hown.lt j hj).1
  refine ⟨by simpa using hown', grown_own (grown_trans hgq (grown_alloc wq _ _)) hgrow hob, fun hc => (hc.alloc _).kept hgrow (fun e => by have := hob g e; omega)⟩

set_option maxHeartbeats 1600000 in
theorem draw_any (g : Nat) (a : Option Addr) (len cap : Nat) (zs : List Int) (w : World) (hc : IsCur w g a len cap) (hr : IsRow .u8 w a len cap zs) :
    Calls Try.prog 37 #[.pointer (some ⟨g, 0, none⟩)] w fun e w' => ∃ v, ∃ ys : List Int, e = .returned v ∧ ys.length ≤ 17 ∧ w'.ownsRow w.heap.size 3 1 v ys.length (ys.map (Value.int .i64)) ∧ v ≠ .slice none 0 0 ∧ IsCur w' g a len cap ∧ w.grownBy w' (some g) := by
  obtain ⟨i0, hi, hz0, hz1, hz2⟩ := info_parts intInfo
  have hgw : g < w.heap.size := hc.lt
  go_enter Try.func37, Try.ntmps37
  go_wp2_with fail
  refine (right_any g a len cap zs w hc hr).mono ?_
  rintro e w1 ⟨v, n, rfl, hn, hov, hne, hc1, hg1⟩
  have hr1 := hr.aside hc hg1
  have e2 := l1Below_any g a len cap zs 14 w1 hc1 hr1 (by decide) (by decide)
  go_wp2_with fail
  refine e2.mono ?_
  clear e2
  rintro e w2 ⟨x, rfl, hx, hc2, hg2⟩
  have hg := grown_trans hg1 hg2
  have hs2 := hg.size
  have hown : w2.ownsRow w.heap.size 3 1 v (up (digs n)).length ((up (digs n)).map (Value.int .i64)) := own_cur hov hgw hg2
  have hl16 : (up (digs n)).length ≤ 16 := by rw [up_len]; exact (digs_len 16 n).2 hn
  generalize up (digs n) = ys at hown hl16
  have HNE : Hid (v ≠ .slice none 0 0) := hne
  clear hc hr hc1 hr1 hg1 hg2 hov hn hne
  by_cases h0 : x = 0
  · subst h0
    go_wp2_with (at_builtin; refine wpList_append_own _ rfl _ _ 24 rfl w.heap.size 3 i0 (.int .i64 0) 1 8 Try.underlying24 hi hz0 hz1 hz2 rfl (by decide) _ _ _ rfl (hown.alloc _) ⟨w2.heap.size, 0, none⟩ 1 1 [_] rfl rfl (newc _ _ _) (ints_oneCell .i64 [_]) (by unfold maxLen; omega) (by omega) (by simp; omega) ?_)
    intro v' w5 hown' hgrow hnv
    have R := step_draw (z := 0) hgw hg hown hown' hgrow
    have HNV : Hid (v' ≠ .slice none 0 0) := hnv
    clear hown' hgrow hnv
    go_wp2
    go_ret
    exact ⟨_, _, rfl, by simp; omega, R.1, HNV.out, R.2.2 hc2, R.2.1⟩
  · have b0 : ((x : Int) == 0) = false := by simp; omega
    by_cases h1 : x = 1
    · subst h1
      go_wp2_with (at_builtin; refine wpList_append_own _ rfl _ _ 24 rfl w.heap.size 3 i0 (.int .i64 0) 1 8 Try.underlying24 hi hz0 hz1 hz2 rfl (by decide) _ _ _ rfl (hown.alloc _) ⟨w2.heap.size, 0, none⟩ 1 1 [_] rfl rfl (newc _ _ _) (ints_oneCell .i64 [_]) (by unfold maxLen; omega) (by omega) (by simp; omega) ?_)
      intro v' w5 hown' hgrow hnv
      have R := step_draw (z := 16777216) hgw hg hown hown' hgrow
      have HNV : Hid (v' ≠ .slice none 0 0) := hnv
      clear hown' hgrow hnv
      go_wp2
      go_ret
      exact ⟨_, _, rfl, by simp; omega, R.1, HNV.out, R.2.2 hc2, R.2.1⟩
    · have b1 : ((x : Int) == 1) = false := by simp; omega
      by_cases h2 : x = 2
      · subst h2
        go_wp2_with (at_builtin; refine wpList_append_own _ rfl _ _ 24 rfl w.heap.size 3 i0 (.int .i64 0) 1 8 Try.underlying24 hi hz0 hz1 hz2 rfl (by decide) _ _ _ rfl (hown.alloc _) ⟨w2.heap.size, 0, none⟩ 1 1 [_] rfl rfl (newc _ _ _) (ints_oneCell .i64 [_]) (by unfold maxLen; omega) (by omega) (by simp; omega) ?_)
        intro v' w5 hown' hgrow hnv
        have R := step_draw (z := -1) hgw hg hown hown' hgrow
        have HNV : Hid (v' ≠ .slice none 0 0) := hnv
        clear hown' hgrow hnv
        go_wp2
        go_ret
        exact ⟨_, _, rfl, by simp; omega, R.1, HNV.out, R.2.2 hc2, R.2.1⟩
      · have b2 : ((x : Int) == 2) = false := by simp; omega
        by_cases h3 : x = 3
        · subst h3
          go_wp2
          go_loopw [3] (fun out wr => ∃ ys : List Int, ys.length ≤ 17 ∧ wr.ownsRow w.heap.size 3 1 out ys.length (ys.map (Value.int .i64)) ∧ out ≠ .slice none 0 0 ∧ IsCur wr g a len cap ∧ w.grownBy wr (some g)) (fun out _ => 17 - rowLen out)
          case atStart => exact ⟨ys, by omega, hown, HNE.out, hc2, hg⟩
          case round =>
            obtain ⟨ys, hyl, hown, hne, hc, hg⟩ := hrel
            have hs := hg.size
            obtain ⟨gv, cv, hvv, _, _⟩ := own_form hown hne
            subst hvv
            have HNE2 : Hid (Value.slice (some ⟨gv, 0, none⟩) ys.length cv ≠ .slice none 0 0) := hne
            clear hne
            by_cases hlt : ys.length < 17
            · go_wp2_with (at_builtin; refine wpList_append_own _ rfl _ _ 24 rfl w.heap.size 3 i0 (.int .i64 0) 1 8 Try.underlying24 hi hz0 hz1 hz2 rfl (by decide) _ _ _ rfl (hown.alloc _) ⟨wr.heap.size, 0, none⟩ 1 1 [_] rfl rfl (newc _ _ _) (ints_oneCell .i64 [_]) (by unfold maxLen; omega) (by omega) (by simp; omega) ?_)
              intro v' w5 hown' hgrow hnv
              have R := step_draw (z := 1) hgw hg hown hown' hgrow
              have hR := own_rowLen R.1
              have HNV : Hid (v' ≠ .slice none 0 0) := hnv
              clear hown' hgrow hnv
              go_wp2
              go_roundw
              case rel => exact ⟨ys ++ [1], by simp; omega, R.1, HNV.out, R.2.2 hc, R.2.1⟩
              case measure =>
                rw [hR]
                show 17 - (ys ++ [1]).length < 17 - ys.length
                simp; omega
            · go_wp2
              go_ret
              exact ⟨_, _, rfl, hyl, hown, HNE2.out, hc, hg⟩
        · have b3 : ((x : Int) == 3) = false := by simp; omega
          go_wp2
          go_ret
          exact ⟨_, _, rfl, by omega, hown, HNE.out, hc2, hg⟩

set_option maxHeartbeats 800000 in
theorem two_any (a : Option Addr) (len cap : Nat) (zs : List Int) (w : World) (hr : IsRow .u8 w a len cap zs) (hn : len ≤ 1048576) :
    Calls Try.prog 24 #[.slice a len cap] w fun e w' => ∃ v1 v2, ∃ xs ys : List Int, e = .returned (.tuple #[v1, v2]) ∧ xs.length ≤ 17 ∧ ys.length ≤ 17 ∧ RowI w' v1 xs ∧ RowI w' v2 ys ∧ Below w.heap.size w w' := by
  obtain ⟨i0, hi, hz0, hz1, hz2⟩ := info_parts intInfo
  go_enter Try.func24, Try.ntmps24
  go_wp2_with fail
  refine (l1New_any a len cap zs w hr hn).mono ?_
  rintro e w1 ⟨rfl, hc1, hb1, hsz1⟩
  have hr1 := hr.later hb1
  go_wp2_with fail
  refine (draw_any w.heap.size a len cap zs w1 hc1 hr1).mono ?_
  rintro e w2 ⟨v1, xs, rfl, hxl, ho1, hne1, hc2, hg2⟩
  have hr2 := hr1.aside hc1 hg2
  have hs2 := hg2.size
  go_wp2_with fail
  refine (once_any w.heap.size a len cap zs 5 w2 hc2 hr2 (by decide) (by decide)).mono ?_
  rintro e w3 ⟨b, rfl, hc3, hg3⟩
  have hr3 := hr2.aside hc2 hg3
  have hs3 := hg3.size
  have ho1 := own_cur ho1 (by omega) hg3
  have hbel3 : Below w.heap.size w w3 := ((hb1.grown hg2 (by omega) (fun k hk => by cases hk; exact Nat.le_refl _)).grown hg3 (by omega) (fun k hk => by cases hk; exact Nat.le_refl _))
  clear hc1 hr1 hc2 hr2 hg2 hg3 hb1 hr
  cases b
  · have e4 := draw_any w.heap.size a len cap zs w3 hc3 hr3
    go_wp2_with fail
    refine e4.mono ?_
    clear e4
    rintro e w4 ⟨v2, ys, rfl, hyl, ho2, hne2, hc4, hg4⟩
    have ho1 := own_cur ho1 (by omega) hg4
    go_wp2
    go_ret2
    exact ⟨_, _, xs, ys, rfl, hxl, hyl, RowI.of_own ho1 rfl, RowI.of_own ho2 rfl, hbel3.grown hg4 (by omega) (fun k hk => by cases hk; exact Nat.le_refl _)⟩
  · obtain ⟨gv, cv, hvv, hgl, hcc⟩ := own_form ho1 hne1
    subst hvv
    have hbL : Below w3.heap.size w3 (w3.alloc (.cells #[] 3)) := (Below.refl _ _).alloc (Nat.le_refl _) _
    have hnews := row_news (w := w3.alloc (.cells #[] 3)) (g := gv) (o := 0) (k := xs.length) (zs := xs) (fun j hj => (hbL.cell (p := ⟨gv, 0 + j, none⟩) hgl).trans (own_cellsI rfl ho1 j hj))
    rw [List.take_of_length_le (Nat.le_refl _)] at hnews
    go_wp2_with (at_builtin; refine wpList_append_own _ rfl _ _ 24 rfl w3.heap.size 3 i0 (.int .i64 0) 1 8 Try.underlying24 hi hz0 hz1 hz2 rfl (by decide) _ _ _ rfl (ownI_lit0 w3 _ (Nat.le_refl _)) ⟨gv, 0, none⟩ xs.length _ (xs.map (Value.int .i64)) rfl (by simp) hnews (ints_oneCell .i64 _) (by unfold maxLen; omega) (by omega) (by simp) ?_)
    intro v' w5 hown' hgrow hnv
    have hb5 : Below w3.heap.size w3 w5 := hbL.grown hgrow (by simp) (by intro j hj; cases hj; exact Nat.le_refl _)
    have ho1' := own_below ho1 hb5
    have ho2 : w5.ownsRow w3.heap.size 3 1 v' xs.length (xs.map (Value.int .i64)) := by simpa using hown'
    clear hown' hgrow hnv hnews
    go_wp2
    go_ret2
    exact ⟨_, _, xs, xs, rfl, hxl, hxl, RowI.of_own ho1' rfl, RowI.of_own ho2 rfl, hbel3.trans (hb5.mono (by omega))⟩
end Go.Proofs.Ytobnghmadoejjaa
