/- The face NatText writes the decimal digits of a great number. -/
import Derived.Test.YtobnghmadoejjaaBo
import Derived.Test.YtobnghmadoejjaaBy
import Derived.Test.YtobnghmadoejjaaAq
import Derived.Test.YtobnghmadoejjaaRv
import Derived.Test.YtobnghmadoejjaaTx
namespace Go.Proofs.Ytobnghmadoejjaa
open Go.RowKit
set_option maxRecDepth 100000

theorem ArrT.grown {t : TypeId} {w w' : World} {g : Nat} {a : List Nat} {r : Option Nat} (h : ArrT t w g a) (hg : w.grownBy w' r) (hr : r ≠ some g) : ArrT t w' g a := by
  have hlt := h.lt
  unfold ArrT at h ⊢
  rw [hg.block g hlt (fun e => hr e.symm)]; exact h
/-- How long a list is, off its value. -/
def lenOf : Value → Nat
  | .slice _ n _ => n
  | _ => 0
theorem own_lenOf {w : World} {b e n : Nat} {v : Value} {xs : List Value} (h : w.ownsRow b e 1 v n xs) : lenOf v = n := by
  rcases h.2 with ⟨rfl, h0⟩ | ⟨g, c, cur, rfl, _⟩
  · exact h0.symm
  · rfl
theorem own_setRow {w : World} {b e n g : Nat} {v : Value} {xs : List Value} (h : w.ownsRow b e 1 v n xs) (hg : g < b) (c : Array Value) : (w.setRow g c).ownsRow b e 1 v n xs := by
  refine ⟨h.1, ?_⟩
  rcases h.2 with h' | ⟨k, cap, cur, hv, hk, hc, r⟩
  · exact .inl h'
  · refine .inr ⟨k, cap, cur, hv, hk, ?_, r⟩
    rw [Go.setRow_other w g k c (by omega)]; exact hc
def digV (d : Nat) : Value := .int .u8 (d : Int)
theorem ds_step {cur n0 : Nat} {done : List Nat} (h0 : 0 < cur) (h : ds cur ++ done.reverse.map UInt8.ofNat = ds n0) : ds (cur / 10) ++ (done ++ [48 + cur % 10]).reverse.map UInt8.ofNat = ds n0 := by
  rw [← h, ds_pos cur h0]; simp
theorem step_dig {b : Nat} {w wr w1 : World} {v v' : Value} {done : List Nat} {d : Nat} (hs : b ≤ wr.heap.size) (hb : Below b w wr) (hown : wr.ownsRow b 5 1 v done.length (done.map digV))
    (hown' : w1.ownsRow b 5 1 v' (done.length + 1) (done.map digV ++ [.int .u8 (d : Int)])) (hgrow : wr.grownBy w1 v.ownBlock) :
    w1.ownsRow b 5 1 v' (done ++ [d]).length ((done ++ [d]).map digV) ∧ Below b w w1 := by
  refine ⟨by simpa [digV] using hown', hb.grown hgrow hs fun k hk => (hown.lt k hk).1⟩

theorem rev_text {w : World} {B g cap n0 : Nat} {done : List Nat} (h : w.ownsRow B 5 1 (.slice (some ⟨g, 0, none⟩) done.length cap) done.length (done.map digV).reverse) (he : done.reverse.map UInt8.ofNat = Lib.decDigits n0) :
    (convert 22 9 (.slice (some ⟨g, 0, none⟩) done.length cap)).run Try.prog w = .ok (.string ⟨(Lib.decDigits n0).toArray⟩) w := by
  have hc := run_convert_bytes_arg (P := Try.prog) w 22 5 Try.underlying22 Try.underlying5 g 0 done.length cap (done.reverse.map fun d : Nat => (d : Int)) (by simp) (fun i hi => by
    rw [Nat.zero_add, h.cellAt i (by omega), ← List.map_reverse, List.getElem?_map, List.getD_eq_getElem?_getD, List.getElem?_map, List.getElem?_eq_getElem (by simp; omega)]
    rfl) 9 Try.underlying9
  rw [hc]
  congr 2
  unfold strOfNums
  congr 1
  rw [← he]
  congr 1
  rw [List.map_map]
  apply List.map_congr_left
  intro d _
  simp

set_option maxHeartbeats 1600000 in
theorem implText_pos (v : Value) (zs : List Int) (w : World) (hv : RowI w v zs) (hn : zs.length ≤ 140737488351232) (hok : okL zs) (hpos : 0 < num zs) :
    Calls Try.prog 22 #[v] w fun e w' => e = .returned (.string ⟨(Lib.decDigits (num zs)).toArray⟩) ∧ Below w.heap.size w w' := by
  obtain ⟨i0, hi, hz0, hz1, hz2⟩ := info_parts (show (Try.prog.info? 5).map (fun i => (i.zero, i.size, i.bytes)) = some (some (.int .u8 0), 1, 1) by kernel_rfl)
  have c1 := limbs_of v zs w hv hn
  rw [decide_eq_true hok] at c1
  have hpv : pv zs = num zs := if_pos hok
  rw [hpv] at c1
  have ht := okL_num_lt zs hok
  generalize num zs = n0 at c1 hpos ht
  have HT : Hid (n0 < top) := ht
  have lm := fit_len n0
  have hg := guard_limbs
  have he : ∀ W, (Op.equalIn 10000 42 (.agg (arr (fit n0))) (.agg #[Value.int .i64 0, Value.int .i64 0, Value.int .i64 0, Value.int .i64 0, Value.int .i64 0, Value.int .i64 0, Value.int .i64 0, Value.int .i64 0, Value.int .i64 0, Value.int .i64 0, Value.int .i64 0, Value.int .i64 0, Value.int .i64 0, Value.int .i64 0, Value.int .i64 0, Value.int .i64 0])).run Try.prog W = .ok false W := fun W => by
    rw [arr_eql0 _ lm, fit_eq0 n0 ht, decide_eq_false (by omega)]
  unfold fitV at c1
  clear hpv hok
  go_enter Try.func22, Try.ntmps22
  go_wp2_with (first | (go_at_call 26; refine c1.mono ?_; clear c1; rintro e w1 ⟨rfl, hb1⟩; have A := arr_1 42 w1 (fit n0)) | (with_reducible refine wp_arr_init rfl _ _ rfl ?_; refine ⟨_, rfl, by simp, fit n0, rfl, lm, ?_⟩) | (with_reducible refine wp_arr_load rfl _ rfl ?_; refine ⟨w1.heap.size, rfl, fit n0, A.1, lm, ?_⟩))
  obtain ⟨A0, B0⟩ := A
  have b0 : Below w.heap.size w (w1.alloc (.cells (arr (fit n0)) 42)) := hb1.trans (B0.mono hb1.size)
  obtain ⟨B, hB⟩ : ∃ B, (w1.alloc (.cells (arr (fit n0)) 42)).heap.size = B := ⟨_, rfl⟩
  have hBx : w1.heap.size < B := by rw [← hB]; simp
  have hBw : w.heap.size ≤ B := by have := hb1.size; omega
  have hww1 : w.heap.size ≤ w1.heap.size := hb1.size
  clear he B0 hb1
  go_loopw [5] (fun dig wr => ∃ (cur : Nat) (done : List Nat), cur < top ∧ Hid (cur < 10 ^ (116 - done.length)) ∧ done.length ≤ 116 ∧ Hid (ds cur ++ done.reverse.map UInt8.ofNat = ds n0) ∧
      wr.ownsRow B 5 1 dig done.length (done.map digV) ∧ B ≤ wr.heap.size ∧ Arr wr w1.heap.size (fit cur) ∧ Below w.heap.size w wr) (fun dig _ => 117 - lenOf dig)
  case atStart => exact ⟨n0, [], ht, Nat.lt_of_lt_of_le ht top_lt, by simp, (by show _ = _; simp), World.ownsRow_nil _ _ _ _, Nat.le_of_eq hB.symm, A0, b0⟩
  case round =>
    obtain ⟨cur, done, hct, hpw, hdl, hE, hown, hBs, Ax, hb⟩ := hrel
    have HLO : Hid (lenOf u5 = done.length) := own_lenOf hown
    clear A0 b0 hB
    have lc := fit_len cur
    by_cases hlt : 0 < cur
    · have he : ∀ W, (Op.equalIn 10000 42 (.agg (arr (fit cur))) (.agg #[Value.int .i64 0, Value.int .i64 0, Value.int .i64 0, Value.int .i64 0, Value.int .i64 0, Value.int .i64 0, Value.int .i64 0, Value.int .i64 0, Value.int .i64 0, Value.int .i64 0, Value.int .i64 0, Value.int .i64 0, Value.int .i64 0, Value.int .i64 0, Value.int .i64 0, Value.int .i64 0])).run Try.prog W = .ok false W := fun W => by
        rw [arr_eql0 _ lc, fit_eq0 cur hct, decide_eq_false (by omega)]
      have c2 := by_any cur 10 wr hct (by decide) (by decide)
      have HST : Hid (ds (cur / 10) ++ (done ++ [48 + cur % 10]).reverse.map UInt8.ofNat = ds n0) := ds_step hlt hE.out
      have HTE := tenth hlt hpw.out
      have hk116 := HTE.1
      have HPW : Hid (cur / 10 < 10 ^ (116 - (done.length + 1))) := HTE.2
      have hr9 : cur % 10 ≤ 9 := by omega
      have hqt : cur / 10 < top := by omega
      have lq := fit_len (cur / 10)
      clear hE hpw HTE
      unfold fitV at c2
      generalize cur / 10 = q at c2 HST HPW hqt lq
      generalize cur % 10 = r at c2 HST hr9
      go_wp2_with (first | (with_reducible refine wp_arr_load rfl _ rfl ?_; refine ⟨w1.heap.size, rfl, fit cur, Ax, lc, ?_⟩) | (go_at_call 40; refine c2.mono ?_; clear c2; rintro e w2 ⟨rfl, hb2⟩) | (with_reducible refine wp_arr_init rfl _ _ rfl ?_; refine ⟨_, rfl, by simp, fit q, rfl, lq, ?_⟩) | (at_builtin; refine wpList_append_own _ rfl _ _ 22 rfl B 5 i0 (.int .u8 0) 1 1 Try.underlying22 hi hz0 hz1 hz2 rfl (by decide) _ _ _ rfl (((own_below hown hb2).alloc _).alloc _) ⟨w2.heap.size + 1, 0, none⟩ 1 1 [_] rfl rfl (newc2 _ _ _ _) (ints_oneCell .u8 [_]) (by unfold maxLen; omega) (by omega) (by have := hb2.size; simp; omega) ?_))
      intro v' w4 hown' hgrow _
      have hs2 := hb2.size
      have hob : ∀ k, u5.ownBlock = some k → B ≤ k ∧ k < wr.heap.size := fun k hk => hown.lt k hk
      have hrr : (48 : Int) + r = ((48 + r : Nat) : Int) := by omega
      rw [hrr] at hown'
      have hR := step_dig (b := B) (w := ((w2.alloc (.cells (arr (fit q)) 42)).alloc (.cells #[.int .u8 ((48 : Int) + r)] 5))) (by simp; omega) (Below.refl _ _) (((own_below hown hb2).alloc _).alloc _) hown' hgrow
      have Ax4 : Arr w4 w1.heap.size (fit cur) := (((Ax.below hb2).alloc _).alloc _).grown hgrow (fun e => by have := (hob _ e).1; omega)
      have Aq4 : Arr w4 w2.heap.size (fit q) := ((ArrT.new 42 w2 (fit q)).alloc _).grown hgrow (fun e => by have := (hob _ e).2; omega)
      have hb4 : Below w.heap.size w w4 := (((hb.trans (hb2.mono hb.size)).alloc (by have := hb.size; omega) _).alloc (by have := hb.size; simp; omega) _).grown hgrow (by have := hb.size; simp; omega) (fun k hk => by have := (hob k hk).1; omega)
      have hs4 : B ≤ w4.heap.size := by have := hgrow.size; simp at this; omega
      have HR : Hid (w4.ownsRow B 5 1 v' (done ++ [48 + r]).length ((done ++ [48 + r]).map digV)) := hR.1
      clear hown' hgrow hown hrr hR hob hb2 hb Ax hs2 he
      go_wp2_with (first | (with_reducible refine wp_arr_load rfl _ rfl ?_; refine ⟨w2.heap.size, rfl, fit q, Aq4, lq, ?_⟩) | (with_reducible refine wp_arr_store rfl _ _ rfl ?_; refine ⟨w1.heap.size, rfl, fit q, rfl, lq, fit cur, Ax4, lc, ?_⟩))
      have hb5 : Below w.heap.size w (w4.setRow w1.heap.size (arr (fit q))) := below_setRow hb4 (by omega) _
      have Ax5 := Ax4.setRow (fit q)
      have hR5 : (w4.setRow w1.heap.size (arr (fit q))).ownsRow B 5 1 v' (done ++ [48 + r]).length ((done ++ [48 + r]).map digV) := own_setRow HR.out hBx _
      have hL5 := own_lenOf hR5
      simp only [Act.put, List.setIfInBounds_toArray, List.set_cons_zero, List.set_cons_succ]
      go_roundw
      case rel => exact ⟨q, done ++ [48 + r], hqt, (by show _ < _; rw [List.length_append]; exact HPW.out), by simp; omega, HST, hR5, by simp [World.setRow]; exact hs4, Ax5, hb5⟩
      case measure => rw [hL5, HLO.out]; simp; omega
    · obtain rfl : cur = 0 := by omega
      have he : ∀ W, (Op.equalIn 10000 42 (.agg (arr (fit 0))) (.agg #[Value.int .i64 0, Value.int .i64 0, Value.int .i64 0, Value.int .i64 0, Value.int .i64 0, Value.int .i64 0, Value.int .i64 0, Value.int .i64 0, Value.int .i64 0, Value.int .i64 0, Value.int .i64 0, Value.int .i64 0, Value.int .i64 0, Value.int .i64 0, Value.int .i64 0, Value.int .i64 0])).run Try.prog W = .ok true W := fun W => by
        rw [arr_eql0 _ lc, decide_eq_true rfl]
      have hE2 := hE.out
      rw [ds_zero, List.nil_append] at hE2
      have hdpos : 0 < done.length := by
        rcases Nat.eq_zero_or_pos done.length with h0 | h0
        · exfalso
          have e := List.length_eq_zero_iff.1 h0
          rw [e, ds_of n0 hpos] at hE2
          obtain ⟨c, rr, hcr, _⟩ : ∃ c rr, Lib.decDigits n0 = c :: rr ∧ True := by
            have hlen : 0 < (Lib.decDigits n0).length := by
              rw [Lib.decDigits]; split <;> simp
            cases hq : Lib.decDigits n0 with
            | nil => rw [hq] at hlen; simp at hlen
            | cons c rr => exact ⟨c, rr, rfl, trivial⟩
          rw [hcr] at hE2
          simp at hE2
        · exact h0
      rw [ds_of n0 hpos] at hE2
      have HE2 : Hid (done.reverse.map UInt8.ofNat = Lib.decDigits n0) := hE2
      obtain ⟨g, cap, cur, hout, hgb, hcur, hcap, hr⟩ : ∃ g cap cur, _ ∧ _ ∧ _ ∧ _ ∧ _ := by
        rcases hown.2 with ⟨_, h0⟩ | h
        · omega
        · exact h
      subst hout
      have c3 := rev_pos g done.length cap B (done.map digV) wr (by omega) hown (fun m hm => ⟨((done.getD m 0 : Nat) : Int), by rw [List.getElem?_map, List.getD_eq_getElem?_getD, List.getElem?_eq_getElem hm]; rfl⟩)
      have hbs := hb.size
      clear hE hE2 hpw hcur hcap hr
      go_wp2_with (first | (with_reducible refine wp_arr_load rfl _ rfl ?_; refine ⟨w1.heap.size, rfl, fit 0, Ax, lc, ?_⟩) | (go_at_call 43; refine c3.mono ?_; clear c3; rintro e w5 ⟨⟨vr, rfl⟩, ho5, hg5⟩; have hcv := rev_text ho5 HE2.out))
      go_ret
      refine ⟨rfl, hb.grown hg5 hb.size (fun k hk => by cases hk; omega)⟩

set_option maxHeartbeats 800000 in
theorem implText_any (v : Value) (zs : List Int) (w : World) (hv : RowI w v zs) (hn : zs.length ≤ 140737488351232) :
    Calls Try.prog 22 #[v] w fun e w' => e = .returned (.string ⟨(txt zs).toArray⟩) ∧ Below w.heap.size w w' := by
  by_cases hok : okL zs
  · have ht : txt zs = Lib.decDigits (num zs) := if_pos hok
    rw [ht]
    rcases Nat.eq_zero_or_pos (num zs) with h0 | h0
    · rw [h0, dec0]
      have c1 := limbs_of v zs w hv hn
      rw [decide_eq_true hok, show pv zs = 0 by unfold pv; rw [if_pos hok]; exact h0] at c1
      have lm := fit_len 0
      have hg := guard_limbs
      have he : ∀ W, (Op.equalIn 10000 42 (.agg (arr (fit 0))) (.agg #[Value.int .i64 0, Value.int .i64 0, Value.int .i64 0, Value.int .i64 0, Value.int .i64 0, Value.int .i64 0, Value.int .i64 0, Value.int .i64 0, Value.int .i64 0, Value.int .i64 0, Value.int .i64 0, Value.int .i64 0, Value.int .i64 0, Value.int .i64 0, Value.int .i64 0, Value.int .i64 0])).run Try.prog W = .ok true W := fun W => by
        rw [arr_eql0 _ lm, decide_eq_true rfl]
      unfold fitV at c1
      clear hok h0 ht
      go_enter Try.func22, Try.ntmps22
      go_wp2_with (first | (go_at_call 26; refine c1.mono ?_; clear c1; rintro e w1 ⟨rfl, hb1⟩; have A := arr_1 42 w1 (fit 0)) | (with_reducible refine wp_arr_init rfl _ _ rfl ?_; refine ⟨_, rfl, by simp, fit 0, rfl, lm, ?_⟩) | (with_reducible refine wp_arr_load rfl _ rfl ?_; refine ⟨w1.heap.size, rfl, fit 0, A.1, lm, ?_⟩))
      go_ret
      exact ⟨rfl, hb1.trans (A.2.mono hb1.size)⟩
    · exact implText_pos v zs w hv hn hok h0
  · have ht : txt zs = [] := if_neg hok
    rw [ht]
    have c1 := limbs_of v zs w hv hn
    rw [decide_eq_false hok] at c1
    generalize pv zs = m at c1
    have lm := fit_len m
    unfold fitV at c1
    clear hok ht
    go_enter Try.func22, Try.ntmps22
    go_wp2_with (first | (go_at_call 26; refine c1.mono ?_; clear c1; rintro e w1 ⟨rfl, hb1⟩; have A := arr_1 42 w1 (fit m)) | (with_reducible refine wp_arr_init rfl _ _ rfl ?_; refine ⟨_, rfl, by simp, fit m, rfl, lm, ?_⟩))
    go_ret
    exact ⟨rfl, hb1.trans (A.2.mono hb1.size)⟩
end Go.Proofs.Ytobnghmadoejjaa
