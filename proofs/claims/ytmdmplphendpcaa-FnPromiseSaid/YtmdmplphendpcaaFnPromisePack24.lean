/- Texts of this claim, put together: part 24. -/
import Derived.Test.YtmdmplphendpcaaFnPromisePack23
import Derived.Test.YtmdmplphendpcaaRows
import Derived.WalkKit
import Derived.ProofKit
import Derived.OpenShut
import Derived.Test.YtmdmplphendpcaaFnPromisePack4
import Derived.Laws.AppendOwnNone
import Derived.Test.YtmdmplphendpcaaFnPromisePack9
/- Draws of chapter 8: DrawPromise. -/
namespace Go.Proofs.Ytmdmplphendpcaa
open Go.RowKit
set_option maxRecDepth 100000
set_option linter.unusedSimpArgs false
set_option maxHeartbeats 1600000 in
theorem drawPromise_any (a : Option Addr) (len cap : Nat) (zs : List Int) (w : World) (hr : IsRow .u8 w a len cap zs) (hn : len ≤ 1048576) :
    Calls Try.prog 17 #[.slice a len cap] w fun e w' => ∃ vs d ve x, e = .returned (.tuple #[vs, ve]) ∧ OwnS w.heap.size w' vs d ∧ tinyS d ∧ OwnSt w.heap.size w' ve x ∧ tinySt 20 x ∧ Below w.heap.size w w' := by
  obtain ⟨R1, Q1, B1⟩ := blk_2 27 31 w #[.slice none 0 0, .slice none 0 0] #[.slice none 0 0, .slice none 0 0]
  have e1 := drawStatsOk_any a len cap zs ((w.alloc (.cells #[.slice none 0 0, .slice none 0 0] 27)).alloc (.cells #[.slice none 0 0, .slice none 0 0] 31)) (hr.later B1) hn
  clear hr
  go_enter Try.func17, Try.ntmps17
  go_wp2_with fail
  refine e1.mono ?_
  clear e1
  rintro e w2 ⟨vs, d, ve, x, rfl, os, htn, oE, hxl, hb2⟩
  have R2 := R1.below hb2
  have Q2 := Q1.below hb2
  have B2 := B1.trans (hb2.mono B1.size)
  have os2 := os.baseX (b' := w.heap.size + 2) (by simp)
  have oE2 := oE.base (b' := w.heap.size + 2) (by simp)
  clear R1 Q1 B1 hb2 os oE
  obtain ⟨y1, y2, rfl, rr1, rr2⟩ := id os2.at
  obtain ⟨oa, ka, rfl, -, -⟩ := id rr1
  obtain ⟨oc, kc, rfl, -, -⟩ := id rr2
  obtain ⟨ob, kb, ob2, kb2, rfl⟩ := oE2.form
  clear rr1 rr2
  have R3 := R2.setRow #[.slice oa d.attrs.length ka, .slice oc d.classes.length kc]
  have Q3 := Q2.setRow_other #[.slice oa d.attrs.length ka, .slice oc d.classes.length kc] (show w.heap.size + 1 ≠ w.heap.size by omega)
  have os3 := os2.rowX #[.slice oa d.attrs.length ka, .slice oc d.classes.length kc] (show w.heap.size < w.heap.size + 2 by omega)
  have oE3 := oE2.rowX8 #[.slice oa d.attrs.length ka, .slice oc d.classes.length kc] (show w.heap.size < _ by omega)
  have B3 := below_row B2 (Nat.le_refl _) #[.slice oa d.attrs.length ka, .slice oc d.classes.length kc]
  have R4 := R3.setRow_other #[.slice ob x.totals.length kb, .slice ob2 x.cells.length kb2] (show w.heap.size ≠ w.heap.size + 1 by omega)
  have Q4 := Q3.setRow #[.slice ob x.totals.length kb, .slice ob2 x.cells.length kb2]
  have os4 := os3.rowX #[.slice ob x.totals.length kb, .slice ob2 x.cells.length kb2] (show w.heap.size + 1 < w.heap.size + 2 by omega)
  have oE4 := oE3.rowX8 #[.slice ob x.totals.length kb, .slice ob2 x.cells.length kb2] (show (w.heap.size + 1) < _ by omega)
  have B4 := below_row B3 (show w.heap.size ≤ w.heap.size + 1 by omega) #[.slice ob x.totals.length kb, .slice ob2 x.cells.length kb2]
  clear os2 os3 oE2 oE3 B2 B3
  go_wp2_with (first | (with_reducible refine wp_sc_store rfl _ _ rfl ?_; refine ⟨_, rfl, _, _, _, _, _, _, rfl, _, _, R2, ?_⟩) | (with_reducible refine wp_st_store rfl _ _ rfl ?_; refine ⟨_, rfl, _, _, _, _, _, _, rfl, _, _, Q3, ?_⟩))
  exact bodyPost_ret (res_ss8 rfl _ _ _ _ _ _ _ _ rfl rfl R4 Q4) rfl ⟨_, d, _, x, rfl, os4.baseX (by omega), htn, oE4.base (by omega), hxl, B4⟩
end Go.Proofs.Ytmdmplphendpcaa
/- Whether a code is too great. -/
namespace Go.Proofs.Ytmdmplphendpcaa
open Go.RowKit
set_option maxRecDepth 100000

theorem big_any (a : Option Addr) (len cap : Nat) (w : World) (hn : len ≤ 9223372036854775807) : Calls Try.prog 9 #[.slice a len cap] w fun e w' => e = .returned (.bool (decide (1048576 < len))) ∧ w' = w := by
  by_cases h : 1048576 < len
  all_goals
    go_enter Try.func9, Try.ntmps9
    go_wp2
    go_ret
    exact ⟨by simp; omega, rfl⟩
end Go.Proofs.Ytmdmplphendpcaa
/- The place of the greatest number, by the program. -/
namespace Go.Proofs.Ytmdmplphendpcaa
open Go.RowKit
set_option maxRecDepth 100000
set_option linter.unusedSimpArgs false
set_option maxHeartbeats 800000 in
theorem implTop_any (v : Value) (l : List Int) (w : World) (h : RowI w v l) (hn : l.length ≤ 1099511627776) :
    Calls Try.prog 21 #[v] w fun e w' => e = .returned (.int .i64 (topOf l)) ∧ Below w.heap.size w w' := by
  obtain ⟨oa, cap, rfl, hc, hr⟩ := h
  have HR : Hid (0 < l.length → ∃ g o, oa = some ⟨g, o, none⟩ ∧ g < w.heap.size ∧ ∀ j, j < l.length → w.cell? ⟨g, o + j, none⟩ = some (.int .i64 (l.getD j 0))) := hr
  clear hr
  go_enter Try.func21, Try.ntmps21
  go_wp2
  go_loopw [3, 8] (fun a i wr => ∃ (k : Nat) (p : Int), i = .int .i64 k ∧ a = .int .i64 p ∧ k ≤ l.length ∧ -1 ≤ p ∧ p < (k : Int) ∧ Hid (topOf l = topFrom l p k (l.length - k)) ∧ wr = w) (fun _ i _ => l.length - (intOf i).toNat)
  case atStart => exact ⟨0, -1, rfl, rfl, by omega, by omega, by omega, rfl, rfl⟩
  case round =>
    obtain ⟨k, p, rfl, rfl, hk, hp0, hp1, HT, rfl⟩ := hrel
    by_cases hlt : k < l.length
    · obtain ⟨g, o, rfl, hg, hj⟩ := HR.out (by omega)
      have ha := hj k hlt
      by_cases hpn : p < 0
      · have HN : Hid (topOf l = topFrom l (k : Int) (k + 1) (l.length - (k + 1))) := by rw [HT.out, topFrom_step hlt, if_pos (.inl hpn)]; rfl
        clear hj
        go_wp2
        go_roundw
        case rel => exact ⟨k + 1, k, by go_num, rfl, by omega, by omega, by omega, HN, trivial⟩
        case measure => simp [intOf]; omega
      · obtain ⟨m, rfl⟩ := Int.eq_ofNat_of_zero_le (show 0 ≤ p by omega)
        have hb := hj m (by omega)
        have hml : m < l.length := by omega
        clear hj
        by_cases hgt : l.getD m 0 < l.getD k 0
        · have HN : Hid (topOf l = topFrom l (k : Int) (k + 1) (l.length - (k + 1))) := by rw [HT.out, topFrom_step hlt, if_pos (.inr hgt)]; rfl
          generalize l.getD m 0 = y at hb hgt
          generalize l.getD k 0 = x at ha hgt
          go_wp2
          go_roundw
          case rel => exact ⟨k + 1, k, by go_num, rfl, by omega, by omega, by omega, HN, trivial⟩
          case measure => simp [intOf]; omega
        · have HN : Hid (topOf l = topFrom l (m : Int) (k + 1) (l.length - (k + 1))) := by rw [HT.out, topFrom_step hlt, if_neg (fun h => h.elim (fun h => by omega) hgt)]; rfl
          generalize l.getD m 0 = y at hb hgt
          generalize l.getD k 0 = x at ha hgt
          go_wp2
          go_roundw
          case rel => exact ⟨k + 1, m, by go_num, rfl, by omega, by omega, by omega, HN, trivial⟩
          case measure => simp [intOf]; omega
    · have HN : Hid (topOf l = p) := by rw [HT.out, show l.length - k = 0 by omega]; rfl
      go_wp2
      go_ret
      exact ⟨by rw [HN.out]; rfl, Below.refl _ _⟩
end Go.Proofs.Ytmdmplphendpcaa
/- Whether counts are thin; a list copied, by the program. -/
namespace Go.Proofs.Ytmdmplphendpcaa
open Go.RowKit
set_option maxRecDepth 100000
set_option linter.unusedSimpArgs false
theorem thin_any (v : Value) (t : StatsD) (w : World) (h : StatsAt w v t) :
    Calls Try.prog 56 #[v] w fun e w' => e = .returned (.bool (decide (t.cells.length = 0))) ∧ Below w.heap.size w w' := by
  obtain ⟨vt, vc, rfl, -, hv⟩ := h
  obtain ⟨ov, cv, rfl, -, -⟩ := hv
  by_cases h0 : t.cells.length = 0
  · rw [decide_eq_true h0, h0]
    clear h0
    go_enter Try.func56, Try.ntmps56
    go_wp2
    go_ret
    exact ⟨rfl, (Below.refl _ _).alloc (Nat.le_refl _) _⟩
  · rw [decide_eq_false h0]
    have hq : ((t.cells.length : Int) == 0) = false := by simp; exact fun e => h0 (by simp [e])
    go_enter Try.func56, Try.ntmps56
    go_wp2
    go_ret
    exact ⟨rfl, (Below.refl _ _).alloc (Nat.le_refl _) _⟩
set_option maxHeartbeats 400000 in
theorem listCopy_any (v : Value) (zs : List Int) (w : World) (h : RowI w v zs) (hn : zs.length ≤ 1099511627776) :
    Calls Try.prog 61 #[v] w fun e w' => ∃ v', e = .returned v' ∧ OwnI w w' v' zs := by
  obtain ⟨i0, hi0, hz0, hz1, hz2⟩ := info_parts intInfo
  obtain ⟨oa, cap, rfl, hc, hr⟩ := h
  by_cases h0 : zs.length = 0
  · obtain rfl : zs = [] := List.length_eq_zero_iff.1 h0
    clear hr
    cases oa with
    | none =>
      go_enter Try.func61, Try.ntmps61
      go_wp2
      go_ret
      exact ⟨_, rfl, World.ownsRow_nil _ _ _ _, Below.refl _ _⟩
    | some ad =>
      go_enter Try.func61, Try.ntmps61
      go_wp2
      go_ret
      exact ⟨_, rfl, World.ownsRow_nil _ _ _ _, Below.refl _ _⟩
  · obtain ⟨ga, o, rfl, hg, hj⟩ := hr (by omega)
    clear hr
    have HN : Hid (∀ (j : Nat) (u : Value), (zs.map (Value.int .i64))[j]? = some u → w.cell? ((⟨ga, o, none⟩ : Addr).add j) = some u) := by
      have := row_news (k := zs.length) (w := w) (fun j hlt => hj j hlt)
      rw [List.take_length] at this
      exact this
    clear hj
    go_enter Try.func61, Try.ntmps61
    go_wp2_with (at_builtin; refine wpList_append_own _ rfl _ _ 28 rfl w.heap.size 3 i0 (.int .i64 0) 1 8 Try.underlying28 hi0 hz0 hz1 hz2 rfl (by decide) _ _ _ rfl (World.ownsRow_nil _ _ _ _) ⟨ga, o, none⟩ zs.length cap (zs.map (Value.int .i64)) rfl (by simp) HN.out (ints_oneCell .i64 _) (by unfold maxLen; omega) (by omega) (by omega) ?_)
    intro v1 w1 ho1 hg1 hnil1
    have hb1 : Below w.heap.size w w1 := (Below.refl _ _).grown hg1 (by omega) (fun k hk => by cases hk)
    clear hg1 hnil1 HN
    go_wp2
    go_ret
    exact ⟨_, rfl, ho1, hb1⟩
end Go.Proofs.Ytmdmplphendpcaa
