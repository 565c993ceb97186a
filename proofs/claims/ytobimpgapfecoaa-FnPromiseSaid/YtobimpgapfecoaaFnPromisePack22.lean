/- Texts of this claim, put together: part 22. -/
import Derived.Test.YtobimpgapfecoaaRows
import Derived.WalkKit
import Derived.ProofKit
import Derived.OpenShut
import Derived.Test.YtobimpgapfecoaaFnPromisePack4
import Derived.Laws.AppendOwnNone
import Derived.Test.YtobimpgapfecoaaFnPromisePack9
import Derived.Test.YtobimpgapfecoaaFnPromisePack7
/- Whether a code is too great. -/
namespace Go.Proofs.Ytobimpgapfecoaa
open Go.RowKit
set_option maxRecDepth 100000

theorem big_any (a : Option Addr) (len cap : Nat) (w : World) (hn : len ≤ 9223372036854775807) : Calls Try.prog 9 #[.slice a len cap] w fun e w' => e = .returned (.bool (decide (1048576 < len))) ∧ w' = w := by
  by_cases h : 1048576 < len
  all_goals
    go_enter Try.func9, Try.ntmps9
    go_wp2
    go_ret
    exact ⟨by simp; omega, rfl⟩
end Go.Proofs.Ytobimpgapfecoaa
/- The place of the greatest number, by the program. -/
namespace Go.Proofs.Ytobimpgapfecoaa
open Go.RowKit
set_option maxRecDepth 100000
set_option linter.unusedSimpArgs false
set_option maxHeartbeats 800000 in
theorem implTop_any (v : Value) (l : List Int) (w : World) (h : RowI w v l) (hn : l.length ≤ 1099511627776) :
    Calls Try.prog 21 #[v] w fun e w' => e = .returned (.int .i64 (topOf l)) ∧ Below w.heap.size w w' := by
  obtain ⟨oa, cap, rfl, hc, hr⟩ := h
  have HR : Hid (0 < l.length → ∃ g o, oa = some ⟨g, o, none⟩ ∧ g < w.heap.size ∧ ∀ j, j < l.length → w.cell? ⟨g, o + j, none⟩ = some (.int .i64 (l.getD j 0))) := hr
  clear hr
  go_enter Try.func21, Try.ntmps21
  go_wp2
  go_loopw [3, 8] (fun a i wr => ∃ (k : Nat) (p : Int), i = .int .i64 k ∧ a = .int .i64 p ∧ k ≤ l.length ∧ -1 ≤ p ∧ p < (k : Int) ∧ Hid (topOf l = topFrom l p k (l.length - k)) ∧ wr = w) (fun _ i _ => l.length - (intOf i).toNat)
  case atStart => exact ⟨0, -1, rfl, rfl, by omega, by omega, by omega, rfl, rfl⟩
  case round =>
    obtain ⟨k, p, rfl, rfl, hk, hp0, hp1, HT, rfl⟩ := hrel
    by_cases hlt : k < l.length
    · obtain ⟨g, o, rfl, hg, hj⟩ := HR.out (by omega)
      have ha := hj k hlt
      by_cases hpn : p < 0
      · have HN : Hid (topOf l = topFrom l (k : Int) (k + 1) (l.length - (k + 1))) := by rw [HT.out, topFrom_step hlt, if_pos (.inl hpn)]; rfl
        clear hj
        go_wp2
        go_roundw
        case rel => exact ⟨k + 1, k, by go_num, rfl, by omega, by omega, by omega, HN, trivial⟩
        case measure => simp [intOf]; omega
      · obtain ⟨m, rfl⟩ := Int.eq_ofNat_of_zero_le (show 0 ≤ p by omega)
        have hb := hj m (by omega)
        have hml : m < l.length := by omega
        clear hj
        by_cases hgt : l.getD m 0 < l.getD k 0
        · have HN : Hid (topOf l = topFrom l (k : Int) (k + 1) (l.length - (k + 1))) := by rw [HT.out, topFrom_step hlt, if_pos (.inr hgt)]; rfl
          generalize l.getD m 0 = y at hb hgt
          generalize l.getD k 0 = x at ha hgt
          go_wp2
          go_roundw
          case rel => exact ⟨k + 1, k, by go_num, rfl, by omega, by omega, by omega, HN, trivial⟩
          case measure => simp [intOf]; omega
        · have HN : Hid (topOf l = topFrom l (m : Int) (k + 1) (l.length - (k + 1))) := by rw [HT.out, topFrom_step hlt, if_neg (fun h => h.elim (fun h => by omega) hgt)]; rfl
          generalize l.getD m 0 = y at hb hgt
          generalize l.getD k 0 = x at ha hgt
          go_wp2
          go_roundw
          case rel => exact ⟨k + 1, m, by go_num, rfl, by omega, by omega, by omega, HN, trivial⟩
          case measure => simp [intOf]; omega
    · have HN : Hid (topOf l = p) := by rw [HT.out, show l.length - k = 0 by omega]; rfl
      go_wp2
      go_ret
      exact ⟨by rw [HN.out]; rfl, Below.refl _ _⟩
end Go.Proofs.Ytobimpgapfecoaa
/- Whether counts are thin; a list copied, by the program. -/
namespace Go.Proofs.Ytobimpgapfecoaa
open Go.RowKit
set_option maxRecDepth 100000
set_option linter.unusedSimpArgs false
theorem thin_any (v : Value) (t : StatsD) (w : World) (h : StatsAt w v t) :
    Calls Try.prog 60 #[v] w fun e w' => e = .returned (.bool (decide (t.cells.length = 0))) ∧ Below w.heap.size w w' := by
  obtain ⟨vt, vc, rfl, -, hv⟩ := h
  obtain ⟨ov, cv, rfl, -, -⟩ := hv
  by_cases h0 : t.cells.length = 0
  · rw [decide_eq_true h0, h0]
    clear h0
    go_enter Try.func60, Try.ntmps60
    go_wp2
    go_ret
    exact ⟨rfl, (Below.refl _ _).alloc (Nat.le_refl _) _⟩
  · rw [decide_eq_false h0]
    have hq : ((t.cells.length : Int) == 0) = false := by simp; exact fun e => h0 (by simp [e])
    go_enter Try.func60, Try.ntmps60
    go_wp2
    go_ret
    exact ⟨rfl, (Below.refl _ _).alloc (Nat.le_refl _) _⟩
set_option maxHeartbeats 400000 in
theorem listCopy_any (v : Value) (zs : List Int) (w : World) (h : RowI w v zs) (hn : zs.length ≤ 1099511627776) :
    Calls Try.prog 64 #[v] w fun e w' => ∃ v', e = .returned v' ∧ OwnI w w' v' zs := by
  obtain ⟨i0, hi0, hz0, hz1, hz2⟩ := info_parts intInfo
  obtain ⟨oa, cap, rfl, hc, hr⟩ := h
  by_cases h0 : zs.length = 0
  · obtain rfl : zs = [] := List.length_eq_zero_iff.1 h0
    clear hr
    cases oa with
    | none =>
      go_enter Try.func64, Try.ntmps64
      go_wp2
      go_ret
      exact ⟨_, rfl, World.ownsRow_nil _ _ _ _, Below.refl _ _⟩
    | some ad =>
      go_enter Try.func64, Try.ntmps64
      go_wp2
      go_ret
      exact ⟨_, rfl, World.ownsRow_nil _ _ _ _, Below.refl _ _⟩
  · obtain ⟨ga, o, rfl, hg, hj⟩ := hr (by omega)
    clear hr
    have HN : Hid (∀ (j : Nat) (u : Value), (zs.map (Value.int .i64))[j]? = some u → w.cell? ((⟨ga, o, none⟩ : Addr).add j) = some u) := by
      have := row_news (k := zs.length) (w := w) (fun j hlt => hj j hlt)
      rw [List.take_length] at this
      exact this
    clear hj
    go_enter Try.func64, Try.ntmps64
    go_wp2_with (at_builtin; refine wpList_append_own _ rfl _ _ 28 rfl w.heap.size 3 i0 (.int .i64 0) 1 8 Try.underlying28 hi0 hz0 hz1 hz2 rfl (by decide) _ _ _ rfl (World.ownsRow_nil _ _ _ _) ⟨ga, o, none⟩ zs.length cap (zs.map (Value.int .i64)) rfl (by simp) HN.out (ints_oneCell .i64 _) (by unfold maxLen; omega) (by omega) (by omega) ?_)
    intro v1 w1 ho1 hg1 hnil1
    have hb1 : Below w.heap.size w w1 := (Below.refl _ _).grown hg1 (by omega) (fun k hk => by cases hk)
    clear hg1 hnil1 HN
    go_wp2
    go_ret
    exact ⟨_, rfl, ho1, hb1⟩
end Go.Proofs.Ytobimpgapfecoaa
/- Cells of one attribute held against the totals, by the program. -/
namespace Go.Proofs.Ytobimpgapfecoaa
open Go.RowKit
set_option maxRecDepth 100000
set_option linter.unusedSimpArgs false
/-- What is left of each class behind k cells. -/
def leftL (c T : List Int) (m k : Nat) : List Int := (List.range m).map fun cls => T.getD cls 0 - part c m cls k
theorem leftL_len (c T : List Int) (m k : Nat) : (leftL c T m k).length = m := by simp [leftL]
theorem leftL_at {c T : List Int} {m k j : Nat} (h : j < m) : (leftL c T m k).getD j 0 = T.getD j 0 - part c m j k := by
  unfold leftL
  rw [List.getD_eq_getElem?_getD, List.getElem?_map, List.getElem?_range h]; rfl
theorem leftL_start {c T : List Int} {m : Nat} (h : T.length = m) : leftL c T m 0 = T := by
  apply List.ext_getElem (by rw [leftL_len, h])
  intro i h1 h2
  have := leftL_at (c := c) (T := T) (k := 0) (show i < m by omega)
  rw [List.getD_eq_getElem?_getD, List.getElem?_eq_getElem h1, List.getD_eq_getElem?_getD, List.getElem?_eq_getElem h2] at this
  simpa [part] using this
theorem leftL_step {c T : List Int} {m k : Nat} (hm : 0 < m) : leftL c T m (k + 1) = (leftL c T m k).set (k % m) ((leftL c T m k).getD (k % m) 0 - c.getD k 0) := by
  have hk : k % m < m := Nat.mod_lt _ hm
  apply List.ext_getElem (by simp [leftL_len])
  intro i h1 h2
  have hi : i < m := by rw [leftL_len] at h1; exact h1
  have e1 := leftL_at (c := c) (T := T) (k := k + 1) hi
  rw [List.getD_eq_getElem?_getD, List.getElem?_eq_getElem h1] at e1
  simp only [Option.getD_some] at e1
  rw [e1, part_succ, List.getElem_set]
  by_cases e : k % m = i
  · rw [if_pos e, if_pos e, e, leftL_at hi]; omega
  · rw [if_neg e, if_neg e]
    have e2 := leftL_at (c := c) (T := T) (k := k) hi
    rw [List.getD_eq_getElem?_getD, List.getElem?_eq_getElem (by rw [leftL_len]; exact hi)] at e2
    simp only [Option.getD_some] at e2
    rw [e2]; omega
set_option maxHeartbeats 1600000 in
theorem cellsWithin_any (vc vT : Value) (c T : List Int) (w : World) (hc : RowI w vc c) (hT : RowI w vT T) (hn : c.length ≤ 1099511627776) (hm : 0 < T.length) (hm2 : T.length ≤ 1048576) (hw : T.all inW = true) :
    Calls Try.prog 101 #[vc, vT] w fun e w' => e = .returned (.bool (withinB c T T.length)) ∧ Below w.heap.size w w' := by
  have cl := listCopy_any vT T w hT (by omega)
  obtain ⟨oc, kc, rfl, hcc, hcr⟩ := hc
  obtain ⟨oT, kT, rfl, -, -⟩ := hT
  have HR : Hid (0 < c.length → ∃ g o, oc = some ⟨g, o, none⟩ ∧ g < w.heap.size ∧ ∀ j, j < c.length → w.cell? ⟨g, o + j, none⟩ = some (.int .i64 (c.getD j 0))) := hcr
  have HW : Hid (T.all inW = true) := hw
  clear hcr hw
  go_enter Try.func101, Try.ntmps101
  go_wp2_with fail
  refine cl.mono ?_
  rintro e w1 ⟨v1, rfl, ho1, hb1⟩
  obtain ⟨g, cp, rfl⟩ : ∃ g cp, v1 = .slice (some ⟨g, 0, none⟩) T.length cp := by
    rcases ho1.2 with ⟨_, e⟩ | ⟨g, cp, cur, rfl, _⟩
    · omega
    · exact ⟨_, _, rfl⟩
  obtain ⟨m, hmm⟩ : ∃ m, m = T.length := ⟨_, rfl⟩
  have HM : Hid (m = T.length) := hmm
  have HO1 : Hid (w1.ownsRow w.heap.size 3 1 (.slice (some ⟨g, 0, none⟩) m cp) m ((leftL c T m 0).map (Value.int .i64))) := by rw [leftL_start hmm.symm, hmm]; exact ho1
  rw [← hmm] at hm hm2 ⊢
  have hgm := (ho1.lt g rfl).2
  have hgb := (ho1.lt g rfl).1
  clear cl ho1 hmm
  go_wp2
  go_loopw [13] (fun i wr => ∃ k : Nat, i = .int .i64 k ∧ k ≤ c.length ∧ Hid (wr.ownsRow w.heap.size 3 1 (.slice (some ⟨g, 0, none⟩) m cp) m ((leftL c T m k).map (Value.int .i64))) ∧ Hid ((∀ j, j < k → inW (c.getD j 0) = true) ∧ ∀ cls, cls < m → 0 ≤ part c m cls k ∧ part c m cls k ≤ T.getD cls 0) ∧ Below w.heap.size w wr) (fun i _ => c.length - (intOf i).toNat)
  case atStart => exact ⟨0, rfl, by omega, HO1, ⟨fun j hj => by omega, fun cls hcls => ⟨Int.le_refl _, (all_at HW.out (by have := HM.out; omega)).1⟩⟩, hb1⟩
  case round =>
    obtain ⟨k, rfl, hk, HOW, HIN, hbr⟩ := hrel
    clear HO1 hb1
    by_cases hlt : k < c.length
    · obtain ⟨gc, o, rfl, hgc, hj⟩ := HR.out (by omega)
      have ha : wr.cell? ⟨gc, o + k, none⟩ = some (.int .i64 (c.getD k 0)) := (hbr.cell (p := ⟨gc, o + k, none⟩) hgc).trans (hj k hlt)
      have hr : k % m < m := Nat.mod_lt _ hm
      have hmod : (k : Int).tmod (m : Int) = ((k % m : Nat) : Int) := rfl
      have hy : wr.cell? ⟨g, k % m, none⟩ = some (.int .i64 ((leftL c T m k).getD (k % m) 0)) := by
        rw [HOW.out.cellAt (k % m) (by omega)]; exact getD_mapI _ _ (by rw [leftL_len]; exact hr)
      have hf : wr.frozen? ⟨g, k % m, none⟩ = false := HOW.out.frozenAt _
      have HY : Hid ((leftL c T m k).getD (k % m) 0 = T.getD (k % m) 0 - part c m (k % m) k) := leftL_at hr
      have hTr := all_at HW.out (show k % m < T.length by have := HM.out; omega)
      have hPr := HIN.out.2 (k % m) hr
      have hy0 : 0 ≤ (leftL c T m k).getD (k % m) 0 ∧ (leftL c T m k).getD (k % m) 0 ≤ 999 := by rw [HY.out]; omega
      have HST := fun u => HOW.out.stored (k % m) u
      have HNeg : Hid (c.getD k 0 < 0 → withinB c T m = false) := fun h => within_neg hlt h
      have HMore : Hid (c.getD k 0 > (leftL c T m k).getD (k % m) 0 → withinB c T m = false) := fun h => within_more hm hlt (by rw [← HY.out]; exact h)
      have HLS : Hid (leftL c T m (k + 1) = (leftL c T m k).set (k % m) ((leftL c T m k).getD (k % m) 0 - c.getD k 0)) := leftL_step hm
      have HLL : Hid ((leftL c T m k).length = m) := leftL_len _ _ _ _
      have HX : Hid (∀ x, c.getD k 0 = x → 0 ≤ x → x ≤ (leftL c T m k).getD (k % m) 0 → (∀ j, j < k + 1 → inW (c.getD j 0) = true) ∧ ∀ cls, cls < m → 0 ≤ part c m cls (k + 1) ∧ part c m cls (k + 1) ≤ T.getD cls 0) := by
        intro x hx h0 h1
        refine ⟨fun j hj => ?_, fun cls hcls => ?_⟩
        · by_cases e : j = k
          · subst e; rw [hx]; exact inW_yes (by omega)
          · exact HIN.out.1 j (by omega)
        · have h2 := HIN.out.2 cls hcls
          rw [part_succ, hx]
          by_cases e : k % m = cls
          · subst e; rw [if_pos rfl]; have := HY.out; omega
          · rw [if_neg e]; omega
      clear hj hTr hPr
      generalize hyy : (leftL c T m k).getD (k % m) 0 = y at hy hy0 HMore HLS HX
      generalize hxx : c.getD k 0 = x at ha HNeg HMore HLS
      have HXX : Hid (c.getD k 0 = x) := hxx
      clear hyy hxx HY
      generalize hrr : k % m = r at hr hmod hy hf HST HLS
      clear hrr
      obtain ⟨hy0, hy1⟩ := hy0
      by_cases h1 : x < 0
      · have HF := HNeg.out h1
        go_wp2
        go_ret
        exact ⟨by rw [← HM.out, HF]; rfl, hbr⟩
      · by_cases h2 : x > y
        · have HF := HMore.out h2
          have HFF : Hid (withinB c T m = false) := HF
          clear HF HST
          go_wp2
          go_ret
          exact ⟨by rw [← HM.out, HFF.out]; rfl, hbr⟩
        · have HN := HX.out x HXX.out (by omega) (by omega)
          have HNN : Hid ((∀ j, j < k + 1 → inW (c.getD j 0) = true) ∧ ∀ cls, cls < m → 0 ≤ part c m cls (k + 1) ∧ part c m cls (k + 1) ≤ T.getD cls 0) := HN
          have hso := HST (.int .i64 (y - x))
          have HSO : Hid ((wr.setCell ⟨g, r, none⟩ (.int .i64 (y - x))).ownsRow w.heap.size 3 1 (.slice (some ⟨g, 0, none⟩) m cp) m ((leftL c T m (k + 1)).map (Value.int .i64)) ∧ Below w.heap.size w (wr.setCell ⟨g, r, none⟩ (.int .i64 (y - x)))) := ⟨by rw [HLS.out, List.map_set]; exact hso.1, hbr.setCell (p := ⟨g, r, none⟩) hgb _⟩
          clear HN HX HST hso HNeg HMore
          go_wp2
          go_roundw
          case rel => exact ⟨k + 1, by go_num, by omega, HSO.out.1, HNN, HSO.out.2⟩
          case measure => simp [intOf]; omega
    · obtain rfl : k = c.length := by omega
      have HF : Hid (withinB c T m = true) := within_yes HIN.out.1 (fun cls hcls => (HIN.out.2 cls hcls).2)
      go_wp2
      go_ret
      exact ⟨by rw [← HM.out, HF.out]; rfl, hbr⟩
end Go.Proofs.Ytobimpgapfecoaa
