/- Texts of this claim, put together: part 25. -/
import Derived.Test.YtmdmplphendpcaaFnPromisePack7
import Derived.Test.YtmdmplphendpcaaFnPromisePack24
import Derived.Test.YtmdmplphendpcaaFnPromisePack3
import Derived.Test.YtmdmplphendpcaaFnPromisePack2
import Derived.Test.YtmdmplphendpcaaFnPromisePack1
/- Cells of one attribute held against the totals, by the program. -/
namespace Go.Proofs.Ytmdmplphendpcaa
open Go.RowKit
set_option maxRecDepth 100000
set_option linter.unusedSimpArgs false
/-- What is left of each class behind k cells. -/
def leftL (c T : List Int) (m k : Nat) : List Int := (List.range m).map fun cls => T.getD cls 0 - part c m cls k
theorem leftL_len (c T : List Int) (m k : Nat) : (leftL c T m k).length = m := by simp [leftL]
theorem leftL_at {c T : List Int} {m k j : Nat} (h : j < m) : (leftL c T m k).getD j 0 = T.getD j 0 - part c m j k := by
  unfold leftL
  rw [List.getD_eq_getElem?_getD, List.getElem?_map, List.getElem?_range h]; rfl
theorem leftL_start {c T : List Int} {m : Nat} (h : T.length = m) : leftL c T m 0 = T := by
  apply List.ext_getElem (by rw [leftL_len, h])
  intro i h1 h2
  have := leftL_at (c := c) (T := T) (k := 0) (show i < m by omega)
  rw [List.getD_eq_getElem?_getD, List.getElem?_eq_getElem h1, List.getD_eq_getElem?_getD, List.getElem?_eq_getElem h2] at this
  simpa [part] using this
theorem leftL_step {c T : List Int} {m k : Nat} (hm : 0 < m) : leftL c T m (k + 1) = (leftL c T m k).set (k % m) ((leftL c T m k).getD (k % m) 0 - c.getD k 0) := by
  have hk : k % m < m := Nat.mod_lt _ hm
  apply List.ext_getElem (by simp [leftL_len])
  intro i h1 h2
  have hi : i < m := by rw [leftL_len] at h1; exact h1
  have e1 := leftL_at (c := c) (T := T) (k := k + 1) hi
  rw [List.getD_eq_getElem?_getD, List.getElem?_eq_getElem h1] at e1
  simp only [Option.getD_some] at e1
  rw [e1, part_succ, List.getElem_set]
  by_cases e : k % m = i
  · rw [if_pos e, if_pos e, e, leftL_at hi]; omega
  · rw [if_neg e, if_neg e]
    have e2 := leftL_at (c := c) (T := T) (k := k) hi
    rw [List.getD_eq_getElem?_getD, List.getElem?_eq_getElem (by rw [leftL_len]; exact hi)] at e2
    simp only [Option.getD_some] at e2
    rw [e2]; omega
set_option maxHeartbeats 1600000 in
theorem cellsWithin_any (vc vT : Value) (c T : List Int) (w : World) (hc : RowI w vc c) (hT : RowI w vT T) (hn : c.length ≤ 1099511627776) (hm : 0 < T.length) (hm2 : T.length ≤ 1048576) (hw : T.all inW = true) :
    Calls Try.prog 92 #[vc, vT] w fun e w' => e = .returned (.bool (withinB c T T.length)) ∧ Below w.heap.size w w' := by
  have cl := listCopy_any vT T w hT (by omega)
  obtain ⟨oc, kc, rfl, hcc, hcr⟩ := hc
  obtain ⟨oT, kT, rfl, -, -⟩ := hT
  have HR : Hid (0 < c.length → ∃ g o, oc = some ⟨g, o, none⟩ ∧ g < w.heap.size ∧ ∀ j, j < c.length → w.cell? ⟨g, o + j, none⟩ = some (.int .i64 (c.getD j 0))) := hcr
  have HW : Hid (T.all inW = true) := hw
  clear hcr hw
  go_enter Try.func92, Try.ntmps92
  go_wp2_with fail
  refine cl.mono ?_
  rintro e w1 ⟨v1, rfl, ho1, hb1⟩
  obtain ⟨g, cp, rfl⟩ : ∃ g cp, v1 = .slice (some ⟨g, 0, none⟩) T.length cp := by
    rcases ho1.2 with ⟨_, e⟩ | ⟨g, cp, cur, rfl, _⟩
    · omega
    · exact ⟨_, _, rfl⟩
  obtain ⟨m, hmm⟩ : ∃ m, m = T.length := ⟨_, rfl⟩
  have HM : Hid (m = T.length) := hmm
  have HO1 : Hid (w1.ownsRow w.heap.size 3 1 (.slice (some ⟨g, 0, none⟩) m cp) m ((leftL c T m 0).map (Value.int .i64))) := by rw [leftL_start hmm.symm, hmm]; exact ho1
  rw [← hmm] at hm hm2 ⊢
  have hgm := (ho1.lt g rfl).2
  have hgb := (ho1.lt g rfl).1
  clear cl ho1 hmm
  go_wp2
  go_loopw [13] (fun i wr => ∃ k : Nat, i = .int .i64 k ∧ k ≤ c.length ∧ Hid (wr.ownsRow w.heap.size 3 1 (.slice (some ⟨g, 0, none⟩) m cp) m ((leftL c T m k).map (Value.int .i64))) ∧ Hid ((∀ j, j < k → inW (c.getD j 0) = true) ∧ ∀ cls, cls < m → 0 ≤ part c m cls k ∧ part c m cls k ≤ T.getD cls 0) ∧ Below w.heap.size w wr) (fun i _ => c.length - (intOf i).toNat)
  case atStart => exact ⟨0, rfl, by omega, HO1, ⟨fun j hj => by omega, fun cls hcls => ⟨Int.le_refl _, (all_at HW.out (by have := HM.out; omega)).1⟩⟩, hb1⟩
  case round =>
    obtain ⟨k, rfl, hk, HOW, HIN, hbr⟩ := hrel
    clear HO1 hb1
    by_cases hlt : k < c.length
    · obtain ⟨gc, o, rfl, hgc, hj⟩ := HR.out (by omega)
      have ha : wr.cell? ⟨gc, o + k, none⟩ = some (.int .i64 (c.getD k 0)) := (hbr.cell (p := ⟨gc, o + k, none⟩) hgc).trans (hj k hlt)
      have hr : k % m < m := Nat.mod_lt _ hm
      have hmod : (k : Int).tmod (m : Int) = ((k % m : Nat) : Int) := rfl
      have hy : wr.cell? ⟨g, k % m, none⟩ = some (.int .i64 ((leftL c T m k).getD (k % m) 0)) := by
        rw [HOW.out.cellAt (k % m) (by omega)]; exact getD_mapI _ _ (by rw [leftL_len]; exact hr)
      have hf : wr.frozen? ⟨g, k % m, none⟩ = false := HOW.out.frozenAt _
      have HY : Hid ((leftL c T m k).getD (k % m) 0 = T.getD (k % m) 0 - part c m (k % m) k) := leftL_at hr
      have hTr := all_at HW.out (show k % m < T.length by have := HM.out; omega)
      have hPr := HIN.out.2 (k % m) hr
      have hy0 : 0 ≤ (leftL c T m k).getD (k % m) 0 ∧ (leftL c T m k).getD (k % m) 0 ≤ 999 := by rw [HY.out]; omega
      have HST := fun u => HOW.out.stored (k % m) u
      have HNeg : Hid (c.getD k 0 < 0 → withinB c T m = false) := fun h => within_neg hlt h
      have HMore : Hid (c.getD k 0 > (leftL c T m k).getD (k % m) 0 → withinB c T m = false) := fun h => within_more hm hlt (by rw [← HY.out]; exact h)
      have HLS : Hid (leftL c T m (k + 1) = (leftL c T m k).set (k % m) ((leftL c T m k).getD (k % m) 0 - c.getD k 0)) := leftL_step hm
      have HLL : Hid ((leftL c T m k).length = m) := leftL_len _ _ _ _
      have HX : Hid (∀ x, c.getD k 0 = x → 0 ≤ x → x ≤ (leftL c T m k).getD (k % m) 0 → (∀ j, j < k + 1 → inW (c.getD j 0) = true) ∧ ∀ cls, cls < m → 0 ≤ part c m cls (k + 1) ∧ part c m cls (k + 1) ≤ T.getD cls 0) := by
        intro x hx h0 h1
        refine ⟨fun j hj => ?_, fun cls hcls => ?_⟩
        · by_cases e : j = k
          · subst e; rw [hx]; exact inW_yes (by omega)
          · exact HIN.out.1 j (by omega)
        · have h2 := HIN.out.2 cls hcls
          rw [part_succ, hx]
          by_cases e : k % m = cls
          · subst e; rw [if_pos rfl]; have := HY.out; omega
          · rw [if_neg e]; omega
      clear hj hTr hPr
      generalize hyy : (leftL c T m k).getD (k % m) 0 = y at hy hy0 HMore HLS HX
      generalize hxx : c.getD k 0 = x at ha HNeg HMore HLS
      have HXX : Hid (c.getD k 0 = x) := hxx
      clear hyy hxx HY
      generalize hrr : k % m = r at hr hmod hy hf HST HLS
      clear hrr
      obtain ⟨hy0, hy1⟩ := hy0
      by_cases h1 : x < 0
      · have HF := HNeg.out h1
        go_wp2
        go_ret
        exact ⟨by rw [← HM.out, HF]; rfl, hbr⟩
      · by_cases h2 : x > y
        · have HF := HMore.out h2
          have HFF : Hid (withinB c T m = false) := HF
          clear HF HST
          go_wp2
          go_ret
          exact ⟨by rw [← HM.out, HFF.out]; rfl, hbr⟩
        · have HN := HX.out x HXX.out (by omega) (by omega)
          have HNN : Hid ((∀ j, j < k + 1 → inW (c.getD j 0) = true) ∧ ∀ cls, cls < m → 0 ≤ part c m cls (k + 1) ∧ part c m cls (k + 1) ≤ T.getD cls 0) := HN
          have hso := HST (.int .i64 (y - x))
          have HSO : Hid ((wr.setCell ⟨g, r, none⟩ (.int .i64 (y - x))).ownsRow w.heap.size 3 1 (.slice (some ⟨g, 0, none⟩) m cp) m ((leftL c T m (k + 1)).map (Value.int .i64)) ∧ Below w.heap.size w (wr.setCell ⟨g, r, none⟩ (.int .i64 (y - x)))) := ⟨by rw [HLS.out, List.map_set]; exact hso.1, hbr.setCell (p := ⟨g, r, none⟩) hgb _⟩
          clear HN HX HST hso HNeg HMore
          go_wp2
          go_roundw
          case rel => exact ⟨k + 1, by go_num, by omega, HSO.out.1, HNN, HSO.out.2⟩
          case measure => simp [intOf]; omega
    · obtain rfl : k = c.length := by omega
      have HF : Hid (withinB c T m = true) := within_yes HIN.out.1 (fun cls hcls => (HIN.out.2 cls hcls).2)
      go_wp2
      go_ret
      exact ⟨by rw [← HM.out, HF.out]; rfl, hbr⟩
end Go.Proofs.Ytmdmplphendpcaa
/- Whether an attribute is nominal, by the program. -/
namespace Go.Proofs.Ytmdmplphendpcaa
open Go.RowKit
set_option maxRecDepth 100000

theorem nominal_any (v : Value) (a : AttrD) (w : World) (h : AttrAt w v a) : Calls Try.prog 97 #[v] w fun e w' => e = .returned (.bool (decide (0 < a.vals.length))) ∧ Below w.heap.size w w' := by
  obtain ⟨vc, vv, rfl, hc, hv⟩ := h
  obtain ⟨ov, cv, rfl, hvc, hvr⟩ := hv
  clear hvr hc
  go_enter Try.func97, Try.ntmps97
  go_wp2
  go_ret
  exact ⟨rfl, (Below.refl _ _).alloc (Nat.le_refl _) _⟩
end Go.Proofs.Ytmdmplphendpcaa
/- Cuts: whether they are right, by the program. -/
namespace Go.Proofs.Ytmdmplphendpcaa
open Go.RowKit
set_option maxRecDepth 100000
set_option maxHeartbeats 400000 in
theorem implCuts_any (v : Value) (cs : List Int) (w : World) (h : RowI w v cs) (hn : cs.length ≤ 1099511627776) (h0 : cs.length ≠ 0) :
    Calls Try.prog 106 #[v] w fun e w' => e = .returned (.bool (decide (cs.length ≤ 3) && cutsRise cs)) ∧ Below w.heap.size w w' := by
  obtain ⟨oa, cap, rfl, hc, hr⟩ := h
  obtain ⟨g, o, rfl, hg, hj⟩ := hr (by omega)
  have HJ : Hid (∀ j, j < cs.length → w.cell? ⟨g, o + j, none⟩ = some (.int .i64 (cs.getD j 0))) := hj
  clear hj hr
  have l1 : ¬ (cs.length : Int) < 1 := by omega
  by_cases h3 : (cs.length : Int) ≤ 3
  rotate_left
  · have HF : Hid ((decide (cs.length ≤ 3) && cutsRise cs) = false) := by rw [decide_eq_false (by omega)]; rfl
    go_enter Try.func106, Try.ntmps106
    go_wp2
    go_ret
    exact ⟨by rw [HF.out]; rfl, Below.refl _ _⟩
  have HC : Hid ((decide (cs.length ≤ 3) && cutsRise cs) = cutsRise cs) := by rw [decide_eq_true (by omega)]; rfl
  go_enter Try.func106, Try.ntmps106
  go_wp2
  go_loopw [3, 16] (fun l i wr => ∃ k : Nat, i = .int .i64 k ∧ l = .int .i64 (leastAt cs k) ∧ k ≤ cs.length ∧ (∀ j, j < k → cutAt cs j = true) ∧ wr = w) (fun _ i _ => cs.length - (intOf i).toNat)
  case atStart => exact ⟨0, rfl, rfl, by omega, by omega, rfl⟩
  case round =>
    obtain ⟨k, rfl, rfl, hk, hal, rfl⟩ := hrel
    have HA : Hid (∀ j, j < k → cutAt cs j = true) := hal
    clear hal
    by_cases hlt : k < cs.length
    · have hcell := HJ.out k hlt
      have HL : Hid (∀ c, cs.getD k 0 = c → (leastAt cs k ≤ c ∧ c ≤ 9998 → cutAt cs k = true) ∧ (¬ (leastAt cs k ≤ c ∧ c ≤ 9998) → cutAt cs k = false)) := by
        intro c hc
        unfold leastAt cutAt
        rw [hc]
        by_cases hk0 : k = 0
        · subst hk0; simp
        · have hp := HA.out (k - 1) (by omega)
          unfold cutAt at hp
          simp at hp
          simp [hk0]
          constructor
          · intro a b; omega
          · intro a b c; omega
      generalize hcc : cs.getD k 0 = c at hcell
      have HK := HL.out c hcc
      have HKK : Hid ((leastAt cs k ≤ c ∧ c ≤ 9998 → cutAt cs k = true) ∧ (¬ (leastAt cs k ≤ c ∧ c ≤ 9998) → cutAt cs k = false)) := HK
      have HN : Hid (c + 1 = leastAt cs (k + 1)) := by unfold leastAt; rw [if_neg (by omega), Nat.add_sub_cancel, hcc]; rfl
      have hlo : -9999 ≤ leastAt cs k := by
        unfold leastAt
        by_cases hk0 : k = 0
        · rw [if_pos hk0]; omega
        · rw [if_neg hk0]
          have hp := cutAt_in (HA.out (k - 1) (by omega))
          omega
      clear HL HK hcc
      generalize leastAt cs k = L at HKK hlo
      by_cases c1 : c < L
      · have HF : Hid (cutsRise cs = false) := rise_no k hlt (HKK.out.2 (by omega))
        go_wp2
        go_ret
        exact ⟨by rw [HC.out, HF.out]; rfl, Below.refl _ _⟩
      · by_cases c2 : c ≤ 9998
        · have HF : Hid (cutAt cs k = true) := HKK.out.1 (by omega)
          go_wp2
          go_roundw
          case rel =>
            refine ⟨k + 1, by go_num, by rw [← HN.out], by omega, ?_, by first | rfl | trivial⟩
            intro j hj
            by_cases e : j = k
            · subst e; exact HF.out
            · exact HA.out j (by omega)
          case measure => simp [intOf]; omega
        · have HF : Hid (cutsRise cs = false) := rise_no k hlt (HKK.out.2 (by omega))
          go_wp2
          go_ret
          exact ⟨by rw [HC.out, HF.out]; rfl, Below.refl _ _⟩
    · have HF : Hid (cutsRise cs = true) := rise_yes fun j hj => HA.out j (by omega)
      go_wp2
      go_ret
      exact ⟨by rw [HC.out, HF.out]; rfl, Below.refl _ _⟩
end Go.Proofs.Ytmdmplphendpcaa
/- A list of texts that a function is handed; whether it holds a text. -/
namespace Go.Proofs.Ytmdmplphendpcaa
open Go.RowKit
set_option maxRecDepth 100000
set_option maxHeartbeats 400000 in
theorem index_any (v : Value) (ss : List ByteArray) (t : ByteArray) (w : World) (h : RowS w v ss) (hn : ss.length ≤ 1099511627776) :
    Calls Try.prog 107 #[v, .string t] w fun e w' => ∃ i : Int, e = .returned (.int .i64 i) ∧ (decide (0 ≤ i) = hasT ss t) ∧ Below w.heap.size w w' := by
  obtain ⟨oa, cap, rfl, hc, hr⟩ := h
  have HR : Hid (0 < ss.length → ∃ g o, oa = some ⟨g, o, none⟩ ∧ g < w.heap.size ∧ ∀ j, j < ss.length → w.cell? ⟨g, o + j, none⟩ = some (.string (tx ss j))) := hr
  clear hr
  go_enter Try.func107, Try.ntmps107
  go_wp2
  go_loopw [8] (fun i wr => ∃ k : Nat, i = .int .i64 k ∧ k ≤ ss.length ∧ (∀ j, j < k → t ≠ tx ss j) ∧ Below w.heap.size w wr) (fun i _ => ss.length - (intOf i).toNat)
  case atStart => exact ⟨0, rfl, by omega, by omega, Below.refl _ _⟩
  case round =>
    obtain ⟨k, rfl, hk, hne, hb⟩ := hrel
    have HN : Hid (∀ j, j < k → t ≠ tx ss j) := hne
    clear hne
    by_cases hlt : k < ss.length
    · obtain ⟨g, o, rfl, hg, hj⟩ := HR.out (by omega)
      have hcell : wr.cell? ⟨g, o + k, none⟩ = some (.string (tx ss k)) := (hb.cell (p := ⟨g, o + k, none⟩) hg).trans (hj k hlt)
      clear hj
      by_cases he : t = tx ss k
      · have HM : Hid (hasT ss t = true) := hasT_yes hlt he
        have hq : (t.toList == (tx ss k).toList) = true := by rw [← he]; simp
        generalize tx ss k = u at hcell hq he
        clear he
        go_wp2
        go_ret
        exact ⟨_, rfl, by rw [HM.out]; simp, hb⟩
      · have hq : (t.toList == (tx ss k).toList) = false := by
          rw [beq_eq_false_iff_ne]; exact fun h => he (bytes_eq_iff.1 h)
        have HE : Hid (t ≠ tx ss k) := he
        clear he
        generalize hu : tx ss k = u at hcell hq
        clear hu
        go_wp2
        go_roundw
        case rel =>
          refine ⟨k + 1, by go_num, by omega, ?_, hb⟩
          intro j hj
          by_cases e : j = k
          · subst e; exact HE.out
          · exact HN.out j (by omega)
        case measure => simp [intOf]; omega
    · have HM : Hid (hasT ss t = false) := hasT_no fun j hj => HN.out j (by omega)
      go_wp2
      go_ret
      exact ⟨_, rfl, by rw [HM.out]; simp, hb⟩

theorem contains_any (v : Value) (ss : List ByteArray) (t : ByteArray) (w : World) (h : RowS w v ss) (hn : ss.length ≤ 1099511627776) :
    Calls Try.prog 90 #[v, .string t] w fun e w' => e = .returned (.bool (hasT ss t)) ∧ Below w.heap.size w w' := by
  have c := index_any v ss t w h hn
  generalize hasT ss t = G at c
  clear h hn
  go_enter Try.func90, Try.ntmps90
  go_wp2_with fail
  refine c.mono ?_
  rintro e w1 ⟨i, rfl, hi, hb⟩
  clear c
  subst hi
  go_wp2
  go_ret
  exact ⟨rfl, hb⟩
end Go.Proofs.Ytmdmplphendpcaa
