/- Texts of this claim, put together: part 10. -/
import Derived.Test.YtobimpgapfecoaaStatsOkPack9
import Derived.Test.YtobimpgapfecoaaRows
import Derived.WalkKit
import Derived.ProofKit
import Derived.OpenShut
import Derived.Test.YtobimpgapfecoaaStatsOkPack1
import Derived.Test.YtobimpgapfecoaaStatsOkPack2
/- Cells of one attribute held against the totals, by the program. -/
namespace Go.Proofs.Ytobimpgapfecoaa
open Go.RowKit
set_option maxRecDepth 100000
set_option linter.unusedSimpArgs false
/-- What is left of each class behind k cells. -/
def leftL (c T : List Int) (m k : Nat) : List Int := (List.range m).map fun cls => T.getD cls 0 - part c m cls k
theorem leftL_len (c T : List Int) (m k : Nat) : (leftL c T m k).length = m := by simp [leftL]
theorem leftL_at {c T : List Int} {m k j : Nat} (h : j < m) : (leftL c T m k).getD j 0 = T.getD j 0 - part c m j k := by
  unfold leftL
  rw [List.getD_eq_getElem?_getD, List.getElem?_map, List.getElem?_range h]; rfl
theorem leftL_start {c T : List Int} {m : Nat} (h : T.length = m) : leftL c T m 0 = T := by
  apply List.ext_getElem (by rw [leftL_len, h])
  intro i h1 h2
  have := leftL_at (c := c) (T := T) (k := 0) (show i < m by omega)
  rw [List.getD_eq_getElem?_getD, List.getElem?_eq_getElem h1, List.getD_eq_getElem?_getD, List.getElem?_eq_getElem h2] at this
  simpa [part] using this
theorem leftL_step {c T : List Int} {m k : Nat} (hm : 0 < m) : leftL c T m (k + 1) = (leftL c T m k).set (k % m) ((leftL c T m k).getD (k % m) 0 - c.getD k 0) := by
  have hk : k % m < m := Nat.mod_lt _ hm
  apply List.ext_getElem (by simp [leftL_len])
  intro i h1 h2
  have hi : i < m := by rw [leftL_len] at h1; exact h1
  have e1 := leftL_at (c := c) (T := T) (k := k + 1) hi
  rw [List.getD_eq_getElem?_getD, List.getElem?_eq_getElem h1] at e1
  simp only [Option.getD_some] at e1
  rw [e1, part_succ, List.getElem_set]
  by_cases e : k % m = i
  · rw [if_pos e, if_pos e, e, leftL_at hi]; omega
  · rw [if_neg e, if_neg e]
    have e2 := leftL_at (c := c) (T := T) (k := k) hi
    rw [List.getD_eq_getElem?_getD, List.getElem?_eq_getElem (by rw [leftL_len]; exact hi)] at e2
    simp only [Option.getD_some] at e2
    rw [e2]; omega
set_option maxHeartbeats 1600000 in
theorem cellsWithin_any (vc vT : Value) (c T : List Int) (w : World) (hc : RowI w vc c) (hT : RowI w vT T) (hn : c.length ≤ 1099511627776) (hm : 0 < T.length) (hm2 : T.length ≤ 1048576) (hw : T.all inW = true) :
    Calls Try.prog 101 #[vc, vT] w fun e w' => e = .returned (.bool (withinB c T T.length)) ∧ Below w.heap.size w w' := by
  have cl := listCopy_any vT T w hT (by omega)
  obtain ⟨oc, kc, rfl, hcc, hcr⟩ := hc
  obtain ⟨oT, kT, rfl, -, -⟩ := hT
  have HR : Hid (0 < c.length → ∃ g o, oc = some ⟨g, o, none⟩ ∧ g < w.heap.size ∧ ∀ j, j < c.length → w.cell? ⟨g, o + j, none⟩ = some (.int .i64 (c.getD j 0))) := hcr
  have HW : Hid (T.all inW = true) := hw
  clear hcr hw
  go_enter Try.func101, Try.ntmps101
  go_wp2_with fail
  refine cl.mono ?_
  rintro e w1 ⟨v1, rfl, ho1, hb1⟩
  obtain ⟨g, cp, rfl⟩ : ∃ g cp, v1 = .slice (some ⟨g, 0, none⟩) T.length cp := by
    rcases ho1.2 with ⟨_, e⟩ | ⟨g, cp, cur, rfl, _⟩
    · omega
    · exact ⟨_, _, rfl⟩
  obtain ⟨m, hmm⟩ : ∃ m, m = T.length := ⟨_, rfl⟩
  have HM : Hid (m = T.length) := hmm
  have HO1 : Hid (w1.ownsRow w.heap.size 3 1 (.slice (some ⟨g, 0, none⟩) m cp) m ((leftL c T m 0).map (Value.int .i64))) := by rw [leftL_start hmm.symm, hmm]; exact ho1
  rw [← hmm] at hm hm2 ⊢
  have hgm := (ho1.lt g rfl).2
  have hgb := (ho1.lt g rfl).1
  clear cl ho1 hmm
  go_wp2
  go_loopw [13] (fun i wr => ∃ k : Nat, i = .int .i64 k ∧ k ≤ c.length ∧ Hid (wr.ownsRow w.heap.size 3 1 (.slice (some ⟨g, 0, none⟩) m cp) m ((leftL c T m k).map (Value.int .i64))) ∧ Hid ((∀ j, j < k → inW (c.getD j 0) = true) ∧ ∀ cls, cls < m → 0 ≤ part c m cls k ∧ part c m cls k ≤ T.getD cls 0) ∧ Below w.heap.size w wr) (fun i _ => c.length - (intOf i).toNat)
  case atStart => exact ⟨0, rfl, by omega, HO1, ⟨fun j hj => by omega, fun cls hcls => ⟨Int.le_refl _, (all_at HW.out (by have := HM.out; omega)).1⟩⟩, hb1⟩
  case round =>
    obtain ⟨k, rfl, hk, HOW, HIN, hbr⟩ := hrel
    clear HO1 hb1
    by_cases hlt : k < c.length
    · obtain ⟨gc, o, rfl, hgc, hj⟩ := HR.out (by omega)
      have ha : wr.cell? ⟨gc, o + k, none⟩ = some (.int .i64 (c.getD k 0)) := (hbr.cell (p := ⟨gc, o + k, none⟩) hgc).trans (hj k hlt)
      have hr : k % m < m := Nat.mod_lt _ hm
      have hmod : (k : Int).tmod (m : Int) = ((k % m : Nat) : Int) := rfl
      have hy : wr.cell? ⟨g, k % m, none⟩ = some (.int .i64 ((leftL c T m k).getD (k % m) 0)) := by
        rw [HOW.out.cellAt (k % m) (by omega)]; exact getD_mapI _ _ (by rw [leftL_len]; exact hr)
      have hf : wr.frozen? ⟨g, k % m, none⟩ = false := HOW.out.frozenAt _
      have HY : Hid ((leftL c T m k).getD (k % m) 0 = T.getD (k % m) 0 - part c m (k % m) k) := leftL_at hr
      have hTr := all_at HW.out (show k % m < T.length by have := HM.out; omega)
      have hPr := HIN.out.2 (k % m) hr
      have hy0 : 0 ≤ (leftL c T m k).getD (k % m) 0 ∧ (leftL c T m k).getD (k % m) 0 ≤ 999 := by rw [HY.out]; omega
      have HST := fun u => HOW.out.stored (k % m) u
      have HNeg : Hid (c.getD k 0 < 0 → withinB c T m = false) := fun h => within_neg hlt h
      have HMore : Hid (c.getD k 0 > (leftL c T m k).getD (k % m) 0 → withinB c T m = false) := fun h => within_more hm hlt (by rw [← HY.out]; exact h)
      have HLS : Hid (leftL c T m (k + 1) = (leftL c T m k).set (k % m) ((leftL c T m k).getD (k % m) 0 - c.getD k 0)) := leftL_step hm
      have HLL : Hid ((leftL c T m k).length = m) := leftL_len _ _ _ _
      have HX : Hid (∀ x, c.getD k 0 = x → 0 ≤ x → x ≤ (leftL c T m k).getD (k % m) 0 → (∀ j, j < k + 1 → inW (c.getD j 0) = true) ∧ ∀ cls, cls < m → 0 ≤ part c m cls (k + 1) ∧ part c m cls (k + 1) ≤ T.getD cls 0) := by
        intro x hx h0 h1
        refine ⟨fun j hj => ?_, fun cls hcls => ?_⟩
        · by_cases e : j = k
          · subst e; rw [hx]; exact inW_yes (by omega)
          · exact HIN.out.1 j (by omega)
        · have h2 := HIN.out.2 cls hcls
          rw [part_succ, hx]
          by_cases e : k % m = cls
          · subst e; rw [if_pos rfl]; have := HY.out; omega
          · rw [if_neg e]; omega
      clear hj hTr hPr
      generalize hyy : (leftL c T m k).getD (k % m) 0 = y at hy hy0 HMore HLS HX
      generalize hxx : c.getD k 0 = x at ha HNeg HMore HLS
      have HXX : Hid (c.getD k 0 = x) := hxx
      clear hyy hxx HY
      generalize hrr : k % m = r at hr hmod hy hf HST HLS
      clear hrr
      obtain ⟨hy0, hy1⟩ := hy0
      by_cases h1 : x < 0
      · have HF := HNeg.out h1
        go_wp2
        go_ret
        exact ⟨by rw [← HM.out, HF]; rfl, hbr⟩
      · by_cases h2 : x > y
        · have HF := HMore.out h2
          have HFF : Hid (withinB c T m = false) := HF
          clear HF HST
          go_wp2
          go_ret
          exact ⟨by rw [← HM.out, HFF.out]; rfl, hbr⟩
        · have HN := HX.out x HXX.out (by omega) (by omega)
          have HNN : Hid ((∀ j, j < k + 1 → inW (c.getD j 0) = true) ∧ ∀ cls, cls < m → 0 ≤ part c m cls (k + 1) ∧ part c m cls (k + 1) ≤ T.getD cls 0) := HN
          have hso := HST (.int .i64 (y - x))
          have HSO : Hid ((wr.setCell ⟨g, r, none⟩ (.int .i64 (y - x))).ownsRow w.heap.size 3 1 (.slice (some ⟨g, 0, none⟩) m cp) m ((leftL c T m (k + 1)).map (Value.int .i64)) ∧ Below w.heap.size w (wr.setCell ⟨g, r, none⟩ (.int .i64 (y - x)))) := ⟨by rw [HLS.out, List.map_set]; exact hso.1, hbr.setCell (p := ⟨g, r, none⟩) hgb _⟩
          clear HN HX HST hso HNeg HMore
          go_wp2
          go_roundw
          case rel => exact ⟨k + 1, by go_num, by omega, HSO.out.1, HNN, HSO.out.2⟩
          case measure => simp [intOf]; omega
    · obtain rfl : k = c.length := by omega
      have HF : Hid (withinB c T m = true) := within_yes HIN.out.1 (fun cls hcls => (HIN.out.2 cls hcls).2)
      go_wp2
      go_ret
      exact ⟨by rw [← HM.out, HF.out]; rfl, hbr⟩
end Go.Proofs.Ytobimpgapfecoaa
/- The specification's small helper on bounds. -/
namespace Go.Proofs.Ytobimpgapfecoaa
open Go.RowKit
set_option maxRecDepth 100000

theorem in_any (x lo hi : Int) (w : World) : Calls Try.prog 55 #[.int .i64 x, .int .i64 lo, .int .i64 hi] w fun e w' => e = .returned (.bool (decide (lo ≤ x ∧ x ≤ hi))) ∧ w' = w := by
  by_cases h0 : lo ≤ x <;> by_cases h1 : x ≤ hi
  all_goals
    go_enter Try.func55, Try.ntmps55
    go_wp2
    go_ret
    exact ⟨by simp [h0, h1], rfl⟩
end Go.Proofs.Ytobimpgapfecoaa
/- WordOk: the program's answer and the specification's, for every text. -/
namespace Go.Proofs.Ytobimpgapfecoaa
open Go.RowKit
set_option maxRecDepth 100000
set_option maxHeartbeats 400000 in
theorem specWord_any (s : ByteArray) (w : World) (hs : s.size ≤ 9223372036854775807) :
    Calls Try.prog 106 #[.string s] w fun e w' => e = .returned (.bool (wordOk s)) ∧ Below w.heap.size w w' := by
  by_cases hl : 1 ≤ s.size ∧ s.size ≤ 8
  · have hd : decide ((1 : Int) ≤ (s.size : Int) ∧ (s.size : Int) ≤ 8) = true := by simp; omega
    have HL : Hid (1 ≤ s.size ∧ s.size ≤ 8) := hl
    clear hl
    go_enter Try.func106, Try.ntmps106
    go_wp2_with fail
    refine (in_any _ _ _ _).mono ?_
    rintro e w1 ⟨rfl, rfl⟩
    rw [hd]
    clear hd
    go_wp2
    go_loopw [3] (fun i wr => ∃ k : Nat, i = .int .i64 k ∧ k ≤ s.size ∧ (∀ j (hj : j < s.size), j < k → lowB s[j] = true) ∧ wr = w1) (fun i _ => s.size - (intOf i).toNat)
    case atStart => exact ⟨0, rfl, by omega, by omega, rfl⟩
    case round =>
      obtain ⟨k, rfl, hk, hal, rfl⟩ := hrel
      have HA : Hid (∀ j (hj : j < s.size), j < k → lowB s[j] = true) := hal
      clear hal
      by_cases hlt : k < s.size
      · by_cases h1 : (s[k].toNat : Int) < 97
        · have HF : Hid (wordOk s = false) := word_no k hlt (low_no1 h1)
          go_wp2
          go_ret
          exact ⟨by rw [HF.out]; rfl, Below.refl _ _⟩
        · by_cases h2 : (s[k].toNat : Int) ≤ 122
          · have HF : Hid (lowB s[k] = true) := low_yes h1 h2
            go_wp2
            go_roundw
            case rel =>
              refine ⟨k + 1, by go_num, by omega, ?_, by first | rfl | trivial⟩
              intro j hj hjk
              by_cases e : j = k
              · subst e; exact HF.out
              · exact HA.out j hj (by omega)
            case measure => simp [intOf]; omega
          · have HF : Hid (wordOk s = false) := word_no k hlt (low_no2 h2)
            go_wp2
            go_ret
            exact ⟨by rw [HF.out]; rfl, Below.refl _ _⟩
      · have HF : Hid (wordOk s = true) := word_yes HL.out (fun j hj => HA.out j hj (by omega))
        go_wp2
        go_ret
        exact ⟨by rw [HF.out]; rfl, Below.refl _ _⟩
  · have hd : decide ((1 : Int) ≤ (s.size : Int) ∧ (s.size : Int) ≤ 8) = false := by simp; omega
    have HF : Hid (wordOk s = false) := word_len hl
    clear hl
    go_enter Try.func106, Try.ntmps106
    go_wp2_with fail
    refine (in_any _ _ _ _).mono ?_
    rintro e w1 ⟨rfl, rfl⟩
    rw [hd]
    clear hd
    go_wp2
    go_ret
    exact ⟨by rw [HF.out]; rfl, Below.refl _ _⟩
end Go.Proofs.Ytobimpgapfecoaa
/- Lists of words, lists of cuts: whether they are right, by the program and by the specification. -/
namespace Go.Proofs.Ytobimpgapfecoaa
open Go.RowKit
set_option maxRecDepth 100000
set_option maxHeartbeats 800000 in
theorem specWords_any (v : Value) (ss : List ByteArray) (w : World) (h : RowS w v ss) (hn : okS ss) :
    Calls Try.prog 102 #[v] w fun e w' => e = .returned (.bool (wordsOk ss)) ∧ Below w.heap.size w w' := by
  have hlen := hn.1
  have HO : Hid (okS ss) := hn
  clear hn
  obtain ⟨oa, cap, rfl, hc, hr⟩ := h
  have HR : Hid (0 < ss.length → ∃ g o, oa = some ⟨g, o, none⟩ ∧ g < w.heap.size ∧ ∀ j, j < ss.length → w.cell? ⟨g, o + j, none⟩ = some (.string (tx ss j))) := hr
  clear hr
  go_enter Try.func102, Try.ntmps102
  go_wp2
  go_loopw [3, 4] (fun i _ wr => ∃ k : Nat, i = .int .i64 k ∧ k ≤ ss.length ∧ (∀ j, j < k → wordAt ss j = true) ∧ Below w.heap.size w wr) (fun i _ _ => ss.length - (intOf i).toNat)
  case atStart => exact ⟨0, rfl, by omega, by omega, Below.refl _ _⟩
  case round =>
    obtain ⟨k, rfl, hk, hal, hb⟩ := hrel
    have HA : Hid (∀ j, j < k → wordAt ss j = true) := hal
    clear hal
    by_cases hlt : k < ss.length
    · obtain ⟨g, o, rfl, hg, hj⟩ := HR.out (by omega)
      have HJ : Hid (∀ j, j < ss.length → w.cell? ⟨g, o + j, none⟩ = some (.string (tx ss j))) := hj
      have hcell : wr.cell? ⟨g, o + k, none⟩ = some (.string (tx ss k)) := (hb.cell (p := ⟨g, o + k, none⟩) hg).trans (hj k hlt)
      clear hj
      have c := specWord_any (tx ss k) wr (HO.out.at hlt)
      cases hw : wordOk (tx ss k) with
      | false =>
        have HF : Hid (wordsOk ss = false) := words_no k hlt (wordAt_no1 hw)
        rw [hw] at c
        clear hw
        go_wp2_with fail
        refine c.mono ?_
        rintro e w1 ⟨rfl, hb1⟩
        clear c
        go_wp2
        go_ret
        exact ⟨by rw [HF.out]; rfl, hb.trans (hb1.mono hb.size)⟩
      | true =>
        have HW : Hid (wordOk (tx ss k) = true) := hw
        rw [hw] at c
        clear hw
        go_wp2_with fail
        refine c.mono ?_
        rintro e w1 ⟨rfl, hb1⟩
        clear c
        have hb2 : Below w.heap.size w w1 := hb.trans (hb1.mono hb.size)
        have hcell1 : w1.cell? ⟨g, o + k, none⟩ = some (.string (tx ss k)) := (hb2.cell (p := ⟨g, o + k, none⟩) hg).trans (HJ.out k hlt)
        clear hcell hb hb1
        go_wp2
        go_loopw [4] (fun i wr => ∃ m q : Nat, i = .int .i64 m ∧ m ≤ k ∧ (∀ j, j < m → tx ss k ≠ tx ss j) ∧ wr = w1.drewN q) (fun i _ => k - (intOf i).toNat)
        case atStart => exact ⟨0, 0, rfl, by omega, by omega, rfl⟩
        case round =>
          obtain ⟨m, q, rfl, hm, hne, rfl⟩ := hrel
          have HN : Hid (∀ j, j < m → tx ss k ≠ tx ss j) := hne
          clear hne
          by_cases hmk : m < k
          · have hcm : w1.cell? ⟨g, o + m, none⟩ = some (.string (tx ss m)) := (hb2.cell (p := ⟨g, o + m, none⟩) hg).trans (HJ.out m (by omega))
            by_cases he : tx ss k = tx ss m
            · have HF : Hid (wordsOk ss = false) := words_no k hlt (wordAt_no2 (hasT_yes (k := m) (by simp; omega) (by rw [tx_take hmk]; exact he)))
              have hq : ((tx ss k).toList == (tx ss m).toList) = true := by rw [← he]; simp
              clear he
              generalize tx ss k = u at hcell1 hq
              generalize tx ss m = u' at hcm hq
              have hml : m < ss.length := by omega
              go_wp2
              go_quiet (fail)
              all_goals go_wp2
              all_goals go_ret
              all_goals exact ⟨by rw [HF.out]; rfl, below_drewN (below_drewN hb2 _) _⟩
            · have hq : ((tx ss k).toList == (tx ss m).toList) = false := by
                rw [beq_eq_false_iff_ne]; exact fun h => he (bytes_eq_iff.1 h)
              have HE : Hid (tx ss k ≠ tx ss m) := he
              clear he
              generalize hu : tx ss k = u at hcell1 hq
              generalize hu' : tx ss m = u' at hcm hq
              have HU : Hid (tx ss k = u) := hu
              have HU' : Hid (tx ss m = u') := hu'
              have hml : m < ss.length := by omega
              clear hu hu'
              go_wp2
              go_quiet (fail)
              all_goals go_wp2
              all_goals go_roundw
              case rel =>
                refine ⟨m + 1, _, by go_num, by omega, ?_, by first | rfl | (simp only [World.drewN_drewN]; rfl)⟩
                intro j hj
                rw [← HU.out]
                by_cases e : j = m
                · subst e; exact HE.out
                · exact HN.out j (by omega)
              case measure => simp [intOf]; omega
          · have HF : Hid (wordAt ss k = true) := wordAt_yes HW.out (hasT_no fun j hj => by
              have hj' : j < k := by simp at hj; omega
              rw [tx_take hj']; exact HN.out j (by omega))
            go_wp2
            go_roundw
            case rel =>
              refine ⟨k + 1, by go_num, by omega, ?_, below_drewN hb2 _⟩
              intro j hj
              by_cases e : j = k
              · subst e; exact HF.out
              · exact HA.out j (by omega)
            case measure => simp [intOf]; omega
    · have HF : Hid (wordsOk ss = true) := words_yes fun j hj => HA.out j (by omega)
      go_wp2
      go_ret
      exact ⟨by rw [HF.out]; rfl, hb⟩
end Go.Proofs.Ytobimpgapfecoaa
