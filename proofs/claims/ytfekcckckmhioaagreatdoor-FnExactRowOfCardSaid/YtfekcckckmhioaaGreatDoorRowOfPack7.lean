/- Texts of this claim, put together: part 7. -/
import Derived.Test.YtfekcckckmhioaaGreatDoorRowOfPack6
import Derived.Test.YtfekcckckmhioaaGreatDoorRows
import Derived.WalkKit
import Derived.ProofKit
import Derived.OpenShut
import Derived.Test.YtfekcckckmhioaaGreatDoorRowOfPack1
import Derived.Test.YtfekcckckmhioaaGreatDoorRowOfPack2
/- What a part of a row says of an attribute; whether two examples are the same: by the specification. -/
namespace Go.Proofs.YtfekcckckmhioaaGreatDoor
open Go.RowKit
set_option maxRecDepth 100000
set_option linter.unusedSimpArgs false
theorem ask_list : askB.toList = ([63] : List UInt8) := by decide +kernel
theorem ask_eq (t : ByteArray) : (t.toList == ([63] : List UInt8)) = decide (t = askB) := by
  rw [← ask_list]
  by_cases h : t = askB
  · rw [decide_eq_true h, h]; simp
  · rw [decide_eq_false h, beq_eq_false_iff_ne]
    exact fun e => h (bytes_eq_iff.1 e)
set_option maxHeartbeats 800000 in
theorem specCell_any (v : Value) (a : AttrD) (t : ByteArray) (w : World) (h : AttrAt w v a) (hn : okA a) (ht : t.size ≤ 9223372036854775807) :
    Calls Tryz.prog 27 #[v, .string t] w fun e w' => e = .returned (.tuple #[.int .i64 (cellXs a t), .bool (cellB a t).isSome]) ∧ Below w.heap.size w w' := by
  obtain ⟨vc, vv, rfl, hc, hv⟩ := h
  have HC : Hid (∀ W, Below w.heap.size w W → RowI W vc a.cuts) := fun W h => hc.later h
  have HV : Hid (∀ W, Below w.heap.size w W → RowS W vv a.vals) := fun W h => hv.later h
  obtain ⟨oc, cc, rfl, -, -⟩ := id hc
  obtain ⟨ov, cv, rfl, -, -⟩ := id hv
  have lc := hn.cuts
  have lv := hn.vals.1
  clear hc hv hn
  have B0 : Below w.heap.size w (w.alloc (.cells #[.string a.name, .slice oc a.cuts.length cc, .slice ov a.vals.length cv] 57)) := (Below.refl _ _).alloc (Nat.le_refl _) _
  have hq := ask_eq t
  by_cases h0 : t = askB
  · have HE : Hid (cellB a t = some (-1)) := if_pos h0
    have HZ : Hid (cellXs a t = -1) := if_pos h0
    rw [decide_eq_true h0] at hq
    clear h0
    go_enter Tryz.func27, Tryz.ntmps27
    go_wp2
    refine bodyPost_ret (results_tmp2 rfl _ _ _) rfl ⟨by rw [HE.out, HZ.out]; rfl, B0⟩
  rw [decide_eq_false h0] at hq
  by_cases hv0 : 0 < a.vals.length
  · have hvi : (0 : Int) < (a.vals.length : Int) := by omega
    have e1 := specPlace_any _ a.vals t _ (HV.out _ B0) lv
    have hP := placeT_bounds a.vals t
    have HZ : Hid (cellXs a t = placeT a.vals t) := by unfold cellXs; rw [if_neg h0, if_pos hv0]; rfl
    by_cases hp : 0 ≤ placeT a.vals t
    · have HE : Hid (cellB a t = some (placeT a.vals t)) := by unfold cellB; rw [if_neg h0, if_pos hv0, if_pos hp]; rfl
      generalize placeT a.vals t = P at e1 hP hp HE HZ
      clear h0 hv0
      go_enter Tryz.func27, Tryz.ntmps27
      go_wp2_with fail
      refine e1.mono ?_
      clear e1
      rintro e w1 ⟨rfl, hb1⟩
      go_wp2
      refine bodyPost_ret (results_tmp2 rfl _ _ _) rfl ⟨by rw [HE.out, HZ.out]; simp [hp], B0.trans (hb1.mono (by simp))⟩
    · have HE : Hid (cellB a t = none) := by unfold cellB; rw [if_neg h0, if_pos hv0, if_neg hp]; rfl
      generalize placeT a.vals t = P at e1 hP hp HE HZ
      clear h0 hv0
      go_enter Tryz.func27, Tryz.ntmps27
      go_wp2_with fail
      refine e1.mono ?_
      clear e1
      rintro e w1 ⟨rfl, hb1⟩
      go_wp2
      refine bodyPost_ret (results_tmp2 rfl _ _ _) rfl ⟨by rw [HE.out, HZ.out]; simp [hp], B0.trans (hb1.mono (by simp))⟩
  have hvi : ¬ (0 : Int) < (a.vals.length : Int) := by omega
  have e1 := fun W => specSigned_any t W ht
  cases hsg : sigSpec t.data.toList with
  | none =>
    have HE : Hid (cellB a t = none) := by unfold cellB; rw [if_neg h0, if_neg hv0, hsg]; rfl
    have HZ : Hid (cellXs a t = 0) := by unfold cellXs; rw [if_neg h0, if_neg hv0, hsg]; rfl
    rw [hsg] at e1
    clear h0 hv0 hsg
    go_enter Tryz.func27, Tryz.ntmps27
    go_wp2_with fail
    refine (e1 _).mono ?_
    clear e1
    rintro e w1 ⟨rfl, hb1⟩
    unfold gotInt
    go_wp2
    refine bodyPost_ret (results_tmp2 rfl _ _ _) rfl ⟨by rw [HE.out, HZ.out]; rfl, B0.trans (hb1.mono (by simp))⟩
  | some n =>
    have HE : Hid (cellB a t = some (binN a.cuts n : Int)) := by unfold cellB; rw [if_neg h0, if_neg hv0, hsg]; rfl
    have HZ : Hid (cellXs a t = (binN a.cuts n : Int)) := by unfold cellXs; rw [if_neg h0, if_neg hv0, hsg]; rfl
    rw [hsg] at e1
    clear h0 hv0 hsg
    have K0 := Blk.new 57 w #[.string a.name, .slice oc a.cuts.length cc, .slice ov a.vals.length cv]
    go_enter Tryz.func27, Tryz.ntmps27
    go_wp2_with fail
    refine (e1 _).mono ?_
    clear e1
    rintro e w1 ⟨rfl, hb1⟩
    unfold gotInt
    have k1 : w1.cell? ⟨w.heap.size, 1, none⟩ = some (.slice oc a.cuts.length cc) := (K0.below hb1).cell 1
    have B1 := B0.trans (hb1.mono (by simp))
    have e2 := specBin_any _ a.cuts n w1 (HC.out w1 B1) lc
    go_wp2_with fail
    refine e2.mono ?_
    rintro e w2 ⟨rfl, e2'⟩
    rw [e2']
    go_wp2
    refine bodyPost_ret (results_tmp2 rfl _ _ _) rfl ⟨by rw [HE.out, HZ.out]; rfl, B1⟩
end Go.Proofs.YtfekcckckmhioaaGreatDoor
/- The specification's small helper on bounds. -/
namespace Go.Proofs.YtfekcckckmhioaaGreatDoor
open Go.RowKit
set_option maxRecDepth 100000

theorem in_any (x lo hi : Int) (w : World) : Calls Tryz.prog 45 #[.int .i64 x, .int .i64 lo, .int .i64 hi] w fun e w' => e = .returned (.bool (decide (lo ≤ x ∧ x ≤ hi))) ∧ w' = w := by
  by_cases h0 : lo ≤ x <;> by_cases h1 : x ≤ hi
  all_goals
    go_enter Tryz.func45, Tryz.ntmps45
    go_wp2
    go_ret
    exact ⟨by simp [h0, h1], rfl⟩
end Go.Proofs.YtfekcckckmhioaaGreatDoor
/- WordOk: the program's answer and the specification's, for every text. -/
namespace Go.Proofs.YtfekcckckmhioaaGreatDoor
open Go.RowKit
set_option maxRecDepth 100000
set_option maxHeartbeats 400000 in
theorem specWord_any (s : ByteArray) (w : World) (hs : s.size ≤ 9223372036854775807) :
    Calls Tryz.prog 75 #[.string s] w fun e w' => e = .returned (.bool (wordOk s)) ∧ Below w.heap.size w w' := by
  by_cases hl : 1 ≤ s.size ∧ s.size ≤ 8
  · have hd : decide ((1 : Int) ≤ (s.size : Int) ∧ (s.size : Int) ≤ 8) = true := by simp; omega
    have HL : Hid (1 ≤ s.size ∧ s.size ≤ 8) := hl
    clear hl
    go_enter Tryz.func75, Tryz.ntmps75
    go_wp2_with fail
    refine (in_any _ _ _ _).mono ?_
    rintro e w1 ⟨rfl, rfl⟩
    rw [hd]
    clear hd
    go_wp2
    go_loopw [3] (fun i wr => ∃ k : Nat, i = .int .i64 k ∧ k ≤ s.size ∧ (∀ j (hj : j < s.size), j < k → lowB s[j] = true) ∧ wr = w1) (fun i _ => s.size - (intOf i).toNat)
    case atStart => exact ⟨0, rfl, by omega, by omega, rfl⟩
    case round =>
      obtain ⟨k, rfl, hk, hal, rfl⟩ := hrel
      have HA : Hid (∀ j (hj : j < s.size), j < k → lowB s[j] = true) := hal
      clear hal
      by_cases hlt : k < s.size
      · by_cases h1 : (s[k].toNat : Int) < 97
        · have HF : Hid (wordOk s = false) := word_no k hlt (low_no1 h1)
          go_wp2
          go_ret
          exact ⟨by rw [HF.out]; rfl, Below.refl _ _⟩
        · by_cases h2 : (s[k].toNat : Int) ≤ 122
          · have HF : Hid (lowB s[k] = true) := low_yes h1 h2
            go_wp2
            go_roundw
            case rel =>
              refine ⟨k + 1, by go_num, by omega, ?_, by first | rfl | trivial⟩
              intro j hj hjk
              by_cases e : j = k
              · subst e; exact HF.out
              · exact HA.out j hj (by omega)
            case measure => simp [intOf]; omega
          · have HF : Hid (wordOk s = false) := word_no k hlt (low_no2 h2)
            go_wp2
            go_ret
            exact ⟨by rw [HF.out]; rfl, Below.refl _ _⟩
      · have HF : Hid (wordOk s = true) := word_yes HL.out (fun j hj => HA.out j hj (by omega))
        go_wp2
        go_ret
        exact ⟨by rw [HF.out]; rfl, Below.refl _ _⟩
  · have hd : decide ((1 : Int) ≤ (s.size : Int) ∧ (s.size : Int) ≤ 8) = false := by simp; omega
    have HF : Hid (wordOk s = false) := word_len hl
    clear hl
    go_enter Tryz.func75, Tryz.ntmps75
    go_wp2_with fail
    refine (in_any _ _ _ _).mono ?_
    rintro e w1 ⟨rfl, rfl⟩
    rw [hd]
    clear hd
    go_wp2
    go_ret
    exact ⟨by rw [HF.out]; rfl, Below.refl _ _⟩
end Go.Proofs.YtfekcckckmhioaaGreatDoor
/- Lists of words, lists of cuts: whether they are right, by the program and by the specification. -/
namespace Go.Proofs.YtfekcckckmhioaaGreatDoor
open Go.RowKit
set_option maxRecDepth 100000
set_option maxHeartbeats 800000 in
theorem specWords_any (v : Value) (ss : List ByteArray) (w : World) (h : RowS w v ss) (hn : okS ss) :
    Calls Tryz.prog 50 #[v] w fun e w' => e = .returned (.bool (wordsOk ss)) ∧ Below w.heap.size w w' := by
  have hlen := hn.1
  have HO : Hid (okS ss) := hn
  clear hn
  obtain ⟨oa, cap, rfl, hc, hr⟩ := h
  have HR : Hid (0 < ss.length → ∃ g o, oa = some ⟨g, o, none⟩ ∧ g < w.heap.size ∧ ∀ j, j < ss.length → w.cell? ⟨g, o + j, none⟩ = some (.string (tx ss j))) := hr
  clear hr
  go_enter Tryz.func50, Tryz.ntmps50
  go_wp2
  go_loopw [3, 4] (fun i _ wr => ∃ k : Nat, i = .int .i64 k ∧ k ≤ ss.length ∧ (∀ j, j < k → wordAt ss j = true) ∧ Below w.heap.size w wr) (fun i _ _ => ss.length - (intOf i).toNat)
  case atStart => exact ⟨0, rfl, by omega, by omega, Below.refl _ _⟩
  case round =>
    obtain ⟨k, rfl, hk, hal, hb⟩ := hrel
    have HA : Hid (∀ j, j < k → wordAt ss j = true) := hal
    clear hal
    by_cases hlt : k < ss.length
    · obtain ⟨g, o, rfl, hg, hj⟩ := HR.out (by omega)
      have HJ : Hid (∀ j, j < ss.length → w.cell? ⟨g, o + j, none⟩ = some (.string (tx ss j))) := hj
      have hcell : wr.cell? ⟨g, o + k, none⟩ = some (.string (tx ss k)) := (hb.cell (p := ⟨g, o + k, none⟩) hg).trans (hj k hlt)
      clear hj
      have c := specWord_any (tx ss k) wr (HO.out.at hlt)
      cases hw : wordOk (tx ss k) with
      | false =>
        have HF : Hid (wordsOk ss = false) := words_no k hlt (wordAt_no1 hw)
        rw [hw] at c
        clear hw
        go_wp2_with fail
        refine c.mono ?_
        rintro e w1 ⟨rfl, hb1⟩
        clear c
        go_wp2
        go_ret
        exact ⟨by rw [HF.out]; rfl, hb.trans (hb1.mono hb.size)⟩
      | true =>
        have HW : Hid (wordOk (tx ss k) = true) := hw
        rw [hw] at c
        clear hw
        go_wp2_with fail
        refine c.mono ?_
        rintro e w1 ⟨rfl, hb1⟩
        clear c
        have hb2 : Below w.heap.size w w1 := hb.trans (hb1.mono hb.size)
        have hcell1 : w1.cell? ⟨g, o + k, none⟩ = some (.string (tx ss k)) := (hb2.cell (p := ⟨g, o + k, none⟩) hg).trans (HJ.out k hlt)
        clear hcell hb hb1
        go_wp2
        go_loopw [4] (fun i wr => ∃ m q : Nat, i = .int .i64 m ∧ m ≤ k ∧ (∀ j, j < m → tx ss k ≠ tx ss j) ∧ wr = w1.drewN q) (fun i _ => k - (intOf i).toNat)
        case atStart => exact ⟨0, 0, rfl, by omega, by omega, rfl⟩
        case round =>
          obtain ⟨m, q, rfl, hm, hne, rfl⟩ := hrel
          have HN : Hid (∀ j, j < m → tx ss k ≠ tx ss j) := hne
          clear hne
          by_cases hmk : m < k
          · have hcm : w1.cell? ⟨g, o + m, none⟩ = some (.string (tx ss m)) := (hb2.cell (p := ⟨g, o + m, none⟩) hg).trans (HJ.out m (by omega))
            by_cases he : tx ss k = tx ss m
            · have HF : Hid (wordsOk ss = false) := words_no k hlt (wordAt_no2 (hasT_yes (k := m) (by simp; omega) (by rw [tx_take hmk]; exact he)))
              have hq : ((tx ss k).toList == (tx ss m).toList) = true := by rw [← he]; simp
              clear he
              generalize tx ss k = u at hcell1 hq
              generalize tx ss m = u' at hcm hq
              have hml : m < ss.length := by omega
              go_wp2
              go_quiet (fail)
              all_goals go_wp2
              all_goals go_ret
              all_goals exact ⟨by rw [HF.out]; rfl, below_drewN (below_drewN hb2 _) _⟩
            · have hq : ((tx ss k).toList == (tx ss m).toList) = false := by
                rw [beq_eq_false_iff_ne]; exact fun h => he (bytes_eq_iff.1 h)
              have HE : Hid (tx ss k ≠ tx ss m) := he
              clear he
              generalize hu : tx ss k = u at hcell1 hq
              generalize hu' : tx ss m = u' at hcm hq
              have HU : Hid (tx ss k = u) := hu
              have HU' : Hid (tx ss m = u') := hu'
              have hml : m < ss.length := by omega
              clear hu hu'
              go_wp2
              go_quiet (fail)
              all_goals go_wp2
              all_goals go_roundw
              case rel =>
                refine ⟨m + 1, _, by go_num, by omega, ?_, by first | rfl | (simp only [World.drewN_drewN]; rfl)⟩
                intro j hj
                rw [← HU.out]
                by_cases e : j = m
                · subst e; exact HE.out
                · exact HN.out j (by omega)
              case measure => simp [intOf]; omega
          · have HF : Hid (wordAt ss k = true) := wordAt_yes HW.out (hasT_no fun j hj => by
              have hj' : j < k := by simp at hj; omega
              rw [tx_take hj']; exact HN.out j (by omega))
            go_wp2
            go_roundw
            case rel =>
              refine ⟨k + 1, by go_num, by omega, ?_, below_drewN hb2 _⟩
              intro j hj
              by_cases e : j = k
              · subst e; exact HF.out
              · exact HA.out j (by omega)
            case measure => simp [intOf]; omega
    · have HF : Hid (wordsOk ss = true) := words_yes fun j hj => HA.out j (by omega)
      go_wp2
      go_ret
      exact ⟨by rw [HF.out]; rfl, hb⟩
end Go.Proofs.YtfekcckckmhioaaGreatDoor
