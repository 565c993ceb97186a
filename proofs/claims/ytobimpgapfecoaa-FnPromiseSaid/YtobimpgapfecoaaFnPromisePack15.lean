/- Texts of this claim, put together: part 15. -/
import Derived.Test.YtobimpgapfecoaaRows
import Derived.WalkKit
import Derived.ProofKit
import Derived.OpenShut
import Derived.Test.YtobimpgapfecoaaFnPromisePack1
import Derived.Test.YtobimpgapfecoaaFnPromisePack2
import Derived.Test.YtobimpgapfecoaaFnPromisePack3
/- The specification's small helper on bounds. -/
namespace Go.Proofs.Ytobimpgapfecoaa
open Go.RowKit
set_option maxRecDepth 100000

theorem in_any (x lo hi : Int) (w : World) : Calls Try.prog 55 #[.int .i64 x, .int .i64 lo, .int .i64 hi] w fun e w' => e = .returned (.bool (decide (lo ≤ x ∧ x ≤ hi))) ∧ w' = w := by
  by_cases h0 : lo ≤ x <;> by_cases h1 : x ≤ hi
  all_goals
    go_enter Try.func55, Try.ntmps55
    go_wp2
    go_ret
    exact ⟨by simp [h0, h1], rfl⟩
end Go.Proofs.Ytobimpgapfecoaa
/- WordOk: the program's answer and the specification's, for every text. -/
namespace Go.Proofs.Ytobimpgapfecoaa
open Go.RowKit
set_option maxRecDepth 100000
set_option maxHeartbeats 400000 in
theorem specWord_any (s : ByteArray) (w : World) (hs : s.size ≤ 9223372036854775807) :
    Calls Try.prog 106 #[.string s] w fun e w' => e = .returned (.bool (wordOk s)) ∧ Below w.heap.size w w' := by
  by_cases hl : 1 ≤ s.size ∧ s.size ≤ 8
  · have hd : decide ((1 : Int) ≤ (s.size : Int) ∧ (s.size : Int) ≤ 8) = true := by simp; omega
    have HL : Hid (1 ≤ s.size ∧ s.size ≤ 8) := hl
    clear hl
    go_enter Try.func106, Try.ntmps106
    go_wp2_with fail
    refine (in_any _ _ _ _).mono ?_
    rintro e w1 ⟨rfl, rfl⟩
    rw [hd]
    clear hd
    go_wp2
    go_loopw [3] (fun i wr => ∃ k : Nat, i = .int .i64 k ∧ k ≤ s.size ∧ (∀ j (hj : j < s.size), j < k → lowB s[j] = true) ∧ wr = w1) (fun i _ => s.size - (intOf i).toNat)
    case atStart => exact ⟨0, rfl, by omega, by omega, rfl⟩
    case round =>
      obtain ⟨k, rfl, hk, hal, rfl⟩ := hrel
      have HA : Hid (∀ j (hj : j < s.size), j < k → lowB s[j] = true) := hal
      clear hal
      by_cases hlt : k < s.size
      · by_cases h1 : (s[k].toNat : Int) < 97
        · have HF : Hid (wordOk s = false) := word_no k hlt (low_no1 h1)
          go_wp2
          go_ret
          exact ⟨by rw [HF.out]; rfl, Below.refl _ _⟩
        · by_cases h2 : (s[k].toNat : Int) ≤ 122
          · have HF : Hid (lowB s[k] = true) := low_yes h1 h2
            go_wp2
            go_roundw
            case rel =>
              refine ⟨k + 1, by go_num, by omega, ?_, by first | rfl | trivial⟩
              intro j hj hjk
              by_cases e : j = k
              · subst e; exact HF.out
              · exact HA.out j hj (by omega)
            case measure => simp [intOf]; omega
          · have HF : Hid (wordOk s = false) := word_no k hlt (low_no2 h2)
            go_wp2
            go_ret
            exact ⟨by rw [HF.out]; rfl, Below.refl _ _⟩
      · have HF : Hid (wordOk s = true) := word_yes HL.out (fun j hj => HA.out j hj (by omega))
        go_wp2
        go_ret
        exact ⟨by rw [HF.out]; rfl, Below.refl _ _⟩
  · have hd : decide ((1 : Int) ≤ (s.size : Int) ∧ (s.size : Int) ≤ 8) = false := by simp; omega
    have HF : Hid (wordOk s = false) := word_len hl
    clear hl
    go_enter Try.func106, Try.ntmps106
    go_wp2_with fail
    refine (in_any _ _ _ _).mono ?_
    rintro e w1 ⟨rfl, rfl⟩
    rw [hd]
    clear hd
    go_wp2
    go_ret
    exact ⟨by rw [HF.out]; rfl, Below.refl _ _⟩
end Go.Proofs.Ytobimpgapfecoaa
/- Lists of words, lists of cuts: whether they are right, by the program and by the specification. -/
namespace Go.Proofs.Ytobimpgapfecoaa
open Go.RowKit
set_option maxRecDepth 100000
set_option maxHeartbeats 800000 in
theorem specWords_any (v : Value) (ss : List ByteArray) (w : World) (h : RowS w v ss) (hn : okS ss) :
    Calls Try.prog 102 #[v] w fun e w' => e = .returned (.bool (wordsOk ss)) ∧ Below w.heap.size w w' := by
  have hlen := hn.1
  have HO : Hid (okS ss) := hn
  clear hn
  obtain ⟨oa, cap, rfl, hc, hr⟩ := h
  have HR : Hid (0 < ss.length → ∃ g o, oa = some ⟨g, o, none⟩ ∧ g < w.heap.size ∧ ∀ j, j < ss.length → w.cell? ⟨g, o + j, none⟩ = some (.string (tx ss j))) := hr
  clear hr
  go_enter Try.func102, Try.ntmps102
  go_wp2
  go_loopw [3, 4] (fun i _ wr => ∃ k : Nat, i = .int .i64 k ∧ k ≤ ss.length ∧ (∀ j, j < k → wordAt ss j = true) ∧ Below w.heap.size w wr) (fun i _ _ => ss.length - (intOf i).toNat)
  case atStart => exact ⟨0, rfl, by omega, by omega, Below.refl _ _⟩
  case round =>
    obtain ⟨k, rfl, hk, hal, hb⟩ := hrel
    have HA : Hid (∀ j, j < k → wordAt ss j = true) := hal
    clear hal
    by_cases hlt : k < ss.length
    · obtain ⟨g, o, rfl, hg, hj⟩ := HR.out (by omega)
      have HJ : Hid (∀ j, j < ss.length → w.cell? ⟨g, o + j, none⟩ = some (.string (tx ss j))) := hj
      have hcell : wr.cell? ⟨g, o + k, none⟩ = some (.string (tx ss k)) := (hb.cell (p := ⟨g, o + k, none⟩) hg).trans (hj k hlt)
      clear hj
      have c := specWord_any (tx ss k) wr (HO.out.at hlt)
      cases hw : wordOk (tx ss k) with
      | false =>
        have HF : Hid (wordsOk ss = false) := words_no k hlt (wordAt_no1 hw)
        rw [hw] at c
        clear hw
        go_wp2_with fail
        refine c.mono ?_
        rintro e w1 ⟨rfl, hb1⟩
        clear c
        go_wp2
        go_ret
        exact ⟨by rw [HF.out]; rfl, hb.trans (hb1.mono hb.size)⟩
      | true =>
        have HW : Hid (wordOk (tx ss k) = true) := hw
        rw [hw] at c
        clear hw
        go_wp2_with fail
        refine c.mono ?_
        rintro e w1 ⟨rfl, hb1⟩
        clear c
        have hb2 : Below w.heap.size w w1 := hb.trans (hb1.mono hb.size)
        have hcell1 : w1.cell? ⟨g, o + k, none⟩ = some (.string (tx ss k)) := (hb2.cell (p := ⟨g, o + k, none⟩) hg).trans (HJ.out k hlt)
        clear hcell hb hb1
        go_wp2
        go_loopw [4] (fun i wr => ∃ m q : Nat, i = .int .i64 m ∧ m ≤ k ∧ (∀ j, j < m → tx ss k ≠ tx ss j) ∧ wr = w1.drewN q) (fun i _ => k - (intOf i).toNat)
        case atStart => exact ⟨0, 0, rfl, by omega, by omega, rfl⟩
        case round =>
          obtain ⟨m, q, rfl, hm, hne, rfl⟩ := hrel
          have HN : Hid (∀ j, j < m → tx ss k ≠ tx ss j) := hne
          clear hne
          by_cases hmk : m < k
          · have hcm : w1.cell? ⟨g, o + m, none⟩ = some (.string (tx ss m)) := (hb2.cell (p := ⟨g, o + m, none⟩) hg).trans (HJ.out m (by omega))
            by_cases he : tx ss k = tx ss m
            · have HF : Hid (wordsOk ss = false) := words_no k hlt (wordAt_no2 (hasT_yes (k := m) (by simp; omega) (by rw [tx_take hmk]; exact he)))
              have hq : ((tx ss k).toList == (tx ss m).toList) = true := by rw [← he]; simp
              clear he
              generalize tx ss k = u at hcell1 hq
              generalize tx ss m = u' at hcm hq
              have hml : m < ss.length := by omega
              go_wp2
              go_quiet (fail)
              all_goals go_wp2
              all_goals go_ret
              all_goals exact ⟨by rw [HF.out]; rfl, below_drewN (below_drewN hb2 _) _⟩
            · have hq : ((tx ss k).toList == (tx ss m).toList) = false := by
                rw [beq_eq_false_iff_ne]; exact fun h => he (bytes_eq_iff.1 h)
              have HE : Hid (tx ss k ≠ tx ss m) := he
              clear he
              generalize hu : tx ss k = u at hcell1 hq
              generalize hu' : tx ss m = u' at hcm hq
              have HU : Hid (tx ss k = u) := hu
              have HU' : Hid (tx ss m = u') := hu'
              have hml : m < ss.length := by omega
              clear hu hu'
              go_wp2
              go_quiet (fail)
              all_goals go_wp2
              all_goals go_roundw
              case rel =>
                refine ⟨m + 1, _, by go_num, by omega, ?_, by first | rfl | (simp only [World.drewN_drewN]; rfl)⟩
                intro j hj
                rw [← HU.out]
                by_cases e : j = m
                · subst e; exact HE.out
                · exact HN.out j (by omega)
              case measure => simp [intOf]; omega
          · have HF : Hid (wordAt ss k = true) := wordAt_yes HW.out (hasT_no fun j hj => by
              have hj' : j < k := by simp at hj; omega
              rw [tx_take hj']; exact HN.out j (by omega))
            go_wp2
            go_roundw
            case rel =>
              refine ⟨k + 1, by go_num, by omega, ?_, below_drewN hb2 _⟩
              intro j hj
              by_cases e : j = k
              · subst e; exact HF.out
              · exact HA.out j (by omega)
            case measure => simp [intOf]; omega
    · have HF : Hid (wordsOk ss = true) := words_yes fun j hj => HA.out j (by omega)
      go_wp2
      go_ret
      exact ⟨by rw [HF.out]; rfl, hb⟩
end Go.Proofs.Ytobimpgapfecoaa
/- An attribute, by the specification; its bins, by both. -/
namespace Go.Proofs.Ytobimpgapfecoaa
open Go.RowKit
set_option maxRecDepth 100000

theorem cutAt_no1 {cs : List Int} {k : Nat} (h : ¬ (-9999 ≤ cs.getD k 0 ∧ cs.getD k 0 ≤ 9998)) : cutAt cs k = false := by unfold cutAt; rw [decide_eq_false h]; rfl
theorem cutAt_no2 {cs : List Int} {k : Nat} (h0 : k ≠ 0) (h : cs.getD k 0 ≤ cs.getD (k - 1) 0) : cutAt cs k = false := by
  unfold cutAt
  rw [decide_eq_false h0, decide_eq_false (Int.not_lt.2 h)]; simp
theorem cutAt_yes0 {cs : List Int} (h : -9999 ≤ cs.getD 0 0 ∧ cs.getD 0 0 ≤ 9998) : cutAt cs 0 = true := by unfold cutAt; rw [decide_eq_true h]; rfl
theorem cutAt_yes1 {cs : List Int} {k : Nat} (h : -9999 ≤ cs.getD k 0 ∧ cs.getD k 0 ≤ 9998) (h1 : cs.getD (k - 1) 0 < cs.getD k 0) : cutAt cs k = true := by
  unfold cutAt; rw [decide_eq_true h, decide_eq_true h1]; simp

theorem in_quiet (x lo hi : Int) (b : Bool) (hb : decide (lo ≤ x ∧ x ≤ hi) = b) (w : World) (q n : Nat) : Calls Try.prog 55 #[.int .i64 x, .int .i64 lo, .int .i64 hi] (w.drewN (q + n)) fun e w'' => e = .returned (.bool b) ∧ ∃ n, w'' = w.drewN (q + n) := by
  subst hb
  exact (in_any x lo hi _).mono fun e w' ⟨h1, h2⟩ => ⟨h1, n, h2⟩

set_option maxHeartbeats 1600000 in
theorem specAttrOk_any (v : Value) (a : AttrD) (w : World) (h : AttrAt w v a) (hn : okA a) :
    Calls Try.prog 68 #[v] w fun e w' => e = .returned (.bool (attrOk a)) ∧ Below w.heap.size w w' := by
  obtain ⟨vc, vv, rfl, hc, hv⟩ := h
  obtain ⟨oc, cc, rfl, hcc, hcr⟩ := id hc
  obtain ⟨ov, cv, rfl, hvc, hvr⟩ := id hv
  have HCR : Hid (0 < a.cuts.length → ∃ g o, oc = some ⟨g, o, none⟩ ∧ g < w.heap.size ∧ ∀ j, j < a.cuts.length → w.cell? ⟨g, o + j, none⟩ = some (.int .i64 (a.cuts.getD j 0))) := hcr
  have HVR : Hid (RowS w (.slice ov a.vals.length cv) a.vals) := hv
  have HO : Hid (okA a) := hn
  have lc := hn.cuts
  have lv := hn.vals.1
  clear hc hv hcr hvr hn
  have c := fun W => specWord_any a.name W (by have := HO.out.name; omega)
  go_enter Try.func68, Try.ntmps68
  cases hw : wordOk a.name with
  | false =>
    have HF : Hid (attrOk a = false) := by unfold attrOk; rw [hw]; rfl
    rw [hw] at c
    clear hw
    go_wp2_with fail
    refine (c _).mono ?_
    rintro e w1 ⟨rfl, hb1⟩
    go_wp2
    go_ret
    exact ⟨by rw [HF.out]; rfl, ((Below.refl _ _).alloc (Nat.le_refl _) _).trans (hb1.mono (by simp))⟩
  | true =>
    have HW : Hid (attrOk a = (if a.cuts.length = 0 then choices a.vals 4 else decide (a.vals.length = 0) && (decide (a.cuts.length ≤ 3) && cutsRise a.cuts))) := by unfold attrOk; rw [hw]; rfl
    rw [hw] at c
    clear hw
    go_wp2_with fail
    refine (c _).mono ?_
    rintro e w1 ⟨rfl, hb1⟩
    clear c
    have B1 : Below w.heap.size w w1 := ((Below.refl _ _).alloc (Nat.le_refl _) _).trans (hb1.mono (by simp))
    have K := (Blk.new _ _ _).below hb1
    have k1 := K.cell 1
    have k2 := K.cell 2
    simp at k1 k2
    clear K hb1
    by_cases h0 : a.cuts.length = 0
    · have h0b : ((a.cuts.length : Int) == 0) = true := by simp [h0]
      have HF : Hid (attrOk a = choices a.vals 4) := by rw [HW.out, if_pos h0]; rfl
      clear h0
      go_wp2_with fail
      refine (in_any _ _ _ _).mono ?_
      rintro e w2 ⟨rfl, rfl⟩
      by_cases hl : (2 : Int) ≤ a.vals.length ∧ (a.vals.length : Int) ≤ 4
      · have HG : Hid (choices a.vals 4 = wordsOk a.vals) := by unfold choices; rw [decide_eq_true hl]; rfl
        rw [decide_eq_true hl]
        have c2 := specWords_any _ a.vals w2 (HVR.out.later B1) HO.out.vals
        clear hl
        go_wp2_with fail
        refine c2.mono ?_
        rintro e w3 ⟨rfl, hb2⟩
        go_wp2
        go_ret
        exact ⟨by rw [HF.out, HG.out]; rfl, B1.trans (hb2.mono B1.size)⟩
      · have HG : Hid (choices a.vals 4 = false) := by unfold choices; rw [decide_eq_false hl]; rfl
        rw [decide_eq_false hl]
        clear hl
        go_wp2
        go_ret
        exact ⟨by rw [HF.out, HG.out]; rfl, B1⟩
    · have h0b : ((a.cuts.length : Int) == 0) = false := by simp [h0]
      by_cases hv0 : 0 < a.vals.length
      · have HF : Hid (attrOk a = false) := by rw [HW.out, if_neg h0, decide_eq_false (by omega)]; rfl
        go_wp2
        go_ret
        exact ⟨by rw [HF.out]; rfl, B1⟩
      by_cases h3 : (a.cuts.length : Int) ≤ 3
      rotate_left
      · have HF : Hid (attrOk a = false) := by rw [HW.out, if_neg h0, decide_eq_false (p := a.cuts.length ≤ 3) (by omega)]; exact Bool.and_false _
        go_wp2
        go_ret
        exact ⟨by rw [HF.out]; rfl, B1⟩
      have HC : Hid (attrOk a = cutsRise a.cuts) := by rw [HW.out, if_neg h0, decide_eq_true (p := a.vals.length = 0) (by omega), decide_eq_true (p := a.cuts.length ≤ 3) (by omega)]; rfl
      obtain ⟨g, o, rfl, hg, hj⟩ := HCR.out (by omega)
      have HJ : Hid (∀ j, j < a.cuts.length → w1.cell? ⟨g, o + j, none⟩ = some (.int .i64 (a.cuts.getD j 0))) := fun j hlt => (B1.cell (p := ⟨g, o + j, none⟩) hg).trans (hj j hlt)
      clear hj HCR
      have HH0 : Hid (a.cuts.length ≠ 0) := h0
      clear h0
      generalize a.cuts = cs at *
      go_wp2
      go_loopw [3] (fun i wr => ∃ k q : Nat, i = .int .i64 k ∧ k ≤ cs.length ∧ (∀ j, j < k → cutAt cs j = true) ∧ wr = w1.drewN q) (fun i _ => cs.length - (intOf i).toNat)
      case atStart => exact ⟨0, 0, rfl, by omega, by omega, rfl⟩
      case round =>
        obtain ⟨k, q, rfl, hk, hal, rfl⟩ := hrel
        have HA : Hid (∀ j, j < k → cutAt cs j = true) := hal
        clear hal
        by_cases hlt : k < cs.length
        · have hcell := HJ.out k hlt
          have HP : Hid (k ≠ 0 → w1.cell? ⟨g, o + (k - 1), none⟩ = some (.int .i64 (cs.getD (k - 1) 0))) := fun _ => HJ.out (k - 1) (by omega)
          have Y0 : Hid (k = 0 → -9999 ≤ cs.getD k 0 ∧ cs.getD k 0 ≤ 9998 → cutAt cs k = true) := fun e h => by subst e; exact cutAt_yes0 h
          have Y1 : Hid (-9999 ≤ cs.getD k 0 ∧ cs.getD k 0 ≤ 9998 → cs.getD (k - 1) 0 < cs.getD k 0 → cutAt cs k = true) := cutAt_yes1
          have N1 : Hid (¬ (-9999 ≤ cs.getD k 0 ∧ cs.getD k 0 ≤ 9998) → cutAt cs k = false) := cutAt_no1
          have N2 : Hid (k ≠ 0 → cs.getD k 0 ≤ cs.getD (k - 1) 0 → cutAt cs k = false) := cutAt_no2
          generalize cs.getD k 0 = c at hcell Y0 Y1 N1 N2
          generalize cs.getD (k - 1) 0 = p at HP Y1 N2
          by_cases hr : -9999 ≤ c ∧ c ≤ 9998
          · have cI := in_quiet c (-9999) 9998 true (decide_eq_true hr) w1 q
            by_cases hk0 : ¬ 0 < k
            · have HF : Hid (cutAt cs k = true) := Y0.out (by omega) hr
              clear hr
              go_wp2
              go_quiet (exact cI _)
              all_goals go_wp2
              all_goals go_roundw
              case rel =>
                refine ⟨k + 1, _, by go_num, by omega, ?_, by first | rfl | (simp only [World.drewN_drewN]; rfl)⟩
                intro j hj
                by_cases e : j = k
                · subst e; exact HF.out
                · exact HA.out j (by omega)
              case measure => simp [intOf]; omega
            · obtain ⟨k', rfl⟩ : ∃ k', k = k' + 1 := ⟨k - 1, by omega⟩
              have hcp := HP.out (by omega)
              rw [Nat.add_sub_cancel] at hcp
              have e1 : ((k' + 1 : Nat) : Int) - 1 = (k' : Int) := by omega
              have hk'l : k' < cs.length := by omega
              by_cases hp : c ≤ p
              · have HF : Hid (cutsRise cs = false) := rise_no (k' + 1) hlt (N2.out (by omega) hp)
                clear hr
                go_wp2
                go_quiet (exact cI _)
                all_goals go_wp2
                all_goals go_ret
                all_goals exact ⟨by rw [HC.out, HF.out]; rfl, below_drewN (below_drewN B1 _) _⟩
              · have HF : Hid (cutAt cs (k' + 1) = true) := Y1.out hr (by omega)
                clear hr
                go_wp2
                go_quiet (exact cI _)
                all_goals go_wp2
                all_goals go_roundw
                case rel =>
                  refine ⟨k' + 1 + 1, _, by go_num, by omega, ?_, by first | rfl | (simp only [World.drewN_drewN]; rfl)⟩
                  intro j hj
                  by_cases e : j = k' + 1
                  · subst e; exact HF.out
                  · exact HA.out j (by omega)
                case measure => simp [intOf]; omega
          · have cI := in_quiet c (-9999) 9998 false (decide_eq_false hr) w1 q
            have HF : Hid (cutsRise cs = false) := rise_no k hlt (N1.out hr)
            clear hr
            go_wp2
            go_quiet (exact cI _)
            all_goals go_wp2
            all_goals go_ret
            all_goals exact ⟨by rw [HC.out, HF.out]; rfl, below_drewN (below_drewN B1 _) _⟩
        · have HF : Hid (cutsRise cs = true) := rise_yes fun j hj => HA.out j (by omega)
          go_wp2
          go_ret
          exact ⟨by rw [HC.out, HF.out]; rfl, below_drewN B1 _⟩
end Go.Proofs.Ytobimpgapfecoaa
