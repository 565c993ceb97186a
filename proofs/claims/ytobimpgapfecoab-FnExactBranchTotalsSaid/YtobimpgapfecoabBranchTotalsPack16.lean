/- Texts of this claim, put together: part 16. -/
import Derived.Test.YtobimpgapfecoabBranchTotalsPack1
import Derived.Test.YtobimpgapfecoabBranchTotalsPack15
import Derived.Test.YtobimpgapfecoabBranchTotalsPack2
/- WordOk: the program's answer and the specification's, for every text. -/
namespace Go.Proofs.Ytobimpgapfecoab
open Go.RowKit
set_option maxRecDepth 100000
set_option maxHeartbeats 400000 in
theorem specWord_any (s : ByteArray) (w : World) (hs : s.size ≤ 9223372036854775807) :
    Calls Try.prog 94 #[.string s] w fun e w' => e = .returned (.bool (wordOk s)) ∧ Below w.heap.size w w' := by
  by_cases hl : 1 ≤ s.size ∧ s.size ≤ 8
  · have hd : decide ((1 : Int) ≤ (s.size : Int) ∧ (s.size : Int) ≤ 8) = true := by simp; omega
    have HL : Hid (1 ≤ s.size ∧ s.size ≤ 8) := hl
    clear hl
    go_enter Try.func94, Try.ntmps94
    go_wp2_with fail
    refine (in_any _ _ _ _).mono ?_
    rintro e w1 ⟨rfl, rfl⟩
    rw [hd]
    clear hd
    go_wp2
    go_loopw [3] (fun i wr => ∃ k : Nat, i = .int .i64 k ∧ k ≤ s.size ∧ (∀ j (hj : j < s.size), j < k → lowB s[j] = true) ∧ wr = w1) (fun i _ => s.size - (intOf i).toNat)
    case atStart => exact ⟨0, rfl, by omega, by omega, rfl⟩
    case round =>
      obtain ⟨k, rfl, hk, hal, rfl⟩ := hrel
      have HA : Hid (∀ j (hj : j < s.size), j < k → lowB s[j] = true) := hal
      clear hal
      by_cases hlt : k < s.size
      · by_cases h1 : (s[k].toNat : Int) < 97
        · have HF : Hid (wordOk s = false) := word_no k hlt (low_no1 h1)
          go_wp2
          go_ret
          exact ⟨by rw [HF.out]; rfl, Below.refl _ _⟩
        · by_cases h2 : (s[k].toNat : Int) ≤ 122
          · have HF : Hid (lowB s[k] = true) := low_yes h1 h2
            go_wp2
            go_roundw
            case rel =>
              refine ⟨k + 1, by go_num, by omega, ?_, by first | rfl | trivial⟩
              intro j hj hjk
              by_cases e : j = k
              · subst e; exact HF.out
              · exact HA.out j hj (by omega)
            case measure => simp [intOf]; omega
          · have HF : Hid (wordOk s = false) := word_no k hlt (low_no2 h2)
            go_wp2
            go_ret
            exact ⟨by rw [HF.out]; rfl, Below.refl _ _⟩
      · have HF : Hid (wordOk s = true) := word_yes HL.out (fun j hj => HA.out j hj (by omega))
        go_wp2
        go_ret
        exact ⟨by rw [HF.out]; rfl, Below.refl _ _⟩
  · have hd : decide ((1 : Int) ≤ (s.size : Int) ∧ (s.size : Int) ≤ 8) = false := by simp; omega
    have HF : Hid (wordOk s = false) := word_len hl
    clear hl
    go_enter Try.func94, Try.ntmps94
    go_wp2_with fail
    refine (in_any _ _ _ _).mono ?_
    rintro e w1 ⟨rfl, rfl⟩
    rw [hd]
    clear hd
    go_wp2
    go_ret
    exact ⟨by rw [HF.out]; rfl, Below.refl _ _⟩
end Go.Proofs.Ytobimpgapfecoab
/- WordOk: the program's answer and the specification's, for every text. -/
namespace Go.Proofs.Ytobimpgapfecoab
open Go.RowKit
set_option maxRecDepth 100000
set_option maxHeartbeats 400000 in
theorem implWord_any (s : ByteArray) (w : World) (hs : s.size ≤ 9223372036854775807) :
    Calls Try.prog 95 #[.string s] w fun e w' => e = .returned (.bool (wordOk s)) ∧ Below w.heap.size w w' := by
  by_cases h1 : 1 ≤ s.size
  · by_cases h8 : s.size ≤ 8
    · have HL : Hid (1 ≤ s.size ∧ s.size ≤ 8) := ⟨h1, h8⟩
      go_enter Try.func95, Try.ntmps95
      go_wp2
      go_loopw [] (fun wr => ∃ k : Nat, k ≤ s.size ∧ (∀ j (hj : j < s.size), j < k → lowB s[j] = true) ∧ wr = w.iter s k) (fun wr => s.size - wr.iterPos w.heap.size)
      case atStart => exact ⟨0, by omega, by omega, rfl⟩
      case round =>
        obtain ⟨k, hk, hal, rfl⟩ := hrel
        have HA : Hid (∀ j (hj : j < s.size), j < k → lowB s[j] = true) := hal
        clear hal
        by_cases hlt : k < s.size
        · by_cases ha : s[k].toNat < 128
          · have hnx : ∀ ty, (Instr.next (.pointer (some ⟨w.heap.size, 0, none⟩)) true ty).run Try.prog (w.iter s k) = _ := fun ty => run_next_ascii w s k ty hlt ha
            by_cases c1 : (s[k].toNat : Int) < 97
            · have HF : Hid (wordOk s = false) := word_no k hlt (low_no1 c1)
              go_wp2
              go_ret
              exact ⟨by rw [HF.out]; rfl, below_iter _ _ _⟩
            · by_cases c2 : (s[k].toNat : Int) ≤ 122
              · have HF : Hid (lowB s[k] = true) := low_yes c1 c2
                go_wp2
                go_roundw
                case rel =>
                  refine ⟨k + 1, by omega, ?_, rfl⟩
                  intro j hj hjk
                  by_cases e : j = k
                  · subst e; exact HF.out
                  · exact HA.out j hj (by omega)
                case measure => simp; omega
              · have HF : Hid (wordOk s = false) := word_no k hlt (low_no2 c2)
                go_wp2
                go_ret
                exact ⟨by rw [HF.out]; rfl, below_iter _ _ _⟩
          · have HF : Hid (wordOk s = false) := word_no k hlt (low_no2 (by omega))
            have hnx : ∀ ty, (Instr.next (.pointer (some ⟨w.heap.size, 0, none⟩)) true ty).run Try.prog (w.iter s k) = _ := fun ty => run_next_any w s k ty hlt
            have hd := (decode_high s k hlt (by omega)).1
            generalize (Utf8.decode s k).1 = r at hnx hd
            generalize k + (Utf8.decode s k).2 = k2 at hnx
            have g1 : ¬ (r : Int) < 97 := by omega
            have g2 : ¬ (r : Int) ≤ 122 := by omega
            go_wp2
            go_ret
            exact ⟨by rw [HF.out]; rfl, below_iter _ _ _⟩
        · have HF : Hid (wordOk s = true) := word_yes HL.out (fun j hj => HA.out j hj (by omega))
          have hnx : ∀ ty, (Instr.next (.pointer (some ⟨w.heap.size, 0, none⟩)) true ty).run Try.prog (w.iter s k) = _ := fun ty => run_next_end w s k ty hlt
          go_wp2
          go_ret
          exact ⟨by rw [HF.out]; rfl, below_iter _ _ _⟩
    · have HF : Hid (wordOk s = false) := word_len (by omega)
      go_enter Try.func95, Try.ntmps95
      go_wp2
      go_ret
      exact ⟨by rw [HF.out]; rfl, Below.refl _ _⟩
  · have HF : Hid (wordOk s = false) := word_len (by omega)
    go_enter Try.func95, Try.ntmps95
    go_wp2
    go_ret
    exact ⟨by rw [HF.out]; rfl, Below.refl _ _⟩
end Go.Proofs.Ytobimpgapfecoab
/- Lists of words, lists of cuts: whether they are right, by the program and by the specification. -/
namespace Go.Proofs.Ytobimpgapfecoab
open Go.RowKit
set_option maxRecDepth 100000
set_option maxHeartbeats 800000 in
theorem specWords_any (v : Value) (ss : List ByteArray) (w : World) (h : RowS w v ss) (hn : okS ss) :
    Calls Try.prog 88 #[v] w fun e w' => e = .returned (.bool (wordsOk ss)) ∧ Below w.heap.size w w' := by
  have hlen := hn.1
  have HO : Hid (okS ss) := hn
  clear hn
  obtain ⟨oa, cap, rfl, hc, hr⟩ := h
  have HR : Hid (0 < ss.length → ∃ g o, oa = some ⟨g, o, none⟩ ∧ g < w.heap.size ∧ ∀ j, j < ss.length → w.cell? ⟨g, o + j, none⟩ = some (.string (tx ss j))) := hr
  clear hr
  go_enter Try.func88, Try.ntmps88
  go_wp2
  go_loopw [3, 4] (fun i _ wr => ∃ k : Nat, i = .int .i64 k ∧ k ≤ ss.length ∧ (∀ j, j < k → wordAt ss j = true) ∧ Below w.heap.size w wr) (fun i _ _ => ss.length - (intOf i).toNat)
  case atStart => exact ⟨0, rfl, by omega, by omega, Below.refl _ _⟩
  case round =>
    obtain ⟨k, rfl, hk, hal, hb⟩ := hrel
    have HA : Hid (∀ j, j < k → wordAt ss j = true) := hal
    clear hal
    by_cases hlt : k < ss.length
    · obtain ⟨g, o, rfl, hg, hj⟩ := HR.out (by omega)
      have HJ : Hid (∀ j, j < ss.length → w.cell? ⟨g, o + j, none⟩ = some (.string (tx ss j))) := hj
      have hcell : wr.cell? ⟨g, o + k, none⟩ = some (.string (tx ss k)) := (hb.cell (p := ⟨g, o + k, none⟩) hg).trans (hj k hlt)
      clear hj
      have c := specWord_any (tx ss k) wr (HO.out.at hlt)
      cases hw : wordOk (tx ss k) with
      | false =>
        have HF : Hid (wordsOk ss = false) := words_no k hlt (wordAt_no1 hw)
        rw [hw] at c
        clear hw
        go_wp2_with fail
        refine c.mono ?_
        rintro e w1 ⟨rfl, hb1⟩
        clear c
        go_wp2
        go_ret
        exact ⟨by rw [HF.out]; rfl, hb.trans (hb1.mono hb.size)⟩
      | true =>
        have HW : Hid (wordOk (tx ss k) = true) := hw
        rw [hw] at c
        clear hw
        go_wp2_with fail
        refine c.mono ?_
        rintro e w1 ⟨rfl, hb1⟩
        clear c
        have hb2 : Below w.heap.size w w1 := hb.trans (hb1.mono hb.size)
        have hcell1 : w1.cell? ⟨g, o + k, none⟩ = some (.string (tx ss k)) := (hb2.cell (p := ⟨g, o + k, none⟩) hg).trans (HJ.out k hlt)
        clear hcell hb hb1
        go_wp2
        go_loopw [4] (fun i wr => ∃ m q : Nat, i = .int .i64 m ∧ m ≤ k ∧ (∀ j, j < m → tx ss k ≠ tx ss j) ∧ wr = w1.drewN q) (fun i _ => k - (intOf i).toNat)
        case atStart => exact ⟨0, 0, rfl, by omega, by omega, rfl⟩
        case round =>
          obtain ⟨m, q, rfl, hm, hne, rfl⟩ := hrel
          have HN : Hid (∀ j, j < m → tx ss k ≠ tx ss j) := hne
          clear hne
          by_cases hmk : m < k
          · have hcm : w1.cell? ⟨g, o + m, none⟩ = some (.string (tx ss m)) := (hb2.cell (p := ⟨g, o + m, none⟩) hg).trans (HJ.out m (by omega))
            by_cases he : tx ss k = tx ss m
            · have HF : Hid (wordsOk ss = false) := words_no k hlt (wordAt_no2 (hasT_yes (k := m) (by simp; omega) (by rw [tx_take hmk]; exact he)))
              have hq : ((tx ss k).toList == (tx ss m).toList) = true := by rw [← he]; simp
              clear he
              generalize tx ss k = u at hcell1 hq
              generalize tx ss m = u' at hcm hq
              have hml : m < ss.length := by omega
              go_wp2
              go_quiet (fail)
              all_goals go_wp2
              all_goals go_ret
              all_goals exact ⟨by rw [HF.out]; rfl, below_drewN (below_drewN hb2 _) _⟩
            · have hq : ((tx ss k).toList == (tx ss m).toList) = false := by
                rw [beq_eq_false_iff_ne]; exact fun h => he (bytes_eq_iff.1 h)
              have HE : Hid (tx ss k ≠ tx ss m) := he
              clear he
              generalize hu : tx ss k = u at hcell1 hq
              generalize hu' : tx ss m = u' at hcm hq
              have HU : Hid (tx ss k = u) := hu
              have HU' : Hid (tx ss m = u') := hu'
              have hml : m < ss.length := by omega
              clear hu hu'
              go_wp2
              go_quiet (fail)
              all_goals go_wp2
              all_goals go_roundw
              case rel =>
                refine ⟨m + 1, _, by go_num, by omega, ?_, by first | rfl | (simp only [World.drewN_drewN]; rfl)⟩
                intro j hj
                rw [← HU.out]
                by_cases e : j = m
                · subst e; exact HE.out
                · exact HN.out j (by omega)
              case measure => simp [intOf]; omega
          · have HF : Hid (wordAt ss k = true) := wordAt_yes HW.out (hasT_no fun j hj => by
              have hj' : j < k := by simp at hj; omega
              rw [tx_take hj']; exact HN.out j (by omega))
            go_wp2
            go_roundw
            case rel =>
              refine ⟨k + 1, by go_num, by omega, ?_, below_drewN hb2 _⟩
              intro j hj
              by_cases e : j = k
              · subst e; exact HF.out
              · exact HA.out j (by omega)
            case measure => simp [intOf]; omega
    · have HF : Hid (wordsOk ss = true) := words_yes fun j hj => HA.out j (by omega)
      go_wp2
      go_ret
      exact ⟨by rw [HF.out]; rfl, hb⟩
end Go.Proofs.Ytobimpgapfecoab
/- Lists of words, lists of cuts: whether they are right, by the program and by the specification. -/
namespace Go.Proofs.Ytobimpgapfecoab
open Go.RowKit
set_option maxRecDepth 100000
set_option maxHeartbeats 800000 in
theorem implChoices_any (v : Value) (ss : List ByteArray) (most : Int) (w : World) (h : RowS w v ss) (hn : okS ss) :
    Calls Try.prog 91 #[v, .int .i64 most] w fun e w' => e = .returned (.bool (choices ss most)) ∧ Below w.heap.size w w' := by
  have hlen := hn.1
  have HO : Hid (okS ss) := hn
  clear hn
  obtain ⟨oa, cap, rfl, hc, hr⟩ := h
  have HR : Hid (0 < ss.length → ∃ g o, oa = some ⟨g, o, none⟩ ∧ g < w.heap.size ∧ ∀ j, j < ss.length → w.cell? ⟨g, o + j, none⟩ = some (.string (tx ss j))) := hr
  clear hr
  by_cases h2 : (ss.length : Int) < 2
  · have HF : Hid (choices ss most = false) := by unfold choices; rw [decide_eq_false (by omega)]; rfl
    go_enter Try.func91, Try.ntmps91
    go_wp2
    go_ret
    exact ⟨by rw [HF.out]; rfl, Below.refl _ _⟩
  by_cases h4 : (ss.length : Int) ≤ most
  rotate_left
  · have HF : Hid (choices ss most = false) := by unfold choices; rw [decide_eq_false (by omega)]; rfl
    go_enter Try.func91, Try.ntmps91
    go_wp2
    go_ret
    exact ⟨by rw [HF.out]; rfl, Below.refl _ _⟩
  have HC : Hid (choices ss most = wordsOk ss) := by unfold choices; rw [decide_eq_true (by omega)]; rfl
  go_enter Try.func91, Try.ntmps91
  go_wp2
  go_loopw [18] (fun i wr => ∃ k : Nat, i = .int .i64 k ∧ k ≤ ss.length ∧ (∀ j, j < k → wordAt ss j = true) ∧ Below w.heap.size w wr) (fun i _ => ss.length - (intOf i).toNat)
  case atStart => exact ⟨0, rfl, by omega, by omega, Below.refl _ _⟩
  case round =>
    obtain ⟨k, rfl, hk, hal, hb⟩ := hrel
    have HA : Hid (∀ j, j < k → wordAt ss j = true) := hal
    clear hal
    by_cases hlt : k < ss.length
    · obtain ⟨g, o, rfl, hg, hj⟩ := HR.out (by omega)
      have HRS : Hid (∀ wx, Below w.heap.size w wx → RowS wx (.slice (some ⟨g, o, none⟩) k cap) (ss.take k)) := fun wx hx =>
        RowS.take (n := ss.length) (RowS.later ⟨_, _, rfl, hc, fun _ => ⟨g, o, rfl, hg, hj⟩⟩ hx) (by omega)
      have HJ : Hid (∀ j, j < ss.length → w.cell? ⟨g, o + j, none⟩ = some (.string (tx ss j))) := hj
      have hcell : wr.cell? ⟨g, o + k, none⟩ = some (.string (tx ss k)) := (hb.cell (p := ⟨g, o + k, none⟩) hg).trans (hj k hlt)
      clear hj
      have c := implWord_any (tx ss k) wr (HO.out.at hlt)
      cases hw : wordOk (tx ss k) with
      | false =>
        have HF : Hid (wordsOk ss = false) := words_no k hlt (wordAt_no1 hw)
        rw [hw] at c
        clear hw
        go_wp2_with fail
        refine c.mono ?_
        rintro e w1 ⟨rfl, hb1⟩
        clear c
        go_wp2
        go_ret
        exact ⟨by rw [HC.out, HF.out]; rfl, hb.trans (hb1.mono hb.size)⟩
      | true =>
        rw [hw] at c
        cases ht : hasT (ss.take k) (tx ss k) with
        | true =>
          have HF : Hid (wordsOk ss = false) := words_no k hlt (wordAt_no2 ht)
          have HT : Hid (hasT (ss.take k) (tx ss k) = true) := ht
          clear hw ht
          go_wp2_with fail
          refine c.mono ?_
          rintro e w1 ⟨rfl, hb1⟩
          clear c
          have hb2 : Below w.heap.size w w1 := hb.trans (hb1.mono hb.size)
          have c2 := contains_any _ (ss.take k) (tx ss k) w1 (HRS.out w1 hb2) (by simp; omega)
          rw [HT.out] at c2
          clear hcell
          go_wp2_with fail
          refine c2.mono ?_
          rintro e w2 ⟨rfl, hb3⟩
          clear c2
          go_wp2
          go_ret
          exact ⟨by rw [HC.out, HF.out]; rfl, hb2.trans (hb3.mono hb2.size)⟩
        | false =>
          have HF : Hid (wordAt ss k = true) := wordAt_yes hw ht
          have HT : Hid (hasT (ss.take k) (tx ss k) = false) := ht
          clear hw ht
          go_wp2_with fail
          refine c.mono ?_
          rintro e w1 ⟨rfl, hb1⟩
          clear c
          have hb2 : Below w.heap.size w w1 := hb.trans (hb1.mono hb.size)
          have c2 := contains_any _ (ss.take k) (tx ss k) w1 (HRS.out w1 hb2) (by simp; omega)
          rw [HT.out] at c2
          clear hcell
          go_wp2_with fail
          refine c2.mono ?_
          rintro e w2 ⟨rfl, hb3⟩
          clear c2
          have hb4 := hb2.trans (hb3.mono hb2.size)
          clear hb3 hb2 hb1 hb
          go_wp2
          go_roundw
          case rel =>
            refine ⟨k + 1, by go_num, by omega, ?_, hb4⟩
            intro j hj
            by_cases e : j = k
            · subst e; exact HF.out
            · exact HA.out j (by omega)
          case measure => simp [intOf]; omega
    · have HF : Hid (wordsOk ss = true) := words_yes fun j hj => HA.out j (by omega)
      go_wp2
      go_ret
      exact ⟨by rw [HC.out, HF.out]; rfl, hb⟩
end Go.Proofs.Ytobimpgapfecoab
