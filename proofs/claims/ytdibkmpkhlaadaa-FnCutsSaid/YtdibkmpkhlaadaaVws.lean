/- Lists of words, lists of cuts: whether they are right, by the program and by the specification. -/
import Derived.Test.YtdibkmpkhlaadaaVwp
import Derived.Test.YtdibkmpkhlaadaaWos
import Derived.Test.YtdibkmpkhlaadaaRi
namespace Go.Proofs.Ytdibkmpkhlaadaa
open Go.RowKit
set_option maxRecDepth 100000
set_option maxHeartbeats 800000 in
theorem specWords_any (v : Value) (ss : List ByteArray) (w : World) (h : RowS w v ss) (hn : okS ss) :
    Calls Try.prog 42 #[v] w fun e w' => e = .returned (.bool (wordsOk ss)) ∧ Below w.heap.size w w' := by
  have hlen := hn.1
  have HO : Hid (okS ss) := hn
  clear hn
  obtain ⟨oa, cap, rfl, hc, hr⟩ := h
  have HR : Hid (0 < ss.length → ∃ g o, oa = some ⟨g, o, none⟩ ∧ g < w.heap.size ∧ ∀ j, j < ss.length → w.cell? ⟨g, o + j, none⟩ = some (.string (tx ss j))) := hr
  clear hr
  go_enter Try.func42, Try.ntmps42
  go_wp2
  go_loopw [3, 4] (fun i _ wr => ∃ k : Nat, i = .int .i64 k ∧ k ≤ ss.length ∧ (∀ j, j < k → wordAt ss j = true) ∧ Below w.heap.size w wr) (fun i _ _ => ss.length - (intOf i).toNat)
  case atStart => exact ⟨0, rfl, by omega, by omega, Below.refl _ _⟩
  case round =>
    obtain ⟨k, rfl, hk, hal, hb⟩ := hrel
    have HA : Hid (∀ j, j < k → wordAt ss j = true) := hal
    clear hal
    by_cases hlt : k < ss.length
    · obtain ⟨g, o, rfl, hg, hj⟩ := HR.out (by omega)
      have HJ : Hid (∀ j, j < ss.length → w.cell? ⟨g, o + j, none⟩ = some (.string (tx ss j))) := hj
      have hcell : wr.cell? ⟨g, o + k, none⟩ = some (.string (tx ss k)) := (hb.cell (p := ⟨g, o + k, none⟩) hg).trans (hj k hlt)
      clear hj
      have c := specWord_any (tx ss k) wr (HO.out.at hlt)
      cases hw : wordOk (tx ss k) with
      | false =>
        have HF : Hid (wordsOk ss = false) := words_no k hlt (wordAt_no1 hw)
        rw [hw] at c
        clear hw
        go_wp2_with fail
        refine c.mono ?_
        rintro e w1 ⟨rfl, hb1⟩
        clear c
        go_wp2
        go_ret
        exact ⟨by rw [HF.out]; rfl, hb.trans (hb1.mono hb.size)⟩
      | true =>
        have HW : Hid (wordOk (tx ss k) = true) := hw
        rw [hw] at c
        clear hw
        go_wp2_with fail
        refine c.mono ?_
        rintro e w1 ⟨rfl, hb1⟩
        clear c
        have hb2 : Below w.heap.size w w1 := hb.trans (hb1.mono hb.size)
        have hcell1 : w1.cell? ⟨g, o + k, none⟩ = some (.string (tx ss k)) := (hb2.cell (p := ⟨g, o + k, none⟩) hg).trans (HJ.out k hlt)
        clear hcell hb hb1
        go_wp2
        go_loopw [4] (fun i wr => ∃ m q : Nat, i = .int .i64 m ∧ m ≤ k ∧ (∀ j, j < m → tx ss k ≠ tx ss j) ∧ wr = w1.drewN q) (fun i _ => k - (intOf i).toNat)
        case atStart => exact ⟨0, 0, rfl, by omega, by omega, rfl⟩
        case round =>
          obtain ⟨m, q, rfl, hm, hne, rfl⟩ := hrel
          have HN : Hid (∀ j, j < m → tx ss k ≠ tx ss j) := hne
          clear hne
          by_cases hmk : m < k
          · have hcm : w1.cell? ⟨g, o + m, none⟩ = some (.string (tx ss m)) := (hb2.cell (p := ⟨g, o + m, none⟩) hg).trans (HJ.out m (by omega))
            by_cases he : tx ss k = tx ss m
            · have HF : Hid (wordsOk ss = false) := words_no k hlt (wordAt_no2 (hasT_yes (k := m) (by simp; omega) (by rw [tx_take hmk]; exact he)))
              have hq : ((tx ss k).toList == (tx ss m).toList) = true := by rw [← he]; simp
              clear he
              generalize tx ss k = u at hcell1 hq
              generalize tx ss m = u' at hcm hq
              have hml : m < ss.length := by omega
              go_wp2
              go_quiet (fail)
              all_goals go_wp2
              all_goals go_ret
              all_goals exact ⟨by rw [HF.out]; rfl, below_drewN (below_drewN hb2 _) _⟩
            · have hq : ((tx ss k).toList == (tx ss m).toList) = false := by
                rw [beq_eq_false_iff_ne]; exact fun h => he (bytes_eq_iff.1 h)
              have HE : Hid (tx ss k ≠ tx ss m) := he
              clear he
              generalize hu : tx ss k = u at hcell1 hq
              generalize hu' : tx ss m = u' at hcm hq
              have HU : Hid (tx ss k = u) := hu
              have HU' : Hid (tx ss m = u') := hu'
              have hml : m < ss.length := by omega
              clear hu hu'
              go_wp2
              go_quiet (fail)
              all_goals go_wp2
              all_goals go_roundw
              case rel =>
                refine ⟨m + 1, _, by go_num, by omega, ?_, by first | rfl | (simp only [World.drewN_drewN]; rfl)⟩
                intro j hj
                rw [← HU.out]
                by_cases e : j = m
                · subst e; exact HE.out
                · exact HN.out j (by omega)
              case measure => simp [intOf]; omega
          · have HF : Hid (wordAt ss k = true) := wordAt_yes HW.out (hasT_no fun j hj => by
              have hj' : j < k := by simp at hj; omega
              rw [tx_take hj']; exact HN.out j (by omega))
            go_wp2
            go_roundw
            case rel =>
              refine ⟨k + 1, by go_num, by omega, ?_, below_drewN hb2 _⟩
              intro j hj
              by_cases e : j = k
              · subst e; exact HF.out
              · exact HA.out j (by omega)
            case measure => simp [intOf]; omega
    · have HF : Hid (wordsOk ss = true) := words_yes fun j hj => HA.out j (by omega)
      go_wp2
      go_ret
      exact ⟨by rw [HF.out]; rfl, hb⟩
end Go.Proofs.Ytdibkmpkhlaadaa
