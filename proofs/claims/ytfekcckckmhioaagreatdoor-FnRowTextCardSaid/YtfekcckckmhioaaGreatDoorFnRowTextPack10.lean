/- Texts of this claim, put together: part 10. -/
import Derived.Test.YtfekcckckmhioaaGreatDoorFnRowTextPack9
import Derived.Test.YtfekcckckmhioaaGreatDoorFnRowTextPack3
import Derived.Test.YtfekcckckmhioaaGreatDoorRows
import Derived.WalkKit
import Derived.ProofKit
import Derived.OpenShut
import Derived.Test.YtfekcckckmhioaaGreatDoorFnRowTextPack1
import Derived.Test.YtfekcckckmhioaaGreatDoorFnRowTextPack2
/- An example in a block of its own: it is read and written whole, it is handed back. -/
namespace Go.Proofs.YtfekcckckmhioaaGreatDoor
open Go.RowKit
set_option maxRecDepth 100000
theorem ex_size : (Tryz.prog.info? 30).map (·.size) = some 2 := by kernel_rfl
theorem wp_ex_load {ops : Array Oper} {rest : List Oper} {o : Oper} {a : Act} {w : World} {Q : Exit → Act → World → Prop} (hgd : o.guard = none) (x : Operand) (ho : o.op = .load 30 x)
    (h : ∃ g, a.eval x = .pointer (some ⟨g, 0, none⟩) ∧ ∃ c0 c1, Blk 30 w g #[c0, c1] ∧ wpList Tryz.prog ops Q rest (a.put o.dst (.agg #[c0, c1])) w) : wpList Tryz.prog ops Q (o :: rest) a w := by
  obtain ⟨g, hx, c0, c1, hA, hk⟩ := h
  exact wpList_load_row hgd 30 x ho g hx _ _ _ _ hA Tryz.underlying30 rfl ex_size hk
theorem wp_ex_store {ops : Array Oper} {rest : List Oper} {o : Oper} {a : Act} {w : World} {Q : Exit → Act → World → Prop} (hgd : o.guard = none) (x y : Operand) (ho : o.op = .store 30 x y)
    (h : ∃ g, a.eval x = .pointer (some ⟨g, 0, none⟩) ∧ ∃ o1 l1 k1 n, a.eval y = .agg #[.slice o1 l1 k1, .int .i64 n] ∧ ∃ d0 d1, Blk 30 w g #[d0, d1] ∧ wpList Tryz.prog ops Q rest (a.put o.dst undef) (w.setRow g #[.slice o1 l1 k1, .int .i64 n])) : wpList Tryz.prog ops Q (o :: rest) a w := by
  obtain ⟨g, hx, o1, l1, k1, n, hy, d0, d1, hA, hk⟩ := h
  exact wpList_store_row hgd 30 x y ho g _ hx hy _ _ hA ex_size rfl (by simp [Value.oneCell']) hk
theorem res_ex {fn : Func} {p : Tmp} (h : fn.results = #[.cell p 30]) (tmps : Array Value) (w : World) (g : Nat) (c0 c1 : Value)
    (hp : tmps.getD p undef = .pointer (some ⟨g, 0, none⟩)) (hg : Blk 30 w g #[c0, c1]) : (results fn tmps).run Tryz.prog w = .ok (.agg #[c0, c1]) w :=
  results_cell_row h tmps w g _ _ _ _ hp hg Tryz.underlying30 rfl ex_size
end Go.Proofs.YtfekcckckmhioaaGreatDoor
/- The specification's small helper on bounds. -/
namespace Go.Proofs.YtfekcckckmhioaaGreatDoor
open Go.RowKit
set_option maxRecDepth 100000

theorem in_any (x lo hi : Int) (w : World) : Calls Tryz.prog 45 #[.int .i64 x, .int .i64 lo, .int .i64 hi] w fun e w' => e = .returned (.bool (decide (lo ≤ x ∧ x ≤ hi))) ∧ w' = w := by
  by_cases h0 : lo ≤ x <;> by_cases h1 : x ≤ hi
  all_goals
    go_enter Tryz.func45, Tryz.ntmps45
    go_wp2
    go_ret
    exact ⟨by simp [h0, h1], rfl⟩
end Go.Proofs.YtfekcckckmhioaaGreatDoor
/- WordOk: the program's answer and the specification's, for every text. -/
namespace Go.Proofs.YtfekcckckmhioaaGreatDoor
open Go.RowKit
set_option maxRecDepth 100000
set_option maxHeartbeats 400000 in
theorem specWord_any (s : ByteArray) (w : World) (hs : s.size ≤ 9223372036854775807) :
    Calls Tryz.prog 75 #[.string s] w fun e w' => e = .returned (.bool (wordOk s)) ∧ Below w.heap.size w w' := by
  by_cases hl : 1 ≤ s.size ∧ s.size ≤ 8
  · have hd : decide ((1 : Int) ≤ (s.size : Int) ∧ (s.size : Int) ≤ 8) = true := by simp; omega
    have HL : Hid (1 ≤ s.size ∧ s.size ≤ 8) := hl
    clear hl
    go_enter Tryz.func75, Tryz.ntmps75
    go_wp2_with fail
    refine (in_any _ _ _ _).mono ?_
    rintro e w1 ⟨rfl, rfl⟩
    rw [hd]
    clear hd
    go_wp2
    go_loopw [3] (fun i wr => ∃ k : Nat, i = .int .i64 k ∧ k ≤ s.size ∧ (∀ j (hj : j < s.size), j < k → lowB s[j] = true) ∧ wr = w1) (fun i _ => s.size - (intOf i).toNat)
    case atStart => exact ⟨0, rfl, by omega, by omega, rfl⟩
    case round =>
      obtain ⟨k, rfl, hk, hal, rfl⟩ := hrel
      have HA : Hid (∀ j (hj : j < s.size), j < k → lowB s[j] = true) := hal
      clear hal
      by_cases hlt : k < s.size
      · by_cases h1 : (s[k].toNat : Int) < 97
        · have HF : Hid (wordOk s = false) := word_no k hlt (low_no1 h1)
          go_wp2
          go_ret
          exact ⟨by rw [HF.out]; rfl, Below.refl _ _⟩
        · by_cases h2 : (s[k].toNat : Int) ≤ 122
          · have HF : Hid (lowB s[k] = true) := low_yes h1 h2
            go_wp2
            go_roundw
            case rel =>
              refine ⟨k + 1, by go_num, by omega, ?_, by first | rfl | trivial⟩
              intro j hj hjk
              by_cases e : j = k
              · subst e; exact HF.out
              · exact HA.out j hj (by omega)
            case measure => simp [intOf]; omega
          · have HF : Hid (wordOk s = false) := word_no k hlt (low_no2 h2)
            go_wp2
            go_ret
            exact ⟨by rw [HF.out]; rfl, Below.refl _ _⟩
      · have HF : Hid (wordOk s = true) := word_yes HL.out (fun j hj => HA.out j hj (by omega))
        go_wp2
        go_ret
        exact ⟨by rw [HF.out]; rfl, Below.refl _ _⟩
  · have hd : decide ((1 : Int) ≤ (s.size : Int) ∧ (s.size : Int) ≤ 8) = false := by simp; omega
    have HF : Hid (wordOk s = false) := word_len hl
    clear hl
    go_enter Tryz.func75, Tryz.ntmps75
    go_wp2_with fail
    refine (in_any _ _ _ _).mono ?_
    rintro e w1 ⟨rfl, rfl⟩
    rw [hd]
    clear hd
    go_wp2
    go_ret
    exact ⟨by rw [HF.out]; rfl, Below.refl _ _⟩
end Go.Proofs.YtfekcckckmhioaaGreatDoor
/- Lists of words, lists of cuts: whether they are right, by the program and by the specification. -/
namespace Go.Proofs.YtfekcckckmhioaaGreatDoor
open Go.RowKit
set_option maxRecDepth 100000
set_option maxHeartbeats 800000 in
theorem specWords_any (v : Value) (ss : List ByteArray) (w : World) (h : RowS w v ss) (hn : okS ss) :
    Calls Tryz.prog 50 #[v] w fun e w' => e = .returned (.bool (wordsOk ss)) ∧ Below w.heap.size w w' := by
  have hlen := hn.1
  have HO : Hid (okS ss) := hn
  clear hn
  obtain ⟨oa, cap, rfl, hc, hr⟩ := h
  have HR : Hid (0 < ss.length → ∃ g o, oa = some ⟨g, o, none⟩ ∧ g < w.heap.size ∧ ∀ j, j < ss.length → w.cell? ⟨g, o + j, none⟩ = some (.string (tx ss j))) := hr
  clear hr
  go_enter Tryz.func50, Tryz.ntmps50
  go_wp2
  go_loopw [3, 4] (fun i _ wr => ∃ k : Nat, i = .int .i64 k ∧ k ≤ ss.length ∧ (∀ j, j < k → wordAt ss j = true) ∧ Below w.heap.size w wr) (fun i _ _ => ss.length - (intOf i).toNat)
  case atStart => exact ⟨0, rfl, by omega, by omega, Below.refl _ _⟩
  case round =>
    obtain ⟨k, rfl, hk, hal, hb⟩ := hrel
    have HA : Hid (∀ j, j < k → wordAt ss j = true) := hal
    clear hal
    by_cases hlt : k < ss.length
    · obtain ⟨g, o, rfl, hg, hj⟩ := HR.out (by omega)
      have HJ : Hid (∀ j, j < ss.length → w.cell? ⟨g, o + j, none⟩ = some (.string (tx ss j))) := hj
      have hcell : wr.cell? ⟨g, o + k, none⟩ = some (.string (tx ss k)) := (hb.cell (p := ⟨g, o + k, none⟩) hg).trans (hj k hlt)
      clear hj
      have c := specWord_any (tx ss k) wr (HO.out.at hlt)
      cases hw : wordOk (tx ss k) with
      | false =>
        have HF : Hid (wordsOk ss = false) := words_no k hlt (wordAt_no1 hw)
        rw [hw] at c
        clear hw
        go_wp2_with fail
        refine c.mono ?_
        rintro e w1 ⟨rfl, hb1⟩
        clear c
        go_wp2
        go_ret
        exact ⟨by rw [HF.out]; rfl, hb.trans (hb1.mono hb.size)⟩
      | true =>
        have HW : Hid (wordOk (tx ss k) = true) := hw
        rw [hw] at c
        clear hw
        go_wp2_with fail
        refine c.mono ?_
        rintro e w1 ⟨rfl, hb1⟩
        clear c
        have hb2 : Below w.heap.size w w1 := hb.trans (hb1.mono hb.size)
        have hcell1 : w1.cell? ⟨g, o + k, none⟩ = some (.string (tx ss k)) := (hb2.cell (p := ⟨g, o + k, none⟩) hg).trans (HJ.out k hlt)
        clear hcell hb hb1
        go_wp2
        go_loopw [4] (fun i wr => ∃ m q : Nat, i = .int .i64 m ∧ m ≤ k ∧ (∀ j, j < m → tx ss k ≠ tx ss j) ∧ wr = w1.drewN q) (fun i _ => k - (intOf i).toNat)
        case atStart => exact ⟨0, 0, rfl, by omega, by omega, rfl⟩
        case round =>
          obtain ⟨m, q, rfl, hm, hne, rfl⟩ := hrel
          have HN : Hid (∀ j, j < m → tx ss k ≠ tx ss j) := hne
          clear hne
          by_cases hmk : m < k
          · have hcm : w1.cell? ⟨g, o + m, none⟩ = some (.string (tx ss m)) := (hb2.cell (p := ⟨g, o + m, none⟩) hg).trans (HJ.out m (by omega))
            by_cases he : tx ss k = tx ss m
            · have HF : Hid (wordsOk ss = false) := words_no k hlt (wordAt_no2 (hasT_yes (k := m) (by simp; omega) (by rw [tx_take hmk]; exact he)))
              have hq : ((tx ss k).toList == (tx ss m).toList) = true := by rw [← he]; simp
              clear he
              generalize tx ss k = u at hcell1 hq
              generalize tx ss m = u' at hcm hq
              have hml : m < ss.length := by omega
              go_wp2
              go_quiet (fail)
              all_goals go_wp2
              all_goals go_ret
              all_goals exact ⟨by rw [HF.out]; rfl, below_drewN (below_drewN hb2 _) _⟩
            · have hq : ((tx ss k).toList == (tx ss m).toList) = false := by
                rw [beq_eq_false_iff_ne]; exact fun h => he (bytes_eq_iff.1 h)
              have HE : Hid (tx ss k ≠ tx ss m) := he
              clear he
              generalize hu : tx ss k = u at hcell1 hq
              generalize hu' : tx ss m = u' at hcm hq
              have HU : Hid (tx ss k = u) := hu
              have HU' : Hid (tx ss m = u') := hu'
              have hml : m < ss.length := by omega
              clear hu hu'
              go_wp2
              go_quiet (fail)
              all_goals go_wp2
              all_goals go_roundw
              case rel =>
                refine ⟨m + 1, _, by go_num, by omega, ?_, by first | rfl | (simp only [World.drewN_drewN]; rfl)⟩
                intro j hj
                rw [← HU.out]
                by_cases e : j = m
                · subst e; exact HE.out
                · exact HN.out j (by omega)
              case measure => simp [intOf]; omega
          · have HF : Hid (wordAt ss k = true) := wordAt_yes HW.out (hasT_no fun j hj => by
              have hj' : j < k := by simp at hj; omega
              rw [tx_take hj']; exact HN.out j (by omega))
            go_wp2
            go_roundw
            case rel =>
              refine ⟨k + 1, by go_num, by omega, ?_, below_drewN hb2 _⟩
              intro j hj
              by_cases e : j = k
              · subst e; exact HF.out
              · exact HA.out j (by omega)
            case measure => simp [intOf]; omega
    · have HF : Hid (wordsOk ss = true) := words_yes fun j hj => HA.out j (by omega)
      go_wp2
      go_ret
      exact ⟨by rw [HF.out]; rfl, hb⟩
end Go.Proofs.YtfekcckckmhioaaGreatDoor
