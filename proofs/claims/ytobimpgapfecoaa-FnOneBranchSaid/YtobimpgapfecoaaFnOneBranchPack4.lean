/- Texts of this claim, put together: part 4. -/
import Derived.Test.YtobimpgapfecoaaFnOneBranchPack3
import Derived.Test.YtobimpgapfecoaaRows
import Derived.WalkKit
import Derived.ProofKit
import Derived.OpenShut
import Derived.Test.YtobimpgapfecoaaFnOneBranchPack1
import Derived.Test.YtobimpgapfecoaaFnOneBranchPack2
/- Chapter 9 in plain words: questions. -/
namespace Go.Proofs.Ytobimpgapfecoaa
open Go.RowKit
set_option maxRecDepth 100000
structure ForkD where
  attr : Int
  pos : Int
def forkV (f : ForkD) : Value := .agg #[.int .i64 f.attr, .int .i64 f.pos]
def forkAttr (s : SchemaD) (f : ForkD) : AttrD := ad s.attrs f.attr.toNat
def forkTop (s : SchemaD) (f : ForkD) : Int := if 0 < (forkAttr s f).cuts.length then bins (forkAttr s f) - 2 else bins (forkAttr s f) - 1
def forkOk (s : SchemaD) (f : ForkD) : Bool := schemaOk s && (decide (0 ≤ f.attr ∧ f.attr ≤ (s.attrs.length : Int) - 1) && decide (-1 ≤ f.pos ∧ f.pos ≤ forkTop s f))
def branches (s : SchemaD) (f : ForkD) : Int := if forkOk s f = true then (if f.pos = -1 then bins (forkAttr s f) else 2) else 0
def branchOf (s : SchemaD) (f : ForkD) (b : Int) : Int :=
  if forkOk s f = true ∧ 0 ≤ b ∧ b ≤ bins (forkAttr s f) - 1 then
    (if f.pos = -1 then b else if 0 < (forkAttr s f).cuts.length then (if f.pos < b then 1 else 0) else (if b = f.pos then 0 else 1))
  else -1
theorem fork_parts {s : SchemaD} {f : ForkD} (h : forkOk s f = true) : schemaOk s = true ∧ (∃ k : Nat, f.attr = (k : Int) ∧ k < s.attrs.length ∧ forkAttr s f = ad s.attrs k) ∧ -1 ≤ f.pos ∧ f.pos ≤ forkTop s f := by
  unfold forkOk at h
  rw [Bool.and_eq_true, Bool.and_eq_true, decide_eq_true_eq, decide_eq_true_eq] at h
  obtain ⟨h1, h2, h3⟩ := h
  obtain ⟨k, hk⟩ := Int.eq_ofNat_of_zero_le h2.1
  exact ⟨h1, ⟨k, hk, by omega, by unfold forkAttr; rw [hk]; rfl⟩, h3.1, h3.2⟩
/-- The cells of one attribute of a schema that came in, in every later world. -/
theorem attr_at {w : World} {oa : Option Addr} {ka : Nat} {vc : Value} {s : SchemaD} (h : SchemaAt w (.agg #[.slice oa s.attrs.length ka, vc]) s) {k : Nat} (hk : k < s.attrs.length) :
    ∃ ga fa y1 z1 y2 z2, oa = some ⟨ga, fa, none⟩ ∧ ∀ W, Below w.heap.size w W → W.cell? ⟨ga, fa + k * 3, none⟩ = some (.string (ad s.attrs k).name) ∧ W.cell? ⟨ga, fa + k * 3 + 1, none⟩ = some (.slice y1 (ad s.attrs k).cuts.length z1) ∧
      W.cell? ⟨ga, fa + k * 3 + 2, none⟩ = some (.slice y2 (ad s.attrs k).vals.length z2) ∧ AttrAt W (.agg #[.string (ad s.attrs k).name, .slice y1 (ad s.attrs k).cuts.length z1, .slice y2 (ad s.attrs k).vals.length z2]) (ad s.attrs k) := by
  obtain ⟨va', vc', e', rA, -⟩ := h
  cases e'
  obtain ⟨oa', ka', e', -, hrA⟩ := rA
  cases e'
  obtain ⟨ga, fa, rfl, hga, hjA⟩ := hrA (by omega)
  obtain ⟨x1, x2, c0, c1, c2, r1, r2⟩ := hjA k hk
  obtain ⟨y1, z1, rfl, -, -⟩ := id r1
  obtain ⟨y2, z2, rfl, -, -⟩ := id r2
  exact ⟨ga, fa, y1, z1, y2, z2, rfl, fun W hb => ⟨(hb.cell (p := ⟨ga, fa + k * 3, none⟩) hga).trans c0, (hb.cell (p := ⟨ga, fa + k * 3 + 1, none⟩) hga).trans c1, (hb.cell (p := ⟨ga, fa + k * 3 + 2, none⟩) hga).trans c2, _, _, rfl, r1.later hb, r2.later hb⟩⟩
end Go.Proofs.Ytobimpgapfecoaa
/- The specification's small helper on bounds. -/
namespace Go.Proofs.Ytobimpgapfecoaa
open Go.RowKit
set_option maxRecDepth 100000

theorem in_any (x lo hi : Int) (w : World) : Calls Try.prog 55 #[.int .i64 x, .int .i64 lo, .int .i64 hi] w fun e w' => e = .returned (.bool (decide (lo ≤ x ∧ x ≤ hi))) ∧ w' = w := by
  by_cases h0 : lo ≤ x <;> by_cases h1 : x ≤ hi
  all_goals
    go_enter Try.func55, Try.ntmps55
    go_wp2
    go_ret
    exact ⟨by simp [h0, h1], rfl⟩
end Go.Proofs.Ytobimpgapfecoaa
/- WordOk: the program's answer and the specification's, for every text. -/
namespace Go.Proofs.Ytobimpgapfecoaa
open Go.RowKit
set_option maxRecDepth 100000
set_option maxHeartbeats 400000 in
theorem specWord_any (s : ByteArray) (w : World) (hs : s.size ≤ 9223372036854775807) :
    Calls Try.prog 106 #[.string s] w fun e w' => e = .returned (.bool (wordOk s)) ∧ Below w.heap.size w w' := by
  by_cases hl : 1 ≤ s.size ∧ s.size ≤ 8
  · have hd : decide ((1 : Int) ≤ (s.size : Int) ∧ (s.size : Int) ≤ 8) = true := by simp; omega
    have HL : Hid (1 ≤ s.size ∧ s.size ≤ 8) := hl
    clear hl
    go_enter Try.func106, Try.ntmps106
    go_wp2_with fail
    refine (in_any _ _ _ _).mono ?_
    rintro e w1 ⟨rfl, rfl⟩
    rw [hd]
    clear hd
    go_wp2
    go_loopw [3] (fun i wr => ∃ k : Nat, i = .int .i64 k ∧ k ≤ s.size ∧ (∀ j (hj : j < s.size), j < k → lowB s[j] = true) ∧ wr = w1) (fun i _ => s.size - (intOf i).toNat)
    case atStart => exact ⟨0, rfl, by omega, by omega, rfl⟩
    case round =>
      obtain ⟨k, rfl, hk, hal, rfl⟩ := hrel
      have HA : Hid (∀ j (hj : j < s.size), j < k → lowB s[j] = true) := hal
      clear hal
      by_cases hlt : k < s.size
      · by_cases h1 : (s[k].toNat : Int) < 97
        · have HF : Hid (wordOk s = false) := word_no k hlt (low_no1 h1)
          go_wp2
          go_ret
          exact ⟨by rw [HF.out]; rfl, Below.refl _ _⟩
        · by_cases h2 : (s[k].toNat : Int) ≤ 122
          · have HF : Hid (lowB s[k] = true) := low_yes h1 h2
            go_wp2
            go_roundw
            case rel =>
              refine ⟨k + 1, by go_num, by omega, ?_, by first | rfl | trivial⟩
              intro j hj hjk
              by_cases e : j = k
              · subst e; exact HF.out
              · exact HA.out j hj (by omega)
            case measure => simp [intOf]; omega
          · have HF : Hid (wordOk s = false) := word_no k hlt (low_no2 h2)
            go_wp2
            go_ret
            exact ⟨by rw [HF.out]; rfl, Below.refl _ _⟩
      · have HF : Hid (wordOk s = true) := word_yes HL.out (fun j hj => HA.out j hj (by omega))
        go_wp2
        go_ret
        exact ⟨by rw [HF.out]; rfl, Below.refl _ _⟩
  · have hd : decide ((1 : Int) ≤ (s.size : Int) ∧ (s.size : Int) ≤ 8) = false := by simp; omega
    have HF : Hid (wordOk s = false) := word_len hl
    clear hl
    go_enter Try.func106, Try.ntmps106
    go_wp2_with fail
    refine (in_any _ _ _ _).mono ?_
    rintro e w1 ⟨rfl, rfl⟩
    rw [hd]
    clear hd
    go_wp2
    go_ret
    exact ⟨by rw [HF.out]; rfl, Below.refl _ _⟩
end Go.Proofs.Ytobimpgapfecoaa
/- Lists of words, lists of cuts: whether they are right, by the program and by the specification. -/
namespace Go.Proofs.Ytobimpgapfecoaa
open Go.RowKit
set_option maxRecDepth 100000
set_option maxHeartbeats 800000 in
theorem specWords_any (v : Value) (ss : List ByteArray) (w : World) (h : RowS w v ss) (hn : okS ss) :
    Calls Try.prog 102 #[v] w fun e w' => e = .returned (.bool (wordsOk ss)) ∧ Below w.heap.size w w' := by
  have hlen := hn.1
  have HO : Hid (okS ss) := hn
  clear hn
  obtain ⟨oa, cap, rfl, hc, hr⟩ := h
  have HR : Hid (0 < ss.length → ∃ g o, oa = some ⟨g, o, none⟩ ∧ g < w.heap.size ∧ ∀ j, j < ss.length → w.cell? ⟨g, o + j, none⟩ = some (.string (tx ss j))) := hr
  clear hr
  go_enter Try.func102, Try.ntmps102
  go_wp2
  go_loopw [3, 4] (fun i _ wr => ∃ k : Nat, i = .int .i64 k ∧ k ≤ ss.length ∧ (∀ j, j < k → wordAt ss j = true) ∧ Below w.heap.size w wr) (fun i _ _ => ss.length - (intOf i).toNat)
  case atStart => exact ⟨0, rfl, by omega, by omega, Below.refl _ _⟩
  case round =>
    obtain ⟨k, rfl, hk, hal, hb⟩ := hrel
    have HA : Hid (∀ j, j < k → wordAt ss j = true) := hal
    clear hal
    by_cases hlt : k < ss.length
    · obtain ⟨g, o, rfl, hg, hj⟩ := HR.out (by omega)
      have HJ : Hid (∀ j, j < ss.length → w.cell? ⟨g, o + j, none⟩ = some (.string (tx ss j))) := hj
      have hcell : wr.cell? ⟨g, o + k, none⟩ = some (.string (tx ss k)) := (hb.cell (p := ⟨g, o + k, none⟩) hg).trans (hj k hlt)
      clear hj
      have c := specWord_any (tx ss k) wr (HO.out.at hlt)
      cases hw : wordOk (tx ss k) with
      | false =>
        have HF : Hid (wordsOk ss = false) := words_no k hlt (wordAt_no1 hw)
        rw [hw] at c
        clear hw
        go_wp2_with fail
        refine c.mono ?_
        rintro e w1 ⟨rfl, hb1⟩
        clear c
        go_wp2
        go_ret
        exact ⟨by rw [HF.out]; rfl, hb.trans (hb1.mono hb.size)⟩
      | true =>
        have HW : Hid (wordOk (tx ss k) = true) := hw
        rw [hw] at c
        clear hw
        go_wp2_with fail
        refine c.mono ?_
        rintro e w1 ⟨rfl, hb1⟩
        clear c
        have hb2 : Below w.heap.size w w1 := hb.trans (hb1.mono hb.size)
        have hcell1 : w1.cell? ⟨g, o + k, none⟩ = some (.string (tx ss k)) := (hb2.cell (p := ⟨g, o + k, none⟩) hg).trans (HJ.out k hlt)
        clear hcell hb hb1
        go_wp2
        go_loopw [4] (fun i wr => ∃ m q : Nat, i = .int .i64 m ∧ m ≤ k ∧ (∀ j, j < m → tx ss k ≠ tx ss j) ∧ wr = w1.drewN q) (fun i _ => k - (intOf i).toNat)
        case atStart => exact ⟨0, 0, rfl, by omega, by omega, rfl⟩
        case round =>
          obtain ⟨m, q, rfl, hm, hne, rfl⟩ := hrel
          have HN : Hid (∀ j, j < m → tx ss k ≠ tx ss j) := hne
          clear hne
          by_cases hmk : m < k
          · have hcm : w1.cell? ⟨g, o + m, none⟩ = some (.string (tx ss m)) := (hb2.cell (p := ⟨g, o + m, none⟩) hg).trans (HJ.out m (by omega))
            by_cases he : tx ss k = tx ss m
            · have HF : Hid (wordsOk ss = false) := words_no k hlt (wordAt_no2 (hasT_yes (k := m) (by simp; omega) (by rw [tx_take hmk]; exact he)))
              have hq : ((tx ss k).toList == (tx ss m).toList) = true := by rw [← he]; simp
              clear he
              generalize tx ss k = u at hcell1 hq
              generalize tx ss m = u' at hcm hq
              have hml : m < ss.length := by omega
              go_wp2
              go_quiet (fail)
              all_goals go_wp2
              all_goals go_ret
              all_goals exact ⟨by rw [HF.out]; rfl, below_drewN (below_drewN hb2 _) _⟩
            · have hq : ((tx ss k).toList == (tx ss m).toList) = false := by
                rw [beq_eq_false_iff_ne]; exact fun h => he (bytes_eq_iff.1 h)
              have HE : Hid (tx ss k ≠ tx ss m) := he
              clear he
              generalize hu : tx ss k = u at hcell1 hq
              generalize hu' : tx ss m = u' at hcm hq
              have HU : Hid (tx ss k = u) := hu
              have HU' : Hid (tx ss m = u') := hu'
              have hml : m < ss.length := by omega
              clear hu hu'
              go_wp2
              go_quiet (fail)
              all_goals go_wp2
              all_goals go_roundw
              case rel =>
                refine ⟨m + 1, _, by go_num, by omega, ?_, by first | rfl | (simp only [World.drewN_drewN]; rfl)⟩
                intro j hj
                rw [← HU.out]
                by_cases e : j = m
                · subst e; exact HE.out
                · exact HN.out j (by omega)
              case measure => simp [intOf]; omega
          · have HF : Hid (wordAt ss k = true) := wordAt_yes HW.out (hasT_no fun j hj => by
              have hj' : j < k := by simp at hj; omega
              rw [tx_take hj']; exact HN.out j (by omega))
            go_wp2
            go_roundw
            case rel =>
              refine ⟨k + 1, by go_num, by omega, ?_, below_drewN hb2 _⟩
              intro j hj
              by_cases e : j = k
              · subst e; exact HF.out
              · exact HA.out j (by omega)
            case measure => simp [intOf]; omega
    · have HF : Hid (wordsOk ss = true) := words_yes fun j hj => HA.out j (by omega)
      go_wp2
      go_ret
      exact ⟨by rw [HF.out]; rfl, hb⟩
end Go.Proofs.Ytobimpgapfecoaa
