/- Texts of this claim, put together: part 10. -/
import Derived.Test.YtobimpgapfecoabThinPack9
import Derived.Test.YtobimpgapfecoabThinPack2
import Derived.Laws.AppendOwnNone
import Derived.Test.YtobimpgapfecoabThinPack5
/- Counts of the call's own, beside what the laws' helpers turn. -/
namespace Go.Proofs.Ytobimpgapfecoab
open Go.RowKit
set_option maxRecDepth 100000
theorem in_all {vt vc : Value} {L : Nat → Value} {n k : Nat} (h : InSt vt L n k) : AllSt vt vc L n k := h.elim .inl (fun h => .inr (.inr h))
theorem mkC_bound {k0 M : Nat} {p : Nat → Nat} : ∀ n, (∀ j, j < n → p j ≤ M) → mkC k0 p n ≤ k0 + n * M
  | 0, _ => by simp [mkC]
  | n + 1, h => by
    have h1 := mkC_bound (k0 := k0) (M := M) (p := p) n fun j hj => h j (by omega)
    have h2 := h n (by omega)
    simp only [mkC]
    rw [Nat.succ_mul]
    omega
theorem fitSt_mark {t : StatsD} (h : fitSt t) (k0 : Nat) : mkC k0 (lenL t.cells) t.cells.length ≤ k0 + 1099511627776 := by
  have h1 := mkC_bound (k0 := k0) (M := 1048576) (p := lenL t.cells) t.cells.length fun j hj => h.each _ (il_mem hj)
  have h2 := Nat.mul_le_mul_right 1048576 h.cells
  omega
end Go.Proofs.Ytobimpgapfecoab
/- What the laws' own helpers look at again over counts. -/
namespace Go.Proofs.Ytobimpgapfecoab
open Go.RowKit
set_option maxRecDepth 100000
set_option linter.unusedSimpArgs false
set_option maxHeartbeats 800000 in
theorem heldII_pos (g cap n base k0 : Nat) (L : Nat → Value) (p : Nat → Nat) (ys : List Value) (w : World) (hrow : w.ownsRow base 26 1 (.slice (some ⟨g, 0, none⟩) n cap) n ys) (hcells : ∀ j, j < n → ys[j]? = some (L j)) (hR : RowsM base w L p (mkC k0 p) n n)
    (hn : n ≤ 1048576) (hK : mkC k0 p n ≤ 35184372088832) :
    Calls Try.prog 60 #[.slice (some ⟨g, 0, none⟩) n cap, .int .i64 (k0 : Int)] w fun e w' => e = .returned (.int .i64 ((mkC k0 p n : Nat) : Int)) ∧ w' = w := by
  have HM : Hid (∀ i, i < n → mkC k0 p i + p i ≤ 35184372088832) := fun i hi => by
    have := mkC_mono (k0 := k0) (p := p) (show i + 1 ≤ n by omega)
    simp only [mkC] at this
    omega
  have HW : Hid (w.ownsRow base 26 1 (.slice (some ⟨g, 0, none⟩) n cap) n ys ∧ RowsM base w L p (mkC k0 p) n n ∧ ∀ j, j < n → ys[j]? = some (L j)) := ⟨hrow, hR, hcells⟩
  clear hcells hrow hR
  go_enter Try.func60, Try.ntmps60
  go_wp2
  go_loop [1, 5] (fun kv i => ∃ q : Nat, i = .int .i64 q ∧ q ≤ n ∧ kv = .int .i64 ((mkC k0 p q : Nat) : Int)) (fun _ i => n - (intOf i).toNat)
  case atStart => exact ⟨0, rfl, by omega, rfl⟩
  case round =>
    obtain ⟨q, rfl, hq, rfl⟩ := hrel
    by_cases hlt : q < n
    · obtain ⟨hown, hrows, hcs⟩ := HW.out
      obtain ⟨xs, hx, hm⟩ := hrows.ints q hlt
      obtain ⟨ol, cl, hL⟩ := own_slice hx
      have hcell : w.cell? ⟨g, q, none⟩ = some (.slice ol (p q) cl) := by rw [hown.cellAt q (by omega), hcs q hlt, hL]
      have hmq := HM.out q hlt
      have e1 := heldI_any (p q) base (L q) ((mkC k0 p q : Nat) : Int) xs w (by omega) (by omega) (by omega) hx (hm hlt)
      rw [hL] at e1
      have HK2 : Hid (((mkC k0 p (q + 1) : Nat) : Int) = ((mkC k0 p q : Nat) : Int) + (p q : Int)) := by simp only [mkC]; exact Int.natCast_add _ _
      have n1 : ¬ ((mkC k0 p q : Nat) : Int) + (p q : Int) < 0 := by omega
      clear hown hrows hcs hx hm hL
      go_wp2_with fail
      refine e1.mono ?_
      clear e1
      rintro e w1 ⟨rfl, rfl⟩
      go_wp2
      go_round
      case rel => exact ⟨q + 1, by go_num, by omega, by rw [HK2.out]⟩
      case measure => simp [intOf]; omega
    · obtain rfl : q = n := by omega
      go_wp2
      go_ret
      exact ⟨rfl, rfl⟩
theorem heldII_zero (k0 : Int) (w : World) : Calls Try.prog 60 #[.slice none 0 0, .int .i64 k0] w fun e w' => e = .returned (.int .i64 k0) ∧ w' = w := by
  go_enter Try.func60, Try.ntmps60
  go_wp2
  refine wp_loop_rounds 1 ?_
  rw [rounds_succ]
  go_wp2
  go_ret
  exact ⟨rfl, rfl⟩
theorem heldII_any (v : Value) (n base k0 : Nat) (L : Nat → Value) (p : Nat → Nat) (ys : List Value) (w : World) (hrow : w.ownsRow base 26 1 v n ys) (hcells : ∀ j, j < n → ys[j]? = some (L j)) (hR : RowsM base w L p (mkC k0 p) n n)
    (hn : n ≤ 1048576) (hK : mkC k0 p n ≤ 35184372088832) :
    Calls Try.prog 60 #[v, .int .i64 (k0 : Int)] w fun e w' => e = .returned (.int .i64 ((mkC k0 p n : Nat) : Int)) ∧ w' = w := by
  rcases id hrow.2 with ⟨rfl, rfl⟩ | ⟨g, cap, cur, rfl, _⟩
  · exact heldII_zero k0 w
  · exact heldII_pos g cap n base k0 L p ys w hrow hcells hR hn hK
set_option maxHeartbeats 400000 in
theorem heldStats_any (vt vc : Value) (L : Nat → Value) (p : Nat → Nat) (c n k0 base : Nat) (w : World) (h : MarkSt base w vt vc L p c n k0) (hc : c ≤ 1048576) (hn : n ≤ 1048576) (hK : mkC (k0 + c) p n ≤ 35184372088832) :
    Calls Try.prog 22 #[.agg #[vt, vc], .int .i64 (k0 : Int)] w fun e w' => e = .returned (.int .i64 ((mkC (k0 + c) p n : Nat) : Int)) ∧ Below w.heap.size w w' := by
  obtain ⟨K, B0⟩ := blk_1 35 w #[vt, vc]
  have hk := mkC_mono (k0 := k0 + c) (p := p) (Nat.zero_le n)
  simp only [mkC] at hk
  obtain ⟨⟨xs, a1, a2⟩, ⟨ys, b1, b2⟩, r⟩ := h.below B0
  have cI := heldI_any c base vt k0 xs _ (by omega) (by omega) (by omega) a1 a2
  have cS := heldII_any vc n base (k0 + c) L p ys _ b1 b2 r hn hK
  rw [Int.natCast_add] at cS
  have k1 : (w.alloc (.cells #[vt, vc] 35)).cell? ⟨w.heap.size, 1, none⟩ = some vc := K.cell 1
  have n1 : ¬ (k0 : Int) + (c : Int) < 0 := by omega
  have n2 : ¬ ((mkC (k0 + c) p n : Nat) : Int) < 0 := by omega
  clear h a1 a2 b1 b2 r K
  go_enter Try.func22, Try.ntmps22
  go_wp2_with fail
  refine cI.mono ?_
  rintro e w1 ⟨rfl, e1⟩
  rw [e1]
  clear cI
  go_wp2_with fail
  refine cS.mono ?_
  rintro e w2 ⟨rfl, e2⟩
  rw [e2]
  clear cS
  go_wp2
  go_ret
  exact ⟨rfl, B0⟩
end Go.Proofs.Ytobimpgapfecoab
/- Lists of integers of the call's own: the empty one; what is appended of a row. -/
namespace Go.Proofs.Ytobimpgapfecoab
open Go.RowKit
set_option maxRecDepth 100000
theorem ownI_lit0 (w : World) (b : Nat) (hb : b ≤ w.heap.size) : (w.alloc (.cells #[] 3)).ownsRow b 3 1 (.slice (some ⟨w.heap.size, 0, none⟩) 0 0) 0 [] :=
  World.ownsRow_lit (base := b) (e := 3) (size := 1) w #[] 0 hb (by decide) rfl

theorem row_news {w : World} {g o k : Nat} {zs : List Int} (h : ∀ j, j < zs.length → w.cell? ⟨g, o + j, none⟩ = some (.int .i64 (zs.getD j 0))) : ∀ (j : Nat) (u : Value), ((zs.take k).map (Value.int .i64))[j]? = some u → w.cell? ((⟨g, o, none⟩ : Addr).add j) = some u := by
  intro j u hj
  have hlt : j < (zs.take k).length := by
    rcases Nat.lt_or_ge j (zs.take k).length with h1 | h1
    · exact h1
    · rw [List.getElem?_eq_none (by simp at h1 ⊢; omega)] at hj; cases hj
  have hlt2 : j < zs.length ∧ j < k := by simp at hlt; omega
  have e : (⟨g, o, none⟩ : Addr).add j = ⟨g, o + j, none⟩ := by unfold Addr.add; split <;> simp_all
  rw [e, h j hlt2.1]
  rw [getD_mapI _ _ hlt] at hj
  rw [← hj]
  congr 2
  rw [List.getD_eq_getElem?_getD, List.getD_eq_getElem?_getD, List.getElem?_take_of_lt hlt2.2]
/-- What the answer is: a list of the call's own. -/
def OwnI (w w' : World) (v : Value) (zs : List Int) : Prop := w'.ownsRow w.heap.size 3 1 v zs.length (zs.map (Value.int .i64)) ∧ Below w.heap.size w w'
end Go.Proofs.Ytobimpgapfecoab
/- Whether counts are thin; a list copied, by the program. -/
namespace Go.Proofs.Ytobimpgapfecoab
open Go.RowKit
set_option maxRecDepth 100000
set_option linter.unusedSimpArgs false
theorem thin_any (v : Value) (t : StatsD) (w : World) (h : StatsAt w v t) :
    Calls Try.prog 77 #[v] w fun e w' => e = .returned (.bool (decide (t.cells.length = 0))) ∧ Below w.heap.size w w' := by
  obtain ⟨vt, vc, rfl, -, hv⟩ := h
  obtain ⟨ov, cv, rfl, -, -⟩ := hv
  by_cases h0 : t.cells.length = 0
  · rw [decide_eq_true h0, h0]
    clear h0
    go_enter Try.func77, Try.ntmps77
    go_wp2
    go_ret
    exact ⟨rfl, (Below.refl _ _).alloc (Nat.le_refl _) _⟩
  · rw [decide_eq_false h0]
    have hq : ((t.cells.length : Int) == 0) = false := by simp; exact fun e => h0 (by simp [e])
    go_enter Try.func77, Try.ntmps77
    go_wp2
    go_ret
    exact ⟨rfl, (Below.refl _ _).alloc (Nat.le_refl _) _⟩
set_option maxHeartbeats 400000 in
theorem listCopy_any (v : Value) (zs : List Int) (w : World) (h : RowI w v zs) (hn : zs.length ≤ 1099511627776) :
    Calls Try.prog 63 #[v] w fun e w' => ∃ v', e = .returned v' ∧ OwnI w w' v' zs := by
  obtain ⟨i0, hi0, hz0, hz1, hz2⟩ := info_parts intInfo
  obtain ⟨oa, cap, rfl, hc, hr⟩ := h
  by_cases h0 : zs.length = 0
  · obtain rfl : zs = [] := List.length_eq_zero_iff.1 h0
    clear hr
    cases oa with
    | none =>
      go_enter Try.func63, Try.ntmps63
      go_wp2
      go_ret
      exact ⟨_, rfl, World.ownsRow_nil _ _ _ _, Below.refl _ _⟩
    | some ad =>
      go_enter Try.func63, Try.ntmps63
      go_wp2
      go_ret
      exact ⟨_, rfl, World.ownsRow_nil _ _ _ _, Below.refl _ _⟩
  · obtain ⟨ga, o, rfl, hg, hj⟩ := hr (by omega)
    clear hr
    have HN : Hid (∀ (j : Nat) (u : Value), (zs.map (Value.int .i64))[j]? = some u → w.cell? ((⟨ga, o, none⟩ : Addr).add j) = some u) := by
      have := row_news (k := zs.length) (w := w) (fun j hlt => hj j hlt)
      rw [List.take_length] at this
      exact this
    clear hj
    go_enter Try.func63, Try.ntmps63
    go_wp2_with (at_builtin; refine wpList_append_own _ rfl _ _ 26 rfl w.heap.size 3 i0 (.int .i64 0) 1 8 Try.underlying26 hi0 hz0 hz1 hz2 rfl (by decide) _ _ _ rfl (World.ownsRow_nil _ _ _ _) ⟨ga, o, none⟩ zs.length cap (zs.map (Value.int .i64)) rfl (by simp) HN.out (ints_oneCell .i64 _) (by unfold maxLen; omega) (by omega) (by omega) ?_)
    intro v1 w1 ho1 hg1 hnil1
    have hb1 : Below w.heap.size w w1 := (Below.refl _ _).grown hg1 (by omega) (fun k hk => by cases hk)
    clear hg1 hnil1 HN
    go_wp2
    go_ret
    exact ⟨_, rfl, ho1, hb1⟩
end Go.Proofs.Ytobimpgapfecoab
