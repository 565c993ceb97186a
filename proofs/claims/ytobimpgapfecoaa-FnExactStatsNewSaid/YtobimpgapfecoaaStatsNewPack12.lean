/- Texts of this claim, put together: part 12. -/
import Derived.Test.YtobimpgapfecoaaStatsNewPack11
import Derived.Test.YtobimpgapfecoaaStatsNewPack9
import Derived.Test.YtobimpgapfecoaaStatsNewPack8
/- What the laws' own helper writes over counts. -/
namespace Go.Proofs.Ytobimpgapfecoaa
open Go.RowKit
set_option maxRecDepth 100000
set_option linter.unusedSimpArgs false
theorem SepII.rowsM {base : Nat} {w : World} {v : Value} {L : Nat → Value} {ys : List Value} {cs : List (List Int)} {n : Nat} (h : SepII base w v L ys cs n) (K : Nat → Nat) : RowsM base w L (lenL cs) K n 0 :=
  ⟨fun j hj => ⟨_, h.ints j hj, fun h => by omega⟩⟩
/-- The blocks that the marks of counts may turn. -/
def InSt (vt : Value) (L : Nat → Value) (n : Nat) (k : Nat) : Prop := vt.ownBlock = some k ∨ InII L n k
set_option maxHeartbeats 800000 in
theorem markStats_any (vt vc : Value) (L : Nat → Value) (xs ys : List Value) (cs : List (List Int)) (n c base k0 : Nat) (w : World) (ht : w.ownsRow base 3 1 vt c xs) (h : SepII base w vc L ys cs n)
    (hord : ∀ j a b, j < n → vt.ownBlock = some a → (L j).ownBlock = some b → a ≠ b) (hn : n ≤ 1048576) (hcl : c ≤ 1048576) (hK : mkC (k0 + c) (lenL cs) n ≤ 35184372088832) :
    Calls Try.prog 38 #[.agg #[vt, vc], .int .i64 (k0 : Int)] w fun e w' => e = .returned (.int .i64 ((mkC (k0 + c) (lenL cs) n : Nat) : Int)) ∧ MarkSt base w' vt vc L (lenL cs) c n k0 ∧ GrownS w w' (InSt vt L n) := by
  obtain ⟨K, B0⟩ := blk_1 31 w #[vt, vc]
  have hk := mkC_mono (k0 := k0 + c) (p := lenL cs) (Nat.zero_le n)
  simp only [mkC] at hk
  have HA : Hid (∀ j, j < n → (L j).ownBlock = none ∨ (L j).ownBlock ≠ vt.ownBlock) := fun j hj => ne_of_ord fun a b ha hb => by have := hord j b a hj hb ha; omega
  have HNI : Hid (∀ k, vt.ownBlock = some k → ¬ InII L n k) := fun k hk ⟨j, hj, hin⟩ => hord j k k hj hk hin rfl
  have cI := markI_any c base vt k0 xs _ (by omega) (by omega) (by omega) (own_below ht B0)
  have HS : Hid (SepII base (w.alloc (.cells #[vt, vc] 31)) vc L ys cs n ∧ (w.alloc (.cells #[vt, vc] 31)).ownsRow base 3 1 vt c xs) := ⟨h.below B0, own_below ht B0⟩
  have HLT : Hid (∀ k, vt.ownBlock = some k → k < w.heap.size) := fun k hk => (ht.lt k hk).2
  clear h ht hord B0
  go_enter Try.func38, Try.ntmps38
  go_wp2_with fail
  refine cI.mono ?_
  rintro e w1 ⟨rfl, ⟨zs, hz, hzs⟩, hg1⟩
  clear cI
  obtain ⟨hS, ht1⟩ := HS.out
  have G1 : GrownS (w.alloc (.cells #[vt, vc] 31)) w1 (fun k => vt.ownBlock = some k) := (GrownS.refl _ _).grown hg1 (fun j hj => .inl hj)
  have K1 := G1.blk K (fun e => by have := HLT.out _ e; omega)
  have k1 : w1.cell? ⟨w.heap.size, 1, none⟩ = some vc := K1.cell 1
  have hrow := hS.row.kept hg1 (apart_ty hS.row ht1 (by decide))
  have hR := (hS.rowsM (mkC (k0 + c) (lenL cs))).kept hg1 HA.out
  have cS := markII_any vc n base (k0 + c) L (lenL cs) ys w1 hrow hS.cells hR hS.ordL hn hK
  rw [Int.natCast_add] at cS
  have HX : Hid (GrownS (w.alloc (.cells #[vt, vc] 31)) w1 (fun k => vt.ownBlock = some k) ∧ w1.ownsRow base 3 1 vt c zs ∧ (∀ t, t < c → zs[t]? = some (mkI ((k0 : Int) + t))) ∧ ∀ j, j < n → ys[j]? = some (L j)) := ⟨G1, hz, hzs, hS.cells⟩
  clear hz hzs hg1 G1 K1 K hrow hR hS ht1 HS
  go_wp2_with fail
  refine cS.mono ?_
  rintro e w2 ⟨rfl, hrow, hR, hg2⟩
  clear cS k1
  obtain ⟨G1, hz, hzs, hcells⟩ := HX.out
  have T2 := own_keptS hz hg2 HNI.out
  have G2 : GrownS w w2 (InSt vt L n) := ⟨hg2.os.trans G1.alloc.os, hg2.tape.trans G1.alloc.tape, hg2.output.trans G1.alloc.output, Nat.le_trans G1.alloc.size hg2.size, fun k hk hn => (hg2.block k (Nat.lt_of_lt_of_le hk G1.alloc.size) (fun e => hn (.inr e))).trans (G1.alloc.block k hk (fun e => hn (.inl e)))⟩
  have HY : Hid (MarkSt base w2 vt vc L (lenL cs) c n k0 ∧ GrownS w w2 (InSt vt L n)) := ⟨⟨⟨zs, T2, hzs⟩, ⟨ys, hrow, hcells⟩, hR⟩, G2⟩
  clear T2 G2 hrow hR hg2 G1 hz hzs hcells HX
  go_wp2
  go_ret
  exact ⟨rfl, HY.out⟩
end Go.Proofs.Ytobimpgapfecoaa
/- Counts of the call's own, beside what turns other memory. -/
namespace Go.Proofs.Ytobimpgapfecoaa
open Go.RowKit
set_option maxRecDepth 100000
theorem SepII.keptS {base n : Nat} {w w' : World} {v : Value} {L : Nat → Value} {ys : List Value} {cs : List (List Int)} {R : Nat → Prop} (h : SepII base w v L ys cs n) (hg : GrownS w w' R) (h1 : ∀ k, v.ownBlock = some k → ¬ R k) (h2 : ∀ k, InII L n k → ¬ R k) : SepII base w' v L ys cs n :=
  ⟨own_keptS h.row hg h1, h.cells, fun j hj => own_keptS (h.ints j hj) hg (fun k hk => h2 k ⟨j, hj, hk⟩), h.ord⟩
theorem SepII.keptG {base n : Nat} {w w' : World} {v : Value} {L : Nat → Value} {ys : List Value} {cs : List (List Int)} {r : Option Nat} (h : SepII base w v L ys cs n) (hg : w.grownBy w' r) (h1 : ∀ k, v.ownBlock = some k → r ≠ some k) (h2 : ∀ k, InII L n k → r ≠ some k) : SepII base w' v L ys cs n := by
  refine ⟨h.row.kept hg ?_, h.cells, fun j hj => (h.ints j hj).kept hg ?_, h.ord⟩
  · cases e : v.ownBlock with
    | none => exact .inl rfl
    | some k => exact .inr fun e' => h1 k e e'.symm
  · cases e : (L j).ownBlock with
    | none => exact .inl rfl
    | some k => exact .inr fun e' => h2 k ⟨j, hj, e⟩ e'.symm
/-- All blocks of counts: their totals', their row's, their lists'. -/
def AllSt (vt vc : Value) (L : Nat → Value) (n : Nat) (k : Nat) : Prop := vt.ownBlock = some k ∨ vc.ownBlock = some k ∨ InII L n k
theorem all_st {base c n : Nat} {w : World} {vt vc : Value} {L : Nat → Value} {xs ys : List Value} {cs : List (List Int)} (ht : w.ownsRow base 3 1 vt c xs) (h : SepII base w vc L ys cs n) : ∀ k, AllSt vt vc L n k → base ≤ k ∧ k < w.heap.size := by
  intro k hk
  rcases hk with hk | hk | ⟨j, hj, hk⟩
  · exact ht.lt k hk
  · exact h.row.lt k hk
  · exact (h.ints j hj).lt k hk
end Go.Proofs.Ytobimpgapfecoaa
/- Counts of the call's own, beside what the laws' helpers turn. -/
namespace Go.Proofs.Ytobimpgapfecoaa
open Go.RowKit
set_option maxRecDepth 100000
theorem in_all {vt vc : Value} {L : Nat → Value} {n k : Nat} (h : InSt vt L n k) : AllSt vt vc L n k := h.elim .inl (fun h => .inr (.inr h))
theorem mkC_bound {k0 M : Nat} {p : Nat → Nat} : ∀ n, (∀ j, j < n → p j ≤ M) → mkC k0 p n ≤ k0 + n * M
  | 0, _ => by simp [mkC]
  | n + 1, h => by
    have h1 := mkC_bound (k0 := k0) (M := M) (p := p) n fun j hj => h j (by omega)
    have h2 := h n (by omega)
    simp only [mkC]
    rw [Nat.succ_mul]
    omega
theorem fitSt_mark {t : StatsD} (h : fitSt t) (k0 : Nat) : mkC k0 (lenL t.cells) t.cells.length ≤ k0 + 1099511627776 := by
  have h1 := mkC_bound (k0 := k0) (M := 1048576) (p := lenL t.cells) t.cells.length fun j hj => h.each _ (il_mem hj)
  have h2 := Nat.mul_le_mul_right 1048576 h.cells
  omega
end Go.Proofs.Ytobimpgapfecoaa
/- What the laws' own helpers look at again over counts. -/
namespace Go.Proofs.Ytobimpgapfecoaa
open Go.RowKit
set_option maxRecDepth 100000
set_option linter.unusedSimpArgs false
set_option maxHeartbeats 800000 in
theorem heldII_pos (g cap n base k0 : Nat) (L : Nat → Value) (p : Nat → Nat) (ys : List Value) (w : World) (hrow : w.ownsRow base 28 1 (.slice (some ⟨g, 0, none⟩) n cap) n ys) (hcells : ∀ j, j < n → ys[j]? = some (L j)) (hR : RowsM base w L p (mkC k0 p) n n)
    (hn : n ≤ 1048576) (hK : mkC k0 p n ≤ 35184372088832) :
    Calls Try.prog 85 #[.slice (some ⟨g, 0, none⟩) n cap, .int .i64 (k0 : Int)] w fun e w' => e = .returned (.int .i64 ((mkC k0 p n : Nat) : Int)) ∧ w' = w := by
  have HM : Hid (∀ i, i < n → mkC k0 p i + p i ≤ 35184372088832) := fun i hi => by
    have := mkC_mono (k0 := k0) (p := p) (show i + 1 ≤ n by omega)
    simp only [mkC] at this
    omega
  have HW : Hid (w.ownsRow base 28 1 (.slice (some ⟨g, 0, none⟩) n cap) n ys ∧ RowsM base w L p (mkC k0 p) n n ∧ ∀ j, j < n → ys[j]? = some (L j)) := ⟨hrow, hR, hcells⟩
  clear hcells hrow hR
  go_enter Try.func85, Try.ntmps85
  go_wp2
  go_loop [1, 5] (fun kv i => ∃ q : Nat, i = .int .i64 q ∧ q ≤ n ∧ kv = .int .i64 ((mkC k0 p q : Nat) : Int)) (fun _ i => n - (intOf i).toNat)
  case atStart => exact ⟨0, rfl, by omega, rfl⟩
  case round =>
    obtain ⟨q, rfl, hq, rfl⟩ := hrel
    by_cases hlt : q < n
    · obtain ⟨hown, hrows, hcs⟩ := HW.out
      obtain ⟨xs, hx, hm⟩ := hrows.ints q hlt
      obtain ⟨ol, cl, hL⟩ := own_slice hx
      have hcell : w.cell? ⟨g, q, none⟩ = some (.slice ol (p q) cl) := by rw [hown.cellAt q (by omega), hcs q hlt, hL]
      have hmq := HM.out q hlt
      have e1 := heldI_any (p q) base (L q) ((mkC k0 p q : Nat) : Int) xs w (by omega) (by omega) (by omega) hx (hm hlt)
      rw [hL] at e1
      have HK2 : Hid (((mkC k0 p (q + 1) : Nat) : Int) = ((mkC k0 p q : Nat) : Int) + (p q : Int)) := by simp only [mkC]; exact Int.natCast_add _ _
      have n1 : ¬ ((mkC k0 p q : Nat) : Int) + (p q : Int) < 0 := by omega
      clear hown hrows hcs hx hm hL
      go_wp2_with fail
      refine e1.mono ?_
      clear e1
      rintro e w1 ⟨rfl, rfl⟩
      go_wp2
      go_round
      case rel => exact ⟨q + 1, by go_num, by omega, by rw [HK2.out]⟩
      case measure => simp [intOf]; omega
    · obtain rfl : q = n := by omega
      go_wp2
      go_ret
      exact ⟨rfl, rfl⟩
theorem heldII_zero (k0 : Int) (w : World) : Calls Try.prog 85 #[.slice none 0 0, .int .i64 k0] w fun e w' => e = .returned (.int .i64 k0) ∧ w' = w := by
  go_enter Try.func85, Try.ntmps85
  go_wp2
  refine wp_loop_rounds 1 ?_
  rw [rounds_succ]
  go_wp2
  go_ret
  exact ⟨rfl, rfl⟩
theorem heldII_any (v : Value) (n base k0 : Nat) (L : Nat → Value) (p : Nat → Nat) (ys : List Value) (w : World) (hrow : w.ownsRow base 28 1 v n ys) (hcells : ∀ j, j < n → ys[j]? = some (L j)) (hR : RowsM base w L p (mkC k0 p) n n)
    (hn : n ≤ 1048576) (hK : mkC k0 p n ≤ 35184372088832) :
    Calls Try.prog 85 #[v, .int .i64 (k0 : Int)] w fun e w' => e = .returned (.int .i64 ((mkC k0 p n : Nat) : Int)) ∧ w' = w := by
  rcases id hrow.2 with ⟨rfl, rfl⟩ | ⟨g, cap, cur, rfl, _⟩
  · exact heldII_zero k0 w
  · exact heldII_pos g cap n base k0 L p ys w hrow hcells hR hn hK
set_option maxHeartbeats 400000 in
theorem heldStats_any (vt vc : Value) (L : Nat → Value) (p : Nat → Nat) (c n k0 base : Nat) (w : World) (h : MarkSt base w vt vc L p c n k0) (hc : c ≤ 1048576) (hn : n ≤ 1048576) (hK : mkC (k0 + c) p n ≤ 35184372088832) :
    Calls Try.prog 39 #[.agg #[vt, vc], .int .i64 (k0 : Int)] w fun e w' => e = .returned (.int .i64 ((mkC (k0 + c) p n : Nat) : Int)) ∧ Below w.heap.size w w' := by
  obtain ⟨K, B0⟩ := blk_1 31 w #[vt, vc]
  have hk := mkC_mono (k0 := k0 + c) (p := p) (Nat.zero_le n)
  simp only [mkC] at hk
  obtain ⟨⟨xs, a1, a2⟩, ⟨ys, b1, b2⟩, r⟩ := h.below B0
  have cI := heldI_any c base vt k0 xs _ (by omega) (by omega) (by omega) a1 a2
  have cS := heldII_any vc n base (k0 + c) L p ys _ b1 b2 r hn hK
  rw [Int.natCast_add] at cS
  have k1 : (w.alloc (.cells #[vt, vc] 31)).cell? ⟨w.heap.size, 1, none⟩ = some vc := K.cell 1
  have n1 : ¬ (k0 : Int) + (c : Int) < 0 := by omega
  have n2 : ¬ ((mkC (k0 + c) p n : Nat) : Int) < 0 := by omega
  clear h a1 a2 b1 b2 r K
  go_enter Try.func39, Try.ntmps39
  go_wp2_with fail
  refine cI.mono ?_
  rintro e w1 ⟨rfl, e1⟩
  rw [e1]
  clear cI
  go_wp2_with fail
  refine cS.mono ?_
  rintro e w2 ⟨rfl, e2⟩
  rw [e2]
  clear cS
  go_wp2
  go_ret
  exact ⟨rfl, B0⟩
end Go.Proofs.Ytobimpgapfecoaa
