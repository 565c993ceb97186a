/- Texts of this claim, put together: part 9. -/
import Derived.Test.YtobimpgapfecoabThinPack7
import Derived.Test.YtobimpgapfecoabThinPack8
import Derived.Test.YtobimpgapfecoabThinPack6
/- What the laws' own helpers write over counts, and look at again. -/
namespace Go.Proofs.Ytobimpgapfecoab
open Go.RowKit
set_option maxRecDepth 100000
set_option linter.unusedSimpArgs false
/-- The number of the first mark of the j-th list. -/
def mkC (k0 : Nat) (p : Nat → Nat) : Nat → Nat
  | 0 => k0
  | j + 1 => mkC k0 p j + p j
theorem mkC_mono {k0 : Nat} {p : Nat → Nat} {i j : Nat} (h : i ≤ j) : mkC k0 p i ≤ mkC k0 p j := by
  induction j with
  | zero => obtain rfl : i = 0 := by omega
            exact Nat.le_refl _
  | succ j ih =>
    by_cases e : i = j + 1
    · subst e; exact Nat.le_refl _
    · have := ih (by omega); simp only [mkC]; omega
def lenL (cs : List (List Int)) (j : Nat) : Nat := (il cs j).length
/-- Lists of numbers, the first i of them marked. -/
structure RowsM (base : Nat) (w : World) (L : Nat → Value) (p K : Nat → Nat) (n i : Nat) : Prop where
  ints : ∀ j, j < n → ∃ xs, w.ownsRow base 3 1 (L j) (p j) xs ∧ (j < i → ∀ t, t < p j → xs[t]? = some (mkI ((K j : Int) + t)))
theorem RowsM.below {base : Nat} {w w' : World} {L : Nat → Value} {p K : Nat → Nat} {n i : Nat} (h : RowsM base w L p K n i) (hb : Below w.heap.size w w') : RowsM base w' L p K n i :=
  ⟨fun j hj => by obtain ⟨xs, a, b⟩ := h.ints j hj; exact ⟨xs, own_below a hb, b⟩⟩
theorem RowsM.kept {base : Nat} {w w' : World} {L : Nat → Value} {p K : Nat → Nat} {n i : Nat} {r : Option Nat} (h : RowsM base w L p K n i) (hg : w.grownBy w' r) (h1 : ∀ j, j < n → (L j).ownBlock = none ∨ (L j).ownBlock ≠ r) : RowsM base w' L p K n i :=
  ⟨fun j hj => by obtain ⟨xs, a, b⟩ := h.ints j hj; exact ⟨xs, a.kept hg (h1 j hj), b⟩⟩
def OrdL (L : Nat → Value) (n : Nat) : Prop := ∀ i j, i < n → j < n → i ≠ j → (L i).ownBlock = none ∨ (L i).ownBlock ≠ (L j).ownBlock
theorem SepII.ordL {base : Nat} {w : World} {v : Value} {L : Nat → Value} {ys : List Value} {cs : List (List Int)} {n : Nat} (h : SepII base w v L ys cs n) : OrdL L n := fun i j hi hj hne => ne_of_ord fun a b ha hb => by
  rcases Nat.lt_or_gt_of_ne hne with h1 | h1
  · have := h.ord i j a b h1 hj ha hb; omega
  · have := h.ord j i b a h1 hi hb ha; omega
theorem RowsM.mark {base : Nat} {w w' : World} {L : Nat → Value} {p K : Nat → Nat} {n i : Nat} (h : RowsM base w L p K n i) (hO : OrdL L n) (hi : i < n) (hg : w.grownBy w' (L i).ownBlock)
    {ys : List Value} (ho : w'.ownsRow base 3 1 (L i) (p i) ys) (hys : ∀ t, t < p i → ys[t]? = some (mkI ((K i : Int) + t))) : RowsM base w' L p K n (i + 1) := by
  refine ⟨fun j hj => ?_⟩
  by_cases e : j = i
  · subst e; exact ⟨ys, ho, fun _ => hys⟩
  · obtain ⟨xs, a, b⟩ := h.ints j hj
    exact ⟨xs, a.kept hg (hO j i hj hi e), fun hlt => b (by omega)⟩
set_option maxHeartbeats 800000 in
theorem markII_pos (g cap n base k0 : Nat) (L : Nat → Value) (p : Nat → Nat) (ys : List Value) (w : World) (hrow : w.ownsRow base 26 1 (.slice (some ⟨g, 0, none⟩) n cap) n ys) (hcells : ∀ j, j < n → ys[j]? = some (L j)) (hR : RowsM base w L p (mkC k0 p) n 0) (hO : OrdL L n)
    (hn : n ≤ 1048576) (hK : mkC k0 p n ≤ 35184372088832) :
    Calls Try.prog 59 #[.slice (some ⟨g, 0, none⟩) n cap, .int .i64 (k0 : Int)] w fun e w' => e = .returned (.int .i64 ((mkC k0 p n : Nat) : Int)) ∧ w'.ownsRow base 26 1 (.slice (some ⟨g, 0, none⟩) n cap) n ys ∧ RowsM base w' L p (mkC k0 p) n n ∧ GrownS w w' (InII L n) := by
  have HO : Hid (OrdL L n) := hO
  have HC : Hid (∀ j, j < n → ys[j]? = some (L j)) := hcells
  have HM : Hid (∀ i, i < n → mkC k0 p i + p i ≤ 35184372088832) := fun i hi => by
    have := mkC_mono (k0 := k0) (p := p) (show i + 1 ≤ n by omega)
    simp only [mkC] at this
    omega
  have HW : Hid (w.ownsRow base 26 1 (.slice (some ⟨g, 0, none⟩) n cap) n ys ∧ RowsM base w L p (mkC k0 p) n 0) := ⟨hrow, hR⟩
  clear hO hcells hrow hR
  go_enter Try.func59, Try.ntmps59
  go_wp2
  go_loopw [1, 5] (fun kv i wr => ∃ q : Nat, i = .int .i64 q ∧ q ≤ n ∧ kv = .int .i64 ((mkC k0 p q : Nat) : Int) ∧ wr.ownsRow base 26 1 (.slice (some ⟨g, 0, none⟩) n cap) n ys ∧ RowsM base wr L p (mkC k0 p) n q ∧ GrownS w wr (InII L n)) (fun _ i _ => n - (intOf i).toNat)
  case atStart => exact ⟨0, rfl, by omega, rfl, HW.out.1, HW.out.2, GrownS.refl _ _⟩
  case round =>
    obtain ⟨q, rfl, hq, rfl, hown, hrows, hgr⟩ := hrel
    by_cases hlt : q < n
    · obtain ⟨xs, hx, -⟩ := hrows.ints q hlt
      obtain ⟨ol, cl, hL⟩ := own_slice hx
      have hcell : wr.cell? ⟨g, q, none⟩ = some (.slice ol (p q) cl) := by rw [hown.cellAt q (by omega), HC.out q hlt, hL]
      have hmq := HM.out q hlt
      have e1 := markI_any (p q) base (L q) ((mkC k0 p q : Nat) : Int) xs wr (by omega) (by omega) (by omega) hx
      rw [hL] at e1
      have HX : Hid (wr.ownsRow base 26 1 (.slice (some ⟨g, 0, none⟩) n cap) n ys ∧ RowsM base wr L p (mkC k0 p) n q ∧ GrownS w wr (InII L n) ∧ wr.ownsRow base 3 1 (L q) (p q) xs) := ⟨hown, hrows, hgr, hx⟩
      have HL : Hid (L q = .slice ol (p q) cl) := hL
      clear hown hrows hgr hx hL
      go_wp2_with fail
      refine e1.mono ?_
      clear e1
      rintro e w1 ⟨rfl, ⟨zs, hz, hzs⟩, hg1⟩
      obtain ⟨hown, hrows, hgr, hx⟩ := HX.out
      rw [← HL.out] at hz hg1
      have own1 := hown.kept hg1 (apart_ty hown hx (by decide))
      have rows1 := hrows.mark HO.out hlt hg1 hz hzs
      have gr1 := hgr.grown hg1 (fun j hj => .inl ⟨q, hlt, hj⟩)
      have HY : Hid (w1.ownsRow base 26 1 (.slice (some ⟨g, 0, none⟩) n cap) n ys ∧ RowsM base w1 L p (mkC k0 p) n (q + 1) ∧ GrownS w w1 (InII L n)) := ⟨own1, rows1, gr1⟩
      have HK2 : Hid (((mkC k0 p (q + 1) : Nat) : Int) = ((mkC k0 p q : Nat) : Int) + (p q : Int)) := by simp only [mkC]; exact Int.natCast_add _ _
      clear own1 rows1 gr1 hown hrows hgr hx hz hzs hg1 HX
      go_wp2
      go_roundw
      case rel => exact ⟨q + 1, by go_num, by omega, by rw [HK2.out], HY.out.1, HY.out.2.1, HY.out.2.2⟩
      case measure => simp [intOf]; omega
    · obtain rfl : q = n := by omega
      have HX : Hid (wr.ownsRow base 26 1 (.slice (some ⟨g, 0, none⟩) q cap) q ys ∧ RowsM base wr L p (mkC k0 p) q q ∧ GrownS w wr (InII L q)) := ⟨hown, hrows, hgr⟩
      clear hown hrows hgr
      go_wp2
      go_ret
      exact ⟨rfl, HX.out.1, HX.out.2.1, HX.out.2.2⟩
end Go.Proofs.Ytobimpgapfecoab
/- What the laws' own helpers look at again over counts. -/
namespace Go.Proofs.Ytobimpgapfecoab
open Go.RowKit
set_option maxRecDepth 100000
set_option linter.unusedSimpArgs false
theorem markII_zero (k0 : Int) (w : World) : Calls Try.prog 59 #[.slice none 0 0, .int .i64 k0] w fun e w' => e = .returned (.int .i64 k0) ∧ w' = w := by
  go_enter Try.func59, Try.ntmps59
  go_wp2
  refine wp_loop_rounds 1 ?_
  rw [rounds_succ]
  go_wp2
  go_ret
  exact ⟨rfl, rfl⟩
theorem markII_any (v : Value) (n base k0 : Nat) (L : Nat → Value) (p : Nat → Nat) (ys : List Value) (w : World) (hrow : w.ownsRow base 26 1 v n ys) (hcells : ∀ j, j < n → ys[j]? = some (L j)) (hR : RowsM base w L p (mkC k0 p) n 0) (hO : OrdL L n)
    (hn : n ≤ 1048576) (hK : mkC k0 p n ≤ 35184372088832) :
    Calls Try.prog 59 #[v, .int .i64 (k0 : Int)] w fun e w' => e = .returned (.int .i64 ((mkC k0 p n : Nat) : Int)) ∧ w'.ownsRow base 26 1 v n ys ∧ RowsM base w' L p (mkC k0 p) n n ∧ GrownS w w' (InII L n) := by
  rcases id hrow.2 with ⟨rfl, rfl⟩ | ⟨g, cap, cur, rfl, _⟩
  · refine (markII_zero k0 w).mono fun e w' ⟨he, hw⟩ => ?_
    subst he hw
    exact ⟨rfl, hrow, hR, GrownS.refl _ _⟩
  · exact markII_pos g cap n base k0 L p ys w hrow hcells hR hO hn hK
/-- Counts that bear the law's marks from k0 on. -/
structure MarkSt (base : Nat) (w : World) (vt vc : Value) (L : Nat → Value) (p : Nat → Nat) (c n k0 : Nat) : Prop where
  tot : ∃ xs, w.ownsRow base 3 1 vt c xs ∧ ∀ t, t < c → xs[t]? = some (mkI ((k0 : Int) + t))
  cells : ∃ ys, w.ownsRow base 26 1 vc n ys ∧ ∀ j, j < n → ys[j]? = some (L j)
  rows : RowsM base w L p (mkC (k0 + c) p) n n
theorem MarkSt.below {base : Nat} {w w' : World} {vt vc : Value} {L : Nat → Value} {p : Nat → Nat} {c n k0 : Nat} (h : MarkSt base w vt vc L p c n k0) (hb : Below w.heap.size w w') : MarkSt base w' vt vc L p c n k0 := by
  obtain ⟨⟨xs, a1, a2⟩, ⟨ys, b1, b2⟩, r⟩ := h
  exact ⟨⟨xs, own_below a1 hb, a2⟩, ⟨ys, own_below b1 hb, b2⟩, r.below hb⟩
end Go.Proofs.Ytobimpgapfecoab
/- What the laws' own helper writes over counts. -/
namespace Go.Proofs.Ytobimpgapfecoab
open Go.RowKit
set_option maxRecDepth 100000
set_option linter.unusedSimpArgs false
theorem SepII.rowsM {base : Nat} {w : World} {v : Value} {L : Nat → Value} {ys : List Value} {cs : List (List Int)} {n : Nat} (h : SepII base w v L ys cs n) (K : Nat → Nat) : RowsM base w L (lenL cs) K n 0 :=
  ⟨fun j hj => ⟨_, h.ints j hj, fun h => by omega⟩⟩
/-- The blocks that the marks of counts may turn. -/
def InSt (vt : Value) (L : Nat → Value) (n : Nat) (k : Nat) : Prop := vt.ownBlock = some k ∨ InII L n k
set_option maxHeartbeats 800000 in
theorem markStats_any (vt vc : Value) (L : Nat → Value) (xs ys : List Value) (cs : List (List Int)) (n c base k0 : Nat) (w : World) (ht : w.ownsRow base 3 1 vt c xs) (h : SepII base w vc L ys cs n)
    (hord : ∀ j a b, j < n → vt.ownBlock = some a → (L j).ownBlock = some b → a ≠ b) (hn : n ≤ 1048576) (hcl : c ≤ 1048576) (hK : mkC (k0 + c) (lenL cs) n ≤ 35184372088832) :
    Calls Try.prog 20 #[.agg #[vt, vc], .int .i64 (k0 : Int)] w fun e w' => e = .returned (.int .i64 ((mkC (k0 + c) (lenL cs) n : Nat) : Int)) ∧ MarkSt base w' vt vc L (lenL cs) c n k0 ∧ GrownS w w' (InSt vt L n) := by
  obtain ⟨K, B0⟩ := blk_1 35 w #[vt, vc]
  have hk := mkC_mono (k0 := k0 + c) (p := lenL cs) (Nat.zero_le n)
  simp only [mkC] at hk
  have HA : Hid (∀ j, j < n → (L j).ownBlock = none ∨ (L j).ownBlock ≠ vt.ownBlock) := fun j hj => ne_of_ord fun a b ha hb => by have := hord j b a hj hb ha; omega
  have HNI : Hid (∀ k, vt.ownBlock = some k → ¬ InII L n k) := fun k hk ⟨j, hj, hin⟩ => hord j k k hj hk hin rfl
  have cI := markI_any c base vt k0 xs _ (by omega) (by omega) (by omega) (own_below ht B0)
  have HS : Hid (SepII base (w.alloc (.cells #[vt, vc] 35)) vc L ys cs n ∧ (w.alloc (.cells #[vt, vc] 35)).ownsRow base 3 1 vt c xs) := ⟨h.below B0, own_below ht B0⟩
  have HLT : Hid (∀ k, vt.ownBlock = some k → k < w.heap.size) := fun k hk => (ht.lt k hk).2
  clear h ht hord B0
  go_enter Try.func20, Try.ntmps20
  go_wp2_with fail
  refine cI.mono ?_
  rintro e w1 ⟨rfl, ⟨zs, hz, hzs⟩, hg1⟩
  clear cI
  obtain ⟨hS, ht1⟩ := HS.out
  have G1 : GrownS (w.alloc (.cells #[vt, vc] 35)) w1 (fun k => vt.ownBlock = some k) := (GrownS.refl _ _).grown hg1 (fun j hj => .inl hj)
  have K1 := G1.blk K (fun e => by have := HLT.out _ e; omega)
  have k1 : w1.cell? ⟨w.heap.size, 1, none⟩ = some vc := K1.cell 1
  have hrow := hS.row.kept hg1 (apart_ty hS.row ht1 (by decide))
  have hR := (hS.rowsM (mkC (k0 + c) (lenL cs))).kept hg1 HA.out
  have cS := markII_any vc n base (k0 + c) L (lenL cs) ys w1 hrow hS.cells hR hS.ordL hn hK
  rw [Int.natCast_add] at cS
  have HX : Hid (GrownS (w.alloc (.cells #[vt, vc] 35)) w1 (fun k => vt.ownBlock = some k) ∧ w1.ownsRow base 3 1 vt c zs ∧ (∀ t, t < c → zs[t]? = some (mkI ((k0 : Int) + t))) ∧ ∀ j, j < n → ys[j]? = some (L j)) := ⟨G1, hz, hzs, hS.cells⟩
  clear hz hzs hg1 G1 K1 K hrow hR hS ht1 HS
  go_wp2_with fail
  refine cS.mono ?_
  rintro e w2 ⟨rfl, hrow, hR, hg2⟩
  clear cS k1
  obtain ⟨G1, hz, hzs, hcells⟩ := HX.out
  have T2 := own_keptS hz hg2 HNI.out
  have G2 : GrownS w w2 (InSt vt L n) := ⟨hg2.os.trans G1.alloc.os, hg2.tape.trans G1.alloc.tape, hg2.output.trans G1.alloc.output, Nat.le_trans G1.alloc.size hg2.size, fun k hk hn => (hg2.block k (Nat.lt_of_lt_of_le hk G1.alloc.size) (fun e => hn (.inr e))).trans (G1.alloc.block k hk (fun e => hn (.inl e)))⟩
  have HY : Hid (MarkSt base w2 vt vc L (lenL cs) c n k0 ∧ GrownS w w2 (InSt vt L n)) := ⟨⟨⟨zs, T2, hzs⟩, ⟨ys, hrow, hcells⟩, hR⟩, G2⟩
  clear T2 G2 hrow hR hg2 G1 hz hzs hcells HX
  go_wp2
  go_ret
  exact ⟨rfl, HY.out⟩
end Go.Proofs.Ytobimpgapfecoab
/- Counts of the call's own, beside what turns other memory. -/
namespace Go.Proofs.Ytobimpgapfecoab
open Go.RowKit
set_option maxRecDepth 100000
theorem SepII.keptS {base n : Nat} {w w' : World} {v : Value} {L : Nat → Value} {ys : List Value} {cs : List (List Int)} {R : Nat → Prop} (h : SepII base w v L ys cs n) (hg : GrownS w w' R) (h1 : ∀ k, v.ownBlock = some k → ¬ R k) (h2 : ∀ k, InII L n k → ¬ R k) : SepII base w' v L ys cs n :=
  ⟨own_keptS h.row hg h1, h.cells, fun j hj => own_keptS (h.ints j hj) hg (fun k hk => h2 k ⟨j, hj, hk⟩), h.ord⟩
theorem SepII.keptG {base n : Nat} {w w' : World} {v : Value} {L : Nat → Value} {ys : List Value} {cs : List (List Int)} {r : Option Nat} (h : SepII base w v L ys cs n) (hg : w.grownBy w' r) (h1 : ∀ k, v.ownBlock = some k → r ≠ some k) (h2 : ∀ k, InII L n k → r ≠ some k) : SepII base w' v L ys cs n := by
  refine ⟨h.row.kept hg ?_, h.cells, fun j hj => (h.ints j hj).kept hg ?_, h.ord⟩
  · cases e : v.ownBlock with
    | none => exact .inl rfl
    | some k => exact .inr fun e' => h1 k e e'.symm
  · cases e : (L j).ownBlock with
    | none => exact .inl rfl
    | some k => exact .inr fun e' => h2 k ⟨j, hj, e⟩ e'.symm
/-- All blocks of counts: their totals', their row's, their lists'. -/
def AllSt (vt vc : Value) (L : Nat → Value) (n : Nat) (k : Nat) : Prop := vt.ownBlock = some k ∨ vc.ownBlock = some k ∨ InII L n k
theorem all_st {base c n : Nat} {w : World} {vt vc : Value} {L : Nat → Value} {xs ys : List Value} {cs : List (List Int)} (ht : w.ownsRow base 3 1 vt c xs) (h : SepII base w vc L ys cs n) : ∀ k, AllSt vt vc L n k → base ≤ k ∧ k < w.heap.size := by
  intro k hk
  rcases hk with hk | hk | ⟨j, hj, hk⟩
  · exact ht.lt k hk
  · exact h.row.lt k hk
  · exact (h.ints j hj).lt k hk
end Go.Proofs.Ytobimpgapfecoab
