/- Texts of this claim, put together: part 11. -/
import Derived.Test.YtobimpgapfecoaaStatsNewPack6
import Derived.Test.YtobimpgapfecoaaStatsNewPack10
import Derived.Test.YtobimpgapfecoaaRows
import Derived.WalkKit
import Derived.ProofKit
import Derived.OpenShut
import Derived.Test.YtobimpgapfecoaaStatsNewPack7
import Derived.Test.YtobimpgapfecoaaStatsNewPack8
/- Counts that come in to a law: what their reading says of their cells. -/
namespace Go.Proofs.Ytobimpgapfecoaa
open Go.ChangeShapes Go.WideShapes Go.ChangeAt Go.RowKit Go.Deep
set_option maxRecDepth 100000
theorem stats_cells : Try.prog.cellsOf 69 = 2 := by kernel_rfl
theorem cells1_intss : Try.prog.cellsOf 29 = 1 := by kernel_rfl
theorem row_intss {H : Type} {enc : TypeId × Value → H} {W : World} {base fuel : Nat} {hd : Bool} {cs : List Value} {x : DataW H × List MemPlace}
    (h : DataW.trod enc Try.prog W base (fun _ => true) hd fuel 29 cs = some x) : ∃ v ls, cs = [v] ∧ RowII W v ls ∧ ls.length ≤ 9223372036854775807 ∧ ∀ c ∈ ls, c.length ≤ 9223372036854775807 := by
  rcases open_slice Try.underlying29 h with ⟨hcs, _⟩ | ⟨x, l, c, m, n, D, Pl, hcs, _, hl, hm, hmm, _, hcell⟩
  · exact ⟨_, [], hcs, ⟨none, 0, rfl, Nat.le_refl _, fun h0 => absurd h0 (by simp)⟩, by simp, fun s hs => by cases hs⟩
  · have hmc : m = c := by simpa using hmm
    subst hmc
    have key : ∀ i, i < m → ∃ (a : List Int), a.length ≤ 9223372036854775807 ∧ ∃ u, W.cell? (x.add i) = some u ∧ RowI W u a := by
      intro i hi
      obtain ⟨cs', hc', ht'⟩ := hcell i hi
      obtain ⟨u, zs, hcs', r1, l1⟩ := row_ints ht'
      rw [cells1_ints, hcs'] at hc'
      have hS := World.cells?_some hc'
      refine ⟨zs, l1, u, ?_, r1⟩
      have := hS.2.2 0 (by omega)
      rw [add_add] at this
      simpa using this
    obtain ⟨F, hF⟩ := choose_lt key
    refine ⟨_, (List.range l).map F, hcs, ⟨some x, m, by simp, by simpa using hl, fun h0 => ?_⟩, by simpa using Nat.le_trans hl (small_len hm), fun a ha => ?_⟩
    · have hl0 : 0 < l := by simpa using h0
      obtain ⟨b, o, sp⟩ := x
      obtain ⟨_, _, hc0, _⟩ := hF 0 (by omega)
      have hsp : sp = none := by simpa [Addr.add] using World.cell?_spot hc0
      subst hsp
      refine ⟨b, o, rfl, lt_of_cell (a := ⟨b, o, none⟩) (by simpa [Addr.add] using hc0), fun j hj => ?_⟩
      have hj' : j < l := by simpa using hj
      have e : ∀ i, (⟨b, o, none⟩ : Addr).add i = ⟨b, o + i, none⟩ := by intro i; cases i <;> simp [Addr.add]
      have ea : il ((List.range l).map F) j = F j := by rw [il_eq hj]; simp
      obtain ⟨_, u, h1, h2⟩ := hF j (by omega)
      rw [ea]
      rw [e] at h1
      exact ⟨u, h1, h2⟩
    · obtain ⟨j, hj, rfl⟩ := List.mem_map.1 ha
      exact (hF j (by have := List.mem_range.1 hj; omega)).1
theorem open_stats {H : Type} {enc : TypeId × Value → H} {W : World} {r : Reach} {b0 base : Nat} {hd : Bool} {v : Value} {d : DataW H} {ps : List MemPlace}
    (hval : Value.okWide Try.prog W r b0 69 v) (h : DataW.Trod enc Try.prog W base (fun _ => true) hd 69 v d ps) : ∃ a : StatsD, StatsAt W v a ∧ inSt a := by
  obtain ⟨cs, rfl, hs⟩ := okWide_struct Try.underlying69 hval
  obtain ⟨fuel, hf⟩ := h
  obtain ⟨y0, y1, n, -, hl, t0, t1⟩ := trod_struct2 Try.underlying69 hf
  rw [stats_cells] at hl
  obtain ⟨l⟩ := cs
  simp [Value.cells] at hl t0 t1
  match l, hl with
  | [c0, c1], _ =>
    obtain ⟨va, zs, ha, ra, la⟩ := row_ints t0
    obtain ⟨vv, ls, hv, rv, lv, ev⟩ := row_intss t1
    simp [cells1_ints, cells1_intss] at ha hv
    exact ⟨⟨zs, ls⟩, ⟨va, vv, by rw [ha, hv], ra, rv⟩, ⟨la, lv, ev⟩⟩
end Go.Proofs.Ytobimpgapfecoaa
/- A step of a region that draws; a row as a slice. -/
namespace Go.Proofs.Ytobimpgapfecoaa
open Go.RowKit
set_option maxRecDepth 100000
theorem step_wp {P : Program} {ops : Array Oper} {o : Oper} {a : Act} {w : World} {K : Act → World → Prop} {Q : Exit → Act → World → Prop} {E : Prop} (hg : o.guard = none) (h : Oper.wp P o a w K Q) :
    if Region.wanted o (yielded ops a.tmps) = true then Oper.wp P o a w K Q else E := by
  rw [if_pos (by simp [Region.wanted, hg])]; exact h
theorem own_slice {w : World} {b e s n : Nat} {v : Value} {xs : List Value} (h : w.ownsRow b e s v n xs) : ∃ o c, v = .slice o n c := by
  rcases h.2 with ⟨rfl, h0⟩ | ⟨g, cap, cur, rfl, _⟩
  · exact ⟨none, 0, by rw [h0]⟩
  · exact ⟨_, _, rfl⟩
end Go.Proofs.Ytobimpgapfecoaa
/- What the laws' own helpers write over counts, and look at again. -/
namespace Go.Proofs.Ytobimpgapfecoaa
open Go.RowKit
set_option maxRecDepth 100000
set_option linter.unusedSimpArgs false
/-- The number of the first mark of the j-th list. -/
def mkC (k0 : Nat) (p : Nat → Nat) : Nat → Nat
  | 0 => k0
  | j + 1 => mkC k0 p j + p j
theorem mkC_mono {k0 : Nat} {p : Nat → Nat} {i j : Nat} (h : i ≤ j) : mkC k0 p i ≤ mkC k0 p j := by
  induction j with
  | zero => obtain rfl : i = 0 := by omega
            exact Nat.le_refl _
  | succ j ih =>
    by_cases e : i = j + 1
    · subst e; exact Nat.le_refl _
    · have := ih (by omega); simp only [mkC]; omega
def lenL (cs : List (List Int)) (j : Nat) : Nat := (il cs j).length
/-- Lists of numbers, the first i of them marked. -/
structure RowsM (base : Nat) (w : World) (L : Nat → Value) (p K : Nat → Nat) (n i : Nat) : Prop where
  ints : ∀ j, j < n → ∃ xs, w.ownsRow base 3 1 (L j) (p j) xs ∧ (j < i → ∀ t, t < p j → xs[t]? = some (mkI ((K j : Int) + t)))
theorem RowsM.below {base : Nat} {w w' : World} {L : Nat → Value} {p K : Nat → Nat} {n i : Nat} (h : RowsM base w L p K n i) (hb : Below w.heap.size w w') : RowsM base w' L p K n i :=
  ⟨fun j hj => by obtain ⟨xs, a, b⟩ := h.ints j hj; exact ⟨xs, own_below a hb, b⟩⟩
theorem RowsM.kept {base : Nat} {w w' : World} {L : Nat → Value} {p K : Nat → Nat} {n i : Nat} {r : Option Nat} (h : RowsM base w L p K n i) (hg : w.grownBy w' r) (h1 : ∀ j, j < n → (L j).ownBlock = none ∨ (L j).ownBlock ≠ r) : RowsM base w' L p K n i :=
  ⟨fun j hj => by obtain ⟨xs, a, b⟩ := h.ints j hj; exact ⟨xs, a.kept hg (h1 j hj), b⟩⟩
def OrdL (L : Nat → Value) (n : Nat) : Prop := ∀ i j, i < n → j < n → i ≠ j → (L i).ownBlock = none ∨ (L i).ownBlock ≠ (L j).ownBlock
theorem SepII.ordL {base : Nat} {w : World} {v : Value} {L : Nat → Value} {ys : List Value} {cs : List (List Int)} {n : Nat} (h : SepII base w v L ys cs n) : OrdL L n := fun i j hi hj hne => ne_of_ord fun a b ha hb => by
  rcases Nat.lt_or_gt_of_ne hne with h1 | h1
  · have := h.ord i j a b h1 hj ha hb; omega
  · have := h.ord j i b a h1 hi hb ha; omega
theorem RowsM.mark {base : Nat} {w w' : World} {L : Nat → Value} {p K : Nat → Nat} {n i : Nat} (h : RowsM base w L p K n i) (hO : OrdL L n) (hi : i < n) (hg : w.grownBy w' (L i).ownBlock)
    {ys : List Value} (ho : w'.ownsRow base 3 1 (L i) (p i) ys) (hys : ∀ t, t < p i → ys[t]? = some (mkI ((K i : Int) + t))) : RowsM base w' L p K n (i + 1) := by
  refine ⟨fun j hj => ?_⟩
  by_cases e : j = i
  · subst e; exact ⟨ys, ho, fun _ => hys⟩
  · obtain ⟨xs, a, b⟩ := h.ints j hj
    exact ⟨xs, a.kept hg (hO j i hj hi e), fun hlt => b (by omega)⟩
set_option maxHeartbeats 800000 in
theorem markII_pos (g cap n base k0 : Nat) (L : Nat → Value) (p : Nat → Nat) (ys : List Value) (w : World) (hrow : w.ownsRow base 28 1 (.slice (some ⟨g, 0, none⟩) n cap) n ys) (hcells : ∀ j, j < n → ys[j]? = some (L j)) (hR : RowsM base w L p (mkC k0 p) n 0) (hO : OrdL L n)
    (hn : n ≤ 1048576) (hK : mkC k0 p n ≤ 35184372088832) :
    Calls Try.prog 83 #[.slice (some ⟨g, 0, none⟩) n cap, .int .i64 (k0 : Int)] w fun e w' => e = .returned (.int .i64 ((mkC k0 p n : Nat) : Int)) ∧ w'.ownsRow base 28 1 (.slice (some ⟨g, 0, none⟩) n cap) n ys ∧ RowsM base w' L p (mkC k0 p) n n ∧ GrownS w w' (InII L n) := by
  have HO : Hid (OrdL L n) := hO
  have HC : Hid (∀ j, j < n → ys[j]? = some (L j)) := hcells
  have HM : Hid (∀ i, i < n → mkC k0 p i + p i ≤ 35184372088832) := fun i hi => by
    have := mkC_mono (k0 := k0) (p := p) (show i + 1 ≤ n by omega)
    simp only [mkC] at this
    omega
  have HW : Hid (w.ownsRow base 28 1 (.slice (some ⟨g, 0, none⟩) n cap) n ys ∧ RowsM base w L p (mkC k0 p) n 0) := ⟨hrow, hR⟩
  clear hO hcells hrow hR
  go_enter Try.func83, Try.ntmps83
  go_wp2
  go_loopw [1, 5] (fun kv i wr => ∃ q : Nat, i = .int .i64 q ∧ q ≤ n ∧ kv = .int .i64 ((mkC k0 p q : Nat) : Int) ∧ wr.ownsRow base 28 1 (.slice (some ⟨g, 0, none⟩) n cap) n ys ∧ RowsM base wr L p (mkC k0 p) n q ∧ GrownS w wr (InII L n)) (fun _ i _ => n - (intOf i).toNat)
  case atStart => exact ⟨0, rfl, by omega, rfl, HW.out.1, HW.out.2, GrownS.refl _ _⟩
  case round =>
    obtain ⟨q, rfl, hq, rfl, hown, hrows, hgr⟩ := hrel
    by_cases hlt : q < n
    · obtain ⟨xs, hx, -⟩ := hrows.ints q hlt
      obtain ⟨ol, cl, hL⟩ := own_slice hx
      have hcell : wr.cell? ⟨g, q, none⟩ = some (.slice ol (p q) cl) := by rw [hown.cellAt q (by omega), HC.out q hlt, hL]
      have hmq := HM.out q hlt
      have e1 := markI_any (p q) base (L q) ((mkC k0 p q : Nat) : Int) xs wr (by omega) (by omega) (by omega) hx
      rw [hL] at e1
      have HX : Hid (wr.ownsRow base 28 1 (.slice (some ⟨g, 0, none⟩) n cap) n ys ∧ RowsM base wr L p (mkC k0 p) n q ∧ GrownS w wr (InII L n) ∧ wr.ownsRow base 3 1 (L q) (p q) xs) := ⟨hown, hrows, hgr, hx⟩
      have HL : Hid (L q = .slice ol (p q) cl) := hL
      clear hown hrows hgr hx hL
      go_wp2_with fail
      refine e1.mono ?_
      clear e1
      rintro e w1 ⟨rfl, ⟨zs, hz, hzs⟩, hg1⟩
      obtain ⟨hown, hrows, hgr, hx⟩ := HX.out
      rw [← HL.out] at hz hg1
      have own1 := hown.kept hg1 (apart_ty hown hx (by decide))
      have rows1 := hrows.mark HO.out hlt hg1 hz hzs
      have gr1 := hgr.grown hg1 (fun j hj => .inl ⟨q, hlt, hj⟩)
      have HY : Hid (w1.ownsRow base 28 1 (.slice (some ⟨g, 0, none⟩) n cap) n ys ∧ RowsM base w1 L p (mkC k0 p) n (q + 1) ∧ GrownS w w1 (InII L n)) := ⟨own1, rows1, gr1⟩
      have HK2 : Hid (((mkC k0 p (q + 1) : Nat) : Int) = ((mkC k0 p q : Nat) : Int) + (p q : Int)) := by simp only [mkC]; exact Int.natCast_add _ _
      clear own1 rows1 gr1 hown hrows hgr hx hz hzs hg1 HX
      go_wp2
      go_roundw
      case rel => exact ⟨q + 1, by go_num, by omega, by rw [HK2.out], HY.out.1, HY.out.2.1, HY.out.2.2⟩
      case measure => simp [intOf]; omega
    · obtain rfl : q = n := by omega
      have HX : Hid (wr.ownsRow base 28 1 (.slice (some ⟨g, 0, none⟩) q cap) q ys ∧ RowsM base wr L p (mkC k0 p) q q ∧ GrownS w wr (InII L q)) := ⟨hown, hrows, hgr⟩
      clear hown hrows hgr
      go_wp2
      go_ret
      exact ⟨rfl, HX.out.1, HX.out.2.1, HX.out.2.2⟩
end Go.Proofs.Ytobimpgapfecoaa
/- What the laws' own helpers look at again over counts. -/
namespace Go.Proofs.Ytobimpgapfecoaa
open Go.RowKit
set_option maxRecDepth 100000
set_option linter.unusedSimpArgs false
theorem markII_zero (k0 : Int) (w : World) : Calls Try.prog 83 #[.slice none 0 0, .int .i64 k0] w fun e w' => e = .returned (.int .i64 k0) ∧ w' = w := by
  go_enter Try.func83, Try.ntmps83
  go_wp2
  refine wp_loop_rounds 1 ?_
  rw [rounds_succ]
  go_wp2
  go_ret
  exact ⟨rfl, rfl⟩
theorem markII_any (v : Value) (n base k0 : Nat) (L : Nat → Value) (p : Nat → Nat) (ys : List Value) (w : World) (hrow : w.ownsRow base 28 1 v n ys) (hcells : ∀ j, j < n → ys[j]? = some (L j)) (hR : RowsM base w L p (mkC k0 p) n 0) (hO : OrdL L n)
    (hn : n ≤ 1048576) (hK : mkC k0 p n ≤ 35184372088832) :
    Calls Try.prog 83 #[v, .int .i64 (k0 : Int)] w fun e w' => e = .returned (.int .i64 ((mkC k0 p n : Nat) : Int)) ∧ w'.ownsRow base 28 1 v n ys ∧ RowsM base w' L p (mkC k0 p) n n ∧ GrownS w w' (InII L n) := by
  rcases id hrow.2 with ⟨rfl, rfl⟩ | ⟨g, cap, cur, rfl, _⟩
  · refine (markII_zero k0 w).mono fun e w' ⟨he, hw⟩ => ?_
    subst he hw
    exact ⟨rfl, hrow, hR, GrownS.refl _ _⟩
  · exact markII_pos g cap n base k0 L p ys w hrow hcells hR hO hn hK
/-- Counts that bear the law's marks from k0 on. -/
structure MarkSt (base : Nat) (w : World) (vt vc : Value) (L : Nat → Value) (p : Nat → Nat) (c n k0 : Nat) : Prop where
  tot : ∃ xs, w.ownsRow base 3 1 vt c xs ∧ ∀ t, t < c → xs[t]? = some (mkI ((k0 : Int) + t))
  cells : ∃ ys, w.ownsRow base 28 1 vc n ys ∧ ∀ j, j < n → ys[j]? = some (L j)
  rows : RowsM base w L p (mkC (k0 + c) p) n n
theorem MarkSt.below {base : Nat} {w w' : World} {vt vc : Value} {L : Nat → Value} {p : Nat → Nat} {c n k0 : Nat} (h : MarkSt base w vt vc L p c n k0) (hb : Below w.heap.size w w') : MarkSt base w' vt vc L p c n k0 := by
  obtain ⟨⟨xs, a1, a2⟩, ⟨ys, b1, b2⟩, r⟩ := h
  exact ⟨⟨xs, own_below a1 hb, a2⟩, ⟨ys, own_below b1 hb, b2⟩, r.below hb⟩
end Go.Proofs.Ytobimpgapfecoaa
