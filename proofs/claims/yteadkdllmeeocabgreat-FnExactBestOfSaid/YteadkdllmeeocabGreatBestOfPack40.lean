/- Texts of this claim, put together: part 40. -/
import Derived.Test.YteadkdllmeeocabGreatBestOfPack7
import Derived.Test.YteadkdllmeeocabGreatBestOfPack27
import Derived.Test.YteadkdllmeeocabGreatBestOfPack26
import Derived.Test.YteadkdllmeeocabGreatBestOfPack8
import Derived.Test.YteadkdllmeeocabGreatBestOfPack3
import Derived.Test.YteadkdllmeeocabGreatBestOfPack9
import Derived.Test.YteadkdllmeeocabGreatBestOfPack17
import Derived.Test.YteadkdllmeeocabGreatBestOfPack36
import Derived.Test.YteadkdllmeeocabGreatBestOfPack37
import Derived.Test.YteadkdllmeeocabGreatBestOfPack39
import Derived.Test.YteadkdllmeeocabGreatBestOfPack29
import Derived.Test.YteadkdllmeeocabGreatBestOfPack15
/- Counts of the call's own, beside what turns other memory. -/
namespace Go.Proofs.YteadkdllmeeocabGreat
open Go.RowKit
set_option maxRecDepth 100000
theorem SepII.keptS {base n : Nat} {w w' : World} {v : Value} {L : Nat → Value} {ys : List Value} {cs : List (List Int)} {R : Nat → Prop} (h : SepII base w v L ys cs n) (hg : GrownS w w' R) (h1 : ∀ k, v.ownBlock = some k → ¬ R k) (h2 : ∀ k, InII L n k → ¬ R k) : SepII base w' v L ys cs n :=
  ⟨own_keptS h.row hg h1, h.cells, fun j hj => own_keptS (h.ints j hj) hg (fun k hk => h2 k ⟨j, hj, hk⟩), h.ord⟩
theorem SepII.keptG {base n : Nat} {w w' : World} {v : Value} {L : Nat → Value} {ys : List Value} {cs : List (List Int)} {r : Option Nat} (h : SepII base w v L ys cs n) (hg : w.grownBy w' r) (h1 : ∀ k, v.ownBlock = some k → r ≠ some k) (h2 : ∀ k, InII L n k → r ≠ some k) : SepII base w' v L ys cs n := by
  refine ⟨h.row.kept hg ?_, h.cells, fun j hj => (h.ints j hj).kept hg ?_, h.ord⟩
  · cases e : v.ownBlock with
    | none => exact .inl rfl
    | some k => exact .inr fun e' => h1 k e e'.symm
  · cases e : (L j).ownBlock with
    | none => exact .inl rfl
    | some k => exact .inr fun e' => h2 k ⟨j, hj, e⟩ e'.symm
/-- All blocks of counts: their totals', their row's, their lists'. -/
def AllSt (vt vc : Value) (L : Nat → Value) (n : Nat) (k : Nat) : Prop := vt.ownBlock = some k ∨ vc.ownBlock = some k ∨ InII L n k
theorem all_st {base c n : Nat} {w : World} {vt vc : Value} {L : Nat → Value} {xs ys : List Value} {cs : List (List Int)} (ht : w.ownsRow base 3 1 vt c xs) (h : SepII base w vc L ys cs n) : ∀ k, AllSt vt vc L n k → base ≤ k ∧ k < w.heap.size := by
  intro k hk
  rcases hk with hk | hk | ⟨j, hj, hk⟩
  · exact ht.lt k hk
  · exact h.row.lt k hk
  · exact (h.ints j hj).lt k hk
end Go.Proofs.YteadkdllmeeocabGreat
/- A region's outcome by itself; counts of the call's own, beside a store into another block. -/
namespace Go.Proofs.YteadkdllmeeocabGreat
open Go.RowKit
set_option maxRecDepth 100000
theorem region_then {P : Program} {id : Nat} {ops : Array Oper} {b : Bool} {a : Act} {w : World} {Q : Exit → Act → World → Prop} (R : Act → Act → World → Prop)
    (h1 : (Code.region id ops b).wp P (fun e a' w' => e = .normal ∧ R a a' w') a w) (h2 : ∀ a' w', R a a' w' → Q .normal a' w') : (Code.region id ops b).wp P Q a w :=
  Code.wp_mono (fun e a' w' h => by rw [h.1]; exact h2 a' w' h.2) h1
theorem SepII.setRowN {base n : Nat} {w : World} {v : Value} {L : Nat → Value} {ys : List Value} {cs : List (List Int)} (h : SepII base w v L ys cs n) (p : Nat) (c : Array Value) (h1 : v.ownBlock ≠ some p) (h2 : ∀ j, j < n → (L j).ownBlock ≠ some p) : SepII base (w.setRow p c) v L ys cs n :=
  ⟨own_setRowN h.row p c h1, h.cells, fun j hj => own_setRowN (h.ints j hj) p c (h2 j hj), h.ord⟩
theorem wp_st_step {o : Oper} {a : Act} {w : World} {K : Act → World → Prop} {Q : Exit → Act → World → Prop} (x y : Operand) (ho : o.op = .store 42 x y)
    (g : Nat) (c0 c1 d0 d1 d2 d3 : _) (k0 k1 : Nat) (hx : a.eval x = .pointer (some ⟨g, 0, none⟩)) (hy : a.eval y = .agg #[.slice d0 k0 d1, .slice d2 k1 d3]) (hA : Blk 42 w g #[c0, c1])
    (h : K (a.put o.dst undef) (w.setRow g #[.slice d0 k0 d1, .slice d2 k1 d3])) : o.wp Tryz.prog a w K Q :=
  wp_store_row 42 x y ho g _ hx hy _ _ hA st_size rfl (by simp [Value.oneCell']) h
end Go.Proofs.YteadkdllmeeocabGreat
/- The best question of an attribute, by the specification. -/
namespace Go.Proofs.YteadkdllmeeocabGreat
open Go.RowKit
set_option maxRecDepth 100000
set_option linter.unusedSimpArgs false
set_option maxHeartbeats 6400000 in
theorem specBestOf_any (vs vt : Value) (s : SchemaD) (t : StatsD) (a : Int) (two : Bool) (w : World) (hs : SchemaAt w vs s) (ht : StatsAt w vt t) (hn : okSch s) (hb : okSt t) :
    Calls Tryz.prog 6 #[vs, vt, .int .i64 a, .bool two] w fun e w' => e = .returned (.tuple #[forkV (bestOf s t a two).1, frV (bestOf s t a two).2.1 (bestOf s t a two).2.2]) ∧ Below w.heap.size w w' := by
  have mixed : Tryz.prog.follows .mixedOrders = true := by kernel_rfl
  have HS : Hid (∀ W, Below w.heap.size w W → SchemaAt W vs s) := fun W h => hs.later h
  have HT : Hid (∀ W, Below w.heap.size w W → StatsAt W vt t) := fun W h => ht.later h
  have HOK : Hid (okSch s) := hn
  have HOT : Hid (okSt t) := hb
  obtain ⟨va, vc, rfl, ra, rc⟩ := hs
  obtain ⟨oa, ka, rfl, -, -⟩ := id ra
  obtain ⟨oc, kc, rfl, -, -⟩ := id rc
  obtain ⟨vx, vy, rfl, rx, ry⟩ := ht
  obtain ⟨ox, kx, rfl, -, -⟩ := id rx
  obtain ⟨oy, ky, rfl, -, -⟩ := id ry
  clear ra rc rx ry
  have la := hn.attrs
  have ly := hb.cells
  clear hn hb
  obtain ⟨KS, KT, KF, KR, B⟩ := blk_4 40 42 33 35 w #[.slice oa s.attrs.length ka, .slice oc s.classes.length kc] #[.slice ox t.totals.length kx, .slice oy t.cells.length ky] #[.int .i64 0, .int .i64 0] #[.int .i64 0, .int .i64 0]
  go_enter Tryz.func6, Tryz.ntmps6
  have cc := specStatsOk_any _ _ s t _ (HS.out _ B) (HT.out _ B) HOK.out HOT.out
  have kS0 : ((((w.alloc (.cells #[.slice oa s.attrs.length ka, .slice oc s.classes.length kc] 40)).alloc (.cells #[.slice ox t.totals.length kx, .slice oy t.cells.length ky] 42)).alloc (.cells #[.int .i64 0, .int .i64 0] 33)).alloc (.cells #[.int .i64 0, .int .i64 0] 35)).cell? ⟨w.heap.size, 0, none⟩ = some (.slice oa s.attrs.length ka) := KS.cell 0
  have kS1 : ((((w.alloc (.cells #[.slice oa s.attrs.length ka, .slice oc s.classes.length kc] 40)).alloc (.cells #[.slice ox t.totals.length kx, .slice oy t.cells.length ky] 42)).alloc (.cells #[.int .i64 0, .int .i64 0] 33)).alloc (.cells #[.int .i64 0, .int .i64 0] 35)).cell? ⟨w.heap.size, 1, none⟩ = some (.slice oc s.classes.length kc) := KS.cell 1
  have kT0 : ((((w.alloc (.cells #[.slice oa s.attrs.length ka, .slice oc s.classes.length kc] 40)).alloc (.cells #[.slice ox t.totals.length kx, .slice oy t.cells.length ky] 42)).alloc (.cells #[.int .i64 0, .int .i64 0] 33)).alloc (.cells #[.int .i64 0, .int .i64 0] 35)).cell? ⟨w.heap.size + 1, 0, none⟩ = some (.slice ox t.totals.length kx) := KT.cell 0
  have kT1 : ((((w.alloc (.cells #[.slice oa s.attrs.length ka, .slice oc s.classes.length kc] 40)).alloc (.cells #[.slice ox t.totals.length kx, .slice oy t.cells.length ky] 42)).alloc (.cells #[.int .i64 0, .int .i64 0] 33)).alloc (.cells #[.int .i64 0, .int .i64 0] 35)).cell? ⟨w.heap.size + 1, 1, none⟩ = some (.slice oy t.cells.length ky) := KT.cell 1
  go_wp2_with fail
  refine cc.mono ?_
  clear cc
  clear kS0 kS1 kT0 kT1
  rintro e w1 ⟨rfl, hb⟩
  replace KS := KS.below hb
  replace KT := KT.below hb
  replace KF := KF.below hb
  replace KR := KR.below hb
  replace B := B.trans (hb.mono B.size)
  clear hb
  cases hk : statsOk s t with
  | false =>
    have HE : Hid (bestOf s t a two = (⟨0, 0⟩, (0, 0))) := best_none (by rw [hk]; rfl)
    clear hk
    have KF1 := KF.setRow #[.int .i64 0, .int .i64 0]
    have KR1 := Blk.setRow_other KR #[.int .i64 0, .int .i64 0] (show w.heap.size + 1 + 1 + 1 ≠ w.heap.size + 1 + 1 by omega)
    have KF2 := Blk.setRow_other KF1 #[.int .i64 0, .int .i64 0] (show w.heap.size + 1 + 1 ≠ w.heap.size + 1 + 1 + 1 by omega)
    have KR2 := KR1.setRow #[.int .i64 0, .int .i64 0]
    go_wp2_with (first | (with_reducible refine wp_fk_store rfl _ _ rfl ?_; refine ⟨_, rfl, _, _, rfl, _, _, KF, ?_⟩) | (refine wp_fr_store rfl _ _ rfl ?_; refine ⟨_, rfl, _, _, rfl, _, _, KR1, ?_⟩))
    exact bodyPost_ret (res_ff rfl _ _ _ _ _ _ _ _ rfl rfl KF2 KR2) rfl ⟨by rw [HE.out]; rfl, below_row (below_row B (by omega) _) (by omega) _⟩
  | true =>
    have HST : Hid (statsOk s t = true) := hk
    clear hk
    by_cases h0 : t.cells.length = 0
    · have hq : ((t.cells.length : Int) == 0) = true := by rw [h0]; rfl
      have HE : Hid (bestOf s t a two = (⟨0, 0⟩, (0, 0))) := best_none (by rw [decide_eq_false (fun h => h h0)]; simp)
      have HH0 : Hid (t.cells.length = 0) := h0
      clear h0
      have KF1 := KF.setRow #[.int .i64 0, .int .i64 0]
      have KR1 := Blk.setRow_other KR #[.int .i64 0, .int .i64 0] (show w.heap.size + 1 + 1 + 1 ≠ w.heap.size + 1 + 1 by omega)
      have KF2 := Blk.setRow_other KF1 #[.int .i64 0, .int .i64 0] (show w.heap.size + 1 + 1 ≠ w.heap.size + 1 + 1 + 1 by omega)
      have KR2 := KR1.setRow #[.int .i64 0, .int .i64 0]
      have kT0 : w1.cell? ⟨w.heap.size + 1, 0, none⟩ = some (.slice ox t.totals.length kx) := KT.cell 0
      have kT1 : w1.cell? ⟨w.heap.size + 1, 1, none⟩ = some (.slice oy t.cells.length ky) := KT.cell 1
      go_wp2_with (first | (with_reducible refine wp_fk_store rfl _ _ rfl ?_; refine ⟨_, rfl, _, _, rfl, _, _, KF, ?_⟩) | (refine wp_fr_store rfl _ _ rfl ?_; refine ⟨_, rfl, _, _, rfl, _, _, KR1, ?_⟩))
      exact bodyPost_ret (res_ff rfl _ _ _ _ _ _ _ _ rfl rfl KF2 KR2) rfl ⟨by rw [HE.out]; rfl, below_row (below_row B (by omega) _) (by omega) _⟩
    have hq : ((t.cells.length : Int) == 0) = false := by rw [beq_eq_false_iff_ne]; omega
    have HN0 : Hid (t.cells.length ≠ 0) := h0
    clear h0
    have HE0 : Hid (bestOf s t a two = bestSt s t (candidates s [a] two) (candidates s [a] two).length) := best_some (by rw [HST.out, decide_eq_true HN0.out]; rfl)
    have hpl := places_one (a := a) (statsOk_parts HST.out).1
    have cc := in_any a 0 ((s.attrs.length : Int) - 1) w1
    have kS0 : w1.cell? ⟨w.heap.size, 0, none⟩ = some (.slice oa s.attrs.length ka) := KS.cell 0
    have kS1 : w1.cell? ⟨w.heap.size, 1, none⟩ = some (.slice oc s.classes.length kc) := KS.cell 1
    have kT0 : w1.cell? ⟨w.heap.size + 1, 0, none⟩ = some (.slice ox t.totals.length kx) := KT.cell 0
    have kT1 : w1.cell? ⟨w.heap.size + 1, 1, none⟩ = some (.slice oy t.cells.length ky) := KT.cell 1
    go_wp2_with fail
    refine cc.mono ?_
    clear cc
    clear kS0 kS1 kT0 kT1
    rintro e w2 ⟨rfl, e9⟩
    rw [e9]
    clear e9 w2
    by_cases hin : 0 ≤ a ∧ a ≤ (s.attrs.length : Int) - 1
    rotate_left
    · rw [decide_eq_false hin] at hpl ⊢
      have hc0 : candidates s [a] two = [] := by unfold candidates; rw [hpl]; rfl
      have HE : Hid (bestOf s t a two = (⟨0, 0⟩, (0, 0))) := by show _ = _; rw [HE0.out, hc0]; rfl
      clear hpl hin hc0 HE0
      have KF1 := KF.setRow #[.int .i64 0, .int .i64 0]
      have KR1 := Blk.setRow_other KR #[.int .i64 0, .int .i64 0] (show w.heap.size + 1 + 1 + 1 ≠ w.heap.size + 1 + 1 by omega)
      have KF2 := Blk.setRow_other KF1 #[.int .i64 0, .int .i64 0] (show w.heap.size + 1 + 1 ≠ w.heap.size + 1 + 1 + 1 by omega)
      have KR2 := KR1.setRow #[.int .i64 0, .int .i64 0]
      go_wp2_with (first | (with_reducible refine wp_fk_store rfl _ _ rfl ?_; refine ⟨_, rfl, _, _, rfl, _, _, KF, ?_⟩) | (refine wp_fr_store rfl _ _ rfl ?_; refine ⟨_, rfl, _, _, rfl, _, _, KR1, ?_⟩))
      exact bodyPost_ret (res_ff rfl _ _ _ _ _ _ _ _ rfl rfl KF2 KR2) rfl ⟨by rw [HE.out]; rfl, below_row (below_row B (by omega) _) (by omega) _⟩
    rw [decide_eq_true hin] at hpl ⊢
    have hcm := cand_more (two := two) hpl
    have hn1 : 1 ≤ (candidates s [a] two).length := hcm
    clear hcm hin hpl hq
    have HB1 : Hid (∀ W, Below w1.heap.size w1 W → (Blk 40 W (w.heap.size) #[.slice oa s.attrs.length ka, .slice oc s.classes.length kc] ∧ Blk 42 W (w.heap.size + 1) #[.slice ox t.totals.length kx, .slice oy t.cells.length ky] ∧ Blk 33 W (w.heap.size + 1 + 1) #[.int .i64 0, .int .i64 0] ∧ Blk 35 W (w.heap.size + 1 + 1 + 1) #[.int .i64 0, .int .i64 0]) ∧ Below w.heap.size w W) := fun W h => ⟨⟨KS.below h, KT.below h, KF.below h, KR.below h⟩, B.trans (h.mono B.size)⟩
    have hlow := KR.lt
    have kS0 : w1.cell? ⟨w.heap.size, 0, none⟩ = some (.slice oa s.attrs.length ka) := KS.cell 0
    have kS1 : w1.cell? ⟨w.heap.size, 1, none⟩ = some (.slice oc s.classes.length kc) := KS.cell 1
    have BL : Below w1.heap.size w1 (w1.alloc (.cells #[.int .i64 a] 3)) := (Below.refl _ _).alloc (Nat.le_refl _) _
    replace KS := KS.below BL
    replace KT := KT.below BL
    replace KF := KF.below BL
    replace KR := KR.below BL
    replace B := B.trans (BL.mono B.size)
    have h1 : Below w1.heap.size w1 (w1.alloc (.cells #[.int .i64 a] 3)) := BL
    have h1s := h1.size
    clear BL
    have hrow := row_one (w := w1) a 3
    have cc := specCandidates_any _ _ s [a] two (w1.alloc (.cells #[.int .i64 a] 3)) (HS.out _ B) HOK.out hrow (by simp)
    clear hrow
    go_wp2_with fail
    refine cc.mono ?_
    clear cc
    clear kS0 kS1
    rintro e w5 ⟨v5, rfl, ho, hb⟩
    replace h1 := h1.trans (hb.mono h1s)
    have hgl : w1.heap.size + 1 ≤ (w1.alloc (.cells #[.int .i64 a] 3)).heap.size := by simp
    clear hb KS KT KF KR B h1s
    have hcl := candidates_len (s := s) (l := [a]) two
    obtain ⟨fs, hfs⟩ : ∃ fs, candidates s [a] two = fs := ⟨_, rfl⟩
    have HE := HE0
    rw [hfs] at ho HE hcl hn1
    clear hfs HE0
    obtain ⟨ol, kl, rfl, hol⟩ := own_fkc10 ho
    obtain ⟨gl, rfl, hgl1, hgl2, hcell⟩ := hol (by omega)
    have HCL : Hid (∀ W, Below w5.heap.size w5 W → ∀ j, j < fs.length → W.cell? ⟨gl, j * 2, none⟩ = some (.int .i64 (fk fs j).attr) ∧ W.cell? ⟨gl, j * 2 + 1, none⟩ = some (.int .i64 (fk fs j).pos)) := fun W h j hj => ⟨(h.cell (p := ⟨gl, j * 2, none⟩) hgl2).trans (hcell j hj).1, (h.cell (p := ⟨gl, j * 2 + 1, none⟩) hgl2).trans (hcell j hj).2⟩
    clear ho hol hcell
    obtain ⟨l0, l1⟩ := HCL.out w5 (Below.refl _ _) 0 hn1
    have l0' : w5.cell? ⟨gl, 0, none⟩ = some (.int .i64 (fk fs 0).attr) := l0
    have l1' : w5.cell? ⟨gl, 1, none⟩ = some (.int .i64 (fk fs 0).pos) := l1
    clear l0 l1
    have h5s := h1.size
    obtain ⟨KB, BN⟩ := blk_1 33 w5 #[.int .i64 (fk fs 0).attr, .int .i64 (fk fs 0).pos]
    have h6 : Below w1.heap.size w1 (w5.alloc (.cells #[.int .i64 (fk fs 0).attr, .int .i64 (fk fs 0).pos] 33)) := h1.trans (BN.mono h1.size)
    obtain ⟨⟨KS, KT, -, -⟩, B⟩ := HB1.out _ h6
    have cc := specMerit_any _ _ s t (fk fs 0) _ (HS.out _ B) (HT.out _ B) HOK.out HOT.out
    simp only [forkV] at cc
    have kS0 : (w5.alloc (.cells #[.int .i64 (fk fs 0).attr, .int .i64 (fk fs 0).pos] 33)).cell? ⟨w.heap.size, 0, none⟩ = some (.slice oa s.attrs.length ka) := KS.cell 0
    have kS1 : (w5.alloc (.cells #[.int .i64 (fk fs 0).attr, .int .i64 (fk fs 0).pos] 33)).cell? ⟨w.heap.size, 1, none⟩ = some (.slice oc s.classes.length kc) := KS.cell 1
    have kT0 : (w5.alloc (.cells #[.int .i64 (fk fs 0).attr, .int .i64 (fk fs 0).pos] 33)).cell? ⟨w.heap.size + 1, 0, none⟩ = some (.slice ox t.totals.length kx) := KT.cell 0
    have kT1 : (w5.alloc (.cells #[.int .i64 (fk fs 0).attr, .int .i64 (fk fs 0).pos] 33)).cell? ⟨w.heap.size + 1, 1, none⟩ = some (.slice oy t.cells.length ky) := KT.cell 1
    have kB0 : (w5.alloc (.cells #[.int .i64 (fk fs 0).attr, .int .i64 (fk fs 0).pos] 33)).cell? ⟨w5.heap.size, 0, none⟩ = some (.int .i64 (fk fs 0).attr) := KB.cell 0
    have kB1 : (w5.alloc (.cells #[.int .i64 (fk fs 0).attr, .int .i64 (fk fs 0).pos] 33)).cell? ⟨w5.heap.size, 1, none⟩ = some (.int .i64 (fk fs 0).pos) := KB.cell 1
    go_wp2_with fail
    refine cc.mono ?_
    clear cc l0' l1'
    clear kS0 kS1 kT0 kT1 kB0 kB1
    rintro e w7 ⟨rfl, hb⟩
    have hbm : w5.heap.size < w7.heap.size := Nat.lt_of_lt_of_le KB.lt hb.size
    replace KB := KB.below hb
    have h7 := h6.trans (hb.mono h6.size)
    have h57 : Below w5.heap.size w5 w7 := BN.trans (hb.mono BN.size)
    clear hb h6 BN KS KT B
    obtain ⟨KM, BN⟩ := blk_1 35 w7 #[.int .i64 (meritN s t (fk fs 0)), .int .i64 (meritD s t (fk fs 0))]
    replace KB := KB.below BN
    have h8 := h7.trans (BN.mono h7.size)
    have h58 := h57.trans (BN.mono h57.size)
    clear h7 h57 BN
    have HB1E : Hid (bestSt s t fs 1 = (fk fs 0, (meritN s t (fk fs 0), meritD s t (fk fs 0)))) := best_take (.inl rfl)
    go_wp2
    generalize (w7.alloc (.cells #[.int .i64 (meritN s t (fk fs 0)), .int .i64 (meritD s t (fk fs 0))] 35)) = w8 at KB KM h8 h58 ⊢
    obtain ⟨gb, hgb⟩ : ∃ gb, w5.heap.size = gb := ⟨_, rfl⟩
    obtain ⟨gm, hgm⟩ : ∃ gm, w7.heap.size = gm := ⟨_, rfl⟩
    have HGB : Hid (w5.heap.size = gb) := hgb
    have GBS : Hid (∀ W, Below gb w5 W → gb ≤ W.heap.size) := fun W h => by have := h.size; have := HGB.out; omega
    rw [hgb] at KB hbm hgl2 h5s h58 HCL ⊢
    rw [hgm] at KM hbm ⊢
    clear hgb hgm
    go_loopw [13] (fun i wr => ∃ j : Nat, i = .int .i64 j ∧ 1 ≤ j ∧ j ≤ fs.length ∧ Blk 33 wr gb #[.int .i64 (bestSt s t fs (j)).1.attr, .int .i64 (bestSt s t fs (j)).1.pos] ∧ Blk 35 wr gm #[.int .i64 (bestSt s t fs (j)).2.1, .int .i64 (bestSt s t fs (j)).2.2] ∧ gm < wr.heap.size ∧ Hid (Below gb w5 wr) ∧ Hid (Below w1.heap.size w1 wr)) (fun i _ => fs.length - (intOf i).toNat)
    case atStart => exact ⟨1, rfl, by omega, by omega, by rw [HB1E.out]; exact KB, by rw [HB1E.out]; exact KM, KM.lt, h58, h8⟩
    case round =>
      clear KB KM h8 h58
      obtain ⟨j, rfl, hj1, hj, KB, KM, hgm, HB5, HBR⟩ := hrel
      have hbr := HBR.out
      have hb5 := HB5.out
      by_cases hlt : j < fs.length
      rotate_left
      · have hjn : j = fs.length := by omega
        rw [hjn] at KB KM
        obtain ⟨⟨-, -, KF, KR⟩, B⟩ := HB1.out wr hbr
        clear hjn
        go_wp2_with fail
        have bd : Below wr.heap.size wr wr.drew := below_drewN (Below.refl _ _) 1
        replace KB := KB.below bd
        replace KM := KM.below bd
        replace KF := KF.below bd
        replace KR := KR.below bd
        replace B := B.trans (bd.mono B.size)
        refine wp_region_held_drew (S := fun w' => Blk 33 w' (gb) #[.int .i64 (bestSt s t fs (fs.length)).1.attr, .int .i64 (bestSt s t fs (fs.length)).1.pos] ∧ Blk 35 w' (gm) #[.int .i64 (bestSt s t fs (fs.length)).2.1, .int .i64 (bestSt s t fs (fs.length)).2.2]) (by kernel_rfl) ⟨KB, KM⟩ ?_
        intro hS
        clear bd KB KM hbr HBR
        generalize wr.drew = w60 at KF KR B hS ⊢
        refine takeL 0 (.agg #[.int .i64 (bestSt s t fs (fs.length)).1.attr, .int .i64 (bestSt s t fs (fs.length)).1.pos]) rfl (by kernel_rfl) (by kernel_rfl) (by kernel_rfl) (fun _ _ _ h => h) (yields_row Tryz.underlying33 (by kernel_rfl) (by rfl) _ rfl _ rfl (fun _ h => h.1)) hS ?_
        try simp only [Act.put, List.setIfInBounds_toArray, List.set_cons_zero, List.set_cons_succ]
        refine takeL 1 (.agg #[.int .i64 (bestSt s t fs (fs.length)).2.1, .int .i64 (bestSt s t fs (fs.length)).2.2]) rfl (by kernel_rfl) (by kernel_rfl) (by kernel_rfl) (fun _ _ _ h => h) (yields_row Tryz.underlying35 (by kernel_rfl) (by rfl) _ rfl _ rfl (fun _ h => h.2)) hS ?_
        try simp only [Act.put, List.setIfInBounds_toArray, List.set_cons_zero, List.set_cons_succ]
        refine nextL 2 rfl (by kernel_rfl) (by rfl) fun K hK => ?_
        refine wp_fk_step _ _ rfl (w.heap.size + 1 + 1) _ _ _ _ rfl rfl KF ?_
        replace KR := Blk.setRow_other KR #[.int .i64 (bestSt s t fs (fs.length)).1.attr, .int .i64 (bestSt s t fs (fs.length)).1.pos] (show w.heap.size + 1 + 1 + 1 ≠ w.heap.size + 1 + 1 by omega)
        replace KF := KF.setRow #[.int .i64 (bestSt s t fs (fs.length)).1.attr, .int .i64 (bestSt s t fs (fs.length)).1.pos]
        replace B := below_row B (show w.heap.size ≤ w.heap.size + 1 + 1 by omega) #[.int .i64 (bestSt s t fs (fs.length)).1.attr, .int .i64 (bestSt s t fs (fs.length)).1.pos]
        replace hS : (fun w' => Blk 33 w' (gb) #[.int .i64 (bestSt s t fs (fs.length)).1.attr, .int .i64 (bestSt s t fs (fs.length)).1.pos] ∧ Blk 35 w' (gm) #[.int .i64 (bestSt s t fs (fs.length)).2.1, .int .i64 (bestSt s t fs (fs.length)).2.2]) (w60.setRow (w.heap.size + 1 + 1) #[.int .i64 (bestSt s t fs (fs.length)).1.attr, .int .i64 (bestSt s t fs (fs.length)).1.pos]) := ⟨Blk.setRow_other hS.1 _ (by omega), Blk.setRow_other hS.2 _ (by omega)⟩
        refine hK _ _ hS ?_
        clear hK K
        intro _
        refine nextL 3 rfl (by kernel_rfl) (by rfl) fun K hK => ?_
        refine wp_fr_step _ _ rfl (w.heap.size + 1 + 1 + 1) _ _ _ _ rfl rfl KR ?_
        replace KF := Blk.setRow_other KF #[.int .i64 (bestSt s t fs (fs.length)).2.1, .int .i64 (bestSt s t fs (fs.length)).2.2] (show w.heap.size + 1 + 1 ≠ w.heap.size + 1 + 1 + 1 by omega)
        replace KR := KR.setRow #[.int .i64 (bestSt s t fs (fs.length)).2.1, .int .i64 (bestSt s t fs (fs.length)).2.2]
        replace B := below_row B (show w.heap.size ≤ w.heap.size + 1 + 1 + 1 by omega) #[.int .i64 (bestSt s t fs (fs.length)).2.1, .int .i64 (bestSt s t fs (fs.length)).2.2]
        replace hS : (fun w' => Blk 33 w' (gb) #[.int .i64 (bestSt s t fs (fs.length)).1.attr, .int .i64 (bestSt s t fs (fs.length)).1.pos] ∧ Blk 35 w' (gm) #[.int .i64 (bestSt s t fs (fs.length)).2.1, .int .i64 (bestSt s t fs (fs.length)).2.2]) ((w60.setRow (w.heap.size + 1 + 1) #[.int .i64 (bestSt s t fs (fs.length)).1.attr, .int .i64 (bestSt s t fs (fs.length)).1.pos]).setRow (w.heap.size + 1 + 1 + 1) #[.int .i64 (bestSt s t fs (fs.length)).2.1, .int .i64 (bestSt s t fs (fs.length)).2.2]) := ⟨Blk.setRow_other hS.1 _ (by omega), Blk.setRow_other hS.2 _ (by omega)⟩
        refine hK _ _ hS ?_
        clear hK K
        intro _
        refine wpAnyH_done (by kernel_rfl) ?_ _
        clear hS
        go_wp2
        exact bodyPost_ret (res_ff rfl _ _ _ _ _ _ _ _ rfl rfl KF KR) rfl ⟨by rw [HE.out]; rfl, B⟩
      obtain ⟨l0, l1⟩ := HCL.out wr hb5 j hlt
      have hw5 : gb ≤ wr.heap.size := by have := hb5.size; have := HGB.out; omega
      clear l0 l1
      have bd : Below wr.heap.size wr wr.drew := below_drewN (Below.refl _ _) 1
      replace KB := KB.below bd
      replace KM := KM.below bd
      replace hbr := hbr.trans (bd.mono hbr.size)
      replace hb5 := hb5.trans (bd.mono hw5)
      have hgmd : gm < wr.drew.heap.size := Nat.lt_of_lt_of_le hgm bd.size
      clear bd HBR HB5
      obtain ⟨⟨KS, KT, -, -⟩, B⟩ := HB1.out wr.drew hbr
      obtain ⟨l0, l1⟩ := HCL.out wr.drew hb5 j hlt
      obtain ⟨x1, hx1⟩ : ∃ x1, meritN s t (fk fs j) = x1 := ⟨_, rfl⟩
      obtain ⟨x2, hx2⟩ : ∃ x2, meritD s t (fk fs j) = x2 := ⟨_, rfl⟩
      have HX : Hid (meritN s t (fk fs j) = x1 ∧ meritD s t (fk fs j) = x2) := ⟨hx1, hx2⟩
      have cM := fun W (h : Below wr.drew.heap.size wr.drew W) => specMerit_any _ _ s t (fk fs j) W (HS.out _ (B.trans (h.mono B.size))) (HT.out _ (B.trans (h.mono B.size))) HOK.out HOT.out
      simp only [forkV] at cM
      rw [hx1, hx2] at cM
      have HCM : Hid (∀ W, Below wr.drew.heap.size wr.drew W → _) := cM
      clear hx1 hx2 cM B
      go_wp2_with fail
      refine region_then (fun a a' w' => ∃ gg : Nat, a' = ((((((((a.put (some 54) (.agg #[.slice oa s.attrs.length ka, .slice oc s.classes.length kc])).put (some 55) (.agg #[.slice ox t.totals.length kx, .slice oy t.cells.length ky])).put (some 56) (.slice (some ⟨gl, 0, none⟩) fs.length kl)).put (some 57) (.int .i64 (j : Int))).put (some 58) (.pointer (some ⟨gl, j * 2, none⟩))).put (some 59) (.agg #[.int .i64 (fk fs j).attr, .int .i64 (fk fs j).pos])).put (some 60) (frV x1 x2)).put (some 14) (.pointer (some ⟨gg, 0, none⟩))) ∧ wr.drew.heap.size ≤ gg ∧ Fr w' gg x1 x2 ∧ Below wr.drew.heap.size wr.drew w') ?_ ?_
      · refine wp_region_held_drew (S := fun w' => Blk 40 w' (w.heap.size) #[.slice oa s.attrs.length ka, .slice oc s.classes.length kc] ∧ Blk 42 w' (w.heap.size + 1) #[.slice ox t.totals.length kx, .slice oy t.cells.length ky] ∧ w'.cell? ⟨gl, j * 2, none⟩ = some (.int .i64 (fk fs j).attr) ∧ w'.cell? ⟨gl, j * 2 + 1, none⟩ = some (.int .i64 (fk fs j).pos)) (by kernel_rfl) ⟨KS, KT, l0, l1⟩ ?_
        intro hS
        have hqS := KS.lt
        have hqT := KT.lt
        have hql : gl < wr.drew.heap.size := World.block_lt_of_cell? _ _ (by rw [l0])
        clear KS KT l0 l1 KB KM
        have BV : Below wr.drew.heap.size wr.drew wr.drew := Below.refl _ _
        generalize hv0 : wr.drew = v0 at hS BV HCM hqS hqT hql ⊢
        skip
        refine takeL 0 (.agg #[.slice oa s.attrs.length ka, .slice oc s.classes.length kc]) rfl (by kernel_rfl) (by kernel_rfl) (by kernel_rfl) (fun _ _ _ h => nomatch h.1) (yields_row Tryz.underlying40 (by kernel_rfl) (by rfl) _ rfl _ rfl (fun _ h => h.1)) hS ?_
        try simp only [Act.put, List.setIfInBounds_toArray, List.set_cons_zero, List.set_cons_succ]
        refine takeL 1 (.agg #[.slice ox t.totals.length kx, .slice oy t.cells.length ky]) rfl (by kernel_rfl) (by kernel_rfl) (by kernel_rfl) (fun _ _ _ h => nomatch h.1) (yields_row Tryz.underlying42 (by kernel_rfl) (by rfl) _ rfl _ rfl (fun _ h => h.2.1)) hS ?_
        try simp only [Act.put, List.setIfInBounds_toArray, List.set_cons_zero, List.set_cons_succ]
        refine takeL 2 (.slice (some ⟨gl, 0, none⟩) fs.length kl) rfl (by kernel_rfl) (by kernel_rfl) (by kernel_rfl) (fun _ _ _ h => nomatch h.1) (.inl ⟨by rfl, fun w _ => by rfl⟩) hS ?_
        try simp only [Act.put, List.setIfInBounds_toArray, List.set_cons_zero, List.set_cons_succ]
        refine takeL 3 (.int .i64 ((j : Int))) rfl (by kernel_rfl) (by kernel_rfl) (by kernel_rfl) (fun _ _ _ h => nomatch h.1) (.inl ⟨by rfl, fun w _ => by rfl⟩) hS ?_
        try simp only [Act.put, List.setIfInBounds_toArray, List.set_cons_zero, List.set_cons_succ]
        refine takeL 4 (.pointer (some ⟨gl, j * 2, none⟩)) rfl (by kernel_rfl) (by kernel_rfl) (by kernel_rfl) (fun _ _ _ h => nomatch h.1) (.inl ⟨by rfl, fun w hw => by (unfold execOp; go_simp; all_goals omega)⟩) hS ?_
        try simp only [Act.put, List.setIfInBounds_toArray, List.set_cons_zero, List.set_cons_succ]
        refine takeL 5 (.agg #[.int .i64 ((fk fs j).attr), .int .i64 ((fk fs j).pos)]) rfl (by kernel_rfl) (by kernel_rfl) (by kernel_rfl) (fun _ _ _ h => nomatch h.1) (.inl ⟨by rfl, fun w hw => by (have h0 := hw.2.2.1; have h1 := hw.2.2.2; unfold execOp; go_simp)⟩) hS ?_
        try simp only [Act.put, List.setIfInBounds_toArray, List.set_cons_zero, List.set_cons_succ]
        refine next2L 6 7 rfl rfl (by kernel_rfl) (by rfl) (by rfl) (fun K hK => ?_) (fun K hK => ?_)
        · have dd := HCM.out v0 BV
          go_simp
          refine dd.mono ?_
          clear dd
          rintro e v1 ⟨rfl, hb⟩
          refine hK _ _ ⟨hS.1.below hb, hS.2.1.below hb, (hb.cell (p := ⟨gl, j * 2, none⟩) (World.block_lt_of_cell? _ _ (by rw [hS.2.2.1]))).trans hS.2.2.1, (hb.cell (p := ⟨gl, j * 2 + 1, none⟩) (World.block_lt_of_cell? _ _ (by rw [hS.2.2.2]))).trans hS.2.2.2⟩ ?_
          clear hK K hS
          intro hS
          replace BV := BV.trans (hb.mono BV.size)
          clear hb
          refine nextL 7 rfl (by kernel_rfl) (by rfl) fun K hK => ?_
          go_simp
          obtain ⟨T1, BN⟩ := blk_1 35 v1 #[.int .i64 0, .int .i64 0]
          have hg1 := BV.size
          refine hK _ _ ⟨hS.1.below BN, hS.2.1.below BN, (BN.cell (p := ⟨gl, j * 2, none⟩) (World.block_lt_of_cell? _ _ (by rw [hS.2.2.1]))).trans hS.2.2.1, (BN.cell (p := ⟨gl, j * 2 + 1, none⟩) (World.block_lt_of_cell? _ _ (by rw [hS.2.2.2]))).trans hS.2.2.2⟩ ?_
          clear hK K hS
          intro hS
          replace BV := BV.trans (BN.mono BV.size)
          obtain ⟨g, hg⟩ : ∃ g, v1.heap.size = g := ⟨_, rfl⟩
          rw [hg] at T1 hg1 ⊢
          clear BN
          generalize v1.alloc (.cells #[.int .i64 0, .int .i64 0] 35) = v2 at hS T1 BV ⊢
          clear hg
          refine nextL 8 rfl (by kernel_rfl) (by rfl) fun K hK => ?_
          refine wp_fr_step _ _ rfl (g) _ _ _ _ rfl rfl T1 ?_
          simp only [Act.put]
          replace T1 := T1.setRow #[.int .i64 x1, .int .i64 x2]
          replace BV := below_row BV hg1 #[.int .i64 x1, .int .i64 x2]
          refine hK _ _ ⟨Blk.setRow_other hS.1 _ (by omega), Blk.setRow_other hS.2.1 _ (by omega), by rw [cell_far_row _ _ _ (by omega)]; exact hS.2.2.1, by rw [cell_far_row _ _ _ (by omega)]; exact hS.2.2.2⟩ ?_
          clear hK K hS
          intro hS
          refine wpAnyH_done (by kernel_rfl) ?_ _
          exact ⟨rfl, g, by first | rfl | (simp only [Act.put, List.setIfInBounds_toArray, List.set_cons_zero, List.set_cons_succ]), hg1, T1, BV⟩
        · go_simp
          obtain ⟨T1, BN⟩ := blk_1 35 v0 #[.int .i64 0, .int .i64 0]
          have hg1 : v0.heap.size ≤ v0.heap.size := Nat.le_refl _
          refine hK _ _ ⟨hS.1.below BN, hS.2.1.below BN, (BN.cell (p := ⟨gl, j * 2, none⟩) (World.block_lt_of_cell? _ _ (by rw [hS.2.2.1]))).trans hS.2.2.1, (BN.cell (p := ⟨gl, j * 2 + 1, none⟩) (World.block_lt_of_cell? _ _ (by rw [hS.2.2.2]))).trans hS.2.2.2⟩ ?_
          clear hK K hS
          intro hS
          replace BV := BV.trans (BN.mono BV.size)
          clear BN
          generalize v0.alloc (.cells #[.int .i64 0, .int .i64 0] 35) = v1 at hS T1 BV ⊢
          refine nextL 6 rfl (by kernel_rfl) (by rfl) fun K hK => ?_
          have dd := HCM.out v1 BV
          go_simp
          refine dd.mono ?_
          clear dd
          rintro e v2 ⟨rfl, hb⟩
          refine hK _ _ ⟨hS.1.below hb, hS.2.1.below hb, (hb.cell (p := ⟨gl, j * 2, none⟩) (World.block_lt_of_cell? _ _ (by rw [hS.2.2.1]))).trans hS.2.2.1, (hb.cell (p := ⟨gl, j * 2 + 1, none⟩) (World.block_lt_of_cell? _ _ (by rw [hS.2.2.2]))).trans hS.2.2.2⟩ ?_
          clear hK K hS
          intro hS
          replace BV := BV.trans (hb.mono BV.size)
          replace T1 := T1.below hb
          clear hb
          refine nextL 8 rfl (by kernel_rfl) (by rfl) fun K hK => ?_
          refine wp_fr_step _ _ rfl (v0.heap.size) _ _ _ _ rfl rfl T1 ?_
          simp only [Act.put]
          replace T1 := T1.setRow #[.int .i64 x1, .int .i64 x2]
          replace BV := below_row BV hg1 #[.int .i64 x1, .int .i64 x2]
          refine hK _ _ ⟨Blk.setRow_other hS.1 _ (by omega), Blk.setRow_other hS.2.1 _ (by omega), by rw [cell_far_row _ _ _ (by omega)]; exact hS.2.2.1, by rw [cell_far_row _ _ _ (by omega)]; exact hS.2.2.2⟩ ?_
          clear hK K hS
          intro hS
          refine wpAnyH_done (by kernel_rfl) ?_ _
          exact ⟨rfl, v0.heap.size, by first | rfl | (simp only [Act.put, List.setIfInBounds_toArray, List.set_cons_zero, List.set_cons_succ]), hg1, T1, BV⟩
      rintro a9 w70 ⟨gp, rfl, hgp, KP, hb⟩
      simp only [Act.put, List.setIfInBounds_toArray, List.set_cons_zero, List.set_cons_succ]
      replace KB := KB.below hb
      replace KM := KM.below hb
      replace hb5 := hb5.trans (hb.mono (GBS.out _ hb5))
      replace hbr := hbr.trans (hb.mono hbr.size)
      have hgm7 : gm < w70.heap.size := Nat.lt_of_lt_of_le hgmd hb.size
      clear hb KS KT l0 l1 HCM
      obtain ⟨z, hz⟩ : ∃ z, frC x1 x2 (bestSt s t fs j).2.1 (bestSt s t fs j).2.2 = z := ⟨_, rfl⟩
      have HZ : Hid (frC (meritN s t (fk fs j)) (meritD s t (fk fs j)) (bestSt s t fs j).2.1 (bestSt s t fs j).2.2 = z) := by show _ = _; rw [HX.out.1, HX.out.2]; exact hz
      have cc := fracCmpS x1 x2 (bestSt s t fs j).2.1 (bestSt s t fs j).2.2 w70
      rw [hz] at cc
      clear hz
      have m0 : w70.cell? ⟨gp, 0, none⟩ = some (.int .i64 x1) := KP.cell 0
      have m1 : w70.cell? ⟨gp, 1, none⟩ = some (.int .i64 x2) := KP.cell 1
      have m2 : w70.cell? ⟨gm, 0, none⟩ = some (.int .i64 (bestSt s t fs j).2.1) := KM.cell 0
      have m3 : w70.cell? ⟨gm, 1, none⟩ = some (.int .i64 (bestSt s t fs j).2.2) := KM.cell 1
      go_wp2_with fail
      refine cc.mono ?_
      clear cc m0 m1 m2 m3
      rintro e w9 ⟨rfl, hb⟩
      replace KB := KB.below hb
      replace KM := KM.below hb
      replace KP := KP.below hb
      replace hb5 := hb5.trans (hb.mono (GBS.out _ hb5))
      replace hbr := hbr.trans (hb.mono hbr.size)
      replace hgm7 := Nat.lt_of_lt_of_le hgm7 hb.size
      clear hb
      by_cases hzp : 0 < z
      rotate_left
      · have HNX : Hid (bestSt s t fs (j + 1) = bestSt s t fs j) := best_keep (by omega) (by rw [HZ.out]; exact hzp)
        clear KP
        go_wp2
        go_roundw
        case rel => exact ⟨j + 1, by go_num, by omega, by omega, by rw [HNX.out]; exact KB, by rw [HNX.out]; exact KM, hgm7, hb5, hbr⟩
        case measure => simp [intOf]; omega
      have HNX : Hid (bestSt s t fs (j + 1) = (fk fs j, (x1, x2))) := by show _ = _; rw [best_take (.inr (by rw [HZ.out]; exact hzp)), HX.out.1, HX.out.2]
      obtain ⟨l0, l1⟩ := HCL.out w9 hb5 j hlt
      have KM1 := Blk.setRow_other KM #[.int .i64 (fk fs j).attr, .int .i64 (fk fs j).pos] (show gm ≠ gb by omega)
      have KP1 := Blk.setRow_other KP #[.int .i64 (fk fs j).attr, .int .i64 (fk fs j).pos] (show gp ≠ gb by omega)
      have KB2 := Blk.setRow_other (KB.setRow #[.int .i64 (fk fs j).attr, .int .i64 (fk fs j).pos]) #[.int .i64 x1, .int .i64 x2] (show gb ≠ gm by omega)
      have KM2 := KM1.setRow #[.int .i64 x1, .int .i64 x2]
      have p0 : (w9.setRow gb #[.int .i64 (fk fs j).attr, .int .i64 (fk fs j).pos]).cell? ⟨gp, 0, none⟩ = some (.int .i64 x1) := KP1.cell 0
      have p1 : (w9.setRow gb #[.int .i64 (fk fs j).attr, .int .i64 (fk fs j).pos]).cell? ⟨gp, 1, none⟩ = some (.int .i64 x2) := KP1.cell 1
      have hb59 : Below gb w5 ((w9.setRow gb #[.int .i64 (fk fs j).attr, .int .i64 (fk fs j).pos]).setRow gm #[.int .i64 x1, .int .i64 x2]) := below_row (below_row hb5 (by omega) _) (by omega) _
      have hbr9 : Below w1.heap.size w1 ((w9.setRow gb #[.int .i64 (fk fs j).attr, .int .i64 (fk fs j).pos]).setRow gm #[.int .i64 x1, .int .i64 x2]) := below_row (below_row hbr (by omega) _) (by omega) _
      have hgm9 : gm < ((w9.setRow gb #[.int .i64 (fk fs j).attr, .int .i64 (fk fs j).pos]).setRow gm #[.int .i64 x1, .int .i64 x2]).heap.size := by rw [setRow_size, setRow_size]; exact hgm7
      clear hb5 hbr hgm7
      go_wp2_with (first | (with_reducible refine wp_fk_store rfl _ _ rfl ?_; refine ⟨_, rfl, _, _, rfl, _, _, KB, ?_⟩) | (refine wp_fr_store rfl _ _ rfl ?_; refine ⟨_, rfl, _, _, rfl, _, _, KM1, ?_⟩))
      clear l0 l1 p0 p1 KB KM KM1 KP KP1
      go_roundw
      case rel => exact ⟨j + 1, by go_num, by omega, by omega, by rw [HNX.out]; exact KB2, by rw [HNX.out]; exact KM2, hgm9, hb59, hbr9⟩
      case measure => simp [intOf]; omega
end Go.Proofs.YteadkdllmeeocabGreat
/- Two questions held against each other by the laws' own helper. -/
namespace Go.Proofs.YteadkdllmeeocabGreat
open Go.RowKit
set_option maxRecDepth 100000
set_option linter.unusedSimpArgs false
theorem eqFork_any (f : ForkD) (w : World) : Calls Tryz.prog 10 #[forkV f, forkV f] w fun e w' => e = .returned (.bool true) ∧ Below w.heap.size w w' := by
  obtain ⟨a, b⟩ := f
  have B : Below w.heap.size w ((w.alloc (.cells #[.int .i64 a, .int .i64 b] 33)).alloc (.cells #[.int .i64 a, .int .i64 b] 33)) := ((Below.refl _ _).alloc (Nat.le_refl _) _).alloc (by simp) _
  unfold forkV
  go_enter Tryz.func10, Tryz.ntmps10
  go_wp2
  go_ret
  exact ⟨rfl, B⟩
end Go.Proofs.YteadkdllmeeocabGreat
