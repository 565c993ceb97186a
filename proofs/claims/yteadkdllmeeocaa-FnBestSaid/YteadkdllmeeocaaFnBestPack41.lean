/- Texts of this claim, put together: part 41. -/
import Derived.Test.YteadkdllmeeocaaFnBestPack40
import Derived.Test.YteadkdllmeeocaaFnBestPack31
import Derived.Test.YteadkdllmeeocaaFnBestPack29
import Derived.Test.YteadkdllmeeocaaFnBestPack8
import Derived.Test.YteadkdllmeeocaaFnBestPack38
import Derived.Test.YteadkdllmeeocaaFnBestPack36
import Derived.Test.YteadkdllmeeocaaFnBestPack13
import Derived.Test.YteadkdllmeeocaaFnBestPack7
import Derived.Test.YteadkdllmeeocaaFnBestPack5
import Derived.Test.YteadkdllmeeocaaFnBestPack4
import Derived.Test.YteadkdllmeeocaaFnBestPack6
import Derived.Laws.AppendOwnNone
/- The order of fractions, by the program. -/
namespace Go.Proofs.Yteadkdllmeeocaa
open Go.RowKit
set_option maxRecDepth 100000

set_option maxHeartbeats 1600000 in
theorem order_any (a b c d : Nat) (w : World) (ha : a ≤ 4000000000000000) (hb : b ≤ 4000000000000000) (hc : c ≤ 4000000000000000) (hd : d ≤ 4000000000000000) :
    Calls Try.prog 45 #[frV a b, frV c d] w fun e w' => e = .returned (.int .i64 (cmpN (a * d) (c * b))) ∧ Below w.heap.size w w' := by
  have c1 := fun W => across_any a b c d W ha hb hc hd
  have t1 := prod_top ha hd
  have t2 := prod_top hc hb
  have c2 := fun W => cmp_any (a * d) (c * b) W (by unfold top; omega) (by unfold top; omega)
  generalize a * d = X at c1 c2
  generalize c * b = Y at c1 c2
  have lX := fit_len X
  have lY := fit_len Y
  clear ha hb hc hd t1 t2
  obtain ⟨F0, F1, B0⟩ := blk_2 27 27 w #[.int .i64 a, .int .i64 b] #[.int .i64 c, .int .i64 d]
  unfold fitV at c1 c2
  go_enter Try.func45, Try.ntmps45
  go_wp2_with fail
  refine (c1 _).mono ?_
  rintro e w1 ⟨rfl, hb1⟩
  have B1 := B0.trans (hb1.mono B0.size)
  obtain ⟨P1, P2, hb2⟩ := arr_2 93 93 w1 (fit X) (fit Y)
  have B2 := B1.trans (hb2.mono B1.size)
  go_wp2_with (first | (with_reducible refine wp_arr_init2 rfl _ _ rfl ?_; refine ⟨_, rfl, rfl, fit X, rfl, lX, ?_⟩) | (with_reducible refine wp_arr_init rfl _ _ rfl ?_; refine ⟨_, rfl, by simp, fit Y, rfl, lY, ?_⟩) | (with_reducible refine wp_arr_load rfl _ rfl ?_; first | (refine ⟨w1.heap.size, rfl, fit X, P1, lX, ?_⟩) | (refine ⟨w1.heap.size + 1, rfl, fit Y, P2, lY, ?_⟩)))
  refine (c2 _).mono ?_
  rintro e w2 ⟨rfl, hb3⟩
  go_wp2
  go_ret
  exact ⟨rfl, B2.trans (hb3.mono B2.size)⟩

set_option maxHeartbeats 1600000 in
theorem fracCmpI (a b c d : Int) (w : World) :
    Calls Try.prog 20 #[frV a b, frV c d] w fun e w' => e = .returned (.int .i64 (frC a b c d)) ∧ Below w.heap.size w w' := by
  have c1 := fun W => fracOkI a b W
  have c2 := fun W => fracOkI c d W
  obtain ⟨F0, F1, B0⟩ := blk_2 27 27 w #[.int .i64 a, .int .i64 b] #[.int .i64 c, .int .i64 d]
  cases h1 : frB a b
  · rw [frC_no1 h1]
    rw [h1] at c1
    clear h1 c2
    go_enter Try.func20, Try.ntmps20
    go_wp2_with fail
    refine (c1 _).mono ?_
    rintro e w1 ⟨rfl, hb1⟩
    go_wp2
    go_ret
    exact ⟨rfl, B0.trans (hb1.mono B0.size)⟩
  · rw [h1] at c1
    cases h2 : frB c d
    · rw [frC_no2 h2]
      rw [h2] at c2
      clear h1 h2
      go_enter Try.func20, Try.ntmps20
      go_wp2_with fail
      refine (c1 _).mono ?_
      rintro e w1 ⟨rfl, hb1⟩
      have B1 := B0.trans (hb1.mono B0.size)
      have F1 := F1.below hb1
      have f0 := FrT.c0 F1
      have f1 := FrT.c1 F1
      go_wp2_with fail
      refine (c2 _).mono ?_
      rintro e w2 ⟨rfl, hb2⟩
      clear f0 f1
      go_wp2
      go_ret
      exact ⟨rfl, B1.trans (hb2.mono B1.size)⟩
    · rw [h2] at c2
      have y1 := frB_yes h1
      have y2 := frB_yes h2
      have e : frC a b c d = cmpN (a.toNat * d.toNat) (c.toNat * b.toNat) := if_pos ⟨h1, h2⟩
      rw [e]
      obtain ⟨a, rfl⟩ := Int.eq_ofNat_of_zero_le (show 0 ≤ a by omega)
      obtain ⟨b, rfl⟩ := Int.eq_ofNat_of_zero_le (show 0 ≤ b by omega)
      obtain ⟨c, rfl⟩ := Int.eq_ofNat_of_zero_le (show 0 ≤ c by omega)
      obtain ⟨d, rfl⟩ := Int.eq_ofNat_of_zero_le (show 0 ≤ d by omega)
      have c3 := fun W => order_any a b c d W (by omega) (by omega) (by omega) (by omega)
      simp only [Int.toNat_natCast]
      generalize cmpN (a * d) (c * b) = C at c3
      clear h1 h2 y1 y2 e
      go_enter Try.func20, Try.ntmps20
      go_wp2_with fail
      refine (c1 _).mono ?_
      rintro e w1 ⟨rfl, hb1⟩
      have B1 := B0.trans (hb1.mono B0.size)
      have F0 := F0.below hb1
      have F1 := F1.below hb1
      have f0 := FrT.c0 F1
      have f1 := FrT.c1 F1
      go_wp2_with fail
      refine (c2 _).mono ?_
      rintro e w2 ⟨rfl, hb2⟩
      clear f0 f1
      have B2 := B1.trans (hb2.mono B1.size)
      have F0 := F0.below hb2
      have F1 := F1.below hb2
      have f0 := FrT.c0 F0
      have f1 := FrT.c1 F0
      have f2 := FrT.c0 F1
      have f3 := FrT.c1 F1
      go_wp2_with fail
      refine (c3 _).mono ?_
      rintro e w3 ⟨rfl, hb3⟩
      clear f0 f1 f2 f3
      go_wp2
      go_ret
      exact ⟨rfl, B2.trans (hb3.mono B2.size)⟩
end Go.Proofs.Yteadkdllmeeocaa
/- The best question of an attribute, by the program. -/
namespace Go.Proofs.Yteadkdllmeeocaa
open Go.RowKit
set_option maxRecDepth 100000
set_option linter.unusedSimpArgs false
set_option maxHeartbeats 6400000 in
theorem implBestOf_any (vs vt : Value) (s : SchemaD) (t : StatsD) (a : Int) (two : Bool) (w : World) (hs : SchemaAt w vs s) (ht : StatsAt w vt t) (hn : okSch s) (hb : okSt t) :
    Calls Try.prog 25 #[vs, vt, .int .i64 a, .bool two] w fun e w' => e = .returned (.tuple #[forkV (bestOf s t a two).1, frV (bestOf s t a two).2.1 (bestOf s t a two).2.2]) ∧ Below w.heap.size w w' := by
  have mixed : Try.prog.follows .mixedOrders = true := by kernel_rfl
  have HS : Hid (∀ W, Below w.heap.size w W → SchemaAt W vs s) := fun W h => hs.later h
  have HT : Hid (∀ W, Below w.heap.size w W → StatsAt W vt t) := fun W h => ht.later h
  have HOK : Hid (okSch s) := hn
  have HOT : Hid (okSt t) := hb
  obtain ⟨va, vc, rfl, ra, rc⟩ := hs
  obtain ⟨oa, ka, rfl, -, -⟩ := id ra
  obtain ⟨oc, kc, rfl, -, -⟩ := id rc
  obtain ⟨vx, vy, rfl, rx, ry⟩ := ht
  obtain ⟨ox, kx, rfl, -, -⟩ := id rx
  obtain ⟨oy, ky, rfl, -, -⟩ := id ry
  clear ra rc rx ry
  have la := hn.attrs
  have ly := hb.cells
  clear hn hb
  obtain ⟨KS, KT, KF, KR, B⟩ := blk_4 33 36 38 27 w #[.slice oa s.attrs.length ka, .slice oc s.classes.length kc] #[.slice ox t.totals.length kx, .slice oy t.cells.length ky] #[.int .i64 0, .int .i64 0] #[.int .i64 0, .int .i64 0]
  go_enter Try.func25, Try.ntmps25
  have cc := counted_any _ _ s t _ (HS.out _ B) (HT.out _ B) HOK.out HOT.out
  have kS0 : ((((w.alloc (.cells #[.slice oa s.attrs.length ka, .slice oc s.classes.length kc] 33)).alloc (.cells #[.slice ox t.totals.length kx, .slice oy t.cells.length ky] 36)).alloc (.cells #[.int .i64 0, .int .i64 0] 38)).alloc (.cells #[.int .i64 0, .int .i64 0] 27)).cell? ⟨w.heap.size, 0, none⟩ = some (.slice oa s.attrs.length ka) := KS.cell 0
  have kS1 : ((((w.alloc (.cells #[.slice oa s.attrs.length ka, .slice oc s.classes.length kc] 33)).alloc (.cells #[.slice ox t.totals.length kx, .slice oy t.cells.length ky] 36)).alloc (.cells #[.int .i64 0, .int .i64 0] 38)).alloc (.cells #[.int .i64 0, .int .i64 0] 27)).cell? ⟨w.heap.size, 1, none⟩ = some (.slice oc s.classes.length kc) := KS.cell 1
  have kT0 : ((((w.alloc (.cells #[.slice oa s.attrs.length ka, .slice oc s.classes.length kc] 33)).alloc (.cells #[.slice ox t.totals.length kx, .slice oy t.cells.length ky] 36)).alloc (.cells #[.int .i64 0, .int .i64 0] 38)).alloc (.cells #[.int .i64 0, .int .i64 0] 27)).cell? ⟨w.heap.size + 1, 0, none⟩ = some (.slice ox t.totals.length kx) := KT.cell 0
  have kT1 : ((((w.alloc (.cells #[.slice oa s.attrs.length ka, .slice oc s.classes.length kc] 33)).alloc (.cells #[.slice ox t.totals.length kx, .slice oy t.cells.length ky] 36)).alloc (.cells #[.int .i64 0, .int .i64 0] 38)).alloc (.cells #[.int .i64 0, .int .i64 0] 27)).cell? ⟨w.heap.size + 1, 1, none⟩ = some (.slice oy t.cells.length ky) := KT.cell 1
  go_wp2_with fail
  refine cc.mono ?_
  clear cc
  clear kS0 kS1 kT0 kT1
  rintro e w1 ⟨rfl, hb⟩
  replace KS := KS.below hb
  replace KT := KT.below hb
  replace KF := KF.below hb
  replace KR := KR.below hb
  replace B := B.trans (hb.mono B.size)
  clear hb
  cases hk : (statsOk s t && decide (t.cells.length ≠ 0)) with
  | false =>
    have HE : Hid (bestOf s t a two = (⟨0, 0⟩, (0, 0))) := best_none hk
    clear hk
    have KF1 := KF.setRow #[.int .i64 0, .int .i64 0]
    have KR1 := Blk.setRow_other KR #[.int .i64 0, .int .i64 0] (show w.heap.size + 1 + 1 + 1 ≠ w.heap.size + 1 + 1 by omega)
    have KF2 := Blk.setRow_other KF1 #[.int .i64 0, .int .i64 0] (show w.heap.size + 1 + 1 ≠ w.heap.size + 1 + 1 + 1 by omega)
    have KR2 := KR1.setRow #[.int .i64 0, .int .i64 0]
    go_wp2_with (first | (with_reducible refine wp_fk_store rfl _ _ rfl ?_; refine ⟨_, rfl, _, _, rfl, _, _, KF, ?_⟩) | (refine wp_fr_store rfl _ _ rfl ?_; refine ⟨_, rfl, _, _, rfl, _, _, KR1, ?_⟩))
    exact bodyPost_ret (res_ff rfl _ _ _ _ _ _ _ _ rfl rfl KF2 KR2) rfl ⟨by rw [HE.out]; rfl, below_row (below_row B (by omega) _) (by omega) _⟩
  | true =>
    have HE : Hid (bestOf s t a two = bestSt s t (candidates s [a] two) (candidates s [a] two).length) := best_some hk
    clear hk
    have HB1 : Hid (∀ W, Below w1.heap.size w1 W → (Blk 33 W (w.heap.size) #[.slice oa s.attrs.length ka, .slice oc s.classes.length kc] ∧ Blk 36 W (w.heap.size + 1) #[.slice ox t.totals.length kx, .slice oy t.cells.length ky] ∧ Blk 38 W (w.heap.size + 1 + 1) #[.int .i64 0, .int .i64 0] ∧ Blk 27 W (w.heap.size + 1 + 1 + 1) #[.int .i64 0, .int .i64 0]) ∧ Below w.heap.size w W) := fun W h => ⟨⟨KS.below h, KT.below h, KF.below h, KR.below h⟩, B.trans (h.mono B.size)⟩
    have hlow := KR.lt
    obtain ⟨KB, KM, BN⟩ := blk_2 38 27 w1 #[.int .i64 0, .int .i64 0] #[.int .i64 0, .int .i64 0]
    replace KS := KS.below BN
    replace KT := KT.below BN
    replace KF := KF.below BN
    replace KR := KR.below BN
    replace B := B.trans (BN.mono B.size)
    have kS0 : ((w1.alloc (.cells #[.int .i64 0, .int .i64 0] 38)).alloc (.cells #[.int .i64 0, .int .i64 0] 27)).cell? ⟨w.heap.size, 0, none⟩ = some (.slice oa s.attrs.length ka) := KS.cell 0
    have kS1 : ((w1.alloc (.cells #[.int .i64 0, .int .i64 0] 38)).alloc (.cells #[.int .i64 0, .int .i64 0] 27)).cell? ⟨w.heap.size, 1, none⟩ = some (.slice oc s.classes.length kc) := KS.cell 1
    have BL : Below ((w1.alloc (.cells #[.int .i64 0, .int .i64 0] 38)).alloc (.cells #[.int .i64 0, .int .i64 0] 27)).heap.size ((w1.alloc (.cells #[.int .i64 0, .int .i64 0] 38)).alloc (.cells #[.int .i64 0, .int .i64 0] 27)) (((w1.alloc (.cells #[.int .i64 0, .int .i64 0] 38)).alloc (.cells #[.int .i64 0, .int .i64 0] 27)).alloc (.cells #[.int .i64 a] 3)) := (Below.refl _ _).alloc (Nat.le_refl _) _
    replace KS := KS.below BL
    replace KT := KT.below BL
    replace KF := KF.below BL
    replace KR := KR.below BL
    replace B := B.trans (BL.mono B.size)
    replace KB := KB.below BL
    replace KM := KM.below BL
    have h1 : Below w1.heap.size w1 (((w1.alloc (.cells #[.int .i64 0, .int .i64 0] 38)).alloc (.cells #[.int .i64 0, .int .i64 0] 27)).alloc (.cells #[.int .i64 a] 3)) := BN.trans (BL.mono BN.size)
    have h1s := h1.size
    clear BN BL
    have hrow := row_one (w := ((w1.alloc (.cells #[.int .i64 0, .int .i64 0] 38)).alloc (.cells #[.int .i64 0, .int .i64 0] 27))) a 3
    rw [show ((w1.alloc (.cells #[.int .i64 0, .int .i64 0] 38)).alloc (.cells #[.int .i64 0, .int .i64 0] 27)).heap.size = w1.heap.size + 1 + 1 by simp] at hrow
    have cc := implCandidates_any _ _ s [a] two (((w1.alloc (.cells #[.int .i64 0, .int .i64 0] 38)).alloc (.cells #[.int .i64 0, .int .i64 0] 27)).alloc (.cells #[.int .i64 a] 3)) (HS.out _ B) HOK.out hrow (by simp)
    clear hrow
    go_wp2_with fail
    refine cc.mono ?_
    clear cc
    clear kS0 kS1
    rintro e w5 ⟨v5, rfl, ho, hb⟩
    replace KB := KB.below hb
    replace KM := KM.below hb
    replace h1 := h1.trans (hb.mono h1s)
    have hgl : w1.heap.size + 2 ≤ (((w1.alloc (.cells #[.int .i64 0, .int .i64 0] 38)).alloc (.cells #[.int .i64 0, .int .i64 0] 27)).alloc (.cells #[.int .i64 a] 3)).heap.size := by simp <;> omega
    clear hb KS KT KF KR B h1s
    have hcl := candidates_len (s := s) (l := [a]) two
    obtain ⟨fs, hfs⟩ : ∃ fs, candidates s [a] two = fs := ⟨_, rfl⟩
    rw [hfs] at ho HE hcl
    clear hfs
    obtain ⟨ol, kl, rfl, hol⟩ := own_fkc10 ho
    have HCL : Hid (0 < fs.length → ∃ g, ol = some ⟨g, 0, none⟩ ∧ w1.heap.size + 2 ≤ g ∧ g < w5.heap.size ∧ ∀ j, j < fs.length → w5.cell? ⟨g, j * 2, none⟩ = some (.int .i64 (fk fs j).attr) ∧ w5.cell? ⟨g, j * 2 + 1, none⟩ = some (.int .i64 (fk fs j).pos)) := fun h => by
      obtain ⟨g, e1, e2, e3, e4⟩ := hol h
      exact ⟨g, e1, Nat.le_trans hgl e2, e3, e4⟩
    clear ho hol hgl
    obtain ⟨gb, hgb⟩ : ∃ gb, w1.heap.size = gb := ⟨_, rfl⟩
    have HGB : Hid (w1.heap.size = gb) := hgb
    rw [hgb] at KB KM hlow HCL ⊢
    clear hgb
    go_wp2
    go_loopw [27] (fun i wr => ∃ j : Nat, i = .int .i64 j ∧ j ≤ fs.length ∧ Blk 38 wr gb #[.int .i64 (bestSt s t fs (j)).1.attr, .int .i64 (bestSt s t fs (j)).1.pos] ∧ Blk 27 wr (gb + 1) #[.int .i64 (bestSt s t fs (j)).2.1, .int .i64 (bestSt s t fs (j)).2.2] ∧ Hid (0 < fs.length → ∃ g, ol = some ⟨g, 0, none⟩ ∧ gb + 2 ≤ g ∧ g < wr.heap.size ∧ ∀ j, j < fs.length → wr.cell? ⟨g, j * 2, none⟩ = some (.int .i64 (fk fs j).attr) ∧ wr.cell? ⟨g, j * 2 + 1, none⟩ = some (.int .i64 (fk fs j).pos)) ∧ Hid (Below w1.heap.size w1 wr)) (fun i _ => fs.length - (intOf i).toNat)
    case atStart => exact ⟨0, rfl, by omega, KB, KM, HCL, h1⟩
    case round =>
      clear KB KM HCL h1
      obtain ⟨j, rfl, hj, KB, KM, HCL, HBR⟩ := hrel
      have hbr := HBR.out
      by_cases hlt : j < fs.length
      rotate_left
      · have hjn : j = fs.length := by omega
        rw [hjn] at KB KM
        obtain ⟨⟨-, -, KF, KR⟩, B⟩ := HB1.out wr hbr
        clear hjn
        go_wp2_with fail
        have bd : Below wr.heap.size wr wr.drew := below_drewN (Below.refl _ _) 1
        replace KB := KB.below bd
        replace KM := KM.below bd
        replace KF := KF.below bd
        replace KR := KR.below bd
        replace B := B.trans (bd.mono B.size)
        refine wp_region_held_drew (S := fun w' => Blk 38 w' (gb) #[.int .i64 (bestSt s t fs (fs.length)).1.attr, .int .i64 (bestSt s t fs (fs.length)).1.pos] ∧ Blk 27 w' (gb + 1) #[.int .i64 (bestSt s t fs (fs.length)).2.1, .int .i64 (bestSt s t fs (fs.length)).2.2]) (by kernel_rfl) ⟨KB, KM⟩ ?_
        intro hS
        clear bd KB KM hbr HBR
        generalize wr.drew = w60 at KF KR B hS ⊢
        refine takeL 0 (.agg #[.int .i64 (bestSt s t fs (fs.length)).1.attr, .int .i64 (bestSt s t fs (fs.length)).1.pos]) rfl (by kernel_rfl) (by kernel_rfl) (by kernel_rfl) (fun _ _ _ h => h) (yields_row Try.underlying38 (by kernel_rfl) (by rfl) _ rfl _ rfl (fun _ h => h.1)) hS ?_
        try simp only [Act.put, List.setIfInBounds_toArray, List.set_cons_zero, List.set_cons_succ]
        refine takeL 1 (.agg #[.int .i64 (bestSt s t fs (fs.length)).2.1, .int .i64 (bestSt s t fs (fs.length)).2.2]) rfl (by kernel_rfl) (by kernel_rfl) (by kernel_rfl) (fun _ _ _ h => h) (yields_row Try.underlying27 (by kernel_rfl) (by rfl) _ rfl _ rfl (fun _ h => h.2)) hS ?_
        try simp only [Act.put, List.setIfInBounds_toArray, List.set_cons_zero, List.set_cons_succ]
        refine nextL 2 rfl (by kernel_rfl) (by rfl) fun K hK => ?_
        refine wp_fk_step _ _ rfl (w.heap.size + 1 + 1) _ _ _ _ rfl rfl KF ?_
        replace KR := Blk.setRow_other KR #[.int .i64 (bestSt s t fs (fs.length)).1.attr, .int .i64 (bestSt s t fs (fs.length)).1.pos] (show w.heap.size + 1 + 1 + 1 ≠ w.heap.size + 1 + 1 by omega)
        replace KF := KF.setRow #[.int .i64 (bestSt s t fs (fs.length)).1.attr, .int .i64 (bestSt s t fs (fs.length)).1.pos]
        replace B := below_row B (show w.heap.size ≤ w.heap.size + 1 + 1 by omega) #[.int .i64 (bestSt s t fs (fs.length)).1.attr, .int .i64 (bestSt s t fs (fs.length)).1.pos]
        replace hS : (fun w' => Blk 38 w' (gb) #[.int .i64 (bestSt s t fs (fs.length)).1.attr, .int .i64 (bestSt s t fs (fs.length)).1.pos] ∧ Blk 27 w' (gb + 1) #[.int .i64 (bestSt s t fs (fs.length)).2.1, .int .i64 (bestSt s t fs (fs.length)).2.2]) (w60.setRow (w.heap.size + 1 + 1) #[.int .i64 (bestSt s t fs (fs.length)).1.attr, .int .i64 (bestSt s t fs (fs.length)).1.pos]) := ⟨Blk.setRow_other hS.1 _ (by omega), Blk.setRow_other hS.2 _ (by omega)⟩
        refine hK _ _ hS ?_
        clear hK K
        intro _
        refine nextL 3 rfl (by kernel_rfl) (by rfl) fun K hK => ?_
        refine wp_fr_step _ _ rfl (w.heap.size + 1 + 1 + 1) _ _ _ _ rfl rfl KR ?_
        replace KF := Blk.setRow_other KF #[.int .i64 (bestSt s t fs (fs.length)).2.1, .int .i64 (bestSt s t fs (fs.length)).2.2] (show w.heap.size + 1 + 1 ≠ w.heap.size + 1 + 1 + 1 by omega)
        replace KR := KR.setRow #[.int .i64 (bestSt s t fs (fs.length)).2.1, .int .i64 (bestSt s t fs (fs.length)).2.2]
        replace B := below_row B (show w.heap.size ≤ w.heap.size + 1 + 1 + 1 by omega) #[.int .i64 (bestSt s t fs (fs.length)).2.1, .int .i64 (bestSt s t fs (fs.length)).2.2]
        replace hS : (fun w' => Blk 38 w' (gb) #[.int .i64 (bestSt s t fs (fs.length)).1.attr, .int .i64 (bestSt s t fs (fs.length)).1.pos] ∧ Blk 27 w' (gb + 1) #[.int .i64 (bestSt s t fs (fs.length)).2.1, .int .i64 (bestSt s t fs (fs.length)).2.2]) ((w60.setRow (w.heap.size + 1 + 1) #[.int .i64 (bestSt s t fs (fs.length)).1.attr, .int .i64 (bestSt s t fs (fs.length)).1.pos]).setRow (w.heap.size + 1 + 1 + 1) #[.int .i64 (bestSt s t fs (fs.length)).2.1, .int .i64 (bestSt s t fs (fs.length)).2.2]) := ⟨Blk.setRow_other hS.1 _ (by omega), Blk.setRow_other hS.2 _ (by omega)⟩
        refine hK _ _ hS ?_
        clear hK K
        intro _
        refine wpAnyH_done (by kernel_rfl) ?_ _
        clear hS
        go_wp2
        exact bodyPost_ret (res_ff rfl _ _ _ _ _ _ _ _ rfl rfl KF KR) rfl ⟨by rw [HE.out]; rfl, B⟩
      obtain ⟨gl, rfl, hg1, hg2, hcell⟩ := HCL.out (by omega)
      obtain ⟨l0, l1⟩ := hcell j hlt
      have HCE : Hid (∀ j, j < fs.length → wr.cell? ⟨gl, j * 2, none⟩ = some (.int .i64 (fk fs j).attr) ∧ wr.cell? ⟨gl, j * 2 + 1, none⟩ = some (.int .i64 (fk fs j).pos)) := hcell
      clear hcell HCL
      obtain ⟨KQ, BN⟩ := blk_1 38 wr #[.int .i64 (fk fs j).attr, .int .i64 (fk fs j).pos]
      have h6 : Below w1.heap.size w1 (wr.alloc (.cells #[.int .i64 (fk fs j).attr, .int .i64 (fk fs j).pos] 38)) := hbr.trans (BN.mono hbr.size)
      obtain ⟨⟨KS, KT, -, -⟩, B⟩ := HB1.out _ h6
      have hbz := hbr.size
      have hmz := KM.lt
      have cc := implMerit_any _ _ s t (fk fs j) _ (HS.out _ B) (HT.out _ B) HOK.out HOT.out
      simp only [forkV] at cc
      have kS0 : (wr.alloc (.cells #[.int .i64 (fk fs j).attr, .int .i64 (fk fs j).pos] 38)).cell? ⟨w.heap.size, 0, none⟩ = some (.slice oa s.attrs.length ka) := KS.cell 0
      have kS1 : (wr.alloc (.cells #[.int .i64 (fk fs j).attr, .int .i64 (fk fs j).pos] 38)).cell? ⟨w.heap.size, 1, none⟩ = some (.slice oc s.classes.length kc) := KS.cell 1
      have kT0 : (wr.alloc (.cells #[.int .i64 (fk fs j).attr, .int .i64 (fk fs j).pos] 38)).cell? ⟨w.heap.size + 1, 0, none⟩ = some (.slice ox t.totals.length kx) := KT.cell 0
      have kT1 : (wr.alloc (.cells #[.int .i64 (fk fs j).attr, .int .i64 (fk fs j).pos] 38)).cell? ⟨w.heap.size + 1, 1, none⟩ = some (.slice oy t.cells.length ky) := KT.cell 1
      have kQ0 : (wr.alloc (.cells #[.int .i64 (fk fs j).attr, .int .i64 (fk fs j).pos] 38)).cell? ⟨wr.heap.size, 0, none⟩ = some (.int .i64 (fk fs j).attr) := KQ.cell 0
      have kQ1 : (wr.alloc (.cells #[.int .i64 (fk fs j).attr, .int .i64 (fk fs j).pos] 38)).cell? ⟨wr.heap.size, 1, none⟩ = some (.int .i64 (fk fs j).pos) := KQ.cell 1
      go_wp2_with fail
      refine cc.mono ?_
      clear cc l0 l1
      clear kS0 kS1 kT0 kT1 kQ0 kQ1
      
      rintro e w7 ⟨rfl, hb⟩
      have hqz : wr.heap.size < w7.heap.size := Nat.lt_of_lt_of_le KQ.lt hb.size
      replace KQ := KQ.below hb
      have hw7 : Below wr.heap.size wr w7 := BN.trans (hb.mono BN.size)
      clear hb h6 BN KS KT B
      obtain ⟨x1, hx1⟩ : ∃ x1, meritN s t (fk fs j) = x1 := ⟨_, rfl⟩
      obtain ⟨x2, hx2⟩ : ∃ x2, meritD s t (fk fs j) = x2 := ⟨_, rfl⟩
      have HX : Hid (meritN s t (fk fs j) = x1 ∧ meritD s t (fk fs j) = x2) := ⟨hx1, hx2⟩
      rw [hx1, hx2]
      clear hx1 hx2
      obtain ⟨KP, BN⟩ := blk_1 27 w7 #[.int .i64 x1, .int .i64 x2]
      replace KQ := KQ.below BN
      have hw8 := hw7.trans (BN.mono hw7.size)
      replace KB := KB.below hw8
      replace KM := KM.below hw8
      replace hbr := hbr.trans (hw8.mono hbr.size)
      have HCE2 : Hid (∀ i, i < fs.length → (w7.alloc (.cells #[.int .i64 x1, .int .i64 x2] 27)).cell? ⟨gl, i * 2, none⟩ = some (.int .i64 (fk fs i).attr) ∧ (w7.alloc (.cells #[.int .i64 x1, .int .i64 x2] 27)).cell? ⟨gl, i * 2 + 1, none⟩ = some (.int .i64 (fk fs i).pos)) := fun i hi => ⟨(hw8.cell (p := ⟨gl, i * 2, none⟩) hg2).trans (HCE.out i hi).1, (hw8.cell (p := ⟨gl, i * 2 + 1, none⟩) hg2).trans (HCE.out i hi).2⟩
      have hgw : gl < (w7.alloc (.cells #[.int .i64 x1, .int .i64 x2] 27)).heap.size := Nat.lt_of_lt_of_le hg2 hw8.size
      clear HCE hw7 hw8 BN HBR
      obtain ⟨gq, hgq⟩ : ∃ gq, wr.heap.size = gq := ⟨_, rfl⟩
      obtain ⟨gp, hgp⟩ : ∃ gp, w7.heap.size = gp := ⟨_, rfl⟩
      rw [hgq] at hqz KQ hmz hg2 hbz
      rw [hgp] at KP hqz
      have HGP : Hid (w7.heap.size = gp ∧ wr.heap.size = gq) := ⟨hgp, hgq⟩
      by_cases hj0 : j = 0
      · have hq : ((j : Int) == 0) = true := by rw [hj0]; rfl
        have HNX : Hid (bestSt s t fs (j + 1) = (fk fs j, (x1, x2))) := by show _ = _; rw [best_take (.inl hj0), HX.out.1, HX.out.2]
        clear hj0
        go_wp2_with fail
        have bd : Below (w7.alloc (.cells #[.int .i64 x1, .int .i64 x2] 27)).heap.size (w7.alloc (.cells #[.int .i64 x1, .int .i64 x2] 27)) (w7.alloc (.cells #[.int .i64 x1, .int .i64 x2] 27)).drew := below_drewN (Below.refl _ _) 1
        replace KB := KB.below bd
        replace KM := KM.below bd
        replace KQ := KQ.below bd
        replace KP := KP.below bd
        replace hbr := hbr.trans (bd.mono hbr.size)
        have HCE3 : Hid (gl < (w7.alloc (.cells #[.int .i64 x1, .int .i64 x2] 27)).drew.heap.size ∧ ∀ i, i < fs.length → (w7.alloc (.cells #[.int .i64 x1, .int .i64 x2] 27)).drew.cell? ⟨gl, i * 2, none⟩ = some (.int .i64 (fk fs i).attr) ∧ (w7.alloc (.cells #[.int .i64 x1, .int .i64 x2] 27)).drew.cell? ⟨gl, i * 2 + 1, none⟩ = some (.int .i64 (fk fs i).pos)) := ⟨Nat.lt_of_lt_of_le hgw bd.size, fun i hi => ⟨(bd.cell (p := ⟨gl, i * 2, none⟩) hgw).trans (HCE2.out i hi).1, (bd.cell (p := ⟨gl, i * 2 + 1, none⟩) hgw).trans (HCE2.out i hi).2⟩⟩
        refine wp_region_held_drew (S := fun w' => Blk 38 w' gq #[.int .i64 (fk fs j).attr, .int .i64 (fk fs j).pos] ∧ Blk 27 w' gp #[.int .i64 x1, .int .i64 x2]) (by kernel_rfl) ⟨KQ, KP⟩ ?_
        intro hS
        clear bd KQ KP HCE2 hgw
        generalize (w7.alloc (.cells #[.int .i64 x1, .int .i64 x2] 27)).drew = w70 at KB KM hbr HCE3 hS ⊢
        refine takeL 0 (.agg #[.int .i64 (fk fs j).attr, .int .i64 (fk fs j).pos]) rfl (by kernel_rfl) (by kernel_rfl) (by kernel_rfl) (fun _ _ _ h => h) (yields_row Try.underlying38 (by kernel_rfl) (by rfl) _ rfl _ rfl (fun _ h => h.1)) hS ?_
        try simp only [Act.put, List.setIfInBounds_toArray, List.set_cons_zero, List.set_cons_succ]
        refine takeL 1 (.agg #[.int .i64 x1, .int .i64 x2]) rfl (by kernel_rfl) (by kernel_rfl) (by kernel_rfl) (fun _ _ _ h => h) (yields_row Try.underlying27 (by kernel_rfl) (by rfl) _ rfl _ rfl (fun _ h => h.2)) hS ?_
        try simp only [Act.put, List.setIfInBounds_toArray, List.set_cons_zero, List.set_cons_succ]
        refine nextL 2 rfl (by kernel_rfl) (by rfl) fun K hK => ?_
        refine wp_fk_step _ _ rfl gb _ _ _ _ rfl rfl KB ?_
        replace KM := Blk.setRow_other KM #[.int .i64 (fk fs j).attr, .int .i64 (fk fs j).pos] (show gb + 1 ≠ gb by omega)
        replace KB := KB.setRow #[.int .i64 (fk fs j).attr, .int .i64 (fk fs j).pos]
        replace hS : (fun w' => Blk 38 w' gq #[.int .i64 (fk fs j).attr, .int .i64 (fk fs j).pos] ∧ Blk 27 w' gp #[.int .i64 x1, .int .i64 x2]) (w70.setRow gb #[.int .i64 (fk fs j).attr, .int .i64 (fk fs j).pos]) := ⟨Blk.setRow_other hS.1 _ (by omega), Blk.setRow_other hS.2 _ (by omega)⟩
        refine hK _ _ hS ?_
        clear hK K
        intro _
        refine nextL 3 rfl (by kernel_rfl) (by rfl) fun K hK => ?_
        refine wp_fr_step _ _ rfl (gb + 1) _ _ _ _ rfl rfl KM ?_
        replace KB := Blk.setRow_other KB #[.int .i64 x1, .int .i64 x2] (show gb ≠ gb + 1 by omega)
        replace KM := KM.setRow #[.int .i64 x1, .int .i64 x2]
        replace hS : (fun w' => Blk 38 w' gq #[.int .i64 (fk fs j).attr, .int .i64 (fk fs j).pos] ∧ Blk 27 w' gp #[.int .i64 x1, .int .i64 x2]) ((w70.setRow gb #[.int .i64 (fk fs j).attr, .int .i64 (fk fs j).pos]).setRow (gb + 1) #[.int .i64 x1, .int .i64 x2]) := ⟨Blk.setRow_other hS.1 _ (by omega), Blk.setRow_other hS.2 _ (by omega)⟩
        refine hK _ _ hS ?_
        clear hK K
        intro _
        refine wpAnyH_done (by kernel_rfl) ?_ _
        clear hS
        have HC9 : Hid (0 < fs.length → ∃ g, some (⟨gl, 0, none⟩ : Addr) = some ⟨g, 0, none⟩ ∧ gb + 2 ≤ g ∧ g < ((w70.setRow gb #[.int .i64 (fk fs j).attr, .int .i64 (fk fs j).pos]).setRow (gb + 1) #[.int .i64 x1, .int .i64 x2]).heap.size ∧ ∀ i, i < fs.length → ((w70.setRow gb #[.int .i64 (fk fs j).attr, .int .i64 (fk fs j).pos]).setRow (gb + 1) #[.int .i64 x1, .int .i64 x2]).cell? ⟨g, i * 2, none⟩ = some (.int .i64 (fk fs i).attr) ∧ ((w70.setRow gb #[.int .i64 (fk fs j).attr, .int .i64 (fk fs j).pos]).setRow (gb + 1) #[.int .i64 x1, .int .i64 x2]).cell? ⟨g, i * 2 + 1, none⟩ = some (.int .i64 (fk fs i).pos)) := fun _ => ⟨gl, rfl, hg1, by rw [setRow_size, setRow_size]; exact HCE3.out.1, fun i hi => ⟨by rw [cell_far_row _ _ _ (by omega), cell_far_row _ _ _ (by omega)]; exact (HCE3.out.2 i hi).1, by rw [cell_far_row _ _ _ (by omega), cell_far_row _ _ _ (by omega)]; exact (HCE3.out.2 i hi).2⟩⟩
        have hbr9 : Below w1.heap.size w1 ((w70.setRow gb #[.int .i64 (fk fs j).attr, .int .i64 (fk fs j).pos]).setRow (gb + 1) #[.int .i64 x1, .int .i64 x2]) := below_row (below_row hbr (by have := HGB.out; omega) _) (by have := HGB.out; omega) _
        clear HCE3 hbr
        go_wp2
        go_roundw
        case rel => exact ⟨j + 1, by go_num, by omega, by rw [HNX.out]; exact KB, by rw [HNX.out]; exact KM, HC9, hbr9⟩
        case measure => simp [intOf]; omega
      have hq : ((j : Int) == 0) = false := by rw [beq_eq_false_iff_ne]; omega
      obtain ⟨z, hz⟩ : ∃ z, frC x1 x2 (bestSt s t fs j).2.1 (bestSt s t fs j).2.2 = z := ⟨_, rfl⟩
      have HZ : Hid (frC (meritN s t (fk fs j)) (meritD s t (fk fs j)) (bestSt s t fs j).2.1 (bestSt s t fs j).2.2 = z) := by show _ = _; rw [HX.out.1, HX.out.2]; exact hz
      have cc := fracCmpI x1 x2 (bestSt s t fs j).2.1 (bestSt s t fs j).2.2 (w7.alloc (.cells #[.int .i64 x1, .int .i64 x2] 27))
      rw [hz] at cc
      clear hz
      have m0 : (w7.alloc (.cells #[.int .i64 x1, .int .i64 x2] 27)).cell? ⟨gp, 0, none⟩ = some (.int .i64 x1) := KP.cell 0
      have m1 : (w7.alloc (.cells #[.int .i64 x1, .int .i64 x2] 27)).cell? ⟨gp, 1, none⟩ = some (.int .i64 x2) := KP.cell 1
      have m2 : (w7.alloc (.cells #[.int .i64 x1, .int .i64 x2] 27)).cell? ⟨gb + 1, 0, none⟩ = some (.int .i64 (bestSt s t fs j).2.1) := KM.cell 0
      have m3 : (w7.alloc (.cells #[.int .i64 x1, .int .i64 x2] 27)).cell? ⟨gb + 1, 1, none⟩ = some (.int .i64 (bestSt s t fs j).2.2) := KM.cell 1
      go_wp2_with fail
      refine cc.mono ?_
      clear cc m0 m1 m2 m3
      rintro e w9 ⟨rfl, hb⟩
      replace KB := KB.below hb
      replace KM := KM.below hb
      replace KQ := KQ.below hb
      replace KP := KP.below hb
      replace HCE2 : Hid (∀ i, i < fs.length → w9.cell? ⟨gl, i * 2, none⟩ = some (.int .i64 (fk fs i).attr) ∧ w9.cell? ⟨gl, i * 2 + 1, none⟩ = some (.int .i64 (fk fs i).pos)) := fun i hi => ⟨(hb.cell (p := ⟨gl, i * 2, none⟩) hgw).trans (HCE2.out i hi).1, (hb.cell (p := ⟨gl, i * 2 + 1, none⟩) hgw).trans (HCE2.out i hi).2⟩
      replace hgw := Nat.lt_of_lt_of_le hgw hb.size
      replace hbr := hbr.trans (hb.mono hbr.size)
      clear hb
      by_cases hzp : 0 < z
      · have HNX : Hid (bestSt s t fs (j + 1) = (fk fs j, (x1, x2))) := by show _ = _; rw [best_take (.inr (by rw [HZ.out]; exact hzp)), HX.out.1, HX.out.2]
        go_wp2_with fail
        have bd : Below w9.heap.size w9 w9.drew := below_drewN (Below.refl _ _) 1
        replace KB := KB.below bd
        replace KM := KM.below bd
        replace KQ := KQ.below bd
        replace KP := KP.below bd
        replace hbr := hbr.trans (bd.mono hbr.size)
        have HCE3 : Hid (gl < w9.drew.heap.size ∧ ∀ i, i < fs.length → w9.drew.cell? ⟨gl, i * 2, none⟩ = some (.int .i64 (fk fs i).attr) ∧ w9.drew.cell? ⟨gl, i * 2 + 1, none⟩ = some (.int .i64 (fk fs i).pos)) := ⟨Nat.lt_of_lt_of_le hgw bd.size, fun i hi => ⟨(bd.cell (p := ⟨gl, i * 2, none⟩) hgw).trans (HCE2.out i hi).1, (bd.cell (p := ⟨gl, i * 2 + 1, none⟩) hgw).trans (HCE2.out i hi).2⟩⟩
        refine wp_region_held_drew (S := fun w' => Blk 38 w' gq #[.int .i64 (fk fs j).attr, .int .i64 (fk fs j).pos] ∧ Blk 27 w' gp #[.int .i64 x1, .int .i64 x2]) (by kernel_rfl) ⟨KQ, KP⟩ ?_
        intro hS
        clear bd KQ KP HCE2 hgw
        generalize w9.drew = w70 at KB KM hbr HCE3 hS ⊢
        refine takeL 0 (.agg #[.int .i64 (fk fs j).attr, .int .i64 (fk fs j).pos]) rfl (by kernel_rfl) (by kernel_rfl) (by kernel_rfl) (fun _ _ _ h => h) (yields_row Try.underlying38 (by kernel_rfl) (by rfl) _ rfl _ rfl (fun _ h => h.1)) hS ?_
        try simp only [Act.put, List.setIfInBounds_toArray, List.set_cons_zero, List.set_cons_succ]
        refine takeL 1 (.agg #[.int .i64 x1, .int .i64 x2]) rfl (by kernel_rfl) (by kernel_rfl) (by kernel_rfl) (fun _ _ _ h => h) (yields_row Try.underlying27 (by kernel_rfl) (by rfl) _ rfl _ rfl (fun _ h => h.2)) hS ?_
        try simp only [Act.put, List.setIfInBounds_toArray, List.set_cons_zero, List.set_cons_succ]
        refine nextL 2 rfl (by kernel_rfl) (by rfl) fun K hK => ?_
        refine wp_fk_step _ _ rfl gb _ _ _ _ rfl rfl KB ?_
        replace KM := Blk.setRow_other KM #[.int .i64 (fk fs j).attr, .int .i64 (fk fs j).pos] (show gb + 1 ≠ gb by omega)
        replace KB := KB.setRow #[.int .i64 (fk fs j).attr, .int .i64 (fk fs j).pos]
        replace hS : (fun w' => Blk 38 w' gq #[.int .i64 (fk fs j).attr, .int .i64 (fk fs j).pos] ∧ Blk 27 w' gp #[.int .i64 x1, .int .i64 x2]) (w70.setRow gb #[.int .i64 (fk fs j).attr, .int .i64 (fk fs j).pos]) := ⟨Blk.setRow_other hS.1 _ (by omega), Blk.setRow_other hS.2 _ (by omega)⟩
        refine hK _ _ hS ?_
        clear hK K
        intro _
        refine nextL 3 rfl (by kernel_rfl) (by rfl) fun K hK => ?_
        refine wp_fr_step _ _ rfl (gb + 1) _ _ _ _ rfl rfl KM ?_
        replace KB := Blk.setRow_other KB #[.int .i64 x1, .int .i64 x2] (show gb ≠ gb + 1 by omega)
        replace KM := KM.setRow #[.int .i64 x1, .int .i64 x2]
        replace hS : (fun w' => Blk 38 w' gq #[.int .i64 (fk fs j).attr, .int .i64 (fk fs j).pos] ∧ Blk 27 w' gp #[.int .i64 x1, .int .i64 x2]) ((w70.setRow gb #[.int .i64 (fk fs j).attr, .int .i64 (fk fs j).pos]).setRow (gb + 1) #[.int .i64 x1, .int .i64 x2]) := ⟨Blk.setRow_other hS.1 _ (by omega), Blk.setRow_other hS.2 _ (by omega)⟩
        refine hK _ _ hS ?_
        clear hK K
        intro _
        refine wpAnyH_done (by kernel_rfl) ?_ _
        clear hS
        have HC9 : Hid (0 < fs.length → ∃ g, some (⟨gl, 0, none⟩ : Addr) = some ⟨g, 0, none⟩ ∧ gb + 2 ≤ g ∧ g < ((w70.setRow gb #[.int .i64 (fk fs j).attr, .int .i64 (fk fs j).pos]).setRow (gb + 1) #[.int .i64 x1, .int .i64 x2]).heap.size ∧ ∀ i, i < fs.length → ((w70.setRow gb #[.int .i64 (fk fs j).attr, .int .i64 (fk fs j).pos]).setRow (gb + 1) #[.int .i64 x1, .int .i64 x2]).cell? ⟨g, i * 2, none⟩ = some (.int .i64 (fk fs i).attr) ∧ ((w70.setRow gb #[.int .i64 (fk fs j).attr, .int .i64 (fk fs j).pos]).setRow (gb + 1) #[.int .i64 x1, .int .i64 x2]).cell? ⟨g, i * 2 + 1, none⟩ = some (.int .i64 (fk fs i).pos)) := fun _ => ⟨gl, rfl, hg1, by rw [setRow_size, setRow_size]; exact HCE3.out.1, fun i hi => ⟨by rw [cell_far_row _ _ _ (by omega), cell_far_row _ _ _ (by omega)]; exact (HCE3.out.2 i hi).1, by rw [cell_far_row _ _ _ (by omega), cell_far_row _ _ _ (by omega)]; exact (HCE3.out.2 i hi).2⟩⟩
        have hbr9 : Below w1.heap.size w1 ((w70.setRow gb #[.int .i64 (fk fs j).attr, .int .i64 (fk fs j).pos]).setRow (gb + 1) #[.int .i64 x1, .int .i64 x2]) := below_row (below_row hbr (by have := HGB.out; omega) _) (by have := HGB.out; omega) _
        clear HCE3 hbr
        go_wp2
        go_roundw
        case rel => exact ⟨j + 1, by go_num, by omega, by rw [HNX.out]; exact KB, by rw [HNX.out]; exact KM, HC9, hbr9⟩
        case measure => simp [intOf]; omega
      have HNX : Hid (bestSt s t fs (j + 1) = bestSt s t fs j) := best_keep hj0 (by rw [HZ.out]; exact hzp)
      clear hj0
      have HC9 : Hid (0 < fs.length → ∃ g, some (⟨gl, 0, none⟩ : Addr) = some ⟨g, 0, none⟩ ∧ gb + 2 ≤ g ∧ g < w9.heap.size ∧ ∀ i, i < fs.length → w9.cell? ⟨g, i * 2, none⟩ = some (.int .i64 (fk fs i).attr) ∧ w9.cell? ⟨g, i * 2 + 1, none⟩ = some (.int .i64 (fk fs i).pos)) := fun _ => ⟨gl, rfl, hg1, hgw, HCE2.out⟩
      clear HCE2 KQ KP
      go_wp2
      go_roundw
      case rel => exact ⟨j + 1, by go_num, by omega, by rw [HNX.out]; exact KB, by rw [HNX.out]; exact KM, HC9, hbr⟩
      case measure => simp [intOf]; omega
end Go.Proofs.Yteadkdllmeeocaa
/- Places of attributes, whether they are right, by the specification. -/
namespace Go.Proofs.Yteadkdllmeeocaa
open Go.RowKit
set_option maxRecDepth 100000
set_option linter.unusedSimpArgs false
set_option maxHeartbeats 3200000 in
theorem specAttrsOk_any (vs vl : Value) (s : SchemaD) (l : List Int) (w : World) (hs : SchemaAt w vs s) (hn : okSch s) (hl : RowI w vl l) (hl2 : l.length ≤ 1099511627776) :
    Calls Try.prog 51 #[vs, vl] w fun e w' => e = .returned (.bool (placesOk s l)) ∧ Below w.heap.size w w' := by
  have HL : Hid (∀ W, Below w.heap.size w W → RowI W vl l) := fun W h => hl.later h
  have la := hn.attrs
  have cc := fun o => specSchemaOk_any vs s (w.alloc o) (hs.later ((Below.refl _ _).alloc (Nat.le_refl _) _)) hn
  obtain ⟨va, vc, rfl, ra, -⟩ := hs
  obtain ⟨oa, ka, rfl, -, -⟩ := id ra
  obtain ⟨ol, kl, rfl, hcl, hrl⟩ := id hl
  clear ra hn hl
  obtain ⟨KS, B⟩ := blk_1 33 w #[.slice oa s.attrs.length ka, vc]
  cases hk : schemaOk s with
  | false =>
    have HE : Hid (placesOk s l = false) := by unfold placesOk; rw [hk]; rfl
    rw [hk] at cc
    clear hk hrl
    go_enter Try.func51, Try.ntmps51
    go_wp2_with fail
    refine (cc _).mono ?_
    clear cc
    rintro e w1 ⟨rfl, hb⟩
    replace B := B.trans (hb.mono B.size)
    go_wp2
    go_ret
    exact ⟨by rw [HE.out]; rfl, B⟩
  | true =>
    have HX : Hid (placesOk s l = (decide (0 < l.length) && ascIn 0 ((s.attrs.length : Int) - 1) l)) := by show _ = _; unfold placesOk; rw [hk]; rfl
    rw [hk] at cc
    clear hk
    by_cases h0 : l.length = 0
    · have HE : Hid (placesOk s l = false) := by show _ = _; rw [HX.out, decide_eq_false (by omega)]; rfl
      clear HX hrl
      go_enter Try.func51, Try.ntmps51
      go_wp2_with fail
      refine (cc _).mono ?_
      clear cc
      rintro e w1 ⟨rfl, hb⟩
      replace B := B.trans (hb.mono B.size)
      rw [h0]
      go_wp2
      go_ret
      exact ⟨by rw [HE.out]; rfl, B⟩
    have HE : Hid (placesOk s l = ascIn 0 ((s.attrs.length : Int) - 1) l) := by show _ = _; rw [HX.out, decide_eq_true (by omega)]; rfl
    clear HX
    obtain ⟨g, o, rfl, hg, hj⟩ := hrl (by omega)
    have HJ : Hid (∀ W, Below w.heap.size w W → ∀ j, j < l.length → W.cell? ⟨g, o + j, none⟩ = some (.int .i64 (l.getD j 0))) := fun W h j hj' => (h.cell (p := ⟨g, o + j, none⟩) hg).trans (hj j hj')
    clear hj hrl HL
    have hq : ((l.length : Int) == 0) = false := by rw [beq_eq_false_iff_ne]; omega
    go_enter Try.func51, Try.ntmps51
    go_wp2_with fail
    refine (cc _).mono ?_
    clear cc
    rintro e w1 ⟨rfl, hb⟩
    replace KS := KS.below hb
    replace B := B.trans (hb.mono B.size)
    have HK : Hid (∀ W, Below w1.heap.size w1 W → Blk 33 W w.heap.size #[.slice oa s.attrs.length ka, vc]) := fun W h => KS.below h
    have HB1 : Hid (Below w.heap.size w w1) := B
    clear hb KS B h0
    go_wp2
    go_loopw [5] (fun i wr => ∃ k : Nat, i = .int .i64 k ∧ k ≤ l.length ∧ Hid (∀ j, j < k → ascAt 0 ((s.attrs.length : Int) - 1) l j = true) ∧ Below w1.heap.size w1 wr) (fun i _ => l.length - (intOf i).toNat)
    case atStart => exact ⟨0, rfl, by omega, fun j hj => by omega, Below.refl _ _⟩
    case round =>
      obtain ⟨k, rfl, hk, hal, hbr⟩ := hrel
      have B := HB1.out.trans (hbr.mono HB1.out.size)
      by_cases hlt : k < l.length
      rotate_left
      · have HF : Hid (ascIn 0 ((s.attrs.length : Int) - 1) l = true) := asc_yes fun j hj => hal.out j (by omega)
        go_wp2
        go_ret
        exact ⟨by rw [HE.out, HF.out]; rfl, B⟩
      have bd : Below wr.heap.size wr wr.drew := below_drewN (Below.refl _ _) 1
      obtain ⟨x, hx⟩ : ∃ x, l.getD k 0 = x := ⟨_, rfl⟩
      obtain ⟨j, hjk⟩ : ∃ j, k - 1 = j := ⟨_, rfl⟩
      have hjl : j < l.length := by omega
      obtain ⟨y, hy⟩ : ∃ y, l.getD j 0 = y := ⟨_, rfl⟩
      have HJK : Hid (k - 1 = j) := hjk
      have HST : Hid (ascAt 0 ((s.attrs.length : Int) - 1) l k = (decide (0 ≤ x ∧ x ≤ (s.attrs.length : Int) - 1) && (decide (k = 0) || decide (y < x)))) := by show _ = _; unfold ascAt; rw [hx, hjk, hy]
      have hcx := HJ.out wr.drew (B.trans (bd.mono B.size)) k hlt
      have hcy := HJ.out wr.drew (B.trans (bd.mono B.size)) j hjl
      rw [hx] at hcx
      rw [hy] at hcy
      clear hx hy hjk
      have KS := (HK.out wr hbr).below bd
      have BB := B.trans (bd.mono B.size)
      have BR := hbr.trans (bd.mono hbr.size)
      have HW : Hid (wr.drew = wr.drew) := rfl
      clear B
      go_wp2_with fail
      refine wp_region_held_drew (S := fun w' => Blk 33 w' w.heap.size #[.slice oa s.attrs.length ka, vc] ∧ w'.cell? ⟨g, o + k, none⟩ = some (.int .i64 x) ∧ w'.cell? ⟨g, o + j, none⟩ = some (.int .i64 y)) (by kernel_rfl) ⟨KS, hcx, hcy⟩ ?_
      intro hS
      clear KS hcx hcy bd hbr
      generalize wr.drew = w3 at BB BR hS ⊢
      have cI := in_any x 0 ((s.attrs.length : Int) - 1) w3
      by_cases hin : 0 ≤ x ∧ x ≤ (s.attrs.length : Int) - 1
      rotate_left
      · rw [decide_eq_false hin] at cI
        have HF : Hid (ascIn 0 ((s.attrs.length : Int) - 1) l = false) := asc_no k hlt (by rw [HST.out, decide_eq_false hin]; rfl)
        clear HST hin
        refine takeL 0 (.slice (some ⟨g, o, none⟩) l.length kl) rfl (by kernel_rfl) (by kernel_rfl) (by kernel_rfl) (fun _ _ _ h => h) (.inl ⟨by rfl, fun w _ => by rfl⟩) hS ?_
        try simp only [Act.put, List.setIfInBounds_toArray, List.set_cons_zero, List.set_cons_succ]
        refine takeL 1 (.int .i64 ((k : Int))) rfl (by kernel_rfl) (by kernel_rfl) (by kernel_rfl) (fun _ _ _ h => h) (.inl ⟨by rfl, fun w _ => by rfl⟩) hS ?_
        try simp only [Act.put, List.setIfInBounds_toArray, List.set_cons_zero, List.set_cons_succ]
        refine takeL 2 (.pointer (some ⟨g, o + k, none⟩)) rfl (by kernel_rfl) (by kernel_rfl) (by kernel_rfl) (fun _ _ _ h => h) (.inl ⟨by rfl, fun w hw => by (unfold execOp; go_simp; all_goals omega)⟩) hS ?_
        try simp only [Act.put, List.setIfInBounds_toArray, List.set_cons_zero, List.set_cons_succ]
        refine takeL 3 (.int .i64 x) rfl (by kernel_rfl) (by kernel_rfl) (by kernel_rfl) (fun _ _ _ h => h) (.inl ⟨by rfl, fun w hw => by (have h0 := hw.2.1; unfold execOp; go_simp)⟩) hS ?_
        try simp only [Act.put, List.setIfInBounds_toArray, List.set_cons_zero, List.set_cons_succ]
        refine takeL 4 (.pointer (some ⟨w.heap.size, 0, none⟩)) rfl (by kernel_rfl) (by kernel_rfl) (by kernel_rfl) (fun _ _ _ h => h) (.inl ⟨by rfl, fun w hw => by (unfold execOp; go_simp)⟩) hS ?_
        try simp only [Act.put, List.setIfInBounds_toArray, List.set_cons_zero, List.set_cons_succ]
        refine takeL 5 (.slice oa s.attrs.length ka) rfl (by kernel_rfl) (by kernel_rfl) (by kernel_rfl) (fun _ _ _ h => h) (.inl ⟨by rfl, fun w hw => by (have h0 := (hw.1).cell 0; unfold execOp; go_simp)⟩) hS ?_
        try simp only [Act.put, List.setIfInBounds_toArray, List.set_cons_zero, List.set_cons_succ]
        refine takeL 6 (.int .i64 ((s.attrs.length : Int))) rfl (by kernel_rfl) (by kernel_rfl) (by kernel_rfl) (fun _ _ _ h => h) (.inl ⟨by rfl, fun w hw => by (unfold execOp; go_simp)⟩) hS ?_
        try simp only [Act.put, List.setIfInBounds_toArray, List.set_cons_zero, List.set_cons_succ]
        refine takeL 7 (.int .i64 (((s.attrs.length : Int)) - 1)) rfl (by kernel_rfl) (by kernel_rfl) (by kernel_rfl) (fun _ _ _ h => h) (.inl ⟨by rfl, fun w hw => by (unfold execOp; go_simp; all_goals (rw [IntKind.wrap_i64]; omega))⟩) hS ?_
        try simp only [Act.put, List.setIfInBounds_toArray, List.set_cons_zero, List.set_cons_succ]
        refine nextL 8 rfl (by kernel_rfl) (by rfl) fun K hK => ?_
        go_simp
        refine cI.mono ?_
        clear cI
        rintro e w5 ⟨rfl, e5⟩
        rw [e5]
        clear e5 w5
        refine hK _ _ hS ?_
        clear hK K hS
        intro hS
        refine takeL 9 (.bool true) rfl (by kernel_rfl) (by kernel_rfl) (by kernel_rfl) (fun _ _ _ h => h) (.inl ⟨by rfl, fun w hw => by (unfold execOp; go_simp)⟩) hS ?_
        try simp only [Act.put, List.setIfInBounds_toArray, List.set_cons_zero, List.set_cons_succ]
        refine takeL 10 (.bool true) rfl (by kernel_rfl) (by kernel_rfl) (by kernel_rfl) (fun _ _ _ h => h) (.inl ⟨by rfl, fun w _ => by rfl⟩) hS ?_
        try simp only [Act.put, List.setIfInBounds_toArray, List.set_cons_zero, List.set_cons_succ]
        refine takeL 11 (undef) rfl (by kernel_rfl) (by kernel_rfl) (by kernel_rfl) (fun _ _ _ h => h) (.inr ⟨by rfl, rfl⟩) hS ?_
        try simp only [Act.put, List.setIfInBounds_toArray, List.set_cons_zero, List.set_cons_succ]
        refine takeL 12 (undef) rfl (by kernel_rfl) (by kernel_rfl) (by kernel_rfl) (fun _ _ _ h => h) (.inr ⟨by rfl, rfl⟩) hS ?_
        try simp only [Act.put, List.setIfInBounds_toArray, List.set_cons_zero, List.set_cons_succ]
        refine takeL 13 (undef) rfl (by kernel_rfl) (by kernel_rfl) (by kernel_rfl) (fun _ _ _ h => h) (.inr ⟨by rfl, rfl⟩) hS ?_
        try simp only [Act.put, List.setIfInBounds_toArray, List.set_cons_zero, List.set_cons_succ]
        refine takeL 14 (undef) rfl (by kernel_rfl) (by kernel_rfl) (by kernel_rfl) (fun _ _ _ h => h) (.inr ⟨by rfl, rfl⟩) hS ?_
        try simp only [Act.put, List.setIfInBounds_toArray, List.set_cons_zero, List.set_cons_succ]
        refine takeL 15 (undef) rfl (by kernel_rfl) (by kernel_rfl) (by kernel_rfl) (fun _ _ _ h => h) (.inr ⟨by rfl, rfl⟩) hS ?_
        try simp only [Act.put, List.setIfInBounds_toArray, List.set_cons_zero, List.set_cons_succ]
        refine takeL 16 (undef) rfl (by kernel_rfl) (by kernel_rfl) (by kernel_rfl) (fun _ _ _ h => h) (.inr ⟨by rfl, rfl⟩) hS ?_
        try simp only [Act.put, List.setIfInBounds_toArray, List.set_cons_zero, List.set_cons_succ]
        refine takeL 17 (undef) rfl (by kernel_rfl) (by kernel_rfl) (by kernel_rfl) (fun _ _ _ h => h) (.inr ⟨by rfl, rfl⟩) hS ?_
        try simp only [Act.put, List.setIfInBounds_toArray, List.set_cons_zero, List.set_cons_succ]
        refine takeL 18 (undef) rfl (by kernel_rfl) (by kernel_rfl) (by kernel_rfl) (fun _ _ _ h => h) (.inr ⟨by rfl, rfl⟩) hS ?_
        try simp only [Act.put, List.setIfInBounds_toArray, List.set_cons_zero, List.set_cons_succ]
        refine takeL 19 (undef) rfl (by kernel_rfl) (by kernel_rfl) (by kernel_rfl) (fun _ _ _ h => h) (.inr ⟨by rfl, rfl⟩) hS ?_
        try simp only [Act.put, List.setIfInBounds_toArray, List.set_cons_zero, List.set_cons_succ]
        refine takeL 20 (undef) rfl (by kernel_rfl) (by kernel_rfl) (by kernel_rfl) (fun _ _ _ h => h) (.inr ⟨by rfl, rfl⟩) hS ?_
        try simp only [Act.put, List.setIfInBounds_toArray, List.set_cons_zero, List.set_cons_succ]
        refine takeL 21 (undef) rfl (by kernel_rfl) (by kernel_rfl) (by kernel_rfl) (fun _ _ _ h => h) (.inr ⟨by rfl, rfl⟩) hS ?_
        try simp only [Act.put, List.setIfInBounds_toArray, List.set_cons_zero, List.set_cons_succ]
        refine takeL 22 (undef) rfl (by kernel_rfl) (by kernel_rfl) (by kernel_rfl) (fun _ _ _ h => h) (.inr ⟨by rfl, rfl⟩) hS ?_
        try simp only [Act.put, List.setIfInBounds_toArray, List.set_cons_zero, List.set_cons_succ]
        refine takeL 23 (undef) rfl (by kernel_rfl) (by kernel_rfl) (by kernel_rfl) (fun _ _ _ h => h) (.inr ⟨by rfl, rfl⟩) hS ?_
        try simp only [Act.put, List.setIfInBounds_toArray, List.set_cons_zero, List.set_cons_succ]
        refine takeL 24 (undef) rfl (by kernel_rfl) (by kernel_rfl) (by kernel_rfl) (fun _ _ _ h => h) (.inr ⟨by rfl, rfl⟩) hS ?_
        try simp only [Act.put, List.setIfInBounds_toArray, List.set_cons_zero, List.set_cons_succ]
        refine takeL 25 (.bool true) rfl (by kernel_rfl) (by kernel_rfl) (by kernel_rfl) (fun _ _ _ h => h) (.inl ⟨by rfl, fun w _ => by rfl⟩) hS ?_
        try simp only [Act.put, List.setIfInBounds_toArray, List.set_cons_zero, List.set_cons_succ]
        refine wpAnyH_done (by kernel_rfl) ?_ _
        clear hS
        go_wp2
        go_ret
        exact ⟨by rw [HE.out, HF.out]; rfl, BB⟩
      rw [decide_eq_true hin] at cI HST
      by_cases hk0 : k = 0
      · have HF : Hid (ascAt 0 ((s.attrs.length : Int) - 1) l k = true) := by show _ = _; rw [HST.out, decide_eq_true hk0]; rfl
        have hk1 : ¬ (0 : Int) < (k : Int) := by omega
        clear HST hin hk0
        refine takeL 0 (.slice (some ⟨g, o, none⟩) l.length kl) rfl (by kernel_rfl) (by kernel_rfl) (by kernel_rfl) (fun _ _ _ h => h) (.inl ⟨by rfl, fun w _ => by rfl⟩) hS ?_
        try simp only [Act.put, List.setIfInBounds_toArray, List.set_cons_zero, List.set_cons_succ]
        refine takeL 1 (.int .i64 ((k : Int))) rfl (by kernel_rfl) (by kernel_rfl) (by kernel_rfl) (fun _ _ _ h => h) (.inl ⟨by rfl, fun w _ => by rfl⟩) hS ?_
        try simp only [Act.put, List.setIfInBounds_toArray, List.set_cons_zero, List.set_cons_succ]
        refine takeL 2 (.pointer (some ⟨g, o + k, none⟩)) rfl (by kernel_rfl) (by kernel_rfl) (by kernel_rfl) (fun _ _ _ h => h) (.inl ⟨by rfl, fun w hw => by (unfold execOp; go_simp; all_goals omega)⟩) hS ?_
        try simp only [Act.put, List.setIfInBounds_toArray, List.set_cons_zero, List.set_cons_succ]
        refine takeL 3 (.int .i64 x) rfl (by kernel_rfl) (by kernel_rfl) (by kernel_rfl) (fun _ _ _ h => h) (.inl ⟨by rfl, fun w hw => by (have h0 := hw.2.1; unfold execOp; go_simp)⟩) hS ?_
        try simp only [Act.put, List.setIfInBounds_toArray, List.set_cons_zero, List.set_cons_succ]
        refine takeL 4 (.pointer (some ⟨w.heap.size, 0, none⟩)) rfl (by kernel_rfl) (by kernel_rfl) (by kernel_rfl) (fun _ _ _ h => h) (.inl ⟨by rfl, fun w hw => by (unfold execOp; go_simp)⟩) hS ?_
        try simp only [Act.put, List.setIfInBounds_toArray, List.set_cons_zero, List.set_cons_succ]
        refine takeL 5 (.slice oa s.attrs.length ka) rfl (by kernel_rfl) (by kernel_rfl) (by kernel_rfl) (fun _ _ _ h => h) (.inl ⟨by rfl, fun w hw => by (have h0 := (hw.1).cell 0; unfold execOp; go_simp)⟩) hS ?_
        try simp only [Act.put, List.setIfInBounds_toArray, List.set_cons_zero, List.set_cons_succ]
        refine takeL 6 (.int .i64 ((s.attrs.length : Int))) rfl (by kernel_rfl) (by kernel_rfl) (by kernel_rfl) (fun _ _ _ h => h) (.inl ⟨by rfl, fun w hw => by (unfold execOp; go_simp)⟩) hS ?_
        try simp only [Act.put, List.setIfInBounds_toArray, List.set_cons_zero, List.set_cons_succ]
        refine takeL 7 (.int .i64 (((s.attrs.length : Int)) - 1)) rfl (by kernel_rfl) (by kernel_rfl) (by kernel_rfl) (fun _ _ _ h => h) (.inl ⟨by rfl, fun w hw => by (unfold execOp; go_simp; all_goals (rw [IntKind.wrap_i64]; omega))⟩) hS ?_
        try simp only [Act.put, List.setIfInBounds_toArray, List.set_cons_zero, List.set_cons_succ]
        refine nextL 8 rfl (by kernel_rfl) (by rfl) fun K hK => ?_
        go_simp
        refine cI.mono ?_
        clear cI
        rintro e w5 ⟨rfl, e5⟩
        rw [e5]
        clear e5 w5
        refine hK _ _ hS ?_
        clear hK K hS
        intro hS
        refine takeL 9 (.bool false) rfl (by kernel_rfl) (by kernel_rfl) (by kernel_rfl) (fun _ _ _ h => h) (.inl ⟨by rfl, fun w hw => by (unfold execOp; go_simp)⟩) hS ?_
        try simp only [Act.put, List.setIfInBounds_toArray, List.set_cons_zero, List.set_cons_succ]
        refine takeL 10 (.bool false) rfl (by kernel_rfl) (by kernel_rfl) (by kernel_rfl) (fun _ _ _ h => h) (.inl ⟨by rfl, fun w _ => by rfl⟩) hS ?_
        try simp only [Act.put, List.setIfInBounds_toArray, List.set_cons_zero, List.set_cons_succ]
        refine takeL 11 (.int .i64 ((k : Int))) rfl (by kernel_rfl) (by kernel_rfl) (by kernel_rfl) (fun _ _ _ h => h) (.inl ⟨by rfl, fun w _ => by rfl⟩) hS ?_
        try simp only [Act.put, List.setIfInBounds_toArray, List.set_cons_zero, List.set_cons_succ]
        refine takeL 12 (.bool false) rfl (by kernel_rfl) (by kernel_rfl) (by kernel_rfl) (fun _ _ _ h => h) (.inl ⟨by rfl, fun w hw => by (unfold execOp; go_simp; all_goals first | omega | (rw [IntKind.wrap_i64] <;> omega))⟩) hS ?_
        try simp only [Act.put, List.setIfInBounds_toArray, List.set_cons_zero, List.set_cons_succ]
        refine takeL 13 (.bool false) rfl (by kernel_rfl) (by kernel_rfl) (by kernel_rfl) (fun _ _ _ h => h) (.inl ⟨by rfl, fun w _ => by rfl⟩) hS ?_
        try simp only [Act.put, List.setIfInBounds_toArray, List.set_cons_zero, List.set_cons_succ]
        refine takeL 14 (undef) rfl (by kernel_rfl) (by kernel_rfl) (by kernel_rfl) (fun _ _ _ h => h) (.inr ⟨by rfl, rfl⟩) hS ?_
        try simp only [Act.put, List.setIfInBounds_toArray, List.set_cons_zero, List.set_cons_succ]
        refine takeL 15 (undef) rfl (by kernel_rfl) (by kernel_rfl) (by kernel_rfl) (fun _ _ _ h => h) (.inr ⟨by rfl, rfl⟩) hS ?_
        try simp only [Act.put, List.setIfInBounds_toArray, List.set_cons_zero, List.set_cons_succ]
        refine takeL 16 (undef) rfl (by kernel_rfl) (by kernel_rfl) (by kernel_rfl) (fun _ _ _ h => h) (.inr ⟨by rfl, rfl⟩) hS ?_
        try simp only [Act.put, List.setIfInBounds_toArray, List.set_cons_zero, List.set_cons_succ]
        refine takeL 17 (undef) rfl (by kernel_rfl) (by kernel_rfl) (by kernel_rfl) (fun _ _ _ h => h) (.inr ⟨by rfl, rfl⟩) hS ?_
        try simp only [Act.put, List.setIfInBounds_toArray, List.set_cons_zero, List.set_cons_succ]
        refine takeL 18 (undef) rfl (by kernel_rfl) (by kernel_rfl) (by kernel_rfl) (fun _ _ _ h => h) (.inr ⟨by rfl, rfl⟩) hS ?_
        try simp only [Act.put, List.setIfInBounds_toArray, List.set_cons_zero, List.set_cons_succ]
        refine takeL 19 (undef) rfl (by kernel_rfl) (by kernel_rfl) (by kernel_rfl) (fun _ _ _ h => h) (.inr ⟨by rfl, rfl⟩) hS ?_
        try simp only [Act.put, List.setIfInBounds_toArray, List.set_cons_zero, List.set_cons_succ]
        refine takeL 20 (undef) rfl (by kernel_rfl) (by kernel_rfl) (by kernel_rfl) (fun _ _ _ h => h) (.inr ⟨by rfl, rfl⟩) hS ?_
        try simp only [Act.put, List.setIfInBounds_toArray, List.set_cons_zero, List.set_cons_succ]
        refine takeL 21 (undef) rfl (by kernel_rfl) (by kernel_rfl) (by kernel_rfl) (fun _ _ _ h => h) (.inr ⟨by rfl, rfl⟩) hS ?_
        try simp only [Act.put, List.setIfInBounds_toArray, List.set_cons_zero, List.set_cons_succ]
        refine takeL 22 (undef) rfl (by kernel_rfl) (by kernel_rfl) (by kernel_rfl) (fun _ _ _ h => h) (.inr ⟨by rfl, rfl⟩) hS ?_
        try simp only [Act.put, List.setIfInBounds_toArray, List.set_cons_zero, List.set_cons_succ]
        refine takeL 23 (undef) rfl (by kernel_rfl) (by kernel_rfl) (by kernel_rfl) (fun _ _ _ h => h) (.inr ⟨by rfl, rfl⟩) hS ?_
        try simp only [Act.put, List.setIfInBounds_toArray, List.set_cons_zero, List.set_cons_succ]
        refine takeL 24 (.bool false) rfl (by kernel_rfl) (by kernel_rfl) (by kernel_rfl) (fun _ _ _ h => h) (.inl ⟨by rfl, fun w _ => by rfl⟩) hS ?_
        try simp only [Act.put, List.setIfInBounds_toArray, List.set_cons_zero, List.set_cons_succ]
        refine takeL 25 (.bool false) rfl (by kernel_rfl) (by kernel_rfl) (by kernel_rfl) (fun _ _ _ h => h) (.inl ⟨by rfl, fun w _ => by rfl⟩) hS ?_
        try simp only [Act.put, List.setIfInBounds_toArray, List.set_cons_zero, List.set_cons_succ]
        refine wpAnyH_done (by kernel_rfl) ?_ _
        clear hS
        go_wp2
        go_roundw
        case rel =>
          refine ⟨k + 1, by go_num, by omega, ?_, BR⟩
          intro j' hj'
          by_cases e : j' = k
          · subst e; exact HF.out
          · exact hal.out j' (by omega)
        case measure => simp [intOf]; omega
      have hj1 : (k : Int) - 1 = (j : Int) := by have := HJK.out; omega
      have hk1 : (0 : Int) < (k : Int) := by omega
      clear hk0
      by_cases hyx : y < x
      rotate_left
      · have HF : Hid (ascIn 0 ((s.attrs.length : Int) - 1) l = false) := asc_no k hlt (by rw [HST.out, decide_eq_false hyx, decide_eq_false (show ¬ k = 0 by omega)]; rfl)
        clear HST hin
        refine takeL 0 (.slice (some ⟨g, o, none⟩) l.length kl) rfl (by kernel_rfl) (by kernel_rfl) (by kernel_rfl) (fun _ _ _ h => h) (.inl ⟨by rfl, fun w _ => by rfl⟩) hS ?_
        try simp only [Act.put, List.setIfInBounds_toArray, List.set_cons_zero, List.set_cons_succ]
        refine takeL 1 (.int .i64 ((k : Int))) rfl (by kernel_rfl) (by kernel_rfl) (by kernel_rfl) (fun _ _ _ h => h) (.inl ⟨by rfl, fun w _ => by rfl⟩) hS ?_
        try simp only [Act.put, List.setIfInBounds_toArray, List.set_cons_zero, List.set_cons_succ]
        refine takeL 2 (.pointer (some ⟨g, o + k, none⟩)) rfl (by kernel_rfl) (by kernel_rfl) (by kernel_rfl) (fun _ _ _ h => h) (.inl ⟨by rfl, fun w hw => by (unfold execOp; go_simp; all_goals omega)⟩) hS ?_
        try simp only [Act.put, List.setIfInBounds_toArray, List.set_cons_zero, List.set_cons_succ]
        refine takeL 3 (.int .i64 x) rfl (by kernel_rfl) (by kernel_rfl) (by kernel_rfl) (fun _ _ _ h => h) (.inl ⟨by rfl, fun w hw => by (have h0 := hw.2.1; unfold execOp; go_simp)⟩) hS ?_
        try simp only [Act.put, List.setIfInBounds_toArray, List.set_cons_zero, List.set_cons_succ]
        refine takeL 4 (.pointer (some ⟨w.heap.size, 0, none⟩)) rfl (by kernel_rfl) (by kernel_rfl) (by kernel_rfl) (fun _ _ _ h => h) (.inl ⟨by rfl, fun w hw => by (unfold execOp; go_simp)⟩) hS ?_
        try simp only [Act.put, List.setIfInBounds_toArray, List.set_cons_zero, List.set_cons_succ]
        refine takeL 5 (.slice oa s.attrs.length ka) rfl (by kernel_rfl) (by kernel_rfl) (by kernel_rfl) (fun _ _ _ h => h) (.inl ⟨by rfl, fun w hw => by (have h0 := (hw.1).cell 0; unfold execOp; go_simp)⟩) hS ?_
        try simp only [Act.put, List.setIfInBounds_toArray, List.set_cons_zero, List.set_cons_succ]
        refine takeL 6 (.int .i64 ((s.attrs.length : Int))) rfl (by kernel_rfl) (by kernel_rfl) (by kernel_rfl) (fun _ _ _ h => h) (.inl ⟨by rfl, fun w hw => by (unfold execOp; go_simp)⟩) hS ?_
        try simp only [Act.put, List.setIfInBounds_toArray, List.set_cons_zero, List.set_cons_succ]
        refine takeL 7 (.int .i64 (((s.attrs.length : Int)) - 1)) rfl (by kernel_rfl) (by kernel_rfl) (by kernel_rfl) (fun _ _ _ h => h) (.inl ⟨by rfl, fun w hw => by (unfold execOp; go_simp; all_goals (rw [IntKind.wrap_i64]; omega))⟩) hS ?_
        try simp only [Act.put, List.setIfInBounds_toArray, List.set_cons_zero, List.set_cons_succ]
        refine nextL 8 rfl (by kernel_rfl) (by rfl) fun K hK => ?_
        go_simp
        refine cI.mono ?_
        clear cI
        rintro e w5 ⟨rfl, e5⟩
        rw [e5]
        clear e5 w5
        refine hK _ _ hS ?_
        clear hK K hS
        intro hS
        refine takeL 9 (.bool false) rfl (by kernel_rfl) (by kernel_rfl) (by kernel_rfl) (fun _ _ _ h => h) (.inl ⟨by rfl, fun w hw => by (unfold execOp; go_simp)⟩) hS ?_
        try simp only [Act.put, List.setIfInBounds_toArray, List.set_cons_zero, List.set_cons_succ]
        refine takeL 10 (.bool false) rfl (by kernel_rfl) (by kernel_rfl) (by kernel_rfl) (fun _ _ _ h => h) (.inl ⟨by rfl, fun w _ => by rfl⟩) hS ?_
        try simp only [Act.put, List.setIfInBounds_toArray, List.set_cons_zero, List.set_cons_succ]
        refine takeL 11 (.int .i64 ((k : Int))) rfl (by kernel_rfl) (by kernel_rfl) (by kernel_rfl) (fun _ _ _ h => h) (.inl ⟨by rfl, fun w _ => by rfl⟩) hS ?_
        try simp only [Act.put, List.setIfInBounds_toArray, List.set_cons_zero, List.set_cons_succ]
        refine takeL 12 (.bool true) rfl (by kernel_rfl) (by kernel_rfl) (by kernel_rfl) (fun _ _ _ h => h) (.inl ⟨by rfl, fun w hw => by (unfold execOp; go_simp; all_goals first | omega | (rw [IntKind.wrap_i64] <;> omega))⟩) hS ?_
        try simp only [Act.put, List.setIfInBounds_toArray, List.set_cons_zero, List.set_cons_succ]
        refine takeL 13 (.bool true) rfl (by kernel_rfl) (by kernel_rfl) (by kernel_rfl) (fun _ _ _ h => h) (.inl ⟨by rfl, fun w _ => by rfl⟩) hS ?_
        try simp only [Act.put, List.setIfInBounds_toArray, List.set_cons_zero, List.set_cons_succ]
        refine takeL 14 (.slice (some ⟨g, o, none⟩) l.length kl) rfl (by kernel_rfl) (by kernel_rfl) (by kernel_rfl) (fun _ _ _ h => h) (.inl ⟨by rfl, fun w _ => by rfl⟩) hS ?_
        try simp only [Act.put, List.setIfInBounds_toArray, List.set_cons_zero, List.set_cons_succ]
        refine takeL 15 (.int .i64 ((k : Int))) rfl (by kernel_rfl) (by kernel_rfl) (by kernel_rfl) (fun _ _ _ h => h) (.inl ⟨by rfl, fun w _ => by rfl⟩) hS ?_
        try simp only [Act.put, List.setIfInBounds_toArray, List.set_cons_zero, List.set_cons_succ]
        refine takeL 16 (.pointer (some ⟨g, o + k, none⟩)) rfl (by kernel_rfl) (by kernel_rfl) (by kernel_rfl) (fun _ _ _ h => h) (.inl ⟨by rfl, fun w hw => by (unfold execOp; go_simp; all_goals omega)⟩) hS ?_
        try simp only [Act.put, List.setIfInBounds_toArray, List.set_cons_zero, List.set_cons_succ]
        refine takeL 17 (.int .i64 x) rfl (by kernel_rfl) (by kernel_rfl) (by kernel_rfl) (fun _ _ _ h => h) (.inl ⟨by rfl, fun w hw => by (have h0 := hw.2.1; unfold execOp; go_simp)⟩) hS ?_
        try simp only [Act.put, List.setIfInBounds_toArray, List.set_cons_zero, List.set_cons_succ]
        refine takeL 18 (.slice (some ⟨g, o, none⟩) l.length kl) rfl (by kernel_rfl) (by kernel_rfl) (by kernel_rfl) (fun _ _ _ h => h) (.inl ⟨by rfl, fun w _ => by rfl⟩) hS ?_
        try simp only [Act.put, List.setIfInBounds_toArray, List.set_cons_zero, List.set_cons_succ]
        refine takeL 19 (.int .i64 ((k : Int))) rfl (by kernel_rfl) (by kernel_rfl) (by kernel_rfl) (fun _ _ _ h => h) (.inl ⟨by rfl, fun w _ => by rfl⟩) hS ?_
        try simp only [Act.put, List.setIfInBounds_toArray, List.set_cons_zero, List.set_cons_succ]
        refine takeL 20 (.int .i64 ((j : Int))) rfl (by kernel_rfl) (by kernel_rfl) (by kernel_rfl) (fun _ _ _ h => h) (.inl ⟨by rfl, fun w hw => by (unfold execOp; go_simp; all_goals first | omega | (rw [IntKind.wrap_i64] <;> omega))⟩) hS ?_
        try simp only [Act.put, List.setIfInBounds_toArray, List.set_cons_zero, List.set_cons_succ]
        refine takeL 21 (.pointer (some ⟨g, o + j, none⟩)) rfl (by kernel_rfl) (by kernel_rfl) (by kernel_rfl) (fun _ _ _ h => h) (.inl ⟨by rfl, fun w hw => by (unfold execOp; go_simp; all_goals omega)⟩) hS ?_
        try simp only [Act.put, List.setIfInBounds_toArray, List.set_cons_zero, List.set_cons_succ]
        refine takeL 22 (.int .i64 y) rfl (by kernel_rfl) (by kernel_rfl) (by kernel_rfl) (fun _ _ _ h => h) (.inl ⟨by rfl, fun w hw => by (have h0 := hw.2.2; unfold execOp; go_simp)⟩) hS ?_
        try simp only [Act.put, List.setIfInBounds_toArray, List.set_cons_zero, List.set_cons_succ]
        refine takeL 23 (.bool true) rfl (by kernel_rfl) (by kernel_rfl) (by kernel_rfl) (fun _ _ _ h => h) (.inl ⟨by rfl, fun w hw => by (unfold execOp; go_simp; all_goals first | omega | (rw [IntKind.wrap_i64] <;> omega))⟩) hS ?_
        try simp only [Act.put, List.setIfInBounds_toArray, List.set_cons_zero, List.set_cons_succ]
        refine takeL 24 (.bool true) rfl (by kernel_rfl) (by kernel_rfl) (by kernel_rfl) (fun _ _ _ h => h) (.inl ⟨by rfl, fun w _ => by rfl⟩) hS ?_
        try simp only [Act.put, List.setIfInBounds_toArray, List.set_cons_zero, List.set_cons_succ]
        refine takeL 25 (.bool true) rfl (by kernel_rfl) (by kernel_rfl) (by kernel_rfl) (fun _ _ _ h => h) (.inl ⟨by rfl, fun w _ => by rfl⟩) hS ?_
        try simp only [Act.put, List.setIfInBounds_toArray, List.set_cons_zero, List.set_cons_succ]
        refine wpAnyH_done (by kernel_rfl) ?_ _
        clear hS
        go_wp2
        go_ret
        exact ⟨by rw [HE.out, HF.out]; rfl, BB⟩
      have HF : Hid (ascAt 0 ((s.attrs.length : Int) - 1) l k = true) := by show _ = _; rw [HST.out, decide_eq_true hyx, Bool.or_true]; rfl
      clear HST hin
      refine takeL 0 (.slice (some ⟨g, o, none⟩) l.length kl) rfl (by kernel_rfl) (by kernel_rfl) (by kernel_rfl) (fun _ _ _ h => h) (.inl ⟨by rfl, fun w _ => by rfl⟩) hS ?_
      try simp only [Act.put, List.setIfInBounds_toArray, List.set_cons_zero, List.set_cons_succ]
      refine takeL 1 (.int .i64 ((k : Int))) rfl (by kernel_rfl) (by kernel_rfl) (by kernel_rfl) (fun _ _ _ h => h) (.inl ⟨by rfl, fun w _ => by rfl⟩) hS ?_
      try simp only [Act.put, List.setIfInBounds_toArray, List.set_cons_zero, List.set_cons_succ]
      refine takeL 2 (.pointer (some ⟨g, o + k, none⟩)) rfl (by kernel_rfl) (by kernel_rfl) (by kernel_rfl) (fun _ _ _ h => h) (.inl ⟨by rfl, fun w hw => by (unfold execOp; go_simp; all_goals omega)⟩) hS ?_
      try simp only [Act.put, List.setIfInBounds_toArray, List.set_cons_zero, List.set_cons_succ]
      refine takeL 3 (.int .i64 x) rfl (by kernel_rfl) (by kernel_rfl) (by kernel_rfl) (fun _ _ _ h => h) (.inl ⟨by rfl, fun w hw => by (have h0 := hw.2.1; unfold execOp; go_simp)⟩) hS ?_
      try simp only [Act.put, List.setIfInBounds_toArray, List.set_cons_zero, List.set_cons_succ]
      refine takeL 4 (.pointer (some ⟨w.heap.size, 0, none⟩)) rfl (by kernel_rfl) (by kernel_rfl) (by kernel_rfl) (fun _ _ _ h => h) (.inl ⟨by rfl, fun w hw => by (unfold execOp; go_simp)⟩) hS ?_
      try simp only [Act.put, List.setIfInBounds_toArray, List.set_cons_zero, List.set_cons_succ]
      refine takeL 5 (.slice oa s.attrs.length ka) rfl (by kernel_rfl) (by kernel_rfl) (by kernel_rfl) (fun _ _ _ h => h) (.inl ⟨by rfl, fun w hw => by (have h0 := (hw.1).cell 0; unfold execOp; go_simp)⟩) hS ?_
      try simp only [Act.put, List.setIfInBounds_toArray, List.set_cons_zero, List.set_cons_succ]
      refine takeL 6 (.int .i64 ((s.attrs.length : Int))) rfl (by kernel_rfl) (by kernel_rfl) (by kernel_rfl) (fun _ _ _ h => h) (.inl ⟨by rfl, fun w hw => by (unfold execOp; go_simp)⟩) hS ?_
      try simp only [Act.put, List.setIfInBounds_toArray, List.set_cons_zero, List.set_cons_succ]
      refine takeL 7 (.int .i64 (((s.attrs.length : Int)) - 1)) rfl (by kernel_rfl) (by kernel_rfl) (by kernel_rfl) (fun _ _ _ h => h) (.inl ⟨by rfl, fun w hw => by (unfold execOp; go_simp; all_goals (rw [IntKind.wrap_i64]; omega))⟩) hS ?_
      try simp only [Act.put, List.setIfInBounds_toArray, List.set_cons_zero, List.set_cons_succ]
      refine nextL 8 rfl (by kernel_rfl) (by rfl) fun K hK => ?_
      go_simp
      refine cI.mono ?_
      clear cI
      rintro e w5 ⟨rfl, e5⟩
      rw [e5]
      clear e5 w5
      refine hK _ _ hS ?_
      clear hK K hS
      intro hS
      refine takeL 9 (.bool false) rfl (by kernel_rfl) (by kernel_rfl) (by kernel_rfl) (fun _ _ _ h => h) (.inl ⟨by rfl, fun w hw => by (unfold execOp; go_simp)⟩) hS ?_
      try simp only [Act.put, List.setIfInBounds_toArray, List.set_cons_zero, List.set_cons_succ]
      refine takeL 10 (.bool false) rfl (by kernel_rfl) (by kernel_rfl) (by kernel_rfl) (fun _ _ _ h => h) (.inl ⟨by rfl, fun w _ => by rfl⟩) hS ?_
      try simp only [Act.put, List.setIfInBounds_toArray, List.set_cons_zero, List.set_cons_succ]
      refine takeL 11 (.int .i64 ((k : Int))) rfl (by kernel_rfl) (by kernel_rfl) (by kernel_rfl) (fun _ _ _ h => h) (.inl ⟨by rfl, fun w _ => by rfl⟩) hS ?_
      try simp only [Act.put, List.setIfInBounds_toArray, List.set_cons_zero, List.set_cons_succ]
      refine takeL 12 (.bool true) rfl (by kernel_rfl) (by kernel_rfl) (by kernel_rfl) (fun _ _ _ h => h) (.inl ⟨by rfl, fun w hw => by (unfold execOp; go_simp; all_goals first | omega | (rw [IntKind.wrap_i64] <;> omega))⟩) hS ?_
      try simp only [Act.put, List.setIfInBounds_toArray, List.set_cons_zero, List.set_cons_succ]
      refine takeL 13 (.bool true) rfl (by kernel_rfl) (by kernel_rfl) (by kernel_rfl) (fun _ _ _ h => h) (.inl ⟨by rfl, fun w _ => by rfl⟩) hS ?_
      try simp only [Act.put, List.setIfInBounds_toArray, List.set_cons_zero, List.set_cons_succ]
      refine takeL 14 (.slice (some ⟨g, o, none⟩) l.length kl) rfl (by kernel_rfl) (by kernel_rfl) (by kernel_rfl) (fun _ _ _ h => h) (.inl ⟨by rfl, fun w _ => by rfl⟩) hS ?_
      try simp only [Act.put, List.setIfInBounds_toArray, List.set_cons_zero, List.set_cons_succ]
      refine takeL 15 (.int .i64 ((k : Int))) rfl (by kernel_rfl) (by kernel_rfl) (by kernel_rfl) (fun _ _ _ h => h) (.inl ⟨by rfl, fun w _ => by rfl⟩) hS ?_
      try simp only [Act.put, List.setIfInBounds_toArray, List.set_cons_zero, List.set_cons_succ]
      refine takeL 16 (.pointer (some ⟨g, o + k, none⟩)) rfl (by kernel_rfl) (by kernel_rfl) (by kernel_rfl) (fun _ _ _ h => h) (.inl ⟨by rfl, fun w hw => by (unfold execOp; go_simp; all_goals omega)⟩) hS ?_
      try simp only [Act.put, List.setIfInBounds_toArray, List.set_cons_zero, List.set_cons_succ]
      refine takeL 17 (.int .i64 x) rfl (by kernel_rfl) (by kernel_rfl) (by kernel_rfl) (fun _ _ _ h => h) (.inl ⟨by rfl, fun w hw => by (have h0 := hw.2.1; unfold execOp; go_simp)⟩) hS ?_
      try simp only [Act.put, List.setIfInBounds_toArray, List.set_cons_zero, List.set_cons_succ]
      refine takeL 18 (.slice (some ⟨g, o, none⟩) l.length kl) rfl (by kernel_rfl) (by kernel_rfl) (by kernel_rfl) (fun _ _ _ h => h) (.inl ⟨by rfl, fun w _ => by rfl⟩) hS ?_
      try simp only [Act.put, List.setIfInBounds_toArray, List.set_cons_zero, List.set_cons_succ]
      refine takeL 19 (.int .i64 ((k : Int))) rfl (by kernel_rfl) (by kernel_rfl) (by kernel_rfl) (fun _ _ _ h => h) (.inl ⟨by rfl, fun w _ => by rfl⟩) hS ?_
      try simp only [Act.put, List.setIfInBounds_toArray, List.set_cons_zero, List.set_cons_succ]
      refine takeL 20 (.int .i64 ((j : Int))) rfl (by kernel_rfl) (by kernel_rfl) (by kernel_rfl) (fun _ _ _ h => h) (.inl ⟨by rfl, fun w hw => by (unfold execOp; go_simp; all_goals first | omega | (rw [IntKind.wrap_i64] <;> omega))⟩) hS ?_
      try simp only [Act.put, List.setIfInBounds_toArray, List.set_cons_zero, List.set_cons_succ]
      refine takeL 21 (.pointer (some ⟨g, o + j, none⟩)) rfl (by kernel_rfl) (by kernel_rfl) (by kernel_rfl) (fun _ _ _ h => h) (.inl ⟨by rfl, fun w hw => by (unfold execOp; go_simp; all_goals omega)⟩) hS ?_
      try simp only [Act.put, List.setIfInBounds_toArray, List.set_cons_zero, List.set_cons_succ]
      refine takeL 22 (.int .i64 y) rfl (by kernel_rfl) (by kernel_rfl) (by kernel_rfl) (fun _ _ _ h => h) (.inl ⟨by rfl, fun w hw => by (have h0 := hw.2.2; unfold execOp; go_simp)⟩) hS ?_
      try simp only [Act.put, List.setIfInBounds_toArray, List.set_cons_zero, List.set_cons_succ]
      refine takeL 23 (.bool false) rfl (by kernel_rfl) (by kernel_rfl) (by kernel_rfl) (fun _ _ _ h => h) (.inl ⟨by rfl, fun w hw => by (unfold execOp; go_simp; all_goals first | omega | (rw [IntKind.wrap_i64] <;> omega))⟩) hS ?_
      try simp only [Act.put, List.setIfInBounds_toArray, List.set_cons_zero, List.set_cons_succ]
      refine takeL 24 (.bool false) rfl (by kernel_rfl) (by kernel_rfl) (by kernel_rfl) (fun _ _ _ h => h) (.inl ⟨by rfl, fun w _ => by rfl⟩) hS ?_
      try simp only [Act.put, List.setIfInBounds_toArray, List.set_cons_zero, List.set_cons_succ]
      refine takeL 25 (.bool false) rfl (by kernel_rfl) (by kernel_rfl) (by kernel_rfl) (fun _ _ _ h => h) (.inl ⟨by rfl, fun w _ => by rfl⟩) hS ?_
      try simp only [Act.put, List.setIfInBounds_toArray, List.set_cons_zero, List.set_cons_succ]
      refine wpAnyH_done (by kernel_rfl) ?_ _
      clear hS
      go_wp2
      go_roundw
      case rel =>
        refine ⟨k + 1, by go_num, by omega, ?_, BR⟩
        intro j' hj'
        by_cases e : j' = k
        · subst e; exact HF.out
        · exact hal.out j' (by omega)
      case measure => simp [intOf]; omega
end Go.Proofs.Yteadkdllmeeocaa
/- The questions that may be asked, by the specification. -/
namespace Go.Proofs.Yteadkdllmeeocaa
open Go.RowKit
set_option maxRecDepth 100000
set_option linter.unusedSimpArgs false
theorem fork_way {s : SchemaD} {a : Nat} (h : schemaOk s = true) (ha : a < s.attrs.length) (p : Nat) : forkOk s ⟨(a : Int), (p : Int)⟩ = decide (p < wayN (ad s.attrs a)) := by
  have hf : forkAttr s ⟨(a : Int), (p : Int)⟩ = ad s.attrs a := rfl
  have ht := top_eq (s := s) (f := ⟨(a : Int), (p : Int)⟩) (by rw [hf]; exact sch_attr h ha)
  rw [hf] at ht
  unfold forkOk
  rw [h, ht, decide_eq_true (show 0 ≤ (a : Int) ∧ (a : Int) ≤ (s.attrs.length : Int) - 1 by omega), Bool.true_and, Bool.true_and]
  exact decide_eq_decide.2 (by show (-1 ≤ (p : Int) ∧ (p : Int) ≤ _) ↔ _; omega)
theorem ownF_lit0 (w : World) (b : Nat) (hb : b ≤ w.heap.size) : (w.alloc (.cells #[] 38)).ownsRow b 38 2 (.slice (some ⟨w.heap.size, 0, none⟩) 0 0) 0 [] :=
  World.ownsRow_lit w #[] 0 hb (by unfold maxLen; omega) rfl
set_option maxHeartbeats 6400000 in
theorem specCandidates_any (vs vl : Value) (s : SchemaD) (l : List Int) (two : Bool) (w : World) (hs : SchemaAt w vs s) (hn : okSch s) (hl : RowI w vl l) (hl2 : l.length ≤ 1048576) :
    Calls Try.prog 26 #[vs, vl, .bool two] w fun e w' => ∃ v, e = .returned v ∧ OwnF w w' v (candidates s l two) := by
  obtain ⟨i0, hi0, hz0, hz1, hz2⟩ := info_parts forkInfo
  have HS : Hid (∀ W, Below w.heap.size w W → SchemaAt W vs s) := fun W h => hs.later h
  have HOK : Hid (okSch s) := hn
  have la := hn.attrs
  have B0 : ∀ o o', Below w.heap.size w ((w.alloc o).alloc o') := fun o o' => ((Below.refl _ _).alloc (Nat.le_refl _) _).alloc (by simp) _
  have cc := fun o o' => specAttrsOk_any vs vl s l ((w.alloc o).alloc o') (hs.later (B0 o o')) hn (hl.later (B0 o o')) (by omega)
  clear B0
  obtain ⟨va, vc, rfl, ra, -⟩ := hs
  obtain ⟨oa, ka, rfl, -, -⟩ := id ra
  obtain ⟨ol, kl, rfl, hcl, hrl⟩ := id hl
  clear ra hn
  obtain ⟨KS, B⟩ := blk_1 33 w #[.slice oa s.attrs.length ka, vc]
  have hown0 := ownF_lit0 (w.alloc (.cells #[.slice oa s.attrs.length ka, vc] 33)) w.heap.size (by simp)
  have bL : Below (w.alloc (.cells #[.slice oa s.attrs.length ka, vc] 33)).heap.size (w.alloc (.cells #[.slice oa s.attrs.length ka, vc] 33)) ((w.alloc (.cells #[.slice oa s.attrs.length ka, vc] 33)).alloc (.cells #[] 38)) := (Below.refl _ _).alloc (Nat.le_refl _) _
  replace KS := KS.below bL
  replace B := B.trans (bL.mono B.size)
  clear bL
  have kS0 : ((w.alloc (.cells #[.slice oa s.attrs.length ka, vc] 33)).alloc (.cells #[] 38)).cell? ⟨w.heap.size, 0, none⟩ = some (.slice oa s.attrs.length ka) := KS.cell 0
  have kS1 : ((w.alloc (.cells #[.slice oa s.attrs.length ka, vc] 33)).alloc (.cells #[] 38)).cell? ⟨w.heap.size, 1, none⟩ = some vc := KS.cell 1
  cases hk : placesOk s l with
  | false =>
    have HE : Hid (candidates s l two = []) := by unfold candidates; rw [hk]; rfl
    rw [hk] at cc
    clear hk hrl hl
    go_enter Try.func26, Try.ntmps26
    go_wp2_with fail
    refine (cc _ _).mono ?_
    clear cc
    rintro e w1 ⟨rfl, hb⟩
    replace B := B.trans (hb.mono B.size)
    replace hown0 := own_below hown0 hb
    simp only [World.size_alloc] at hown0
    clear kS0 kS1
    go_wp2
    go_ret
    exact ⟨_, rfl, by rw [HE.out]; exact hown0, B⟩
  | true =>
    have HE : Hid (candidates s l two = candTo s two l l.length) := by show _ = _; unfold candidates; rw [if_pos hk, candTo_all]
    obtain ⟨hsch, hpl⟩ := places_parts hk
    have HPL : Hid (∀ k, k < l.length → ∃ a : Nat, l.getD k 0 = (a : Int) ∧ a < s.attrs.length) := hpl
    have HSC : Hid (schemaOk s = true) := hsch
    rw [hk] at cc
    clear hk hsch hpl
    have HR : Hid (∀ k, k < l.length → ∃ g o, ol = some ⟨g, o, none⟩ ∧ ∀ W, Below w.heap.size w W → W.cell? ⟨g, o + k, none⟩ = some (.int .i64 (l.getD k 0))) := fun k hk => by
      obtain ⟨g, o, rfl, hg, hj⟩ := hrl (by omega)
      exact ⟨g, o, rfl, fun W h => (h.cell (p := ⟨g, o + k, none⟩) hg).trans (hj k hk)⟩
    clear hrl hl
    go_enter Try.func26, Try.ntmps26
    go_wp2_with fail
    refine (cc _ _).mono ?_
    clear cc
    rintro e w2 ⟨rfl, hb⟩
    clear kS0 kS1 B KS
    have hown : w2.ownsRow (w.heap.size + 1) 38 2 (.slice (some ⟨w.heap.size + 1, 0, none⟩) 0 0) 0 [] := by
      have := own_below (ownF_lit0 (w.alloc (.cells #[.slice oa s.attrs.length ka, vc] 33)) (w.heap.size + 1) (by simp)) hb
      simpa using this
    clear hown0
    have hbr : Below (w.alloc (.cells #[.slice oa s.attrs.length ka, vc] 33)).heap.size (w.alloc (.cells #[.slice oa s.attrs.length ka, vc] 33)) w2 := ((Below.refl _ _).alloc (Nat.le_refl _) _).trans (hb.mono (by simp))
    have HB1 : Hid (Below w.heap.size w (w.alloc (.cells #[.slice oa s.attrs.length ka, vc] 33))) := (Below.refl _ _).alloc (Nat.le_refl _) _
    have HK : Hid (∀ W, Below (w.alloc (.cells #[.slice oa s.attrs.length ka, vc] 33)).heap.size (w.alloc (.cells #[.slice oa s.attrs.length ka, vc] 33)) W → Blk 33 W w.heap.size #[.slice oa s.attrs.length ka, vc]) := fun W h => (Blk.new _ _ _).below h
    have hz1 : (w.alloc (.cells #[.slice oa s.attrs.length ka, vc] 33)).heap.size = w.heap.size + 1 := by simp
    clear hb
    generalize w.alloc (.cells #[.slice oa s.attrs.length ka, vc] 33) = w1 at hbr HB1 HK hz1
    rw [← hz1] at hown ⊢
    have hsz : w.heap.size ≤ w1.heap.size := by omega
    clear hz1
    go_wp2
    go_loopw [7, 8] (fun v i wr => ∃ (k : Nat) (fs : List ForkD), i = .int .i64 k ∧ k ≤ l.length ∧ Hid (fs = candTo s two l k) ∧ fs.length ≤ 4 * k ∧ wr.ownsRow w1.heap.size 38 2 v fs.length (fkC fs) ∧ Below w1.heap.size w1 wr) (fun _ i _ => l.length - (intOf i).toNat)
    case atStart => exact ⟨0, [], rfl, by omega, rfl, by simp, hown, hbr⟩
    case round =>
      clear hown hbr
      obtain ⟨k, fs, rfl, hk, HF, hfl, hown, hbr⟩ := hrel
      by_cases hlt : k < l.length
      rotate_left
      · obtain rfl : k = l.length := by omega
        go_wp2
        go_ret
        exact ⟨_, rfl, by rw [HE.out, ← HF.out]; exact own_base hown hsz, HB1.out.trans (hbr.mono hsz)⟩
      have B := HB1.out.trans (hbr.mono hsz)
      obtain ⟨g, o, rfl, hcl'⟩ := HR.out k hlt
      obtain ⟨a, ha, hal⟩ := HPL.out k hlt
      have hcx : True ∧ ∀ W, Below w.heap.size w W → W.cell? ⟨g, o + k, none⟩ = some (.int .i64 (a : Int)) := ⟨trivial, fun W hW => by rw [← ha]; exact hcl' W hW⟩
      have HCX : Hid (True ∧ ∀ W, Below w.heap.size w W → W.cell? ⟨g, o + k, none⟩ = some (.int .i64 (a : Int))) := hcx
      have HST : Hid (candTo s two l (k + 1) = candTo s two l k ++ candOf s two (a : Int)) := by show _ = _; rw [candTo_succ hlt, ha]
      clear hcl' ha hcx
      obtain ⟨ga, fa, y1, z1, y2, z2, rfl, hat⟩ := attr_at (HS.out wr B) hal
      have HAT : Hid _ := hat
      clear hat
      have h4 := wayN_le (sch_attr HSC.out hal)
      have HFW : Hid (∀ p : Nat, forkOk s ⟨(a : Int), (p : Int)⟩ = decide (p < wayN (ad s.attrs a))) := fun p => fork_way HSC.out hal p
      by_cases h0 : (ad s.attrs a).cuts.length = 0
      · have hq : (((ad s.attrs a).cuts.length : Int) == 0) = true := by rw [h0]; rfl
        cases two with
        | false =>
          have HN : Hid (candTo s false l (k + 1) = fs ++ [⟨(a : Int), -1⟩]) := by show _ = _; rw [HST.out, ← HF.out, cand_one h0 rfl]
          clear h0 HFW h4
          have bd : Below wr.heap.size wr wr.drew := below_drewN (Below.refl _ _) 1
          have hS0 := HCX.out.2 _ (B.trans (bd.mono B.size))
          go_wp2_with fail
          refine wp_region_held_drew (S := fun w' => Blk 33 w' w.heap.size #[.slice (some ⟨ga, fa, none⟩) s.attrs.length ka, vc] ∧ w'.cell? ⟨g, o + k, none⟩ = some (.int .i64 (a : Int)) ∧ w'.cell? ⟨ga, fa + a * 3 + 1, none⟩ = some (.slice y1 (ad s.attrs a).cuts.length z1)) (by kernel_rfl) ⟨(HK.out wr hbr).below bd, hS0, (HAT.out _ bd).2.1⟩ ?_
          intro hS
          replace hown := own_below hown bd
          replace hbr := hbr.trans (bd.mono hbr.size)
          replace B := B.trans (bd.mono B.size)
          clear bd hS0
          generalize wr.drew = w3 at hown hbr B hS ⊢
          refine takeL 0 (.pointer (some ⟨w.heap.size, 0, none⟩)) rfl (by kernel_rfl) (by kernel_rfl) (by kernel_rfl) (fun _ _ _ h => h) (.inl ⟨by rfl, fun w hw => by (unfold execOp; go_simp)⟩) hS ?_
          try simp only [Act.put, List.setIfInBounds_toArray, List.set_cons_zero, List.set_cons_succ]
          refine takeL 1 (.slice (some ⟨ga, fa, none⟩) s.attrs.length ka) rfl (by kernel_rfl) (by kernel_rfl) (by kernel_rfl) (fun _ _ _ h => h) (.inl ⟨by rfl, fun w hw => by (have h0 := (hw.1).cell 0; unfold execOp; go_simp)⟩) hS ?_
          try simp only [Act.put, List.setIfInBounds_toArray, List.set_cons_zero, List.set_cons_succ]
          refine takeL 2 (.slice (some ⟨g, o, none⟩) l.length kl) rfl (by kernel_rfl) (by kernel_rfl) (by kernel_rfl) (fun _ _ _ h => h) (.inl ⟨by rfl, fun w _ => by rfl⟩) hS ?_
          try simp only [Act.put, List.setIfInBounds_toArray, List.set_cons_zero, List.set_cons_succ]
          refine takeL 3 (.int .i64 ((k : Int))) rfl (by kernel_rfl) (by kernel_rfl) (by kernel_rfl) (fun _ _ _ h => h) (.inl ⟨by rfl, fun w _ => by rfl⟩) hS ?_
          try simp only [Act.put, List.setIfInBounds_toArray, List.set_cons_zero, List.set_cons_succ]
          refine takeL 4 (.pointer (some ⟨g, o + k, none⟩)) rfl (by kernel_rfl) (by kernel_rfl) (by kernel_rfl) (fun _ _ _ h => h) (.inl ⟨by rfl, fun w hw => by (unfold execOp; go_simp; all_goals omega)⟩) hS ?_
          try simp only [Act.put, List.setIfInBounds_toArray, List.set_cons_zero, List.set_cons_succ]
          refine takeL 5 (.int .i64 ((a : Int))) rfl (by kernel_rfl) (by kernel_rfl) (by kernel_rfl) (fun _ _ _ h => h) (.inl ⟨by rfl, fun w hw => by (have h0 := hw.2.1; unfold execOp; go_simp)⟩) hS ?_
          try simp only [Act.put, List.setIfInBounds_toArray, List.set_cons_zero, List.set_cons_succ]
          refine takeL 6 (.pointer (some ⟨ga, fa + a * 3, none⟩)) rfl (by kernel_rfl) (by kernel_rfl) (by kernel_rfl) (fun _ _ _ h => h) (.inl ⟨by rfl, fun w hw => by (unfold execOp; go_simp; all_goals omega)⟩) hS ?_
          try simp only [Act.put, List.setIfInBounds_toArray, List.set_cons_zero, List.set_cons_succ]
          refine takeL 7 (.pointer (some ⟨ga, fa + a * 3 + 1, none⟩)) rfl (by kernel_rfl) (by kernel_rfl) (by kernel_rfl) (fun _ _ _ h => h) (.inl ⟨by rfl, fun w hw => by (unfold execOp; go_simp)⟩) hS ?_
          try simp only [Act.put, List.setIfInBounds_toArray, List.set_cons_zero, List.set_cons_succ]
          refine takeL 8 (.slice y1 ((ad s.attrs a).cuts.length) z1) rfl (by kernel_rfl) (by kernel_rfl) (by kernel_rfl) (fun _ _ _ h => h) (.inl ⟨by rfl, fun w hw => by (have h0 := hw.2.2; unfold execOp; go_simp)⟩) hS ?_
          try simp only [Act.put, List.setIfInBounds_toArray, List.set_cons_zero, List.set_cons_succ]
          refine takeL 9 (.int .i64 (((ad s.attrs a).cuts.length : Int))) rfl (by kernel_rfl) (by kernel_rfl) (by kernel_rfl) (fun _ _ _ h => h) (.inl ⟨by rfl, fun w hw => by (unfold execOp; go_simp)⟩) hS ?_
          try simp only [Act.put, List.setIfInBounds_toArray, List.set_cons_zero, List.set_cons_succ]
          refine takeL 10 (.bool true) rfl (by kernel_rfl) (by kernel_rfl) (by kernel_rfl) (fun _ _ _ h => h) (.inl ⟨by rfl, fun w hw => by (unfold execOp; go_simp)⟩) hS ?_
          try simp only [Act.put, List.setIfInBounds_toArray, List.set_cons_zero, List.set_cons_succ]
          refine takeL 11 (.bool true) rfl (by kernel_rfl) (by kernel_rfl) (by kernel_rfl) (fun _ _ _ h => h) (.inl ⟨by rfl, fun w _ => by rfl⟩) hS ?_
          try simp only [Act.put, List.setIfInBounds_toArray, List.set_cons_zero, List.set_cons_succ]
          refine takeL 12 (.bool false) rfl (by kernel_rfl) (by kernel_rfl) (by kernel_rfl) (fun _ _ _ h => h) (.inl ⟨by rfl, fun w _ => by rfl⟩) hS ?_
          try simp only [Act.put, List.setIfInBounds_toArray, List.set_cons_zero, List.set_cons_succ]
          refine takeL 13 (.bool true) rfl (by kernel_rfl) (by kernel_rfl) (by kernel_rfl) (fun _ _ _ h => h) (.inl ⟨by rfl, fun w hw => by (unfold execOp; go_simp)⟩) hS ?_
          try simp only [Act.put, List.setIfInBounds_toArray, List.set_cons_zero, List.set_cons_succ]
          refine takeL 14 (.bool true) rfl (by kernel_rfl) (by kernel_rfl) (by kernel_rfl) (fun _ _ _ h => h) (.inl ⟨by rfl, fun w _ => by rfl⟩) hS ?_
          try simp only [Act.put, List.setIfInBounds_toArray, List.set_cons_zero, List.set_cons_succ]
          refine wpAnyH_done (by kernel_rfl) ?_ _
          obtain ⟨-, hcz, -⟩ := hS
          go_wp2_with (at_builtin; refine wpList_append_own _ rfl _ _ 53 rfl w1.heap.size 38 i0 (.agg #[.int .i64 0, .int .i64 0]) 2 16 Try.underlying53 hi0 hz0 hz1 hz2 rfl (by decide) _ _ _ rfl (hown.alloc _) ⟨w3.heap.size, 0, none⟩ 1 1 [.int .i64 a, .int .i64 (-1)] rfl rfl (newcF2 _ _ _ _) (one2 _ _) (by unfold maxLen; omega) (by omega) (by have := hbr.size; simp; omega) ?_)
          intro v' w5 ho hg hnil
          have hb5 : Below w1.heap.size w1 w5 := (hbr.alloc hbr.size _).grown hg (by have := hbr.size; simp; omega) (fun k hk => (hown.lt k hk).1)
          clear hg hnil hbr hown
          go_wp2
          go_roundw
          case rel =>
            refine ⟨k + 1, fs ++ [⟨(a : Int), -1⟩], by go_num, by omega, by show _ = _; exact HN.out.symm, by simp; omega, ?_, hb5⟩
            rw [List.length_append, fkC_snoc]
            exact ho
          case measure => simp [intOf]; omega
        | true =>
          have HN : Hid (candTo s true l (k + 1) = fs ++ wayF a (wayN (ad s.attrs a))) := by show _ = _; rw [HST.out, ← HF.out, cand_ways (fun h => by cases h.2)]
          clear h0
          generalize wayN (ad s.attrs a) = nw at HN h4 HFW
          have bd : Below wr.heap.size wr wr.drew := below_drewN (Below.refl _ _) 1
          have hS0 := HCX.out.2 _ (B.trans (bd.mono B.size))
          go_wp2_with fail
          refine wp_region_held_drew (S := fun w' => Blk 33 w' w.heap.size #[.slice (some ⟨ga, fa, none⟩) s.attrs.length ka, vc] ∧ w'.cell? ⟨g, o + k, none⟩ = some (.int .i64 (a : Int)) ∧ w'.cell? ⟨ga, fa + a * 3 + 1, none⟩ = some (.slice y1 (ad s.attrs a).cuts.length z1)) (by kernel_rfl) ⟨(HK.out wr hbr).below bd, hS0, (HAT.out _ bd).2.1⟩ ?_
          intro hS
          replace hown := own_below hown bd
          replace hbr := hbr.trans (bd.mono hbr.size)
          replace B := B.trans (bd.mono B.size)
          clear bd hS0
          generalize wr.drew = w3 at hown hbr B hS ⊢
          refine takeL 0 (.pointer (some ⟨w.heap.size, 0, none⟩)) rfl (by kernel_rfl) (by kernel_rfl) (by kernel_rfl) (fun _ _ _ h => h) (.inl ⟨by rfl, fun w hw => by (unfold execOp; go_simp)⟩) hS ?_
          try simp only [Act.put, List.setIfInBounds_toArray, List.set_cons_zero, List.set_cons_succ]
          refine takeL 1 (.slice (some ⟨ga, fa, none⟩) s.attrs.length ka) rfl (by kernel_rfl) (by kernel_rfl) (by kernel_rfl) (fun _ _ _ h => h) (.inl ⟨by rfl, fun w hw => by (have h0 := (hw.1).cell 0; unfold execOp; go_simp)⟩) hS ?_
          try simp only [Act.put, List.setIfInBounds_toArray, List.set_cons_zero, List.set_cons_succ]
          refine takeL 2 (.slice (some ⟨g, o, none⟩) l.length kl) rfl (by kernel_rfl) (by kernel_rfl) (by kernel_rfl) (fun _ _ _ h => h) (.inl ⟨by rfl, fun w _ => by rfl⟩) hS ?_
          try simp only [Act.put, List.setIfInBounds_toArray, List.set_cons_zero, List.set_cons_succ]
          refine takeL 3 (.int .i64 ((k : Int))) rfl (by kernel_rfl) (by kernel_rfl) (by kernel_rfl) (fun _ _ _ h => h) (.inl ⟨by rfl, fun w _ => by rfl⟩) hS ?_
          try simp only [Act.put, List.setIfInBounds_toArray, List.set_cons_zero, List.set_cons_succ]
          refine takeL 4 (.pointer (some ⟨g, o + k, none⟩)) rfl (by kernel_rfl) (by kernel_rfl) (by kernel_rfl) (fun _ _ _ h => h) (.inl ⟨by rfl, fun w hw => by (unfold execOp; go_simp; all_goals omega)⟩) hS ?_
          try simp only [Act.put, List.setIfInBounds_toArray, List.set_cons_zero, List.set_cons_succ]
          refine takeL 5 (.int .i64 ((a : Int))) rfl (by kernel_rfl) (by kernel_rfl) (by kernel_rfl) (fun _ _ _ h => h) (.inl ⟨by rfl, fun w hw => by (have h0 := hw.2.1; unfold execOp; go_simp)⟩) hS ?_
          try simp only [Act.put, List.setIfInBounds_toArray, List.set_cons_zero, List.set_cons_succ]
          refine takeL 6 (.pointer (some ⟨ga, fa + a * 3, none⟩)) rfl (by kernel_rfl) (by kernel_rfl) (by kernel_rfl) (fun _ _ _ h => h) (.inl ⟨by rfl, fun w hw => by (unfold execOp; go_simp; all_goals omega)⟩) hS ?_
          try simp only [Act.put, List.setIfInBounds_toArray, List.set_cons_zero, List.set_cons_succ]
          refine takeL 7 (.pointer (some ⟨ga, fa + a * 3 + 1, none⟩)) rfl (by kernel_rfl) (by kernel_rfl) (by kernel_rfl) (fun _ _ _ h => h) (.inl ⟨by rfl, fun w hw => by (unfold execOp; go_simp)⟩) hS ?_
          try simp only [Act.put, List.setIfInBounds_toArray, List.set_cons_zero, List.set_cons_succ]
          refine takeL 8 (.slice y1 ((ad s.attrs a).cuts.length) z1) rfl (by kernel_rfl) (by kernel_rfl) (by kernel_rfl) (fun _ _ _ h => h) (.inl ⟨by rfl, fun w hw => by (have h0 := hw.2.2; unfold execOp; go_simp)⟩) hS ?_
          try simp only [Act.put, List.setIfInBounds_toArray, List.set_cons_zero, List.set_cons_succ]
          refine takeL 9 (.int .i64 (((ad s.attrs a).cuts.length : Int))) rfl (by kernel_rfl) (by kernel_rfl) (by kernel_rfl) (fun _ _ _ h => h) (.inl ⟨by rfl, fun w hw => by (unfold execOp; go_simp)⟩) hS ?_
          try simp only [Act.put, List.setIfInBounds_toArray, List.set_cons_zero, List.set_cons_succ]
          refine takeL 10 (.bool true) rfl (by kernel_rfl) (by kernel_rfl) (by kernel_rfl) (fun _ _ _ h => h) (.inl ⟨by rfl, fun w hw => by (unfold execOp; go_simp)⟩) hS ?_
          try simp only [Act.put, List.setIfInBounds_toArray, List.set_cons_zero, List.set_cons_succ]
          refine takeL 11 (.bool true) rfl (by kernel_rfl) (by kernel_rfl) (by kernel_rfl) (fun _ _ _ h => h) (.inl ⟨by rfl, fun w _ => by rfl⟩) hS ?_
          try simp only [Act.put, List.setIfInBounds_toArray, List.set_cons_zero, List.set_cons_succ]
          refine takeL 12 (.bool true) rfl (by kernel_rfl) (by kernel_rfl) (by kernel_rfl) (fun _ _ _ h => h) (.inl ⟨by rfl, fun w _ => by rfl⟩) hS ?_
          try simp only [Act.put, List.setIfInBounds_toArray, List.set_cons_zero, List.set_cons_succ]
          refine takeL 13 (.bool false) rfl (by kernel_rfl) (by kernel_rfl) (by kernel_rfl) (fun _ _ _ h => h) (.inl ⟨by rfl, fun w hw => by (unfold execOp; go_simp)⟩) hS ?_
          try simp only [Act.put, List.setIfInBounds_toArray, List.set_cons_zero, List.set_cons_succ]
          refine takeL 14 (.bool false) rfl (by kernel_rfl) (by kernel_rfl) (by kernel_rfl) (fun _ _ _ h => h) (.inl ⟨by rfl, fun w _ => by rfl⟩) hS ?_
          try simp only [Act.put, List.setIfInBounds_toArray, List.set_cons_zero, List.set_cons_succ]
          refine wpAnyH_done (by kernel_rfl) ?_ _
          obtain ⟨-, hcz, -⟩ := hS
          go_wp2
          go_loopw [7, 9] (fun v i wr => ∃ p : Nat, i = .int .i64 p ∧ p ≤ 4 ∧ wr.ownsRow w1.heap.size 38 2 v (fs.length + min p nw) (fkC (fs ++ wayF a (min p nw))) ∧ Below w1.heap.size w1 wr) (fun _ i _ => 4 - (intOf i).toNat)
          case atStart => exact ⟨0, rfl, by omega, by rw [Nat.zero_min, show wayF a 0 = [] from rfl, List.append_nil]; exact hown, hbr⟩
          case round =>
            clear hown hbr B hcz
            obtain ⟨p, rfl, hp, hown, hbr⟩ := hrel
            by_cases hplt : p < 4
            rotate_left
            · obtain rfl : p = 4 := by omega
              rw [show min 4 nw = nw by omega] at hown
              go_wp2
              go_roundw
              case rel =>
                refine ⟨k + 1, fs ++ wayF a nw, by go_num, by omega, by show _ = _; exact HN.out.symm, by rw [List.length_append, wayF_len]; omega, ?_, hbr⟩
                rw [List.length_append, wayF_len]
                exact hown
              case measure => simp [intOf]; omega
            have B := HB1.out.trans (hbr.mono hsz)
            have hcy := HCX.out.2 _ B
            have bF : Below wr.heap.size wr (wr.alloc (.cells #[.int .i64 (a : Int), .int .i64 (p : Int)] 38)) := (Below.refl _ _).alloc (Nat.le_refl _) _
            have KF := Blk.new 38 wr #[.int .i64 (a : Int), .int .i64 (p : Int)]
            have cc := specForkOk_any _ s ⟨(a : Int), (p : Int)⟩ _ (HS.out _ (B.trans (bF.mono B.size))) HOK.out
            unfold forkV at cc
            rw [HFW.out p] at cc
            have kS0 : (wr.alloc (.cells #[.int .i64 (a : Int), .int .i64 (p : Int)] 38)).cell? ⟨w.heap.size, 0, none⟩ = some (.slice (some ⟨ga, fa, none⟩) s.attrs.length ka) := ((HK.out wr hbr).below bF).cell 0
            have kS1 : (wr.alloc (.cells #[.int .i64 (a : Int), .int .i64 (p : Int)] 38)).cell? ⟨w.heap.size, 1, none⟩ = some vc := ((HK.out wr hbr).below bF).cell 1
            have kF0 : (wr.alloc (.cells #[.int .i64 (a : Int), .int .i64 (p : Int)] 38)).cell? ⟨wr.heap.size, 0, none⟩ = some (.int .i64 (a : Int)) := KF.cell 0
            have kF1 : (wr.alloc (.cells #[.int .i64 (a : Int), .int .i64 (p : Int)] 38)).cell? ⟨wr.heap.size, 1, none⟩ = some (.int .i64 (p : Int)) := KF.cell 1
            go_wp2_with fail
            refine cc.mono ?_
            clear cc kS0 kS1 kF0 kF1 hcy
            rintro e w6 ⟨rfl, hb⟩
            replace hown := own_below (own_below hown bF) hb
            replace hbr := (hbr.trans (bF.mono hbr.size)).trans (hb.mono (by have := hbr.size; simp; omega))
            replace KF := KF.below hb
            clear hb bF B
            by_cases hpn : p < nw
            · rw [decide_eq_true hpn]
              have HW : Hid (fkC (fs ++ wayF a (min (p + 1) nw)) = fkC (fs ++ wayF a (min p nw)) ++ [.int .i64 (a : Int), .int .i64 (p : Int)]) := by show _ = _; rw [show min (p + 1) nw = p + 1 by omega, show min p nw = p by omega, wayF_succ, ← List.append_assoc, fkC_snoc]
              have HM : Hid (fs.length + min (p + 1) nw = fs.length + min p nw + 1) := by show _ = _; omega
              have hmm : min p nw ≤ 4 := by omega
              have kF0 : w6.cell? ⟨wr.heap.size, 0, none⟩ = some (.int .i64 (a : Int)) := KF.cell 0
              have kF1 : w6.cell? ⟨wr.heap.size, 1, none⟩ = some (.int .i64 (p : Int)) := KF.cell 1
              clear KF
              generalize min p nw = mm at hown hmm HW HM
              go_wp2_with (at_builtin; refine wpList_append_own _ rfl _ _ 53 rfl w1.heap.size 38 i0 (.agg #[.int .i64 0, .int .i64 0]) 2 16 Try.underlying53 hi0 hz0 hz1 hz2 rfl (by decide) _ _ _ rfl (hown.alloc _) ⟨w6.heap.size, 0, none⟩ 1 1 [.int .i64 a, .int .i64 p] rfl rfl (newcF2 _ _ _ _) (one2 _ _) (by unfold maxLen; omega) (by omega) (by have := hbr.size; simp; omega) ?_)
              intro v' w7 ho hg hnil
              have hb7 : Below w1.heap.size w1 w7 := (hbr.alloc hbr.size _).grown hg (by have := hbr.size; simp; omega) (fun k hk => (hown.lt k hk).1)
              clear hg hnil hbr hown
              go_wp2
              go_roundw
              case rel =>
                refine ⟨p + 1, by go_num, by omega, ?_, hb7⟩
                rw [HW.out, HM.out]
                exact ho
              case measure => simp [intOf]; omega
            · rw [decide_eq_false hpn]
              have HM : Hid (min (p + 1) nw = min p nw) := by show _ = _; omega
              clear KF
              go_wp2
              go_roundw
              case rel =>
                refine ⟨p + 1, by go_num, by omega, ?_, hbr⟩
                rw [HM.out]
                exact hown
              case measure => simp [intOf]; omega
      · have hq : (((ad s.attrs a).cuts.length : Int) == 0) = false := by rw [beq_eq_false_iff_ne]; omega
        have HN : Hid (candTo s two l (k + 1) = fs ++ wayF a (wayN (ad s.attrs a))) := by show _ = _; rw [HST.out, ← HF.out, cand_ways (fun h => h0 h.1)]
        clear h0
        generalize wayN (ad s.attrs a) = nw at HN h4 HFW
        have bd : Below wr.heap.size wr wr.drew := below_drewN (Below.refl _ _) 1
        have hS0 := HCX.out.2 _ (B.trans (bd.mono B.size))
        go_wp2_with fail
        refine wp_region_held_drew (S := fun w' => Blk 33 w' w.heap.size #[.slice (some ⟨ga, fa, none⟩) s.attrs.length ka, vc] ∧ w'.cell? ⟨g, o + k, none⟩ = some (.int .i64 (a : Int)) ∧ w'.cell? ⟨ga, fa + a * 3 + 1, none⟩ = some (.slice y1 (ad s.attrs a).cuts.length z1)) (by kernel_rfl) ⟨(HK.out wr hbr).below bd, hS0, (HAT.out _ bd).2.1⟩ ?_
        intro hS
        replace hown := own_below hown bd
        replace hbr := hbr.trans (bd.mono hbr.size)
        replace B := B.trans (bd.mono B.size)
        clear bd hS0
        generalize wr.drew = w3 at hown hbr B hS ⊢
        refine takeL 0 (.pointer (some ⟨w.heap.size, 0, none⟩)) rfl (by kernel_rfl) (by kernel_rfl) (by kernel_rfl) (fun _ _ _ h => h) (.inl ⟨by rfl, fun w hw => by (unfold execOp; go_simp)⟩) hS ?_
        try simp only [Act.put, List.setIfInBounds_toArray, List.set_cons_zero, List.set_cons_succ]
        refine takeL 1 (.slice (some ⟨ga, fa, none⟩) s.attrs.length ka) rfl (by kernel_rfl) (by kernel_rfl) (by kernel_rfl) (fun _ _ _ h => h) (.inl ⟨by rfl, fun w hw => by (have h0 := (hw.1).cell 0; unfold execOp; go_simp)⟩) hS ?_
        try simp only [Act.put, List.setIfInBounds_toArray, List.set_cons_zero, List.set_cons_succ]
        refine takeL 2 (.slice (some ⟨g, o, none⟩) l.length kl) rfl (by kernel_rfl) (by kernel_rfl) (by kernel_rfl) (fun _ _ _ h => h) (.inl ⟨by rfl, fun w _ => by rfl⟩) hS ?_
        try simp only [Act.put, List.setIfInBounds_toArray, List.set_cons_zero, List.set_cons_succ]
        refine takeL 3 (.int .i64 ((k : Int))) rfl (by kernel_rfl) (by kernel_rfl) (by kernel_rfl) (fun _ _ _ h => h) (.inl ⟨by rfl, fun w _ => by rfl⟩) hS ?_
        try simp only [Act.put, List.setIfInBounds_toArray, List.set_cons_zero, List.set_cons_succ]
        refine takeL 4 (.pointer (some ⟨g, o + k, none⟩)) rfl (by kernel_rfl) (by kernel_rfl) (by kernel_rfl) (fun _ _ _ h => h) (.inl ⟨by rfl, fun w hw => by (unfold execOp; go_simp; all_goals omega)⟩) hS ?_
        try simp only [Act.put, List.setIfInBounds_toArray, List.set_cons_zero, List.set_cons_succ]
        refine takeL 5 (.int .i64 ((a : Int))) rfl (by kernel_rfl) (by kernel_rfl) (by kernel_rfl) (fun _ _ _ h => h) (.inl ⟨by rfl, fun w hw => by (have h0 := hw.2.1; unfold execOp; go_simp)⟩) hS ?_
        try simp only [Act.put, List.setIfInBounds_toArray, List.set_cons_zero, List.set_cons_succ]
        refine takeL 6 (.pointer (some ⟨ga, fa + a * 3, none⟩)) rfl (by kernel_rfl) (by kernel_rfl) (by kernel_rfl) (fun _ _ _ h => h) (.inl ⟨by rfl, fun w hw => by (unfold execOp; go_simp; all_goals omega)⟩) hS ?_
        try simp only [Act.put, List.setIfInBounds_toArray, List.set_cons_zero, List.set_cons_succ]
        refine takeL 7 (.pointer (some ⟨ga, fa + a * 3 + 1, none⟩)) rfl (by kernel_rfl) (by kernel_rfl) (by kernel_rfl) (fun _ _ _ h => h) (.inl ⟨by rfl, fun w hw => by (unfold execOp; go_simp)⟩) hS ?_
        try simp only [Act.put, List.setIfInBounds_toArray, List.set_cons_zero, List.set_cons_succ]
        refine takeL 8 (.slice y1 ((ad s.attrs a).cuts.length) z1) rfl (by kernel_rfl) (by kernel_rfl) (by kernel_rfl) (fun _ _ _ h => h) (.inl ⟨by rfl, fun w hw => by (have h0 := hw.2.2; unfold execOp; go_simp)⟩) hS ?_
        try simp only [Act.put, List.setIfInBounds_toArray, List.set_cons_zero, List.set_cons_succ]
        refine takeL 9 (.int .i64 (((ad s.attrs a).cuts.length : Int))) rfl (by kernel_rfl) (by kernel_rfl) (by kernel_rfl) (fun _ _ _ h => h) (.inl ⟨by rfl, fun w hw => by (unfold execOp; go_simp)⟩) hS ?_
        try simp only [Act.put, List.setIfInBounds_toArray, List.set_cons_zero, List.set_cons_succ]
        refine takeL 10 (.bool false) rfl (by kernel_rfl) (by kernel_rfl) (by kernel_rfl) (fun _ _ _ h => h) (.inl ⟨by rfl, fun w hw => by (unfold execOp; go_simp)⟩) hS ?_
        try simp only [Act.put, List.setIfInBounds_toArray, List.set_cons_zero, List.set_cons_succ]
        refine takeL 11 (.bool false) rfl (by kernel_rfl) (by kernel_rfl) (by kernel_rfl) (fun _ _ _ h => h) (.inl ⟨by rfl, fun w _ => by rfl⟩) hS ?_
        try simp only [Act.put, List.setIfInBounds_toArray, List.set_cons_zero, List.set_cons_succ]
        refine takeL 12 (undef) rfl (by kernel_rfl) (by kernel_rfl) (by kernel_rfl) (fun _ _ _ h => h) (.inr ⟨by rfl, rfl⟩) hS ?_
        try simp only [Act.put, List.setIfInBounds_toArray, List.set_cons_zero, List.set_cons_succ]
        refine takeL 13 (undef) rfl (by kernel_rfl) (by kernel_rfl) (by kernel_rfl) (fun _ _ _ h => h) (.inr ⟨by rfl, rfl⟩) hS ?_
        try simp only [Act.put, List.setIfInBounds_toArray, List.set_cons_zero, List.set_cons_succ]
        refine takeL 14 (.bool false) rfl (by kernel_rfl) (by kernel_rfl) (by kernel_rfl) (fun _ _ _ h => h) (.inl ⟨by rfl, fun w _ => by rfl⟩) hS ?_
        try simp only [Act.put, List.setIfInBounds_toArray, List.set_cons_zero, List.set_cons_succ]
        refine wpAnyH_done (by kernel_rfl) ?_ _
        obtain ⟨-, hcz, -⟩ := hS
        go_wp2
        go_loopw [7, 9] (fun v i wr => ∃ p : Nat, i = .int .i64 p ∧ p ≤ 4 ∧ wr.ownsRow w1.heap.size 38 2 v (fs.length + min p nw) (fkC (fs ++ wayF a (min p nw))) ∧ Below w1.heap.size w1 wr) (fun _ i _ => 4 - (intOf i).toNat)
        case atStart => exact ⟨0, rfl, by omega, by rw [Nat.zero_min, show wayF a 0 = [] from rfl, List.append_nil]; exact hown, hbr⟩
        case round =>
          clear hown hbr B hcz
          obtain ⟨p, rfl, hp, hown, hbr⟩ := hrel
          by_cases hplt : p < 4
          rotate_left
          · obtain rfl : p = 4 := by omega
            rw [show min 4 nw = nw by omega] at hown
            go_wp2
            go_roundw
            case rel =>
              refine ⟨k + 1, fs ++ wayF a nw, by go_num, by omega, by show _ = _; exact HN.out.symm, by rw [List.length_append, wayF_len]; omega, ?_, hbr⟩
              rw [List.length_append, wayF_len]
              exact hown
            case measure => simp [intOf]; omega
          have B := HB1.out.trans (hbr.mono hsz)
          have hcy := HCX.out.2 _ B
          have bF : Below wr.heap.size wr (wr.alloc (.cells #[.int .i64 (a : Int), .int .i64 (p : Int)] 38)) := (Below.refl _ _).alloc (Nat.le_refl _) _
          have KF := Blk.new 38 wr #[.int .i64 (a : Int), .int .i64 (p : Int)]
          have cc := specForkOk_any _ s ⟨(a : Int), (p : Int)⟩ _ (HS.out _ (B.trans (bF.mono B.size))) HOK.out
          unfold forkV at cc
          rw [HFW.out p] at cc
          have kS0 : (wr.alloc (.cells #[.int .i64 (a : Int), .int .i64 (p : Int)] 38)).cell? ⟨w.heap.size, 0, none⟩ = some (.slice (some ⟨ga, fa, none⟩) s.attrs.length ka) := ((HK.out wr hbr).below bF).cell 0
          have kS1 : (wr.alloc (.cells #[.int .i64 (a : Int), .int .i64 (p : Int)] 38)).cell? ⟨w.heap.size, 1, none⟩ = some vc := ((HK.out wr hbr).below bF).cell 1
          have kF0 : (wr.alloc (.cells #[.int .i64 (a : Int), .int .i64 (p : Int)] 38)).cell? ⟨wr.heap.size, 0, none⟩ = some (.int .i64 (a : Int)) := KF.cell 0
          have kF1 : (wr.alloc (.cells #[.int .i64 (a : Int), .int .i64 (p : Int)] 38)).cell? ⟨wr.heap.size, 1, none⟩ = some (.int .i64 (p : Int)) := KF.cell 1
          go_wp2_with fail
          refine cc.mono ?_
          clear cc kS0 kS1 kF0 kF1 hcy
          rintro e w6 ⟨rfl, hb⟩
          replace hown := own_below (own_below hown bF) hb
          replace hbr := (hbr.trans (bF.mono hbr.size)).trans (hb.mono (by have := hbr.size; simp; omega))
          replace KF := KF.below hb
          clear hb bF B
          by_cases hpn : p < nw
          · rw [decide_eq_true hpn]
            have HW : Hid (fkC (fs ++ wayF a (min (p + 1) nw)) = fkC (fs ++ wayF a (min p nw)) ++ [.int .i64 (a : Int), .int .i64 (p : Int)]) := by show _ = _; rw [show min (p + 1) nw = p + 1 by omega, show min p nw = p by omega, wayF_succ, ← List.append_assoc, fkC_snoc]
            have HM : Hid (fs.length + min (p + 1) nw = fs.length + min p nw + 1) := by show _ = _; omega
            have hmm : min p nw ≤ 4 := by omega
            have kF0 : w6.cell? ⟨wr.heap.size, 0, none⟩ = some (.int .i64 (a : Int)) := KF.cell 0
            have kF1 : w6.cell? ⟨wr.heap.size, 1, none⟩ = some (.int .i64 (p : Int)) := KF.cell 1
            clear KF
            generalize min p nw = mm at hown hmm HW HM
            go_wp2_with (at_builtin; refine wpList_append_own _ rfl _ _ 53 rfl w1.heap.size 38 i0 (.agg #[.int .i64 0, .int .i64 0]) 2 16 Try.underlying53 hi0 hz0 hz1 hz2 rfl (by decide) _ _ _ rfl (hown.alloc _) ⟨w6.heap.size, 0, none⟩ 1 1 [.int .i64 a, .int .i64 p] rfl rfl (newcF2 _ _ _ _) (one2 _ _) (by unfold maxLen; omega) (by omega) (by have := hbr.size; simp; omega) ?_)
            intro v' w7 ho hg hnil
            have hb7 : Below w1.heap.size w1 w7 := (hbr.alloc hbr.size _).grown hg (by have := hbr.size; simp; omega) (fun k hk => (hown.lt k hk).1)
            clear hg hnil hbr hown
            go_wp2
            go_roundw
            case rel =>
              refine ⟨p + 1, by go_num, by omega, ?_, hb7⟩
              rw [HW.out, HM.out]
              exact ho
            case measure => simp [intOf]; omega
          · rw [decide_eq_false hpn]
            have HM : Hid (min (p + 1) nw = min p nw) := by show _ = _; omega
            clear KF
            go_wp2
            go_roundw
            case rel =>
              refine ⟨p + 1, by go_num, by omega, ?_, hbr⟩
              rw [HM.out]
              exact hown
            case measure => simp [intOf]; omega
end Go.Proofs.Yteadkdllmeeocaa
