/- For every schema, all counts, every place and both words the exact law of BestOf returns true: the program and the specification answer the same question and what it tells, and nothing is written into what they were handed. No condition. -/
import Derived.Test.YteadkdllmeeocabGreatRows
import Derived.WalkKit
import Derived.ProofKit
import Derived.OpenShut
import Derived.Test.YteadkdllmeeocabGreatBestOfPack6
import Derived.Test.YteadkdllmeeocabGreatBestOfPack7
import Derived.Test.YteadkdllmeeocabGreatBestOfPack9
import Derived.Test.YteadkdllmeeocabGreatBestOfPack33
import Derived.Test.YteadkdllmeeocabGreatBestOfPack40
import Derived.Test.YteadkdllmeeocabGreatBestOfPack41
namespace Go.Proofs.YteadkdllmeeocabGreat.fnExactBestOf
open Go.ChangeShapes Go.WideShapes Go.ChangeAt Go.RowKit
set_option linter.unusedVariables false

theorem own : ownKnob Tryz.prog.godebug = none := by kernel_rfl
theorem laidOut : laidOutB Tryz.prog = true := by kernel_rfl


set_option maxRecDepth 100000 in
set_option maxHeartbeats 6400000 in
set_option linter.unusedSimpArgs false in
theorem walk (v0 : Value) (a0 : SchemaD) (v1 : Value) (a1 : StatsD) (a2 : Int) (a3 : Bool) (w : World) (ha0 : SchemaAt w v0 a0) (hi0 : inS a0) (ha1 : StatsAt w v1 a1) (hi1 : inSt a1) (_ : -9223372036854775808 ≤ a2) (_ : a2 ≤ 9223372036854775807) :
    Calls Tryz.prog 3 #[v0, v1, .int .i64 a2, .bool a3] w fun e w' => e = .returned (.bool true) ∧ Below w.heap.size w w' := by
  have HHA0 : Hid (∀ W, Below w.heap.size w W → SchemaAt W v0 a0) := fun W h => ha0.later h
  obtain ⟨y1, y2, rfl, rr1, rr2⟩ := id ha0
  obtain ⟨o01, c01, rfl, -, -⟩ := id rr1
  obtain ⟨o02, c02, rfl, -, -⟩ := id rr2
  clear rr1 rr2
  have HC0 : Hid (∀ W (r : Int) (_ : 0 ≤ r) (_ : r ≤ 1048576) (_ : Below w.heap.size w W), Calls Tryz.prog 4 #[.agg #[.slice o01 a0.attrs.length c01, .slice o02 a0.classes.length c02], .int .i64 r] W fun e w' => ∃ r' : Int, e = .returned (.int .i64 r') ∧ ((0 ≤ r' ∧ r' ≤ r ∧ fitS a0) ∨ r' = -1) ∧ Below W.heap.size W w') := fun W r h0 h1 hW => szSchema_row _ a0 r W (ha0.later hW) hi0 h0 h1
  have HHA1 : Hid (∀ W, Below w.heap.size w W → StatsAt W v1 a1) := fun W h => ha1.later h
  obtain ⟨y1, y2, rfl, rr1, rr2⟩ := id ha1
  obtain ⟨o11, c11, rfl, -, -⟩ := id rr1
  obtain ⟨o12, c12, rfl, -, -⟩ := id rr2
  clear rr1 rr2
  have HC1 : Hid (∀ W (r : Int) (_ : 0 ≤ r) (_ : r ≤ 1048576) (_ : Below w.heap.size w W), Calls Tryz.prog 5 #[.agg #[.slice o11 a1.totals.length c11, .slice o12 a1.cells.length c12], .int .i64 r] W fun e w' => ∃ r' : Int, e = .returned (.int .i64 r') ∧ ((0 ≤ r' ∧ r' ≤ r ∧ fitSt a1) ∨ r' = -1) ∧ Below W.heap.size W w') := fun W r h0 h1 hW => szStats_row _ a1 r W (ha1.later hW) hi1 h0 h1
  clear ha0 hi0 ha1 hi1
  obtain ⟨KA0, KA1, B⟩ := blk_2 25 29 w #[.slice o01 a0.attrs.length c01, .slice o02 a0.classes.length c02] #[.slice o11 a1.totals.length c11, .slice o12 a1.cells.length c12]
  go_enter Tryz.func3, Tryz.ntmps3
  have kKA00 : ((w.alloc (.cells #[.slice o01 a0.attrs.length c01, .slice o02 a0.classes.length c02] 25)).alloc (.cells #[.slice o11 a1.totals.length c11, .slice o12 a1.cells.length c12] 29)).cell? ⟨w.heap.size, 0, none⟩ = some (.slice o01 a0.attrs.length c01) := KA0.cell 0
  have kKA01 : ((w.alloc (.cells #[.slice o01 a0.attrs.length c01, .slice o02 a0.classes.length c02] 25)).alloc (.cells #[.slice o11 a1.totals.length c11, .slice o12 a1.cells.length c12] 29)).cell? ⟨w.heap.size, 1, none⟩ = some (.slice o02 a0.classes.length c02) := KA0.cell 1
  have kKA10 : ((w.alloc (.cells #[.slice o01 a0.attrs.length c01, .slice o02 a0.classes.length c02] 25)).alloc (.cells #[.slice o11 a1.totals.length c11, .slice o12 a1.cells.length c12] 29)).cell? ⟨w.heap.size + 1, 0, none⟩ = some (.slice o11 a1.totals.length c11) := KA1.cell 0
  have kKA11 : ((w.alloc (.cells #[.slice o01 a0.attrs.length c01, .slice o02 a0.classes.length c02] 25)).alloc (.cells #[.slice o11 a1.totals.length c11, .slice o12 a1.cells.length c12] 29)).cell? ⟨w.heap.size + 1, 1, none⟩ = some (.slice o12 a1.cells.length c12) := KA1.cell 1
  go_wp2_with fail
  refine (HC0.out _ 1048576 (by omega) (by omega) B).mono ?_
  clear HC0
  clear kKA00 kKA01 kKA10 kKA11
  rintro e w1 ⟨r0, rfl, hr, hb⟩
  replace B := B.trans (hb.mono B.size)
  replace KA0 := KA0.below hb
  replace KA1 := KA1.below hb
  clear hb
  rcases hr with ⟨r00, r01, hf⟩ | rfl
  rotate_left
  · go_wp2
    go_ret
    exact ⟨rfl, B⟩
  have HF0 : Hid (fitS a0) := hf
  clear hf
  have r0n : ¬ r0 < 0 := by omega
  have kKA00 : w1.cell? ⟨w.heap.size, 0, none⟩ = some (.slice o01 a0.attrs.length c01) := KA0.cell 0
  have kKA01 : w1.cell? ⟨w.heap.size, 1, none⟩ = some (.slice o02 a0.classes.length c02) := KA0.cell 1
  have kKA10 : w1.cell? ⟨w.heap.size + 1, 0, none⟩ = some (.slice o11 a1.totals.length c11) := KA1.cell 0
  have kKA11 : w1.cell? ⟨w.heap.size + 1, 1, none⟩ = some (.slice o12 a1.cells.length c12) := KA1.cell 1
  go_wp2_with fail
  refine (HC1.out _ r0 r00 (by omega) B).mono ?_
  clear HC1
  clear kKA00 kKA01 kKA10 kKA11
  rintro e w2 ⟨r1, rfl, hr, hb⟩
  replace B := B.trans (hb.mono B.size)
  replace KA0 := KA0.below hb
  replace KA1 := KA1.below hb
  clear hb
  rcases hr with ⟨r10, r11, hf⟩ | rfl
  rotate_left
  · go_wp2
    go_ret
    exact ⟨rfl, B⟩
  have HF1 : Hid (fitSt a1) := hf
  clear hf
  have r1n : ¬ r1 < 0 := by omega
  have HI : Hid (∀ W v0 v1 (_ : Below w.heap.size w W) (_ : SchemaAt W v0 a0) (_ : StatsAt W v1 a1), Calls Tryz.prog 9 #[v0, v1, .int .i64 a2, .bool a3] W fun e w' => e = .returned (.tuple #[.agg #[.int .i64 (bestOf a0 a1 a2 a3).1.attr, .int .i64 (bestOf a0 a1 a2 a3).1.pos], frV (bestOf a0 a1 a2 a3).2.1 (bestOf a0 a1 a2 a3).2.2]) ∧ Below W.heap.size W w') := fun W v0 v1 hW h0 h1 => implBestOf_any v0 v1 a0 a1 a2 a3 W h0 h1 HF0.out.ok HF1.out.ok
  have HSP : Hid (∀ W v0 v1 (_ : Below w.heap.size w W) (_ : SchemaAt W v0 a0) (_ : StatsAt W v1 a1), Calls Tryz.prog 6 #[v0, v1, .int .i64 a2, .bool a3] W fun e w' => e = .returned (.tuple #[.agg #[.int .i64 (bestOf a0 a1 a2 a3).1.attr, .int .i64 (bestOf a0 a1 a2 a3).1.pos], frV (bestOf a0 a1 a2 a3).2.1 (bestOf a0 a1 a2 a3).2.2]) ∧ Below W.heap.size W w') := fun W v0 v1 hW h0 h1 => specBestOf_any v0 v1 a0 a1 a2 a3 W h0 h1 HF0.out.ok HF1.out.ok
  generalize bestOf a0 a1 a2 a3 = BB at HI HSP
  obtain ⟨G0, G1, H1⟩ := BB
  simp only at HI HSP
  have HTL0 : Hid (∀ W, Below w.heap.size w W → Calls Tryz.prog 7 #[.agg #[.slice o01 a0.attrs.length c01, .slice o02 a0.classes.length c02]] W fun e w' => ∃ v, e = .returned v ∧ SchemaAt w' v a0 ∧ Below W.heap.size W w') := fun W hW => (toSchema_row _ a0 W (HHA0.out W hW) HF0.out).mono fun e w' h => by obtain ⟨v, h1, h2, h3⟩ := h; exact ⟨v, h1, h2.at, h3⟩
  have HTL1 : Hid (∀ W, Below w.heap.size w W → Calls Tryz.prog 8 #[.agg #[.slice o11 a1.totals.length c11, .slice o12 a1.cells.length c12]] W fun e w' => ∃ v, e = .returned v ∧ StatsAt w' v a1 ∧ Below W.heap.size W w') := fun W hW => (toStats_row _ a1 W (HHA1.out W hW) HF1.out).mono fun e w' h => by obtain ⟨v, h1, h2, h3⟩ := h; exact ⟨v, h1, h2.at, h3⟩
  have kKA00 : w2.cell? ⟨w.heap.size, 0, none⟩ = some (.slice o01 a0.attrs.length c01) := KA0.cell 0
  have kKA01 : w2.cell? ⟨w.heap.size, 1, none⟩ = some (.slice o02 a0.classes.length c02) := KA0.cell 1
  have kKA10 : w2.cell? ⟨w.heap.size + 1, 0, none⟩ = some (.slice o11 a1.totals.length c11) := KA1.cell 0
  have kKA11 : w2.cell? ⟨w.heap.size + 1, 1, none⟩ = some (.slice o12 a1.cells.length c12) := KA1.cell 1
  go_wp2_with fail
  clear kKA00 kKA01 kKA10 kKA11
  have HKf1 : Hid (Blk 25 w2 (w.heap.size) #[.slice o01 a0.attrs.length c01, .slice o02 a0.classes.length c02] ∧ Blk 29 w2 (w.heap.size + 1) #[.slice o11 a1.totals.length c11, .slice o12 a1.cells.length c12]) := ⟨KA0, KA1⟩
  have HBf1 : Hid (Below w.heap.size w w2) := B
  have hlf1KA0 := KA0.lt
  have hlf1KA1 := KA1.lt
  refine region_then (fun a a' w' => ∃ (g1 g2 : Nat) (u1 : Value) (u2 : Value), a' = ((((((((((((a.put (some 27) (.agg #[.slice o01 a0.attrs.length c01, .slice o02 a0.classes.length c02])).put (some 28) (u1)).put (some 29) (.agg #[.slice o11 a1.totals.length c11, .slice o12 a1.cells.length c12])).put (some 30) (u2)).put (some 31) (.int .i64 a2)).put (some 32) (.bool a3)).put (some 33) (.tuple #[.agg #[.int .i64 G0.attr, .int .i64 G0.pos], .agg #[.int .i64 G1, .int .i64 H1]])).put (some 26) (.tuple #[.agg #[.int .i64 G0.attr, .int .i64 G0.pos], .agg #[.int .i64 G1, .int .i64 H1]])).put (some 34) (.agg #[.int .i64 G0.attr, .int .i64 G0.pos])).put (some 35) (.agg #[.int .i64 G1, .int .i64 H1])).put (some 10) (.pointer (some ⟨g1, 0, none⟩))).put (some 11) (.pointer (some ⟨g2, 0, none⟩))) ∧ w2.heap.size ≤ g1 ∧ w2.heap.size ≤ g2 ∧ g1 ≠ g2 ∧ Blk 33 w' g1 #[.int .i64 G0.attr, .int .i64 G0.pos] ∧ Blk 35 w' g2 #[.int .i64 G1, .int .i64 H1] ∧ Below w2.heap.size w2 w') ?_ ?_
  · clear B KA0 KA1
    refine wp_region_held_drew (S := fun w' => Blk 25 w' (w.heap.size) #[.slice o01 a0.attrs.length c01, .slice o02 a0.classes.length c02] ∧ Blk 29 w' (w.heap.size + 1) #[.slice o11 a1.totals.length c11, .slice o12 a1.cells.length c12]) (by kernel_rfl) HKf1.out ?_
    intro hS
    have BV : Below w2.heap.size w2 w2.drew := below_drewN (Below.refl _ _) 1
    generalize w2.drew = V at hS BV ⊢
    refine takeL 0 (.agg #[.slice o01 a0.attrs.length c01, .slice o02 a0.classes.length c02]) rfl (by kernel_rfl) (by kernel_rfl) (by kernel_rfl) (fun _ _ _ h => nomatch h.1) (yields_row Tryz.underlying25 (by kernel_rfl) (by rfl) _ rfl _ rfl (fun _ h => h.1)) hS ?_
    try simp only [Act.put, List.setIfInBounds_toArray, List.set_cons_zero, List.set_cons_succ]
    refine takeL 2 (.agg #[.slice o11 a1.totals.length c11, .slice o12 a1.cells.length c12]) rfl (by kernel_rfl) (by kernel_rfl) (by kernel_rfl) (fun _ _ _ h => nomatch h.1) (yields_row Tryz.underlying29 (by kernel_rfl) (by rfl) _ rfl _ rfl (fun _ h => h.2)) hS ?_
    try simp only [Act.put, List.setIfInBounds_toArray, List.set_cons_zero, List.set_cons_succ]
    refine takeL 4 (.int .i64 a2) rfl (by kernel_rfl) (by kernel_rfl) (by kernel_rfl) (fun _ _ _ h => nomatch h.1) (.inl ⟨by rfl, fun w _ => by rfl⟩) hS ?_
    try simp only [Act.put, List.setIfInBounds_toArray, List.set_cons_zero, List.set_cons_succ]
    refine takeL 5 (.bool a3) rfl (by kernel_rfl) (by kernel_rfl) (by kernel_rfl) (fun _ _ _ h => nomatch h.1) (.inl ⟨by rfl, fun w _ => by rfl⟩) hS ?_
    try simp only [Act.put, List.setIfInBounds_toArray, List.set_cons_zero, List.set_cons_succ]
    refine next3L 1 10 11 rfl rfl rfl (by kernel_rfl) (by rfl) (by rfl) (by rfl) (fun K hK => ?_) (fun K hK => ?_) (fun K hK => ?_)
    · have B := HBf1.out.trans (BV.mono HBf1.out.size)
      have dd := HTL0.out V B
      clear B
      go_simp
      refine dd.mono ?_
      clear dd
      rintro e Uf11 ⟨u1, rfl, hu1, hb⟩
      refine hK _ _ ⟨hS.1.below hb, hS.2.below hb⟩ ?_
      clear hK K hS
      intro hS
      replace BV := BV.trans (hb.mono BV.size)
      clear hb
      refine next3L 3 10 11 rfl rfl rfl (by kernel_rfl) (by rfl) (by rfl) (by rfl) (fun K hK => ?_) (fun K hK => ?_) (fun K hK => ?_)
      · have B := HBf1.out.trans (BV.mono HBf1.out.size)
        have dd := HTL1.out Uf11 B
        clear B
        go_simp
        refine dd.mono ?_
        clear dd
        rintro e Uf12 ⟨u2, rfl, hu2, hb⟩
        refine hK _ _ ⟨hS.1.below hb, hS.2.below hb⟩ ?_
        clear hK K hS
        intro hS
        replace BV := BV.trans (hb.mono BV.size)
        replace hu1 := hu1.later hb
        clear hb
        refine next3L 6 10 11 rfl rfl rfl (by kernel_rfl) (by rfl) (by rfl) (by rfl) (fun K hK => ?_) (fun K hK => ?_) (fun K hK => ?_)
        · have B := HBf1.out.trans (BV.mono HBf1.out.size)
          have dd := HSP.out Uf12 _ _ B hu1 hu2
          clear B
          go_simp
          refine dd.mono ?_
          clear dd
          rintro e Uf13 ⟨rfl, hb⟩
          refine hK _ _ ⟨hS.1.below hb, hS.2.below hb⟩ ?_
          clear hK K hS
          intro hS
          replace BV := BV.trans (hb.mono BV.size)
          replace hu1 := hu1.later hb
          replace hu2 := hu2.later hb
          clear hb
          refine takeL 7 (.tuple #[.agg #[.int .i64 G0.attr, .int .i64 G0.pos], .agg #[.int .i64 G1, .int .i64 H1]]) rfl (by kernel_rfl) (by kernel_rfl) (by kernel_rfl) (fun _ _ _ h => nomatch h.1) (.inl ⟨by rfl, fun w _ => by rfl⟩) hS ?_
          try simp only [Act.put, List.setIfInBounds_toArray, List.set_cons_zero, List.set_cons_succ]
          refine takeL 8 (.agg #[.int .i64 G0.attr, .int .i64 G0.pos]) rfl (by kernel_rfl) (by kernel_rfl) (by kernel_rfl) (fun _ _ _ h => nomatch h.1) (.inl ⟨by rfl, fun w _ => by rfl⟩) hS ?_
          try simp only [Act.put, List.setIfInBounds_toArray, List.set_cons_zero, List.set_cons_succ]
          refine takeL 9 (.agg #[.int .i64 G1, .int .i64 H1]) rfl (by kernel_rfl) (by kernel_rfl) (by kernel_rfl) (fun _ _ _ h => nomatch h.1) (.inl ⟨by rfl, fun w _ => by rfl⟩) hS ?_
          try simp only [Act.put, List.setIfInBounds_toArray, List.set_cons_zero, List.set_cons_succ]
          refine next2L 10 11 rfl rfl (by kernel_rfl) (by rfl) (by rfl) (fun K hK => ?_) (fun K hK => ?_)
          · go_simp
            obtain ⟨T1, BN⟩ := blk_1 33 Uf13 #[.int .i64 0, .int .i64 0]
            have hg1 := BV.size
            refine hK _ _ ⟨hS.1.below BN, hS.2.below BN⟩ ?_
            clear hK K hS
            intro hS
            replace BV := BV.trans (BN.mono BV.size)
            replace hu1 := hu1.later BN
            replace hu2 := hu2.later BN
            obtain ⟨g1, hg⟩ : ∃ g, Uf13.heap.size = g := ⟨_, rfl⟩
            rw [hg] at T1 hg1 ⊢
            clear BN
            generalize Uf13.alloc (.cells #[.int .i64 0, .int .i64 0] 33) = Uf14 at hS T1 BV hu1 hu2 ⊢
            clear hg
            refine nextL 11 rfl (by kernel_rfl) (by rfl) fun K hK => ?_
            have hd1 := T1.lt
            go_simp
            obtain ⟨T2, BN⟩ := blk_1 35 Uf14 #[.int .i64 0, .int .i64 0]
            have hg2 := BV.size
            refine hK _ _ ⟨hS.1.below BN, hS.2.below BN⟩ ?_
            clear hK K hS
            intro hS
            replace BV := BV.trans (BN.mono BV.size)
            replace hu1 := hu1.later BN
            replace hu2 := hu2.later BN
            replace T1 := T1.below BN
            obtain ⟨g2, hg⟩ : ∃ g, Uf14.heap.size = g := ⟨_, rfl⟩
            rw [hg] at T2 hg2 hd1 ⊢
            clear BN
            generalize Uf14.alloc (.cells #[.int .i64 0, .int .i64 0] 35) = Uf15 at hS T2 BV hu1 hu2 T1 ⊢
            clear hg
            refine nextL 12 rfl (by kernel_rfl) (by rfl) fun K hK => ?_
            refine wp_fk_step _ _ rfl g1 _ _ _ _ rfl rfl T1 ?_
            simp only [Act.put]
            replace T2 := Blk.setRow_other T2 #[.int .i64 G0.attr, .int .i64 G0.pos] (show g2 ≠ g1 by omega)
            replace T1 := T1.setRow #[.int .i64 G0.attr, .int .i64 G0.pos]
            replace BV := below_row BV hg1 #[.int .i64 G0.attr, .int .i64 G0.pos]
            refine hK _ _ ⟨Blk.setRow_other hS.1 _ (by omega), Blk.setRow_other hS.2 _ (by omega)⟩ ?_
            clear hK K hS
            intro hS
            refine nextL 13 rfl (by kernel_rfl) (by rfl) fun K hK => ?_
            refine wp_fr_step _ _ rfl g2 _ _ _ _ rfl rfl T2 ?_
            simp only [Act.put]
            replace T1 := Blk.setRow_other T1 #[.int .i64 G1, .int .i64 H1] (show g1 ≠ g2 by omega)
            replace T2 := T2.setRow #[.int .i64 G1, .int .i64 H1]
            replace BV := below_row BV hg2 #[.int .i64 G1, .int .i64 H1]
            refine hK _ _ ⟨Blk.setRow_other hS.1 _ (by omega), Blk.setRow_other hS.2 _ (by omega)⟩ ?_
            clear hK K hS
            intro hS
            refine wpAnyH_done (by kernel_rfl) ?_ _
            exact ⟨rfl, g1, g2, u1, u2, by first | rfl | (simp only [Act.put, List.setIfInBounds_toArray, List.set_cons_zero, List.set_cons_succ]), hg1, hg2, by omega, T1, T2, BV⟩
          · go_simp
            obtain ⟨T2, BN⟩ := blk_1 35 Uf13 #[.int .i64 0, .int .i64 0]
            have hg2 := BV.size
            refine hK _ _ ⟨hS.1.below BN, hS.2.below BN⟩ ?_
            clear hK K hS
            intro hS
            replace BV := BV.trans (BN.mono BV.size)
            replace hu1 := hu1.later BN
            replace hu2 := hu2.later BN
            obtain ⟨g2, hg⟩ : ∃ g, Uf13.heap.size = g := ⟨_, rfl⟩
            rw [hg] at T2 hg2 ⊢
            clear BN
            generalize Uf13.alloc (.cells #[.int .i64 0, .int .i64 0] 35) = Uf16 at hS T2 BV hu1 hu2 ⊢
            clear hg
            refine nextL 10 rfl (by kernel_rfl) (by rfl) fun K hK => ?_
            have hd2 := T2.lt
            go_simp
            obtain ⟨T1, BN⟩ := blk_1 33 Uf16 #[.int .i64 0, .int .i64 0]
            have hg1 := BV.size
            refine hK _ _ ⟨hS.1.below BN, hS.2.below BN⟩ ?_
            clear hK K hS
            intro hS
            replace BV := BV.trans (BN.mono BV.size)
            replace hu1 := hu1.later BN
            replace hu2 := hu2.later BN
            replace T2 := T2.below BN
            obtain ⟨g1, hg⟩ : ∃ g, Uf16.heap.size = g := ⟨_, rfl⟩
            rw [hg] at T1 hg1 hd2 ⊢
            clear BN
            generalize Uf16.alloc (.cells #[.int .i64 0, .int .i64 0] 33) = Uf17 at hS T1 BV hu1 hu2 T2 ⊢
            clear hg
            refine nextL 12 rfl (by kernel_rfl) (by rfl) fun K hK => ?_
            refine wp_fk_step _ _ rfl g1 _ _ _ _ rfl rfl T1 ?_
            simp only [Act.put]
            replace T2 := Blk.setRow_other T2 #[.int .i64 G0.attr, .int .i64 G0.pos] (show g2 ≠ g1 by omega)
            replace T1 := T1.setRow #[.int .i64 G0.attr, .int .i64 G0.pos]
            replace BV := below_row BV hg1 #[.int .i64 G0.attr, .int .i64 G0.pos]
            refine hK _ _ ⟨Blk.setRow_other hS.1 _ (by omega), Blk.setRow_other hS.2 _ (by omega)⟩ ?_
            clear hK K hS
            intro hS
            refine nextL 13 rfl (by kernel_rfl) (by rfl) fun K hK => ?_
            refine wp_fr_step _ _ rfl g2 _ _ _ _ rfl rfl T2 ?_
            simp only [Act.put]
            replace T1 := Blk.setRow_other T1 #[.int .i64 G1, .int .i64 H1] (show g1 ≠ g2 by omega)
            replace T2 := T2.setRow #[.int .i64 G1, .int .i64 H1]
            replace BV := below_row BV hg2 #[.int .i64 G1, .int .i64 H1]
            refine hK _ _ ⟨Blk.setRow_other hS.1 _ (by omega), Blk.setRow_other hS.2 _ (by omega)⟩ ?_
            clear hK K hS
            intro hS
            refine wpAnyH_done (by kernel_rfl) ?_ _
            exact ⟨rfl, g1, g2, u1, u2, by first | rfl | (simp only [Act.put, List.setIfInBounds_toArray, List.set_cons_zero, List.set_cons_succ]), hg1, hg2, by omega, T1, T2, BV⟩
        · go_simp
          obtain ⟨T1, BN⟩ := blk_1 33 Uf12 #[.int .i64 0, .int .i64 0]
          have hg1 := BV.size
          refine hK _ _ ⟨hS.1.below BN, hS.2.below BN⟩ ?_
          clear hK K hS
          intro hS
          replace BV := BV.trans (BN.mono BV.size)
          replace hu1 := hu1.later BN
          replace hu2 := hu2.later BN
          obtain ⟨g1, hg⟩ : ∃ g, Uf12.heap.size = g := ⟨_, rfl⟩
          rw [hg] at T1 hg1 ⊢
          clear BN
          generalize Uf12.alloc (.cells #[.int .i64 0, .int .i64 0] 33) = Uf18 at hS T1 BV hu1 hu2 ⊢
          clear hg
          refine next2L 6 11 rfl rfl (by kernel_rfl) (by rfl) (by rfl) (fun K hK => ?_) (fun K hK => ?_)
          · have B := HBf1.out.trans (BV.mono HBf1.out.size)
            have dd := HSP.out Uf18 _ _ B hu1 hu2
            clear B
            go_simp
            refine dd.mono ?_
            clear dd
            rintro e Uf19 ⟨rfl, hb⟩
            refine hK _ _ ⟨hS.1.below hb, hS.2.below hb⟩ ?_
            clear hK K hS
            intro hS
            replace BV := BV.trans (hb.mono BV.size)
            replace hu1 := hu1.later hb
            replace hu2 := hu2.later hb
            replace T1 := T1.below hb
            clear hb
            refine takeL 7 (.tuple #[.agg #[.int .i64 G0.attr, .int .i64 G0.pos], .agg #[.int .i64 G1, .int .i64 H1]]) rfl (by kernel_rfl) (by kernel_rfl) (by kernel_rfl) (fun _ _ _ h => nomatch h.1) (.inl ⟨by rfl, fun w _ => by rfl⟩) hS ?_
            try simp only [Act.put, List.setIfInBounds_toArray, List.set_cons_zero, List.set_cons_succ]
            refine takeL 8 (.agg #[.int .i64 G0.attr, .int .i64 G0.pos]) rfl (by kernel_rfl) (by kernel_rfl) (by kernel_rfl) (fun _ _ _ h => nomatch h.1) (.inl ⟨by rfl, fun w _ => by rfl⟩) hS ?_
            try simp only [Act.put, List.setIfInBounds_toArray, List.set_cons_zero, List.set_cons_succ]
            refine takeL 9 (.agg #[.int .i64 G1, .int .i64 H1]) rfl (by kernel_rfl) (by kernel_rfl) (by kernel_rfl) (fun _ _ _ h => nomatch h.1) (.inl ⟨by rfl, fun w _ => by rfl⟩) hS ?_
            try simp only [Act.put, List.setIfInBounds_toArray, List.set_cons_zero, List.set_cons_succ]
            refine nextL 11 rfl (by kernel_rfl) (by rfl) fun K hK => ?_
            have hd1 := T1.lt
            go_simp
            obtain ⟨T2, BN⟩ := blk_1 35 Uf19 #[.int .i64 0, .int .i64 0]
            have hg2 := BV.size
            refine hK _ _ ⟨hS.1.below BN, hS.2.below BN⟩ ?_
            clear hK K hS
            intro hS
            replace BV := BV.trans (BN.mono BV.size)
            replace hu1 := hu1.later BN
            replace hu2 := hu2.later BN
            replace T1 := T1.below BN
            obtain ⟨g2, hg⟩ : ∃ g, Uf19.heap.size = g := ⟨_, rfl⟩
            rw [hg] at T2 hg2 hd1 ⊢
            clear BN
            generalize Uf19.alloc (.cells #[.int .i64 0, .int .i64 0] 35) = Uf110 at hS T2 BV hu1 hu2 T1 ⊢
            clear hg
            refine nextL 12 rfl (by kernel_rfl) (by rfl) fun K hK => ?_
            refine wp_fk_step _ _ rfl g1 _ _ _ _ rfl rfl T1 ?_
            simp only [Act.put]
            replace T2 := Blk.setRow_other T2 #[.int .i64 G0.attr, .int .i64 G0.pos] (show g2 ≠ g1 by omega)
            replace T1 := T1.setRow #[.int .i64 G0.attr, .int .i64 G0.pos]
            replace BV := below_row BV hg1 #[.int .i64 G0.attr, .int .i64 G0.pos]
            refine hK _ _ ⟨Blk.setRow_other hS.1 _ (by omega), Blk.setRow_other hS.2 _ (by omega)⟩ ?_
            clear hK K hS
            intro hS
            refine nextL 13 rfl (by kernel_rfl) (by rfl) fun K hK => ?_
            refine wp_fr_step _ _ rfl g2 _ _ _ _ rfl rfl T2 ?_
            simp only [Act.put]
            replace T1 := Blk.setRow_other T1 #[.int .i64 G1, .int .i64 H1] (show g1 ≠ g2 by omega)
            replace T2 := T2.setRow #[.int .i64 G1, .int .i64 H1]
            replace BV := below_row BV hg2 #[.int .i64 G1, .int .i64 H1]
            refine hK _ _ ⟨Blk.setRow_other hS.1 _ (by omega), Blk.setRow_other hS.2 _ (by omega)⟩ ?_
            clear hK K hS
            intro hS
            refine wpAnyH_done (by kernel_rfl) ?_ _
            exact ⟨rfl, g1, g2, u1, u2, by first | rfl | (simp only [Act.put, List.setIfInBounds_toArray, List.set_cons_zero, List.set_cons_succ]), hg1, hg2, by omega, T1, T2, BV⟩
          · have hd1 := T1.lt
            go_simp
            obtain ⟨T2, BN⟩ := blk_1 35 Uf18 #[.int .i64 0, .int .i64 0]
            have hg2 := BV.size
            refine hK _ _ ⟨hS.1.below BN, hS.2.below BN⟩ ?_
            clear hK K hS
            intro hS
            replace BV := BV.trans (BN.mono BV.size)
            replace hu1 := hu1.later BN
            replace hu2 := hu2.later BN
            replace T1 := T1.below BN
            obtain ⟨g2, hg⟩ : ∃ g, Uf18.heap.size = g := ⟨_, rfl⟩
            rw [hg] at T2 hg2 hd1 ⊢
            clear BN
            generalize Uf18.alloc (.cells #[.int .i64 0, .int .i64 0] 35) = Uf111 at hS T2 BV hu1 hu2 T1 ⊢
            clear hg
            refine nextL 6 rfl (by kernel_rfl) (by rfl) fun K hK => ?_
            have B := HBf1.out.trans (BV.mono HBf1.out.size)
            have dd := HSP.out Uf111 _ _ B hu1 hu2
            clear B
            go_simp
            refine dd.mono ?_
            clear dd
            rintro e Uf112 ⟨rfl, hb⟩
            refine hK _ _ ⟨hS.1.below hb, hS.2.below hb⟩ ?_
            clear hK K hS
            intro hS
            replace BV := BV.trans (hb.mono BV.size)
            replace hu1 := hu1.later hb
            replace hu2 := hu2.later hb
            replace T1 := T1.below hb
            replace T2 := T2.below hb
            clear hb
            refine takeL 7 (.tuple #[.agg #[.int .i64 G0.attr, .int .i64 G0.pos], .agg #[.int .i64 G1, .int .i64 H1]]) rfl (by kernel_rfl) (by kernel_rfl) (by kernel_rfl) (fun _ _ _ h => nomatch h.1) (.inl ⟨by rfl, fun w _ => by rfl⟩) hS ?_
            try simp only [Act.put, List.setIfInBounds_toArray, List.set_cons_zero, List.set_cons_succ]
            refine takeL 8 (.agg #[.int .i64 G0.attr, .int .i64 G0.pos]) rfl (by kernel_rfl) (by kernel_rfl) (by kernel_rfl) (fun _ _ _ h => nomatch h.1) (.inl ⟨by rfl, fun w _ => by rfl⟩) hS ?_
            try simp only [Act.put, List.setIfInBounds_toArray, List.set_cons_zero, List.set_cons_succ]
            refine takeL 9 (.agg #[.int .i64 G1, .int .i64 H1]) rfl (by kernel_rfl) (by kernel_rfl) (by kernel_rfl) (fun _ _ _ h => nomatch h.1) (.inl ⟨by rfl, fun w _ => by rfl⟩) hS ?_
            try simp only [Act.put, List.setIfInBounds_toArray, List.set_cons_zero, List.set_cons_succ]
            refine nextL 12 rfl (by kernel_rfl) (by rfl) fun K hK => ?_
            refine wp_fk_step _ _ rfl g1 _ _ _ _ rfl rfl T1 ?_
            simp only [Act.put]
            replace T2 := Blk.setRow_other T2 #[.int .i64 G0.attr, .int .i64 G0.pos] (show g2 ≠ g1 by omega)
            replace T1 := T1.setRow #[.int .i64 G0.attr, .int .i64 G0.pos]
            replace BV := below_row BV hg1 #[.int .i64 G0.attr, .int .i64 G0.pos]
            refine hK _ _ ⟨Blk.setRow_other hS.1 _ (by omega), Blk.setRow_other hS.2 _ (by omega)⟩ ?_
            clear hK K hS
            intro hS
            refine nextL 13 rfl (by kernel_rfl) (by rfl) fun K hK => ?_
            refine wp_fr_step _ _ rfl g2 _ _ _ _ rfl rfl T2 ?_
            simp only [Act.put]
            replace T1 := Blk.setRow_other T1 #[.int .i64 G1, .int .i64 H1] (show g1 ≠ g2 by omega)
            replace T2 := T2.setRow #[.int .i64 G1, .int .i64 H1]
            replace BV := below_row BV hg2 #[.int .i64 G1, .int .i64 H1]
            refine hK _ _ ⟨Blk.setRow_other hS.1 _ (by omega), Blk.setRow_other hS.2 _ (by omega)⟩ ?_
            clear hK K hS
            intro hS
            refine wpAnyH_done (by kernel_rfl) ?_ _
            exact ⟨rfl, g1, g2, u1, u2, by first | rfl | (simp only [Act.put, List.setIfInBounds_toArray, List.set_cons_zero, List.set_cons_succ]), hg1, hg2, by omega, T1, T2, BV⟩
        · go_simp
          obtain ⟨T2, BN⟩ := blk_1 35 Uf12 #[.int .i64 0, .int .i64 0]
          have hg2 := BV.size
          refine hK _ _ ⟨hS.1.below BN, hS.2.below BN⟩ ?_
          clear hK K hS
          intro hS
          replace BV := BV.trans (BN.mono BV.size)
          replace hu1 := hu1.later BN
          replace hu2 := hu2.later BN
          obtain ⟨g2, hg⟩ : ∃ g, Uf12.heap.size = g := ⟨_, rfl⟩
          rw [hg] at T2 hg2 ⊢
          clear BN
          generalize Uf12.alloc (.cells #[.int .i64 0, .int .i64 0] 35) = Uf113 at hS T2 BV hu1 hu2 ⊢
          clear hg
          refine next2L 6 10 rfl rfl (by kernel_rfl) (by rfl) (by rfl) (fun K hK => ?_) (fun K hK => ?_)
          · have B := HBf1.out.trans (BV.mono HBf1.out.size)
            have dd := HSP.out Uf113 _ _ B hu1 hu2
            clear B
            go_simp
            refine dd.mono ?_
            clear dd
            rintro e Uf114 ⟨rfl, hb⟩
            refine hK _ _ ⟨hS.1.below hb, hS.2.below hb⟩ ?_
            clear hK K hS
            intro hS
            replace BV := BV.trans (hb.mono BV.size)
            replace hu1 := hu1.later hb
            replace hu2 := hu2.later hb
            replace T2 := T2.below hb
            clear hb
            refine takeL 7 (.tuple #[.agg #[.int .i64 G0.attr, .int .i64 G0.pos], .agg #[.int .i64 G1, .int .i64 H1]]) rfl (by kernel_rfl) (by kernel_rfl) (by kernel_rfl) (fun _ _ _ h => nomatch h.1) (.inl ⟨by rfl, fun w _ => by rfl⟩) hS ?_
            try simp only [Act.put, List.setIfInBounds_toArray, List.set_cons_zero, List.set_cons_succ]
            refine takeL 8 (.agg #[.int .i64 G0.attr, .int .i64 G0.pos]) rfl (by kernel_rfl) (by kernel_rfl) (by kernel_rfl) (fun _ _ _ h => nomatch h.1) (.inl ⟨by rfl, fun w _ => by rfl⟩) hS ?_
            try simp only [Act.put, List.setIfInBounds_toArray, List.set_cons_zero, List.set_cons_succ]
            refine takeL 9 (.agg #[.int .i64 G1, .int .i64 H1]) rfl (by kernel_rfl) (by kernel_rfl) (by kernel_rfl) (fun _ _ _ h => nomatch h.1) (.inl ⟨by rfl, fun w _ => by rfl⟩) hS ?_
            try simp only [Act.put, List.setIfInBounds_toArray, List.set_cons_zero, List.set_cons_succ]
            refine nextL 10 rfl (by kernel_rfl) (by rfl) fun K hK => ?_
            have hd2 := T2.lt
            go_simp
            obtain ⟨T1, BN⟩ := blk_1 33 Uf114 #[.int .i64 0, .int .i64 0]
            have hg1 := BV.size
            refine hK _ _ ⟨hS.1.below BN, hS.2.below BN⟩ ?_
            clear hK K hS
            intro hS
            replace BV := BV.trans (BN.mono BV.size)
            replace hu1 := hu1.later BN
            replace hu2 := hu2.later BN
            replace T2 := T2.below BN
            obtain ⟨g1, hg⟩ : ∃ g, Uf114.heap.size = g := ⟨_, rfl⟩
            rw [hg] at T1 hg1 hd2 ⊢
            clear BN
            generalize Uf114.alloc (.cells #[.int .i64 0, .int .i64 0] 33) = Uf115 at hS T1 BV hu1 hu2 T2 ⊢
            clear hg
            refine nextL 12 rfl (by kernel_rfl) (by rfl) fun K hK => ?_
            refine wp_fk_step _ _ rfl g1 _ _ _ _ rfl rfl T1 ?_
            simp only [Act.put]
            replace T2 := Blk.setRow_other T2 #[.int .i64 G0.attr, .int .i64 G0.pos] (show g2 ≠ g1 by omega)
            replace T1 := T1.setRow #[.int .i64 G0.attr, .int .i64 G0.pos]
            replace BV := below_row BV hg1 #[.int .i64 G0.attr, .int .i64 G0.pos]
            refine hK _ _ ⟨Blk.setRow_other hS.1 _ (by omega), Blk.setRow_other hS.2 _ (by omega)⟩ ?_
            clear hK K hS
            intro hS
            refine nextL 13 rfl (by kernel_rfl) (by rfl) fun K hK => ?_
            refine wp_fr_step _ _ rfl g2 _ _ _ _ rfl rfl T2 ?_
            simp only [Act.put]
            replace T1 := Blk.setRow_other T1 #[.int .i64 G1, .int .i64 H1] (show g1 ≠ g2 by omega)
            replace T2 := T2.setRow #[.int .i64 G1, .int .i64 H1]
            replace BV := below_row BV hg2 #[.int .i64 G1, .int .i64 H1]
            refine hK _ _ ⟨Blk.setRow_other hS.1 _ (by omega), Blk.setRow_other hS.2 _ (by omega)⟩ ?_
            clear hK K hS
            intro hS
            refine wpAnyH_done (by kernel_rfl) ?_ _
            exact ⟨rfl, g1, g2, u1, u2, by first | rfl | (simp only [Act.put, List.setIfInBounds_toArray, List.set_cons_zero, List.set_cons_succ]), hg1, hg2, by omega, T1, T2, BV⟩
          · have hd2 := T2.lt
            go_simp
            obtain ⟨T1, BN⟩ := blk_1 33 Uf113 #[.int .i64 0, .int .i64 0]
            have hg1 := BV.size
            refine hK _ _ ⟨hS.1.below BN, hS.2.below BN⟩ ?_
            clear hK K hS
            intro hS
            replace BV := BV.trans (BN.mono BV.size)
            replace hu1 := hu1.later BN
            replace hu2 := hu2.later BN
            replace T2 := T2.below BN
            obtain ⟨g1, hg⟩ : ∃ g, Uf113.heap.size = g := ⟨_, rfl⟩
            rw [hg] at T1 hg1 hd2 ⊢
            clear BN
            generalize Uf113.alloc (.cells #[.int .i64 0, .int .i64 0] 33) = Uf116 at hS T1 BV hu1 hu2 T2 ⊢
            clear hg
            refine nextL 6 rfl (by kernel_rfl) (by rfl) fun K hK => ?_
            have B := HBf1.out.trans (BV.mono HBf1.out.size)
            have dd := HSP.out Uf116 _ _ B hu1 hu2
            clear B
            go_simp
            refine dd.mono ?_
            clear dd
            rintro e Uf117 ⟨rfl, hb⟩
            refine hK _ _ ⟨hS.1.below hb, hS.2.below hb⟩ ?_
            clear hK K hS
            intro hS
            replace BV := BV.trans (hb.mono BV.size)
            replace hu1 := hu1.later hb
            replace hu2 := hu2.later hb
            replace T2 := T2.below hb
            replace T1 := T1.below hb
            clear hb
            refine takeL 7 (.tuple #[.agg #[.int .i64 G0.attr, .int .i64 G0.pos], .agg #[.int .i64 G1, .int .i64 H1]]) rfl (by kernel_rfl) (by kernel_rfl) (by kernel_rfl) (fun _ _ _ h => nomatch h.1) (.inl ⟨by rfl, fun w _ => by rfl⟩) hS ?_
            try simp only [Act.put, List.setIfInBounds_toArray, List.set_cons_zero, List.set_cons_succ]
            refine takeL 8 (.agg #[.int .i64 G0.attr, .int .i64 G0.pos]) rfl (by kernel_rfl) (by kernel_rfl) (by kernel_rfl) (fun _ _ _ h => nomatch h.1) (.inl ⟨by rfl, fun w _ => by rfl⟩) hS ?_
            try simp only [Act.put, List.setIfInBounds_toArray, List.set_cons_zero, List.set_cons_succ]
            refine takeL 9 (.agg #[.int .i64 G1, .int .i64 H1]) rfl (by kernel_rfl) (by kernel_rfl) (by kernel_rfl) (fun _ _ _ h => nomatch h.1) (.inl ⟨by rfl, fun w _ => by rfl⟩) hS ?_
            try simp only [Act.put, List.setIfInBounds_toArray, List.set_cons_zero, List.set_cons_succ]
            refine nextL 12 rfl (by kernel_rfl) (by rfl) fun K hK => ?_
            refine wp_fk_step _ _ rfl g1 _ _ _ _ rfl rfl T1 ?_
            simp only [Act.put]
            replace T2 := Blk.setRow_other T2 #[.int .i64 G0.attr, .int .i64 G0.pos] (show g2 ≠ g1 by omega)
            replace T1 := T1.setRow #[.int .i64 G0.attr, .int .i64 G0.pos]
            replace BV := below_row BV hg1 #[.int .i64 G0.attr, .int .i64 G0.pos]
            refine hK _ _ ⟨Blk.setRow_other hS.1 _ (by omega), Blk.setRow_other hS.2 _ (by omega)⟩ ?_
            clear hK K hS
            intro hS
            refine nextL 13 rfl (by kernel_rfl) (by rfl) fun K hK => ?_
            refine wp_fr_step _ _ rfl g2 _ _ _ _ rfl rfl T2 ?_
            simp only [Act.put]
            replace T1 := Blk.setRow_other T1 #[.int .i64 G1, .int .i64 H1] (show g1 ≠ g2 by omega)
            replace T2 := T2.setRow #[.int .i64 G1, .int .i64 H1]
            replace BV := below_row BV hg2 #[.int .i64 G1, .int .i64 H1]
            refine hK _ _ ⟨Blk.setRow_other hS.1 _ (by omega), Blk.setRow_other hS.2 _ (by omega)⟩ ?_
            clear hK K hS
            intro hS
            refine wpAnyH_done (by kernel_rfl) ?_ _
            exact ⟨rfl, g1, g2, u1, u2, by first | rfl | (simp only [Act.put, List.setIfInBounds_toArray, List.set_cons_zero, List.set_cons_succ]), hg1, hg2, by omega, T1, T2, BV⟩
      · go_simp
        obtain ⟨T1, BN⟩ := blk_1 33 Uf11 #[.int .i64 0, .int .i64 0]
        have hg1 := BV.size
        refine hK _ _ ⟨hS.1.below BN, hS.2.below BN⟩ ?_
        clear hK K hS
        intro hS
        replace BV := BV.trans (BN.mono BV.size)
        replace hu1 := hu1.later BN
        obtain ⟨g1, hg⟩ : ∃ g, Uf11.heap.size = g := ⟨_, rfl⟩
        rw [hg] at T1 hg1 ⊢
        clear BN
        generalize Uf11.alloc (.cells #[.int .i64 0, .int .i64 0] 33) = Uf118 at hS T1 BV hu1 ⊢
        clear hg
        refine next2L 3 11 rfl rfl (by kernel_rfl) (by rfl) (by rfl) (fun K hK => ?_) (fun K hK => ?_)
        · have B := HBf1.out.trans (BV.mono HBf1.out.size)
          have dd := HTL1.out Uf118 B
          clear B
          go_simp
          refine dd.mono ?_
          clear dd
          rintro e Uf119 ⟨u2, rfl, hu2, hb⟩
          refine hK _ _ ⟨hS.1.below hb, hS.2.below hb⟩ ?_
          clear hK K hS
          intro hS
          replace BV := BV.trans (hb.mono BV.size)
          replace hu1 := hu1.later hb
          replace T1 := T1.below hb
          clear hb
          refine next2L 6 11 rfl rfl (by kernel_rfl) (by rfl) (by rfl) (fun K hK => ?_) (fun K hK => ?_)
          · have B := HBf1.out.trans (BV.mono HBf1.out.size)
            have dd := HSP.out Uf119 _ _ B hu1 hu2
            clear B
            go_simp
            refine dd.mono ?_
            clear dd
            rintro e Uf120 ⟨rfl, hb⟩
            refine hK _ _ ⟨hS.1.below hb, hS.2.below hb⟩ ?_
            clear hK K hS
            intro hS
            replace BV := BV.trans (hb.mono BV.size)
            replace hu1 := hu1.later hb
            replace hu2 := hu2.later hb
            replace T1 := T1.below hb
            clear hb
            refine takeL 7 (.tuple #[.agg #[.int .i64 G0.attr, .int .i64 G0.pos], .agg #[.int .i64 G1, .int .i64 H1]]) rfl (by kernel_rfl) (by kernel_rfl) (by kernel_rfl) (fun _ _ _ h => nomatch h.1) (.inl ⟨by rfl, fun w _ => by rfl⟩) hS ?_
            try simp only [Act.put, List.setIfInBounds_toArray, List.set_cons_zero, List.set_cons_succ]
            refine takeL 8 (.agg #[.int .i64 G0.attr, .int .i64 G0.pos]) rfl (by kernel_rfl) (by kernel_rfl) (by kernel_rfl) (fun _ _ _ h => nomatch h.1) (.inl ⟨by rfl, fun w _ => by rfl⟩) hS ?_
            try simp only [Act.put, List.setIfInBounds_toArray, List.set_cons_zero, List.set_cons_succ]
            refine takeL 9 (.agg #[.int .i64 G1, .int .i64 H1]) rfl (by kernel_rfl) (by kernel_rfl) (by kernel_rfl) (fun _ _ _ h => nomatch h.1) (.inl ⟨by rfl, fun w _ => by rfl⟩) hS ?_
            try simp only [Act.put, List.setIfInBounds_toArray, List.set_cons_zero, List.set_cons_succ]
            refine nextL 11 rfl (by kernel_rfl) (by rfl) fun K hK => ?_
            have hd1 := T1.lt
            go_simp
            obtain ⟨T2, BN⟩ := blk_1 35 Uf120 #[.int .i64 0, .int .i64 0]
            have hg2 := BV.size
            refine hK _ _ ⟨hS.1.below BN, hS.2.below BN⟩ ?_
            clear hK K hS
            intro hS
            replace BV := BV.trans (BN.mono BV.size)
            replace hu1 := hu1.later BN
            replace hu2 := hu2.later BN
            replace T1 := T1.below BN
            obtain ⟨g2, hg⟩ : ∃ g, Uf120.heap.size = g := ⟨_, rfl⟩
            rw [hg] at T2 hg2 hd1 ⊢
            clear BN
            generalize Uf120.alloc (.cells #[.int .i64 0, .int .i64 0] 35) = Uf121 at hS T2 BV hu1 hu2 T1 ⊢
            clear hg
            refine nextL 12 rfl (by kernel_rfl) (by rfl) fun K hK => ?_
            refine wp_fk_step _ _ rfl g1 _ _ _ _ rfl rfl T1 ?_
            simp only [Act.put]
            replace T2 := Blk.setRow_other T2 #[.int .i64 G0.attr, .int .i64 G0.pos] (show g2 ≠ g1 by omega)
            replace T1 := T1.setRow #[.int .i64 G0.attr, .int .i64 G0.pos]
            replace BV := below_row BV hg1 #[.int .i64 G0.attr, .int .i64 G0.pos]
            refine hK _ _ ⟨Blk.setRow_other hS.1 _ (by omega), Blk.setRow_other hS.2 _ (by omega)⟩ ?_
            clear hK K hS
            intro hS
            refine nextL 13 rfl (by kernel_rfl) (by rfl) fun K hK => ?_
            refine wp_fr_step _ _ rfl g2 _ _ _ _ rfl rfl T2 ?_
            simp only [Act.put]
            replace T1 := Blk.setRow_other T1 #[.int .i64 G1, .int .i64 H1] (show g1 ≠ g2 by omega)
            replace T2 := T2.setRow #[.int .i64 G1, .int .i64 H1]
            replace BV := below_row BV hg2 #[.int .i64 G1, .int .i64 H1]
            refine hK _ _ ⟨Blk.setRow_other hS.1 _ (by omega), Blk.setRow_other hS.2 _ (by omega)⟩ ?_
            clear hK K hS
            intro hS
            refine wpAnyH_done (by kernel_rfl) ?_ _
            exact ⟨rfl, g1, g2, u1, u2, by first | rfl | (simp only [Act.put, List.setIfInBounds_toArray, List.set_cons_zero, List.set_cons_succ]), hg1, hg2, by omega, T1, T2, BV⟩
          · have hd1 := T1.lt
            go_simp
            obtain ⟨T2, BN⟩ := blk_1 35 Uf119 #[.int .i64 0, .int .i64 0]
            have hg2 := BV.size
            refine hK _ _ ⟨hS.1.below BN, hS.2.below BN⟩ ?_
            clear hK K hS
            intro hS
            replace BV := BV.trans (BN.mono BV.size)
            replace hu1 := hu1.later BN
            replace hu2 := hu2.later BN
            replace T1 := T1.below BN
            obtain ⟨g2, hg⟩ : ∃ g, Uf119.heap.size = g := ⟨_, rfl⟩
            rw [hg] at T2 hg2 hd1 ⊢
            clear BN
            generalize Uf119.alloc (.cells #[.int .i64 0, .int .i64 0] 35) = Uf122 at hS T2 BV hu1 hu2 T1 ⊢
            clear hg
            refine nextL 6 rfl (by kernel_rfl) (by rfl) fun K hK => ?_
            have B := HBf1.out.trans (BV.mono HBf1.out.size)
            have dd := HSP.out Uf122 _ _ B hu1 hu2
            clear B
            go_simp
            refine dd.mono ?_
            clear dd
            rintro e Uf123 ⟨rfl, hb⟩
            refine hK _ _ ⟨hS.1.below hb, hS.2.below hb⟩ ?_
            clear hK K hS
            intro hS
            replace BV := BV.trans (hb.mono BV.size)
            replace hu1 := hu1.later hb
            replace hu2 := hu2.later hb
            replace T1 := T1.below hb
            replace T2 := T2.below hb
            clear hb
            refine takeL 7 (.tuple #[.agg #[.int .i64 G0.attr, .int .i64 G0.pos], .agg #[.int .i64 G1, .int .i64 H1]]) rfl (by kernel_rfl) (by kernel_rfl) (by kernel_rfl) (fun _ _ _ h => nomatch h.1) (.inl ⟨by rfl, fun w _ => by rfl⟩) hS ?_
            try simp only [Act.put, List.setIfInBounds_toArray, List.set_cons_zero, List.set_cons_succ]
            refine takeL 8 (.agg #[.int .i64 G0.attr, .int .i64 G0.pos]) rfl (by kernel_rfl) (by kernel_rfl) (by kernel_rfl) (fun _ _ _ h => nomatch h.1) (.inl ⟨by rfl, fun w _ => by rfl⟩) hS ?_
            try simp only [Act.put, List.setIfInBounds_toArray, List.set_cons_zero, List.set_cons_succ]
            refine takeL 9 (.agg #[.int .i64 G1, .int .i64 H1]) rfl (by kernel_rfl) (by kernel_rfl) (by kernel_rfl) (fun _ _ _ h => nomatch h.1) (.inl ⟨by rfl, fun w _ => by rfl⟩) hS ?_
            try simp only [Act.put, List.setIfInBounds_toArray, List.set_cons_zero, List.set_cons_succ]
            refine nextL 12 rfl (by kernel_rfl) (by rfl) fun K hK => ?_
            refine wp_fk_step _ _ rfl g1 _ _ _ _ rfl rfl T1 ?_
            simp only [Act.put]
            replace T2 := Blk.setRow_other T2 #[.int .i64 G0.attr, .int .i64 G0.pos] (show g2 ≠ g1 by omega)
            replace T1 := T1.setRow #[.int .i64 G0.attr, .int .i64 G0.pos]
            replace BV := below_row BV hg1 #[.int .i64 G0.attr, .int .i64 G0.pos]
            refine hK _ _ ⟨Blk.setRow_other hS.1 _ (by omega), Blk.setRow_other hS.2 _ (by omega)⟩ ?_
            clear hK K hS
            intro hS
            refine nextL 13 rfl (by kernel_rfl) (by rfl) fun K hK => ?_
            refine wp_fr_step _ _ rfl g2 _ _ _ _ rfl rfl T2 ?_
            simp only [Act.put]
            replace T1 := Blk.setRow_other T1 #[.int .i64 G1, .int .i64 H1] (show g1 ≠ g2 by omega)
            replace T2 := T2.setRow #[.int .i64 G1, .int .i64 H1]
            replace BV := below_row BV hg2 #[.int .i64 G1, .int .i64 H1]
            refine hK _ _ ⟨Blk.setRow_other hS.1 _ (by omega), Blk.setRow_other hS.2 _ (by omega)⟩ ?_
            clear hK K hS
            intro hS
            refine wpAnyH_done (by kernel_rfl) ?_ _
            exact ⟨rfl, g1, g2, u1, u2, by first | rfl | (simp only [Act.put, List.setIfInBounds_toArray, List.set_cons_zero, List.set_cons_succ]), hg1, hg2, by omega, T1, T2, BV⟩
        · have hd1 := T1.lt
          go_simp
          obtain ⟨T2, BN⟩ := blk_1 35 Uf118 #[.int .i64 0, .int .i64 0]
          have hg2 := BV.size
          refine hK _ _ ⟨hS.1.below BN, hS.2.below BN⟩ ?_
          clear hK K hS
          intro hS
          replace BV := BV.trans (BN.mono BV.size)
          replace hu1 := hu1.later BN
          replace T1 := T1.below BN
          obtain ⟨g2, hg⟩ : ∃ g, Uf118.heap.size = g := ⟨_, rfl⟩
          rw [hg] at T2 hg2 hd1 ⊢
          clear BN
          generalize Uf118.alloc (.cells #[.int .i64 0, .int .i64 0] 35) = Uf124 at hS T2 BV hu1 T1 ⊢
          clear hg
          refine nextL 3 rfl (by kernel_rfl) (by rfl) fun K hK => ?_
          have B := HBf1.out.trans (BV.mono HBf1.out.size)
          have dd := HTL1.out Uf124 B
          clear B
          go_simp
          refine dd.mono ?_
          clear dd
          rintro e Uf125 ⟨u2, rfl, hu2, hb⟩
          refine hK _ _ ⟨hS.1.below hb, hS.2.below hb⟩ ?_
          clear hK K hS
          intro hS
          replace BV := BV.trans (hb.mono BV.size)
          replace hu1 := hu1.later hb
          replace T1 := T1.below hb
          replace T2 := T2.below hb
          clear hb
          refine nextL 6 rfl (by kernel_rfl) (by rfl) fun K hK => ?_
          have B := HBf1.out.trans (BV.mono HBf1.out.size)
          have dd := HSP.out Uf125 _ _ B hu1 hu2
          clear B
          go_simp
          refine dd.mono ?_
          clear dd
          rintro e Uf126 ⟨rfl, hb⟩
          refine hK _ _ ⟨hS.1.below hb, hS.2.below hb⟩ ?_
          clear hK K hS
          intro hS
          replace BV := BV.trans (hb.mono BV.size)
          replace hu1 := hu1.later hb
          replace hu2 := hu2.later hb
          replace T1 := T1.below hb
          replace T2 := T2.below hb
          clear hb
          refine takeL 7 (.tuple #[.agg #[.int .i64 G0.attr, .int .i64 G0.pos], .agg #[.int .i64 G1, .int .i64 H1]]) rfl (by kernel_rfl) (by kernel_rfl) (by kernel_rfl) (fun _ _ _ h => nomatch h.1) (.inl ⟨by rfl, fun w _ => by rfl⟩) hS ?_
          try simp only [Act.put, List.setIfInBounds_toArray, List.set_cons_zero, List.set_cons_succ]
          refine takeL 8 (.agg #[.int .i64 G0.attr, .int .i64 G0.pos]) rfl (by kernel_rfl) (by kernel_rfl) (by kernel_rfl) (fun _ _ _ h => nomatch h.1) (.inl ⟨by rfl, fun w _ => by rfl⟩) hS ?_
          try simp only [Act.put, List.setIfInBounds_toArray, List.set_cons_zero, List.set_cons_succ]
          refine takeL 9 (.agg #[.int .i64 G1, .int .i64 H1]) rfl (by kernel_rfl) (by kernel_rfl) (by kernel_rfl) (fun _ _ _ h => nomatch h.1) (.inl ⟨by rfl, fun w _ => by rfl⟩) hS ?_
          try simp only [Act.put, List.setIfInBounds_toArray, List.set_cons_zero, List.set_cons_succ]
          refine nextL 12 rfl (by kernel_rfl) (by rfl) fun K hK => ?_
          refine wp_fk_step _ _ rfl g1 _ _ _ _ rfl rfl T1 ?_
          simp only [Act.put]
          replace T2 := Blk.setRow_other T2 #[.int .i64 G0.attr, .int .i64 G0.pos] (show g2 ≠ g1 by omega)
          replace T1 := T1.setRow #[.int .i64 G0.attr, .int .i64 G0.pos]
          replace BV := below_row BV hg1 #[.int .i64 G0.attr, .int .i64 G0.pos]
          refine hK _ _ ⟨Blk.setRow_other hS.1 _ (by omega), Blk.setRow_other hS.2 _ (by omega)⟩ ?_
          clear hK K hS
          intro hS
          refine nextL 13 rfl (by kernel_rfl) (by rfl) fun K hK => ?_
          refine wp_fr_step _ _ rfl g2 _ _ _ _ rfl rfl T2 ?_
          simp only [Act.put]
          replace T1 := Blk.setRow_other T1 #[.int .i64 G1, .int .i64 H1] (show g1 ≠ g2 by omega)
          replace T2 := T2.setRow #[.int .i64 G1, .int .i64 H1]
          replace BV := below_row BV hg2 #[.int .i64 G1, .int .i64 H1]
          refine hK _ _ ⟨Blk.setRow_other hS.1 _ (by omega), Blk.setRow_other hS.2 _ (by omega)⟩ ?_
          clear hK K hS
          intro hS
          refine wpAnyH_done (by kernel_rfl) ?_ _
          exact ⟨rfl, g1, g2, u1, u2, by first | rfl | (simp only [Act.put, List.setIfInBounds_toArray, List.set_cons_zero, List.set_cons_succ]), hg1, hg2, by omega, T1, T2, BV⟩
      · go_simp
        obtain ⟨T2, BN⟩ := blk_1 35 Uf11 #[.int .i64 0, .int .i64 0]
        have hg2 := BV.size
        refine hK _ _ ⟨hS.1.below BN, hS.2.below BN⟩ ?_
        clear hK K hS
        intro hS
        replace BV := BV.trans (BN.mono BV.size)
        replace hu1 := hu1.later BN
        obtain ⟨g2, hg⟩ : ∃ g, Uf11.heap.size = g := ⟨_, rfl⟩
        rw [hg] at T2 hg2 ⊢
        clear BN
        generalize Uf11.alloc (.cells #[.int .i64 0, .int .i64 0] 35) = Uf127 at hS T2 BV hu1 ⊢
        clear hg
        refine next2L 3 10 rfl rfl (by kernel_rfl) (by rfl) (by rfl) (fun K hK => ?_) (fun K hK => ?_)
        · have B := HBf1.out.trans (BV.mono HBf1.out.size)
          have dd := HTL1.out Uf127 B
          clear B
          go_simp
          refine dd.mono ?_
          clear dd
          rintro e Uf128 ⟨u2, rfl, hu2, hb⟩
          refine hK _ _ ⟨hS.1.below hb, hS.2.below hb⟩ ?_
          clear hK K hS
          intro hS
          replace BV := BV.trans (hb.mono BV.size)
          replace hu1 := hu1.later hb
          replace T2 := T2.below hb
          clear hb
          refine next2L 6 10 rfl rfl (by kernel_rfl) (by rfl) (by rfl) (fun K hK => ?_) (fun K hK => ?_)
          · have B := HBf1.out.trans (BV.mono HBf1.out.size)
            have dd := HSP.out Uf128 _ _ B hu1 hu2
            clear B
            go_simp
            refine dd.mono ?_
            clear dd
            rintro e Uf129 ⟨rfl, hb⟩
            refine hK _ _ ⟨hS.1.below hb, hS.2.below hb⟩ ?_
            clear hK K hS
            intro hS
            replace BV := BV.trans (hb.mono BV.size)
            replace hu1 := hu1.later hb
            replace hu2 := hu2.later hb
            replace T2 := T2.below hb
            clear hb
            refine takeL 7 (.tuple #[.agg #[.int .i64 G0.attr, .int .i64 G0.pos], .agg #[.int .i64 G1, .int .i64 H1]]) rfl (by kernel_rfl) (by kernel_rfl) (by kernel_rfl) (fun _ _ _ h => nomatch h.1) (.inl ⟨by rfl, fun w _ => by rfl⟩) hS ?_
            try simp only [Act.put, List.setIfInBounds_toArray, List.set_cons_zero, List.set_cons_succ]
            refine takeL 8 (.agg #[.int .i64 G0.attr, .int .i64 G0.pos]) rfl (by kernel_rfl) (by kernel_rfl) (by kernel_rfl) (fun _ _ _ h => nomatch h.1) (.inl ⟨by rfl, fun w _ => by rfl⟩) hS ?_
            try simp only [Act.put, List.setIfInBounds_toArray, List.set_cons_zero, List.set_cons_succ]
            refine takeL 9 (.agg #[.int .i64 G1, .int .i64 H1]) rfl (by kernel_rfl) (by kernel_rfl) (by kernel_rfl) (fun _ _ _ h => nomatch h.1) (.inl ⟨by rfl, fun w _ => by rfl⟩) hS ?_
            try simp only [Act.put, List.setIfInBounds_toArray, List.set_cons_zero, List.set_cons_succ]
            refine nextL 10 rfl (by kernel_rfl) (by rfl) fun K hK => ?_
            have hd2 := T2.lt
            go_simp
            obtain ⟨T1, BN⟩ := blk_1 33 Uf129 #[.int .i64 0, .int .i64 0]
            have hg1 := BV.size
            refine hK _ _ ⟨hS.1.below BN, hS.2.below BN⟩ ?_
            clear hK K hS
            intro hS
            replace BV := BV.trans (BN.mono BV.size)
            replace hu1 := hu1.later BN
            replace hu2 := hu2.later BN
            replace T2 := T2.below BN
            obtain ⟨g1, hg⟩ : ∃ g, Uf129.heap.size = g := ⟨_, rfl⟩
            rw [hg] at T1 hg1 hd2 ⊢
            clear BN
            generalize Uf129.alloc (.cells #[.int .i64 0, .int .i64 0] 33) = Uf130 at hS T1 BV hu1 hu2 T2 ⊢
            clear hg
            refine nextL 12 rfl (by kernel_rfl) (by rfl) fun K hK => ?_
            refine wp_fk_step _ _ rfl g1 _ _ _ _ rfl rfl T1 ?_
            simp only [Act.put]
            replace T2 := Blk.setRow_other T2 #[.int .i64 G0.attr, .int .i64 G0.pos] (show g2 ≠ g1 by omega)
            replace T1 := T1.setRow #[.int .i64 G0.attr, .int .i64 G0.pos]
            replace BV := below_row BV hg1 #[.int .i64 G0.attr, .int .i64 G0.pos]
            refine hK _ _ ⟨Blk.setRow_other hS.1 _ (by omega), Blk.setRow_other hS.2 _ (by omega)⟩ ?_
            clear hK K hS
            intro hS
            refine nextL 13 rfl (by kernel_rfl) (by rfl) fun K hK => ?_
            refine wp_fr_step _ _ rfl g2 _ _ _ _ rfl rfl T2 ?_
            simp only [Act.put]
            replace T1 := Blk.setRow_other T1 #[.int .i64 G1, .int .i64 H1] (show g1 ≠ g2 by omega)
            replace T2 := T2.setRow #[.int .i64 G1, .int .i64 H1]
            replace BV := below_row BV hg2 #[.int .i64 G1, .int .i64 H1]
            refine hK _ _ ⟨Blk.setRow_other hS.1 _ (by omega), Blk.setRow_other hS.2 _ (by omega)⟩ ?_
            clear hK K hS
            intro hS
            refine wpAnyH_done (by kernel_rfl) ?_ _
            exact ⟨rfl, g1, g2, u1, u2, by first | rfl | (simp only [Act.put, List.setIfInBounds_toArray, List.set_cons_zero, List.set_cons_succ]), hg1, hg2, by omega, T1, T2, BV⟩
          · have hd2 := T2.lt
            go_simp
            obtain ⟨T1, BN⟩ := blk_1 33 Uf128 #[.int .i64 0, .int .i64 0]
            have hg1 := BV.size
            refine hK _ _ ⟨hS.1.below BN, hS.2.below BN⟩ ?_
            clear hK K hS
            intro hS
            replace BV := BV.trans (BN.mono BV.size)
            replace hu1 := hu1.later BN
            replace hu2 := hu2.later BN
            replace T2 := T2.below BN
            obtain ⟨g1, hg⟩ : ∃ g, Uf128.heap.size = g := ⟨_, rfl⟩
            rw [hg] at T1 hg1 hd2 ⊢
            clear BN
            generalize Uf128.alloc (.cells #[.int .i64 0, .int .i64 0] 33) = Uf131 at hS T1 BV hu1 hu2 T2 ⊢
            clear hg
            refine nextL 6 rfl (by kernel_rfl) (by rfl) fun K hK => ?_
            have B := HBf1.out.trans (BV.mono HBf1.out.size)
            have dd := HSP.out Uf131 _ _ B hu1 hu2
            clear B
            go_simp
            refine dd.mono ?_
            clear dd
            rintro e Uf132 ⟨rfl, hb⟩
            refine hK _ _ ⟨hS.1.below hb, hS.2.below hb⟩ ?_
            clear hK K hS
            intro hS
            replace BV := BV.trans (hb.mono BV.size)
            replace hu1 := hu1.later hb
            replace hu2 := hu2.later hb
            replace T2 := T2.below hb
            replace T1 := T1.below hb
            clear hb
            refine takeL 7 (.tuple #[.agg #[.int .i64 G0.attr, .int .i64 G0.pos], .agg #[.int .i64 G1, .int .i64 H1]]) rfl (by kernel_rfl) (by kernel_rfl) (by kernel_rfl) (fun _ _ _ h => nomatch h.1) (.inl ⟨by rfl, fun w _ => by rfl⟩) hS ?_
            try simp only [Act.put, List.setIfInBounds_toArray, List.set_cons_zero, List.set_cons_succ]
            refine takeL 8 (.agg #[.int .i64 G0.attr, .int .i64 G0.pos]) rfl (by kernel_rfl) (by kernel_rfl) (by kernel_rfl) (fun _ _ _ h => nomatch h.1) (.inl ⟨by rfl, fun w _ => by rfl⟩) hS ?_
            try simp only [Act.put, List.setIfInBounds_toArray, List.set_cons_zero, List.set_cons_succ]
            refine takeL 9 (.agg #[.int .i64 G1, .int .i64 H1]) rfl (by kernel_rfl) (by kernel_rfl) (by kernel_rfl) (fun _ _ _ h => nomatch h.1) (.inl ⟨by rfl, fun w _ => by rfl⟩) hS ?_
            try simp only [Act.put, List.setIfInBounds_toArray, List.set_cons_zero, List.set_cons_succ]
            refine nextL 12 rfl (by kernel_rfl) (by rfl) fun K hK => ?_
            refine wp_fk_step _ _ rfl g1 _ _ _ _ rfl rfl T1 ?_
            simp only [Act.put]
            replace T2 := Blk.setRow_other T2 #[.int .i64 G0.attr, .int .i64 G0.pos] (show g2 ≠ g1 by omega)
            replace T1 := T1.setRow #[.int .i64 G0.attr, .int .i64 G0.pos]
            replace BV := below_row BV hg1 #[.int .i64 G0.attr, .int .i64 G0.pos]
            refine hK _ _ ⟨Blk.setRow_other hS.1 _ (by omega), Blk.setRow_other hS.2 _ (by omega)⟩ ?_
            clear hK K hS
            intro hS
            refine nextL 13 rfl (by kernel_rfl) (by rfl) fun K hK => ?_
            refine wp_fr_step _ _ rfl g2 _ _ _ _ rfl rfl T2 ?_
            simp only [Act.put]
            replace T1 := Blk.setRow_other T1 #[.int .i64 G1, .int .i64 H1] (show g1 ≠ g2 by omega)
            replace T2 := T2.setRow #[.int .i64 G1, .int .i64 H1]
            replace BV := below_row BV hg2 #[.int .i64 G1, .int .i64 H1]
            refine hK _ _ ⟨Blk.setRow_other hS.1 _ (by omega), Blk.setRow_other hS.2 _ (by omega)⟩ ?_
            clear hK K hS
            intro hS
            refine wpAnyH_done (by kernel_rfl) ?_ _
            exact ⟨rfl, g1, g2, u1, u2, by first | rfl | (simp only [Act.put, List.setIfInBounds_toArray, List.set_cons_zero, List.set_cons_succ]), hg1, hg2, by omega, T1, T2, BV⟩
        · have hd2 := T2.lt
          go_simp
          obtain ⟨T1, BN⟩ := blk_1 33 Uf127 #[.int .i64 0, .int .i64 0]
          have hg1 := BV.size
          refine hK _ _ ⟨hS.1.below BN, hS.2.below BN⟩ ?_
          clear hK K hS
          intro hS
          replace BV := BV.trans (BN.mono BV.size)
          replace hu1 := hu1.later BN
          replace T2 := T2.below BN
          obtain ⟨g1, hg⟩ : ∃ g, Uf127.heap.size = g := ⟨_, rfl⟩
          rw [hg] at T1 hg1 hd2 ⊢
          clear BN
          generalize Uf127.alloc (.cells #[.int .i64 0, .int .i64 0] 33) = Uf133 at hS T1 BV hu1 T2 ⊢
          clear hg
          refine nextL 3 rfl (by kernel_rfl) (by rfl) fun K hK => ?_
          have B := HBf1.out.trans (BV.mono HBf1.out.size)
          have dd := HTL1.out Uf133 B
          clear B
          go_simp
          refine dd.mono ?_
          clear dd
          rintro e Uf134 ⟨u2, rfl, hu2, hb⟩
          refine hK _ _ ⟨hS.1.below hb, hS.2.below hb⟩ ?_
          clear hK K hS
          intro hS
          replace BV := BV.trans (hb.mono BV.size)
          replace hu1 := hu1.later hb
          replace T2 := T2.below hb
          replace T1 := T1.below hb
          clear hb
          refine nextL 6 rfl (by kernel_rfl) (by rfl) fun K hK => ?_
          have B := HBf1.out.trans (BV.mono HBf1.out.size)
          have dd := HSP.out Uf134 _ _ B hu1 hu2
          clear B
          go_simp
          refine dd.mono ?_
          clear dd
          rintro e Uf135 ⟨rfl, hb⟩
          refine hK _ _ ⟨hS.1.below hb, hS.2.below hb⟩ ?_
          clear hK K hS
          intro hS
          replace BV := BV.trans (hb.mono BV.size)
          replace hu1 := hu1.later hb
          replace hu2 := hu2.later hb
          replace T2 := T2.below hb
          replace T1 := T1.below hb
          clear hb
          refine takeL 7 (.tuple #[.agg #[.int .i64 G0.attr, .int .i64 G0.pos], .agg #[.int .i64 G1, .int .i64 H1]]) rfl (by kernel_rfl) (by kernel_rfl) (by kernel_rfl) (fun _ _ _ h => nomatch h.1) (.inl ⟨by rfl, fun w _ => by rfl⟩) hS ?_
          try simp only [Act.put, List.setIfInBounds_toArray, List.set_cons_zero, List.set_cons_succ]
          refine takeL 8 (.agg #[.int .i64 G0.attr, .int .i64 G0.pos]) rfl (by kernel_rfl) (by kernel_rfl) (by kernel_rfl) (fun _ _ _ h => nomatch h.1) (.inl ⟨by rfl, fun w _ => by rfl⟩) hS ?_
          try simp only [Act.put, List.setIfInBounds_toArray, List.set_cons_zero, List.set_cons_succ]
          refine takeL 9 (.agg #[.int .i64 G1, .int .i64 H1]) rfl (by kernel_rfl) (by kernel_rfl) (by kernel_rfl) (fun _ _ _ h => nomatch h.1) (.inl ⟨by rfl, fun w _ => by rfl⟩) hS ?_
          try simp only [Act.put, List.setIfInBounds_toArray, List.set_cons_zero, List.set_cons_succ]
          refine nextL 12 rfl (by kernel_rfl) (by rfl) fun K hK => ?_
          refine wp_fk_step _ _ rfl g1 _ _ _ _ rfl rfl T1 ?_
          simp only [Act.put]
          replace T2 := Blk.setRow_other T2 #[.int .i64 G0.attr, .int .i64 G0.pos] (show g2 ≠ g1 by omega)
          replace T1 := T1.setRow #[.int .i64 G0.attr, .int .i64 G0.pos]
          replace BV := below_row BV hg1 #[.int .i64 G0.attr, .int .i64 G0.pos]
          refine hK _ _ ⟨Blk.setRow_other hS.1 _ (by omega), Blk.setRow_other hS.2 _ (by omega)⟩ ?_
          clear hK K hS
          intro hS
          refine nextL 13 rfl (by kernel_rfl) (by rfl) fun K hK => ?_
          refine wp_fr_step _ _ rfl g2 _ _ _ _ rfl rfl T2 ?_
          simp only [Act.put]
          replace T1 := Blk.setRow_other T1 #[.int .i64 G1, .int .i64 H1] (show g1 ≠ g2 by omega)
          replace T2 := T2.setRow #[.int .i64 G1, .int .i64 H1]
          replace BV := below_row BV hg2 #[.int .i64 G1, .int .i64 H1]
          refine hK _ _ ⟨Blk.setRow_other hS.1 _ (by omega), Blk.setRow_other hS.2 _ (by omega)⟩ ?_
          clear hK K hS
          intro hS
          refine wpAnyH_done (by kernel_rfl) ?_ _
          exact ⟨rfl, g1, g2, u1, u2, by first | rfl | (simp only [Act.put, List.setIfInBounds_toArray, List.set_cons_zero, List.set_cons_succ]), hg1, hg2, by omega, T1, T2, BV⟩
    · go_simp
      obtain ⟨T1, BN⟩ := blk_1 33 V #[.int .i64 0, .int .i64 0]
      have hg1 := BV.size
      refine hK _ _ ⟨hS.1.below BN, hS.2.below BN⟩ ?_
      clear hK K hS
      intro hS
      replace BV := BV.trans (BN.mono BV.size)
      obtain ⟨g1, hg⟩ : ∃ g, V.heap.size = g := ⟨_, rfl⟩
      rw [hg] at T1 hg1 ⊢
      clear BN
      generalize V.alloc (.cells #[.int .i64 0, .int .i64 0] 33) = Uf136 at hS T1 BV  ⊢
      clear hg
      refine next2L 1 11 rfl rfl (by kernel_rfl) (by rfl) (by rfl) (fun K hK => ?_) (fun K hK => ?_)
      · have B := HBf1.out.trans (BV.mono HBf1.out.size)
        have dd := HTL0.out Uf136 B
        clear B
        go_simp
        refine dd.mono ?_
        clear dd
        rintro e Uf137 ⟨u1, rfl, hu1, hb⟩
        refine hK _ _ ⟨hS.1.below hb, hS.2.below hb⟩ ?_
        clear hK K hS
        intro hS
        replace BV := BV.trans (hb.mono BV.size)
        replace T1 := T1.below hb
        clear hb
        refine next2L 3 11 rfl rfl (by kernel_rfl) (by rfl) (by rfl) (fun K hK => ?_) (fun K hK => ?_)
        · have B := HBf1.out.trans (BV.mono HBf1.out.size)
          have dd := HTL1.out Uf137 B
          clear B
          go_simp
          refine dd.mono ?_
          clear dd
          rintro e Uf138 ⟨u2, rfl, hu2, hb⟩
          refine hK _ _ ⟨hS.1.below hb, hS.2.below hb⟩ ?_
          clear hK K hS
          intro hS
          replace BV := BV.trans (hb.mono BV.size)
          replace hu1 := hu1.later hb
          replace T1 := T1.below hb
          clear hb
          refine next2L 6 11 rfl rfl (by kernel_rfl) (by rfl) (by rfl) (fun K hK => ?_) (fun K hK => ?_)
          · have B := HBf1.out.trans (BV.mono HBf1.out.size)
            have dd := HSP.out Uf138 _ _ B hu1 hu2
            clear B
            go_simp
            refine dd.mono ?_
            clear dd
            rintro e Uf139 ⟨rfl, hb⟩
            refine hK _ _ ⟨hS.1.below hb, hS.2.below hb⟩ ?_
            clear hK K hS
            intro hS
            replace BV := BV.trans (hb.mono BV.size)
            replace hu1 := hu1.later hb
            replace hu2 := hu2.later hb
            replace T1 := T1.below hb
            clear hb
            refine takeL 7 (.tuple #[.agg #[.int .i64 G0.attr, .int .i64 G0.pos], .agg #[.int .i64 G1, .int .i64 H1]]) rfl (by kernel_rfl) (by kernel_rfl) (by kernel_rfl) (fun _ _ _ h => nomatch h.1) (.inl ⟨by rfl, fun w _ => by rfl⟩) hS ?_
            try simp only [Act.put, List.setIfInBounds_toArray, List.set_cons_zero, List.set_cons_succ]
            refine takeL 8 (.agg #[.int .i64 G0.attr, .int .i64 G0.pos]) rfl (by kernel_rfl) (by kernel_rfl) (by kernel_rfl) (fun _ _ _ h => nomatch h.1) (.inl ⟨by rfl, fun w _ => by rfl⟩) hS ?_
            try simp only [Act.put, List.setIfInBounds_toArray, List.set_cons_zero, List.set_cons_succ]
            refine takeL 9 (.agg #[.int .i64 G1, .int .i64 H1]) rfl (by kernel_rfl) (by kernel_rfl) (by kernel_rfl) (fun _ _ _ h => nomatch h.1) (.inl ⟨by rfl, fun w _ => by rfl⟩) hS ?_
            try simp only [Act.put, List.setIfInBounds_toArray, List.set_cons_zero, List.set_cons_succ]
            refine nextL 11 rfl (by kernel_rfl) (by rfl) fun K hK => ?_
            have hd1 := T1.lt
            go_simp
            obtain ⟨T2, BN⟩ := blk_1 35 Uf139 #[.int .i64 0, .int .i64 0]
            have hg2 := BV.size
            refine hK _ _ ⟨hS.1.below BN, hS.2.below BN⟩ ?_
            clear hK K hS
            intro hS
            replace BV := BV.trans (BN.mono BV.size)
            replace hu1 := hu1.later BN
            replace hu2 := hu2.later BN
            replace T1 := T1.below BN
            obtain ⟨g2, hg⟩ : ∃ g, Uf139.heap.size = g := ⟨_, rfl⟩
            rw [hg] at T2 hg2 hd1 ⊢
            clear BN
            generalize Uf139.alloc (.cells #[.int .i64 0, .int .i64 0] 35) = Uf140 at hS T2 BV hu1 hu2 T1 ⊢
            clear hg
            refine nextL 12 rfl (by kernel_rfl) (by rfl) fun K hK => ?_
            refine wp_fk_step _ _ rfl g1 _ _ _ _ rfl rfl T1 ?_
            simp only [Act.put]
            replace T2 := Blk.setRow_other T2 #[.int .i64 G0.attr, .int .i64 G0.pos] (show g2 ≠ g1 by omega)
            replace T1 := T1.setRow #[.int .i64 G0.attr, .int .i64 G0.pos]
            replace BV := below_row BV hg1 #[.int .i64 G0.attr, .int .i64 G0.pos]
            refine hK _ _ ⟨Blk.setRow_other hS.1 _ (by omega), Blk.setRow_other hS.2 _ (by omega)⟩ ?_
            clear hK K hS
            intro hS
            refine nextL 13 rfl (by kernel_rfl) (by rfl) fun K hK => ?_
            refine wp_fr_step _ _ rfl g2 _ _ _ _ rfl rfl T2 ?_
            simp only [Act.put]
            replace T1 := Blk.setRow_other T1 #[.int .i64 G1, .int .i64 H1] (show g1 ≠ g2 by omega)
            replace T2 := T2.setRow #[.int .i64 G1, .int .i64 H1]
            replace BV := below_row BV hg2 #[.int .i64 G1, .int .i64 H1]
            refine hK _ _ ⟨Blk.setRow_other hS.1 _ (by omega), Blk.setRow_other hS.2 _ (by omega)⟩ ?_
            clear hK K hS
            intro hS
            refine wpAnyH_done (by kernel_rfl) ?_ _
            exact ⟨rfl, g1, g2, u1, u2, by first | rfl | (simp only [Act.put, List.setIfInBounds_toArray, List.set_cons_zero, List.set_cons_succ]), hg1, hg2, by omega, T1, T2, BV⟩
          · have hd1 := T1.lt
            go_simp
            obtain ⟨T2, BN⟩ := blk_1 35 Uf138 #[.int .i64 0, .int .i64 0]
            have hg2 := BV.size
            refine hK _ _ ⟨hS.1.below BN, hS.2.below BN⟩ ?_
            clear hK K hS
            intro hS
            replace BV := BV.trans (BN.mono BV.size)
            replace hu1 := hu1.later BN
            replace hu2 := hu2.later BN
            replace T1 := T1.below BN
            obtain ⟨g2, hg⟩ : ∃ g, Uf138.heap.size = g := ⟨_, rfl⟩
            rw [hg] at T2 hg2 hd1 ⊢
            clear BN
            generalize Uf138.alloc (.cells #[.int .i64 0, .int .i64 0] 35) = Uf141 at hS T2 BV hu1 hu2 T1 ⊢
            clear hg
            refine nextL 6 rfl (by kernel_rfl) (by rfl) fun K hK => ?_
            have B := HBf1.out.trans (BV.mono HBf1.out.size)
            have dd := HSP.out Uf141 _ _ B hu1 hu2
            clear B
            go_simp
            refine dd.mono ?_
            clear dd
            rintro e Uf142 ⟨rfl, hb⟩
            refine hK _ _ ⟨hS.1.below hb, hS.2.below hb⟩ ?_
            clear hK K hS
            intro hS
            replace BV := BV.trans (hb.mono BV.size)
            replace hu1 := hu1.later hb
            replace hu2 := hu2.later hb
            replace T1 := T1.below hb
            replace T2 := T2.below hb
            clear hb
            refine takeL 7 (.tuple #[.agg #[.int .i64 G0.attr, .int .i64 G0.pos], .agg #[.int .i64 G1, .int .i64 H1]]) rfl (by kernel_rfl) (by kernel_rfl) (by kernel_rfl) (fun _ _ _ h => nomatch h.1) (.inl ⟨by rfl, fun w _ => by rfl⟩) hS ?_
            try simp only [Act.put, List.setIfInBounds_toArray, List.set_cons_zero, List.set_cons_succ]
            refine takeL 8 (.agg #[.int .i64 G0.attr, .int .i64 G0.pos]) rfl (by kernel_rfl) (by kernel_rfl) (by kernel_rfl) (fun _ _ _ h => nomatch h.1) (.inl ⟨by rfl, fun w _ => by rfl⟩) hS ?_
            try simp only [Act.put, List.setIfInBounds_toArray, List.set_cons_zero, List.set_cons_succ]
            refine takeL 9 (.agg #[.int .i64 G1, .int .i64 H1]) rfl (by kernel_rfl) (by kernel_rfl) (by kernel_rfl) (fun _ _ _ h => nomatch h.1) (.inl ⟨by rfl, fun w _ => by rfl⟩) hS ?_
            try simp only [Act.put, List.setIfInBounds_toArray, List.set_cons_zero, List.set_cons_succ]
            refine nextL 12 rfl (by kernel_rfl) (by rfl) fun K hK => ?_
            refine wp_fk_step _ _ rfl g1 _ _ _ _ rfl rfl T1 ?_
            simp only [Act.put]
            replace T2 := Blk.setRow_other T2 #[.int .i64 G0.attr, .int .i64 G0.pos] (show g2 ≠ g1 by omega)
            replace T1 := T1.setRow #[.int .i64 G0.attr, .int .i64 G0.pos]
            replace BV := below_row BV hg1 #[.int .i64 G0.attr, .int .i64 G0.pos]
            refine hK _ _ ⟨Blk.setRow_other hS.1 _ (by omega), Blk.setRow_other hS.2 _ (by omega)⟩ ?_
            clear hK K hS
            intro hS
            refine nextL 13 rfl (by kernel_rfl) (by rfl) fun K hK => ?_
            refine wp_fr_step _ _ rfl g2 _ _ _ _ rfl rfl T2 ?_
            simp only [Act.put]
            replace T1 := Blk.setRow_other T1 #[.int .i64 G1, .int .i64 H1] (show g1 ≠ g2 by omega)
            replace T2 := T2.setRow #[.int .i64 G1, .int .i64 H1]
            replace BV := below_row BV hg2 #[.int .i64 G1, .int .i64 H1]
            refine hK _ _ ⟨Blk.setRow_other hS.1 _ (by omega), Blk.setRow_other hS.2 _ (by omega)⟩ ?_
            clear hK K hS
            intro hS
            refine wpAnyH_done (by kernel_rfl) ?_ _
            exact ⟨rfl, g1, g2, u1, u2, by first | rfl | (simp only [Act.put, List.setIfInBounds_toArray, List.set_cons_zero, List.set_cons_succ]), hg1, hg2, by omega, T1, T2, BV⟩
        · have hd1 := T1.lt
          go_simp
          obtain ⟨T2, BN⟩ := blk_1 35 Uf137 #[.int .i64 0, .int .i64 0]
          have hg2 := BV.size
          refine hK _ _ ⟨hS.1.below BN, hS.2.below BN⟩ ?_
          clear hK K hS
          intro hS
          replace BV := BV.trans (BN.mono BV.size)
          replace hu1 := hu1.later BN
          replace T1 := T1.below BN
          obtain ⟨g2, hg⟩ : ∃ g, Uf137.heap.size = g := ⟨_, rfl⟩
          rw [hg] at T2 hg2 hd1 ⊢
          clear BN
          generalize Uf137.alloc (.cells #[.int .i64 0, .int .i64 0] 35) = Uf143 at hS T2 BV hu1 T1 ⊢
          clear hg
          refine nextL 3 rfl (by kernel_rfl) (by rfl) fun K hK => ?_
          have B := HBf1.out.trans (BV.mono HBf1.out.size)
          have dd := HTL1.out Uf143 B
          clear B
          go_simp
          refine dd.mono ?_
          clear dd
          rintro e Uf144 ⟨u2, rfl, hu2, hb⟩
          refine hK _ _ ⟨hS.1.below hb, hS.2.below hb⟩ ?_
          clear hK K hS
          intro hS
          replace BV := BV.trans (hb.mono BV.size)
          replace hu1 := hu1.later hb
          replace T1 := T1.below hb
          replace T2 := T2.below hb
          clear hb
          refine nextL 6 rfl (by kernel_rfl) (by rfl) fun K hK => ?_
          have B := HBf1.out.trans (BV.mono HBf1.out.size)
          have dd := HSP.out Uf144 _ _ B hu1 hu2
          clear B
          go_simp
          refine dd.mono ?_
          clear dd
          rintro e Uf145 ⟨rfl, hb⟩
          refine hK _ _ ⟨hS.1.below hb, hS.2.below hb⟩ ?_
          clear hK K hS
          intro hS
          replace BV := BV.trans (hb.mono BV.size)
          replace hu1 := hu1.later hb
          replace hu2 := hu2.later hb
          replace T1 := T1.below hb
          replace T2 := T2.below hb
          clear hb
          refine takeL 7 (.tuple #[.agg #[.int .i64 G0.attr, .int .i64 G0.pos], .agg #[.int .i64 G1, .int .i64 H1]]) rfl (by kernel_rfl) (by kernel_rfl) (by kernel_rfl) (fun _ _ _ h => nomatch h.1) (.inl ⟨by rfl, fun w _ => by rfl⟩) hS ?_
          try simp only [Act.put, List.setIfInBounds_toArray, List.set_cons_zero, List.set_cons_succ]
          refine takeL 8 (.agg #[.int .i64 G0.attr, .int .i64 G0.pos]) rfl (by kernel_rfl) (by kernel_rfl) (by kernel_rfl) (fun _ _ _ h => nomatch h.1) (.inl ⟨by rfl, fun w _ => by rfl⟩) hS ?_
          try simp only [Act.put, List.setIfInBounds_toArray, List.set_cons_zero, List.set_cons_succ]
          refine takeL 9 (.agg #[.int .i64 G1, .int .i64 H1]) rfl (by kernel_rfl) (by kernel_rfl) (by kernel_rfl) (fun _ _ _ h => nomatch h.1) (.inl ⟨by rfl, fun w _ => by rfl⟩) hS ?_
          try simp only [Act.put, List.setIfInBounds_toArray, List.set_cons_zero, List.set_cons_succ]
          refine nextL 12 rfl (by kernel_rfl) (by rfl) fun K hK => ?_
          refine wp_fk_step _ _ rfl g1 _ _ _ _ rfl rfl T1 ?_
          simp only [Act.put]
          replace T2 := Blk.setRow_other T2 #[.int .i64 G0.attr, .int .i64 G0.pos] (show g2 ≠ g1 by omega)
          replace T1 := T1.setRow #[.int .i64 G0.attr, .int .i64 G0.pos]
          replace BV := below_row BV hg1 #[.int .i64 G0.attr, .int .i64 G0.pos]
          refine hK _ _ ⟨Blk.setRow_other hS.1 _ (by omega), Blk.setRow_other hS.2 _ (by omega)⟩ ?_
          clear hK K hS
          intro hS
          refine nextL 13 rfl (by kernel_rfl) (by rfl) fun K hK => ?_
          refine wp_fr_step _ _ rfl g2 _ _ _ _ rfl rfl T2 ?_
          simp only [Act.put]
          replace T1 := Blk.setRow_other T1 #[.int .i64 G1, .int .i64 H1] (show g1 ≠ g2 by omega)
          replace T2 := T2.setRow #[.int .i64 G1, .int .i64 H1]
          replace BV := below_row BV hg2 #[.int .i64 G1, .int .i64 H1]
          refine hK _ _ ⟨Blk.setRow_other hS.1 _ (by omega), Blk.setRow_other hS.2 _ (by omega)⟩ ?_
          clear hK K hS
          intro hS
          refine wpAnyH_done (by kernel_rfl) ?_ _
          exact ⟨rfl, g1, g2, u1, u2, by first | rfl | (simp only [Act.put, List.setIfInBounds_toArray, List.set_cons_zero, List.set_cons_succ]), hg1, hg2, by omega, T1, T2, BV⟩
      · have hd1 := T1.lt
        go_simp
        obtain ⟨T2, BN⟩ := blk_1 35 Uf136 #[.int .i64 0, .int .i64 0]
        have hg2 := BV.size
        refine hK _ _ ⟨hS.1.below BN, hS.2.below BN⟩ ?_
        clear hK K hS
        intro hS
        replace BV := BV.trans (BN.mono BV.size)
        replace T1 := T1.below BN
        obtain ⟨g2, hg⟩ : ∃ g, Uf136.heap.size = g := ⟨_, rfl⟩
        rw [hg] at T2 hg2 hd1 ⊢
        clear BN
        generalize Uf136.alloc (.cells #[.int .i64 0, .int .i64 0] 35) = Uf146 at hS T2 BV T1 ⊢
        clear hg
        refine nextL 1 rfl (by kernel_rfl) (by rfl) fun K hK => ?_
        have B := HBf1.out.trans (BV.mono HBf1.out.size)
        have dd := HTL0.out Uf146 B
        clear B
        go_simp
        refine dd.mono ?_
        clear dd
        rintro e Uf147 ⟨u1, rfl, hu1, hb⟩
        refine hK _ _ ⟨hS.1.below hb, hS.2.below hb⟩ ?_
        clear hK K hS
        intro hS
        replace BV := BV.trans (hb.mono BV.size)
        replace T1 := T1.below hb
        replace T2 := T2.below hb
        clear hb
        refine nextL 3 rfl (by kernel_rfl) (by rfl) fun K hK => ?_
        have B := HBf1.out.trans (BV.mono HBf1.out.size)
        have dd := HTL1.out Uf147 B
        clear B
        go_simp
        refine dd.mono ?_
        clear dd
        rintro e Uf148 ⟨u2, rfl, hu2, hb⟩
        refine hK _ _ ⟨hS.1.below hb, hS.2.below hb⟩ ?_
        clear hK K hS
        intro hS
        replace BV := BV.trans (hb.mono BV.size)
        replace hu1 := hu1.later hb
        replace T1 := T1.below hb
        replace T2 := T2.below hb
        clear hb
        refine nextL 6 rfl (by kernel_rfl) (by rfl) fun K hK => ?_
        have B := HBf1.out.trans (BV.mono HBf1.out.size)
        have dd := HSP.out Uf148 _ _ B hu1 hu2
        clear B
        go_simp
        refine dd.mono ?_
        clear dd
        rintro e Uf149 ⟨rfl, hb⟩
        refine hK _ _ ⟨hS.1.below hb, hS.2.below hb⟩ ?_
        clear hK K hS
        intro hS
        replace BV := BV.trans (hb.mono BV.size)
        replace hu1 := hu1.later hb
        replace hu2 := hu2.later hb
        replace T1 := T1.below hb
        replace T2 := T2.below hb
        clear hb
        refine takeL 7 (.tuple #[.agg #[.int .i64 G0.attr, .int .i64 G0.pos], .agg #[.int .i64 G1, .int .i64 H1]]) rfl (by kernel_rfl) (by kernel_rfl) (by kernel_rfl) (fun _ _ _ h => nomatch h.1) (.inl ⟨by rfl, fun w _ => by rfl⟩) hS ?_
        try simp only [Act.put, List.setIfInBounds_toArray, List.set_cons_zero, List.set_cons_succ]
        refine takeL 8 (.agg #[.int .i64 G0.attr, .int .i64 G0.pos]) rfl (by kernel_rfl) (by kernel_rfl) (by kernel_rfl) (fun _ _ _ h => nomatch h.1) (.inl ⟨by rfl, fun w _ => by rfl⟩) hS ?_
        try simp only [Act.put, List.setIfInBounds_toArray, List.set_cons_zero, List.set_cons_succ]
        refine takeL 9 (.agg #[.int .i64 G1, .int .i64 H1]) rfl (by kernel_rfl) (by kernel_rfl) (by kernel_rfl) (fun _ _ _ h => nomatch h.1) (.inl ⟨by rfl, fun w _ => by rfl⟩) hS ?_
        try simp only [Act.put, List.setIfInBounds_toArray, List.set_cons_zero, List.set_cons_succ]
        refine nextL 12 rfl (by kernel_rfl) (by rfl) fun K hK => ?_
        refine wp_fk_step _ _ rfl g1 _ _ _ _ rfl rfl T1 ?_
        simp only [Act.put]
        replace T2 := Blk.setRow_other T2 #[.int .i64 G0.attr, .int .i64 G0.pos] (show g2 ≠ g1 by omega)
        replace T1 := T1.setRow #[.int .i64 G0.attr, .int .i64 G0.pos]
        replace BV := below_row BV hg1 #[.int .i64 G0.attr, .int .i64 G0.pos]
        refine hK _ _ ⟨Blk.setRow_other hS.1 _ (by omega), Blk.setRow_other hS.2 _ (by omega)⟩ ?_
        clear hK K hS
        intro hS
        refine nextL 13 rfl (by kernel_rfl) (by rfl) fun K hK => ?_
        refine wp_fr_step _ _ rfl g2 _ _ _ _ rfl rfl T2 ?_
        simp only [Act.put]
        replace T1 := Blk.setRow_other T1 #[.int .i64 G1, .int .i64 H1] (show g1 ≠ g2 by omega)
        replace T2 := T2.setRow #[.int .i64 G1, .int .i64 H1]
        replace BV := below_row BV hg2 #[.int .i64 G1, .int .i64 H1]
        refine hK _ _ ⟨Blk.setRow_other hS.1 _ (by omega), Blk.setRow_other hS.2 _ (by omega)⟩ ?_
        clear hK K hS
        intro hS
        refine wpAnyH_done (by kernel_rfl) ?_ _
        exact ⟨rfl, g1, g2, u1, u2, by first | rfl | (simp only [Act.put, List.setIfInBounds_toArray, List.set_cons_zero, List.set_cons_succ]), hg1, hg2, by omega, T1, T2, BV⟩
    · go_simp
      obtain ⟨T2, BN⟩ := blk_1 35 V #[.int .i64 0, .int .i64 0]
      have hg2 := BV.size
      refine hK _ _ ⟨hS.1.below BN, hS.2.below BN⟩ ?_
      clear hK K hS
      intro hS
      replace BV := BV.trans (BN.mono BV.size)
      obtain ⟨g2, hg⟩ : ∃ g, V.heap.size = g := ⟨_, rfl⟩
      rw [hg] at T2 hg2 ⊢
      clear BN
      generalize V.alloc (.cells #[.int .i64 0, .int .i64 0] 35) = Uf150 at hS T2 BV  ⊢
      clear hg
      refine next2L 1 10 rfl rfl (by kernel_rfl) (by rfl) (by rfl) (fun K hK => ?_) (fun K hK => ?_)
      · have B := HBf1.out.trans (BV.mono HBf1.out.size)
        have dd := HTL0.out Uf150 B
        clear B
        go_simp
        refine dd.mono ?_
        clear dd
        rintro e Uf151 ⟨u1, rfl, hu1, hb⟩
        refine hK _ _ ⟨hS.1.below hb, hS.2.below hb⟩ ?_
        clear hK K hS
        intro hS
        replace BV := BV.trans (hb.mono BV.size)
        replace T2 := T2.below hb
        clear hb
        refine next2L 3 10 rfl rfl (by kernel_rfl) (by rfl) (by rfl) (fun K hK => ?_) (fun K hK => ?_)
        · have B := HBf1.out.trans (BV.mono HBf1.out.size)
          have dd := HTL1.out Uf151 B
          clear B
          go_simp
          refine dd.mono ?_
          clear dd
          rintro e Uf152 ⟨u2, rfl, hu2, hb⟩
          refine hK _ _ ⟨hS.1.below hb, hS.2.below hb⟩ ?_
          clear hK K hS
          intro hS
          replace BV := BV.trans (hb.mono BV.size)
          replace hu1 := hu1.later hb
          replace T2 := T2.below hb
          clear hb
          refine next2L 6 10 rfl rfl (by kernel_rfl) (by rfl) (by rfl) (fun K hK => ?_) (fun K hK => ?_)
          · have B := HBf1.out.trans (BV.mono HBf1.out.size)
            have dd := HSP.out Uf152 _ _ B hu1 hu2
            clear B
            go_simp
            refine dd.mono ?_
            clear dd
            rintro e Uf153 ⟨rfl, hb⟩
            refine hK _ _ ⟨hS.1.below hb, hS.2.below hb⟩ ?_
            clear hK K hS
            intro hS
            replace BV := BV.trans (hb.mono BV.size)
            replace hu1 := hu1.later hb
            replace hu2 := hu2.later hb
            replace T2 := T2.below hb
            clear hb
            refine takeL 7 (.tuple #[.agg #[.int .i64 G0.attr, .int .i64 G0.pos], .agg #[.int .i64 G1, .int .i64 H1]]) rfl (by kernel_rfl) (by kernel_rfl) (by kernel_rfl) (fun _ _ _ h => nomatch h.1) (.inl ⟨by rfl, fun w _ => by rfl⟩) hS ?_
            try simp only [Act.put, List.setIfInBounds_toArray, List.set_cons_zero, List.set_cons_succ]
            refine takeL 8 (.agg #[.int .i64 G0.attr, .int .i64 G0.pos]) rfl (by kernel_rfl) (by kernel_rfl) (by kernel_rfl) (fun _ _ _ h => nomatch h.1) (.inl ⟨by rfl, fun w _ => by rfl⟩) hS ?_
            try simp only [Act.put, List.setIfInBounds_toArray, List.set_cons_zero, List.set_cons_succ]
            refine takeL 9 (.agg #[.int .i64 G1, .int .i64 H1]) rfl (by kernel_rfl) (by kernel_rfl) (by kernel_rfl) (fun _ _ _ h => nomatch h.1) (.inl ⟨by rfl, fun w _ => by rfl⟩) hS ?_
            try simp only [Act.put, List.setIfInBounds_toArray, List.set_cons_zero, List.set_cons_succ]
            refine nextL 10 rfl (by kernel_rfl) (by rfl) fun K hK => ?_
            have hd2 := T2.lt
            go_simp
            obtain ⟨T1, BN⟩ := blk_1 33 Uf153 #[.int .i64 0, .int .i64 0]
            have hg1 := BV.size
            refine hK _ _ ⟨hS.1.below BN, hS.2.below BN⟩ ?_
            clear hK K hS
            intro hS
            replace BV := BV.trans (BN.mono BV.size)
            replace hu1 := hu1.later BN
            replace hu2 := hu2.later BN
            replace T2 := T2.below BN
            obtain ⟨g1, hg⟩ : ∃ g, Uf153.heap.size = g := ⟨_, rfl⟩
            rw [hg] at T1 hg1 hd2 ⊢
            clear BN
            generalize Uf153.alloc (.cells #[.int .i64 0, .int .i64 0] 33) = Uf154 at hS T1 BV hu1 hu2 T2 ⊢
            clear hg
            refine nextL 12 rfl (by kernel_rfl) (by rfl) fun K hK => ?_
            refine wp_fk_step _ _ rfl g1 _ _ _ _ rfl rfl T1 ?_
            simp only [Act.put]
            replace T2 := Blk.setRow_other T2 #[.int .i64 G0.attr, .int .i64 G0.pos] (show g2 ≠ g1 by omega)
            replace T1 := T1.setRow #[.int .i64 G0.attr, .int .i64 G0.pos]
            replace BV := below_row BV hg1 #[.int .i64 G0.attr, .int .i64 G0.pos]
            refine hK _ _ ⟨Blk.setRow_other hS.1 _ (by omega), Blk.setRow_other hS.2 _ (by omega)⟩ ?_
            clear hK K hS
            intro hS
            refine nextL 13 rfl (by kernel_rfl) (by rfl) fun K hK => ?_
            refine wp_fr_step _ _ rfl g2 _ _ _ _ rfl rfl T2 ?_
            simp only [Act.put]
            replace T1 := Blk.setRow_other T1 #[.int .i64 G1, .int .i64 H1] (show g1 ≠ g2 by omega)
            replace T2 := T2.setRow #[.int .i64 G1, .int .i64 H1]
            replace BV := below_row BV hg2 #[.int .i64 G1, .int .i64 H1]
            refine hK _ _ ⟨Blk.setRow_other hS.1 _ (by omega), Blk.setRow_other hS.2 _ (by omega)⟩ ?_
            clear hK K hS
            intro hS
            refine wpAnyH_done (by kernel_rfl) ?_ _
            exact ⟨rfl, g1, g2, u1, u2, by first | rfl | (simp only [Act.put, List.setIfInBounds_toArray, List.set_cons_zero, List.set_cons_succ]), hg1, hg2, by omega, T1, T2, BV⟩
          · have hd2 := T2.lt
            go_simp
            obtain ⟨T1, BN⟩ := blk_1 33 Uf152 #[.int .i64 0, .int .i64 0]
            have hg1 := BV.size
            refine hK _ _ ⟨hS.1.below BN, hS.2.below BN⟩ ?_
            clear hK K hS
            intro hS
            replace BV := BV.trans (BN.mono BV.size)
            replace hu1 := hu1.later BN
            replace hu2 := hu2.later BN
            replace T2 := T2.below BN
            obtain ⟨g1, hg⟩ : ∃ g, Uf152.heap.size = g := ⟨_, rfl⟩
            rw [hg] at T1 hg1 hd2 ⊢
            clear BN
            generalize Uf152.alloc (.cells #[.int .i64 0, .int .i64 0] 33) = Uf155 at hS T1 BV hu1 hu2 T2 ⊢
            clear hg
            refine nextL 6 rfl (by kernel_rfl) (by rfl) fun K hK => ?_
            have B := HBf1.out.trans (BV.mono HBf1.out.size)
            have dd := HSP.out Uf155 _ _ B hu1 hu2
            clear B
            go_simp
            refine dd.mono ?_
            clear dd
            rintro e Uf156 ⟨rfl, hb⟩
            refine hK _ _ ⟨hS.1.below hb, hS.2.below hb⟩ ?_
            clear hK K hS
            intro hS
            replace BV := BV.trans (hb.mono BV.size)
            replace hu1 := hu1.later hb
            replace hu2 := hu2.later hb
            replace T2 := T2.below hb
            replace T1 := T1.below hb
            clear hb
            refine takeL 7 (.tuple #[.agg #[.int .i64 G0.attr, .int .i64 G0.pos], .agg #[.int .i64 G1, .int .i64 H1]]) rfl (by kernel_rfl) (by kernel_rfl) (by kernel_rfl) (fun _ _ _ h => nomatch h.1) (.inl ⟨by rfl, fun w _ => by rfl⟩) hS ?_
            try simp only [Act.put, List.setIfInBounds_toArray, List.set_cons_zero, List.set_cons_succ]
            refine takeL 8 (.agg #[.int .i64 G0.attr, .int .i64 G0.pos]) rfl (by kernel_rfl) (by kernel_rfl) (by kernel_rfl) (fun _ _ _ h => nomatch h.1) (.inl ⟨by rfl, fun w _ => by rfl⟩) hS ?_
            try simp only [Act.put, List.setIfInBounds_toArray, List.set_cons_zero, List.set_cons_succ]
            refine takeL 9 (.agg #[.int .i64 G1, .int .i64 H1]) rfl (by kernel_rfl) (by kernel_rfl) (by kernel_rfl) (fun _ _ _ h => nomatch h.1) (.inl ⟨by rfl, fun w _ => by rfl⟩) hS ?_
            try simp only [Act.put, List.setIfInBounds_toArray, List.set_cons_zero, List.set_cons_succ]
            refine nextL 12 rfl (by kernel_rfl) (by rfl) fun K hK => ?_
            refine wp_fk_step _ _ rfl g1 _ _ _ _ rfl rfl T1 ?_
            simp only [Act.put]
            replace T2 := Blk.setRow_other T2 #[.int .i64 G0.attr, .int .i64 G0.pos] (show g2 ≠ g1 by omega)
            replace T1 := T1.setRow #[.int .i64 G0.attr, .int .i64 G0.pos]
            replace BV := below_row BV hg1 #[.int .i64 G0.attr, .int .i64 G0.pos]
            refine hK _ _ ⟨Blk.setRow_other hS.1 _ (by omega), Blk.setRow_other hS.2 _ (by omega)⟩ ?_
            clear hK K hS
            intro hS
            refine nextL 13 rfl (by kernel_rfl) (by rfl) fun K hK => ?_
            refine wp_fr_step _ _ rfl g2 _ _ _ _ rfl rfl T2 ?_
            simp only [Act.put]
            replace T1 := Blk.setRow_other T1 #[.int .i64 G1, .int .i64 H1] (show g1 ≠ g2 by omega)
            replace T2 := T2.setRow #[.int .i64 G1, .int .i64 H1]
            replace BV := below_row BV hg2 #[.int .i64 G1, .int .i64 H1]
            refine hK _ _ ⟨Blk.setRow_other hS.1 _ (by omega), Blk.setRow_other hS.2 _ (by omega)⟩ ?_
            clear hK K hS
            intro hS
            refine wpAnyH_done (by kernel_rfl) ?_ _
            exact ⟨rfl, g1, g2, u1, u2, by first | rfl | (simp only [Act.put, List.setIfInBounds_toArray, List.set_cons_zero, List.set_cons_succ]), hg1, hg2, by omega, T1, T2, BV⟩
        · have hd2 := T2.lt
          go_simp
          obtain ⟨T1, BN⟩ := blk_1 33 Uf151 #[.int .i64 0, .int .i64 0]
          have hg1 := BV.size
          refine hK _ _ ⟨hS.1.below BN, hS.2.below BN⟩ ?_
          clear hK K hS
          intro hS
          replace BV := BV.trans (BN.mono BV.size)
          replace hu1 := hu1.later BN
          replace T2 := T2.below BN
          obtain ⟨g1, hg⟩ : ∃ g, Uf151.heap.size = g := ⟨_, rfl⟩
          rw [hg] at T1 hg1 hd2 ⊢
          clear BN
          generalize Uf151.alloc (.cells #[.int .i64 0, .int .i64 0] 33) = Uf157 at hS T1 BV hu1 T2 ⊢
          clear hg
          refine nextL 3 rfl (by kernel_rfl) (by rfl) fun K hK => ?_
          have B := HBf1.out.trans (BV.mono HBf1.out.size)
          have dd := HTL1.out Uf157 B
          clear B
          go_simp
          refine dd.mono ?_
          clear dd
          rintro e Uf158 ⟨u2, rfl, hu2, hb⟩
          refine hK _ _ ⟨hS.1.below hb, hS.2.below hb⟩ ?_
          clear hK K hS
          intro hS
          replace BV := BV.trans (hb.mono BV.size)
          replace hu1 := hu1.later hb
          replace T2 := T2.below hb
          replace T1 := T1.below hb
          clear hb
          refine nextL 6 rfl (by kernel_rfl) (by rfl) fun K hK => ?_
          have B := HBf1.out.trans (BV.mono HBf1.out.size)
          have dd := HSP.out Uf158 _ _ B hu1 hu2
          clear B
          go_simp
          refine dd.mono ?_
          clear dd
          rintro e Uf159 ⟨rfl, hb⟩
          refine hK _ _ ⟨hS.1.below hb, hS.2.below hb⟩ ?_
          clear hK K hS
          intro hS
          replace BV := BV.trans (hb.mono BV.size)
          replace hu1 := hu1.later hb
          replace hu2 := hu2.later hb
          replace T2 := T2.below hb
          replace T1 := T1.below hb
          clear hb
          refine takeL 7 (.tuple #[.agg #[.int .i64 G0.attr, .int .i64 G0.pos], .agg #[.int .i64 G1, .int .i64 H1]]) rfl (by kernel_rfl) (by kernel_rfl) (by kernel_rfl) (fun _ _ _ h => nomatch h.1) (.inl ⟨by rfl, fun w _ => by rfl⟩) hS ?_
          try simp only [Act.put, List.setIfInBounds_toArray, List.set_cons_zero, List.set_cons_succ]
          refine takeL 8 (.agg #[.int .i64 G0.attr, .int .i64 G0.pos]) rfl (by kernel_rfl) (by kernel_rfl) (by kernel_rfl) (fun _ _ _ h => nomatch h.1) (.inl ⟨by rfl, fun w _ => by rfl⟩) hS ?_
          try simp only [Act.put, List.setIfInBounds_toArray, List.set_cons_zero, List.set_cons_succ]
          refine takeL 9 (.agg #[.int .i64 G1, .int .i64 H1]) rfl (by kernel_rfl) (by kernel_rfl) (by kernel_rfl) (fun _ _ _ h => nomatch h.1) (.inl ⟨by rfl, fun w _ => by rfl⟩) hS ?_
          try simp only [Act.put, List.setIfInBounds_toArray, List.set_cons_zero, List.set_cons_succ]
          refine nextL 12 rfl (by kernel_rfl) (by rfl) fun K hK => ?_
          refine wp_fk_step _ _ rfl g1 _ _ _ _ rfl rfl T1 ?_
          simp only [Act.put]
          replace T2 := Blk.setRow_other T2 #[.int .i64 G0.attr, .int .i64 G0.pos] (show g2 ≠ g1 by omega)
          replace T1 := T1.setRow #[.int .i64 G0.attr, .int .i64 G0.pos]
          replace BV := below_row BV hg1 #[.int .i64 G0.attr, .int .i64 G0.pos]
          refine hK _ _ ⟨Blk.setRow_other hS.1 _ (by omega), Blk.setRow_other hS.2 _ (by omega)⟩ ?_
          clear hK K hS
          intro hS
          refine nextL 13 rfl (by kernel_rfl) (by rfl) fun K hK => ?_
          refine wp_fr_step _ _ rfl g2 _ _ _ _ rfl rfl T2 ?_
          simp only [Act.put]
          replace T1 := Blk.setRow_other T1 #[.int .i64 G1, .int .i64 H1] (show g1 ≠ g2 by omega)
          replace T2 := T2.setRow #[.int .i64 G1, .int .i64 H1]
          replace BV := below_row BV hg2 #[.int .i64 G1, .int .i64 H1]
          refine hK _ _ ⟨Blk.setRow_other hS.1 _ (by omega), Blk.setRow_other hS.2 _ (by omega)⟩ ?_
          clear hK K hS
          intro hS
          refine wpAnyH_done (by kernel_rfl) ?_ _
          exact ⟨rfl, g1, g2, u1, u2, by first | rfl | (simp only [Act.put, List.setIfInBounds_toArray, List.set_cons_zero, List.set_cons_succ]), hg1, hg2, by omega, T1, T2, BV⟩
      · have hd2 := T2.lt
        go_simp
        obtain ⟨T1, BN⟩ := blk_1 33 Uf150 #[.int .i64 0, .int .i64 0]
        have hg1 := BV.size
        refine hK _ _ ⟨hS.1.below BN, hS.2.below BN⟩ ?_
        clear hK K hS
        intro hS
        replace BV := BV.trans (BN.mono BV.size)
        replace T2 := T2.below BN
        obtain ⟨g1, hg⟩ : ∃ g, Uf150.heap.size = g := ⟨_, rfl⟩
        rw [hg] at T1 hg1 hd2 ⊢
        clear BN
        generalize Uf150.alloc (.cells #[.int .i64 0, .int .i64 0] 33) = Uf160 at hS T1 BV T2 ⊢
        clear hg
        refine nextL 1 rfl (by kernel_rfl) (by rfl) fun K hK => ?_
        have B := HBf1.out.trans (BV.mono HBf1.out.size)
        have dd := HTL0.out Uf160 B
        clear B
        go_simp
        refine dd.mono ?_
        clear dd
        rintro e Uf161 ⟨u1, rfl, hu1, hb⟩
        refine hK _ _ ⟨hS.1.below hb, hS.2.below hb⟩ ?_
        clear hK K hS
        intro hS
        replace BV := BV.trans (hb.mono BV.size)
        replace T2 := T2.below hb
        replace T1 := T1.below hb
        clear hb
        refine nextL 3 rfl (by kernel_rfl) (by rfl) fun K hK => ?_
        have B := HBf1.out.trans (BV.mono HBf1.out.size)
        have dd := HTL1.out Uf161 B
        clear B
        go_simp
        refine dd.mono ?_
        clear dd
        rintro e Uf162 ⟨u2, rfl, hu2, hb⟩
        refine hK _ _ ⟨hS.1.below hb, hS.2.below hb⟩ ?_
        clear hK K hS
        intro hS
        replace BV := BV.trans (hb.mono BV.size)
        replace hu1 := hu1.later hb
        replace T2 := T2.below hb
        replace T1 := T1.below hb
        clear hb
        refine nextL 6 rfl (by kernel_rfl) (by rfl) fun K hK => ?_
        have B := HBf1.out.trans (BV.mono HBf1.out.size)
        have dd := HSP.out Uf162 _ _ B hu1 hu2
        clear B
        go_simp
        refine dd.mono ?_
        clear dd
        rintro e Uf163 ⟨rfl, hb⟩
        refine hK _ _ ⟨hS.1.below hb, hS.2.below hb⟩ ?_
        clear hK K hS
        intro hS
        replace BV := BV.trans (hb.mono BV.size)
        replace hu1 := hu1.later hb
        replace hu2 := hu2.later hb
        replace T2 := T2.below hb
        replace T1 := T1.below hb
        clear hb
        refine takeL 7 (.tuple #[.agg #[.int .i64 G0.attr, .int .i64 G0.pos], .agg #[.int .i64 G1, .int .i64 H1]]) rfl (by kernel_rfl) (by kernel_rfl) (by kernel_rfl) (fun _ _ _ h => nomatch h.1) (.inl ⟨by rfl, fun w _ => by rfl⟩) hS ?_
        try simp only [Act.put, List.setIfInBounds_toArray, List.set_cons_zero, List.set_cons_succ]
        refine takeL 8 (.agg #[.int .i64 G0.attr, .int .i64 G0.pos]) rfl (by kernel_rfl) (by kernel_rfl) (by kernel_rfl) (fun _ _ _ h => nomatch h.1) (.inl ⟨by rfl, fun w _ => by rfl⟩) hS ?_
        try simp only [Act.put, List.setIfInBounds_toArray, List.set_cons_zero, List.set_cons_succ]
        refine takeL 9 (.agg #[.int .i64 G1, .int .i64 H1]) rfl (by kernel_rfl) (by kernel_rfl) (by kernel_rfl) (fun _ _ _ h => nomatch h.1) (.inl ⟨by rfl, fun w _ => by rfl⟩) hS ?_
        try simp only [Act.put, List.setIfInBounds_toArray, List.set_cons_zero, List.set_cons_succ]
        refine nextL 12 rfl (by kernel_rfl) (by rfl) fun K hK => ?_
        refine wp_fk_step _ _ rfl g1 _ _ _ _ rfl rfl T1 ?_
        simp only [Act.put]
        replace T2 := Blk.setRow_other T2 #[.int .i64 G0.attr, .int .i64 G0.pos] (show g2 ≠ g1 by omega)
        replace T1 := T1.setRow #[.int .i64 G0.attr, .int .i64 G0.pos]
        replace BV := below_row BV hg1 #[.int .i64 G0.attr, .int .i64 G0.pos]
        refine hK _ _ ⟨Blk.setRow_other hS.1 _ (by omega), Blk.setRow_other hS.2 _ (by omega)⟩ ?_
        clear hK K hS
        intro hS
        refine nextL 13 rfl (by kernel_rfl) (by rfl) fun K hK => ?_
        refine wp_fr_step _ _ rfl g2 _ _ _ _ rfl rfl T2 ?_
        simp only [Act.put]
        replace T1 := Blk.setRow_other T1 #[.int .i64 G1, .int .i64 H1] (show g1 ≠ g2 by omega)
        replace T2 := T2.setRow #[.int .i64 G1, .int .i64 H1]
        replace BV := below_row BV hg2 #[.int .i64 G1, .int .i64 H1]
        refine hK _ _ ⟨Blk.setRow_other hS.1 _ (by omega), Blk.setRow_other hS.2 _ (by omega)⟩ ?_
        clear hK K hS
        intro hS
        refine wpAnyH_done (by kernel_rfl) ?_ _
        exact ⟨rfl, g1, g2, u1, u2, by first | rfl | (simp only [Act.put, List.setIfInBounds_toArray, List.set_cons_zero, List.set_cons_succ]), hg1, hg2, by omega, T1, T2, BV⟩
  rintro a9 w3 ⟨q1f1, q2f1, _, _, rfl, hq1f1, hq2f1, hqnf1, KAf1, KBf1, hb⟩
  simp only [Act.put, List.setIfInBounds_toArray, List.set_cons_zero, List.set_cons_succ]
  replace B := B.trans (hb.mono B.size)
  replace KA0 := KA0.below hb
  replace KA1 := KA1.below hb
  clear hb HKf1 HBf1 hlf1KA0 hlf1KA1
  have cc := HTL0.out w3 B
  have kKA00 : w3.cell? ⟨w.heap.size, 0, none⟩ = some (.slice o01 a0.attrs.length c01) := KA0.cell 0
  have kKA01 : w3.cell? ⟨w.heap.size, 1, none⟩ = some (.slice o02 a0.classes.length c02) := KA0.cell 1
  have kKA10 : w3.cell? ⟨w.heap.size + 1, 0, none⟩ = some (.slice o11 a1.totals.length c11) := KA1.cell 0
  have kKA11 : w3.cell? ⟨w.heap.size + 1, 1, none⟩ = some (.slice o12 a1.cells.length c12) := KA1.cell 1
  have kKAf10 : w3.cell? ⟨q1f1, 0, none⟩ = some (.int .i64 G0.attr) := KAf1.cell 0
  have kKAf11 : w3.cell? ⟨q1f1, 1, none⟩ = some (.int .i64 G0.pos) := KAf1.cell 1
  have kKBf10 : w3.cell? ⟨q2f1, 0, none⟩ = some (.int .i64 G1) := KBf1.cell 0
  have kKBf11 : w3.cell? ⟨q2f1, 1, none⟩ = some (.int .i64 H1) := KBf1.cell 1
  go_wp2_with fail
  refine cc.mono ?_
  clear cc
  clear kKA00 kKA01 kKA10 kKA11 kKAf10 kKAf11 kKBf10 kKBf11
  rintro e w4 ⟨u3, rfl, hu3, hb⟩
  replace B := B.trans (hb.mono B.size)
  replace KA0 := KA0.below hb
  replace KA1 := KA1.below hb
  replace KAf1 := KAf1.below hb
  replace KBf1 := KBf1.below hb
  clear hb
  have HX0 : Hid (SchemaAt w4 u3 a0) := hu3
  clear hu3
  obtain ⟨y1, y2, rfl, rr1, rr2⟩ := id HX0.out
  obtain ⟨p01, d01, rfl, -, -⟩ := id rr1
  obtain ⟨p02, d02, rfl, -, -⟩ := id rr2
  clear rr1 rr2
  have hx0 := HX0.out
  clear HX0
  obtain ⟨KX0, BN⟩ := blk_1 40 w4 #[.slice p01 a0.attrs.length d01, .slice p02 a0.classes.length d02]
  replace B := B.trans (BN.mono B.size)
  replace hx0 := hx0.later BN
  replace KA0 := KA0.below BN
  replace KA1 := KA1.below BN
  replace KAf1 := KAf1.below BN
  replace KBf1 := KBf1.below BN
  clear BN
  have cc := HTL1.out (w4.alloc (.cells #[.slice p01 a0.attrs.length d01, .slice p02 a0.classes.length d02] 40)) B
  have kKA00 : (w4.alloc (.cells #[.slice p01 a0.attrs.length d01, .slice p02 a0.classes.length d02] 40)).cell? ⟨w.heap.size, 0, none⟩ = some (.slice o01 a0.attrs.length c01) := KA0.cell 0
  have kKA01 : (w4.alloc (.cells #[.slice p01 a0.attrs.length d01, .slice p02 a0.classes.length d02] 40)).cell? ⟨w.heap.size, 1, none⟩ = some (.slice o02 a0.classes.length c02) := KA0.cell 1
  have kKA10 : (w4.alloc (.cells #[.slice p01 a0.attrs.length d01, .slice p02 a0.classes.length d02] 40)).cell? ⟨w.heap.size + 1, 0, none⟩ = some (.slice o11 a1.totals.length c11) := KA1.cell 0
  have kKA11 : (w4.alloc (.cells #[.slice p01 a0.attrs.length d01, .slice p02 a0.classes.length d02] 40)).cell? ⟨w.heap.size + 1, 1, none⟩ = some (.slice o12 a1.cells.length c12) := KA1.cell 1
  have kKAf10 : (w4.alloc (.cells #[.slice p01 a0.attrs.length d01, .slice p02 a0.classes.length d02] 40)).cell? ⟨q1f1, 0, none⟩ = some (.int .i64 G0.attr) := KAf1.cell 0
  have kKAf11 : (w4.alloc (.cells #[.slice p01 a0.attrs.length d01, .slice p02 a0.classes.length d02] 40)).cell? ⟨q1f1, 1, none⟩ = some (.int .i64 G0.pos) := KAf1.cell 1
  have kKBf10 : (w4.alloc (.cells #[.slice p01 a0.attrs.length d01, .slice p02 a0.classes.length d02] 40)).cell? ⟨q2f1, 0, none⟩ = some (.int .i64 G1) := KBf1.cell 0
  have kKBf11 : (w4.alloc (.cells #[.slice p01 a0.attrs.length d01, .slice p02 a0.classes.length d02] 40)).cell? ⟨q2f1, 1, none⟩ = some (.int .i64 H1) := KBf1.cell 1
  have kKX00 : (w4.alloc (.cells #[.slice p01 a0.attrs.length d01, .slice p02 a0.classes.length d02] 40)).cell? ⟨w4.heap.size, 0, none⟩ = some (.slice p01 a0.attrs.length d01) := KX0.cell 0
  have kKX01 : (w4.alloc (.cells #[.slice p01 a0.attrs.length d01, .slice p02 a0.classes.length d02] 40)).cell? ⟨w4.heap.size, 1, none⟩ = some (.slice p02 a0.classes.length d02) := KX0.cell 1
  go_wp2_with fail
  refine cc.mono ?_
  clear cc
  clear kKA00 kKA01 kKA10 kKA11 kKAf10 kKAf11 kKBf10 kKBf11 kKX00 kKX01
  rintro e w5 ⟨u4, rfl, hu4, hb⟩
  replace B := B.trans (hb.mono B.size)
  replace hx0 := hx0.later hb
  replace KA0 := KA0.below hb
  replace KA1 := KA1.below hb
  replace KAf1 := KAf1.below hb
  replace KBf1 := KBf1.below hb
  replace KX0 := KX0.below hb
  clear hb
  have HX1 : Hid (StatsAt w5 u4 a1) := hu4
  clear hu4
  obtain ⟨y1, y2, rfl, rr1, rr2⟩ := id HX1.out
  obtain ⟨p11, d11, rfl, -, -⟩ := id rr1
  obtain ⟨p12, d12, rfl, -, -⟩ := id rr2
  clear rr1 rr2
  have hx1 := HX1.out
  clear HX1
  obtain ⟨KX1, BN⟩ := blk_1 42 w5 #[.slice p11 a1.totals.length d11, .slice p12 a1.cells.length d12]
  replace B := B.trans (BN.mono B.size)
  replace hx0 := hx0.later BN
  replace hx1 := hx1.later BN
  replace KA0 := KA0.below BN
  replace KA1 := KA1.below BN
  replace KAf1 := KAf1.below BN
  replace KBf1 := KBf1.below BN
  replace KX0 := KX0.below BN
  clear BN
  have cc := HI.out (w5.alloc (.cells #[.slice p11 a1.totals.length d11, .slice p12 a1.cells.length d12] 42)) _ _ B hx0 hx1
  have kKA00 : (w5.alloc (.cells #[.slice p11 a1.totals.length d11, .slice p12 a1.cells.length d12] 42)).cell? ⟨w.heap.size, 0, none⟩ = some (.slice o01 a0.attrs.length c01) := KA0.cell 0
  have kKA01 : (w5.alloc (.cells #[.slice p11 a1.totals.length d11, .slice p12 a1.cells.length d12] 42)).cell? ⟨w.heap.size, 1, none⟩ = some (.slice o02 a0.classes.length c02) := KA0.cell 1
  have kKA10 : (w5.alloc (.cells #[.slice p11 a1.totals.length d11, .slice p12 a1.cells.length d12] 42)).cell? ⟨w.heap.size + 1, 0, none⟩ = some (.slice o11 a1.totals.length c11) := KA1.cell 0
  have kKA11 : (w5.alloc (.cells #[.slice p11 a1.totals.length d11, .slice p12 a1.cells.length d12] 42)).cell? ⟨w.heap.size + 1, 1, none⟩ = some (.slice o12 a1.cells.length c12) := KA1.cell 1
  have kKAf10 : (w5.alloc (.cells #[.slice p11 a1.totals.length d11, .slice p12 a1.cells.length d12] 42)).cell? ⟨q1f1, 0, none⟩ = some (.int .i64 G0.attr) := KAf1.cell 0
  have kKAf11 : (w5.alloc (.cells #[.slice p11 a1.totals.length d11, .slice p12 a1.cells.length d12] 42)).cell? ⟨q1f1, 1, none⟩ = some (.int .i64 G0.pos) := KAf1.cell 1
  have kKBf10 : (w5.alloc (.cells #[.slice p11 a1.totals.length d11, .slice p12 a1.cells.length d12] 42)).cell? ⟨q2f1, 0, none⟩ = some (.int .i64 G1) := KBf1.cell 0
  have kKBf11 : (w5.alloc (.cells #[.slice p11 a1.totals.length d11, .slice p12 a1.cells.length d12] 42)).cell? ⟨q2f1, 1, none⟩ = some (.int .i64 H1) := KBf1.cell 1
  have kKX00 : (w5.alloc (.cells #[.slice p11 a1.totals.length d11, .slice p12 a1.cells.length d12] 42)).cell? ⟨w4.heap.size, 0, none⟩ = some (.slice p01 a0.attrs.length d01) := KX0.cell 0
  have kKX01 : (w5.alloc (.cells #[.slice p11 a1.totals.length d11, .slice p12 a1.cells.length d12] 42)).cell? ⟨w4.heap.size, 1, none⟩ = some (.slice p02 a0.classes.length d02) := KX0.cell 1
  have kKX10 : (w5.alloc (.cells #[.slice p11 a1.totals.length d11, .slice p12 a1.cells.length d12] 42)).cell? ⟨w5.heap.size, 0, none⟩ = some (.slice p11 a1.totals.length d11) := KX1.cell 0
  have kKX11 : (w5.alloc (.cells #[.slice p11 a1.totals.length d11, .slice p12 a1.cells.length d12] 42)).cell? ⟨w5.heap.size, 1, none⟩ = some (.slice p12 a1.cells.length d12) := KX1.cell 1
  go_wp2_with fail
  refine cc.mono ?_
  clear cc
  clear kKA00 kKA01 kKA10 kKA11 kKAf10 kKAf11 kKBf10 kKBf11 kKX00 kKX01 kKX10 kKX11
  rintro e w6 ⟨rfl, hb⟩
  replace B := B.trans (hb.mono B.size)
  replace hx0 := hx0.later hb
  replace hx1 := hx1.later hb
  replace KA0 := KA0.below hb
  replace KA1 := KA1.below hb
  replace KAf1 := KAf1.below hb
  replace KBf1 := KBf1.below hb
  replace KX0 := KX0.below hb
  replace KX1 := KX1.below hb
  clear hb
  obtain ⟨KC1, KC2, BN⟩ := blk_2 33 35 w6 #[.int .i64 0, .int .i64 0] #[.int .i64 0, .int .i64 0]
  have Z1 := KC1
  replace KC2 := Blk.setRow_other KC2 #[.int .i64 G0.attr, .int .i64 G0.pos] (show w6.heap.size + 1 ≠ w6.heap.size by omega)
  have Z2 := KC2
  replace KC1 := Blk.setRow_other (KC1.setRow #[.int .i64 G0.attr, .int .i64 G0.pos]) #[.int .i64 G1, .int .i64 H1] (show w6.heap.size ≠ w6.heap.size + 1 by omega)
  replace KC2 := KC2.setRow #[.int .i64 G1, .int .i64 H1]
  have BM : Below w6.heap.size w6 ((((w6.alloc (.cells #[.int .i64 0, .int .i64 0] 33)).alloc (.cells #[.int .i64 0, .int .i64 0] 35)).setRow w6.heap.size #[.int .i64 G0.attr, .int .i64 G0.pos]).setRow (w6.heap.size + 1) #[.int .i64 G1, .int .i64 H1]) := below_row (below_row BN (Nat.le_refl _) _) (by omega) _
  replace B := B.trans (BM.mono B.size)
  replace hx0 := hx0.later BM
  replace hx1 := hx1.later BM
  replace KA0 := KA0.below BM
  replace KA1 := KA1.below BM
  replace KAf1 := KAf1.below BM
  replace KBf1 := KBf1.below BM
  replace KX0 := KX0.below BM
  replace KX1 := KX1.below BM
  clear BM BN
  have cc := eqFork_any G0 ((((w6.alloc (.cells #[.int .i64 0, .int .i64 0] 33)).alloc (.cells #[.int .i64 0, .int .i64 0] 35)).setRow w6.heap.size #[.int .i64 G0.attr, .int .i64 G0.pos]).setRow (w6.heap.size + 1) #[.int .i64 G1, .int .i64 H1])
  have kKA00 : ((((w6.alloc (.cells #[.int .i64 0, .int .i64 0] 33)).alloc (.cells #[.int .i64 0, .int .i64 0] 35)).setRow w6.heap.size #[.int .i64 G0.attr, .int .i64 G0.pos]).setRow (w6.heap.size + 1) #[.int .i64 G1, .int .i64 H1]).cell? ⟨w.heap.size, 0, none⟩ = some (.slice o01 a0.attrs.length c01) := KA0.cell 0
  have kKA01 : ((((w6.alloc (.cells #[.int .i64 0, .int .i64 0] 33)).alloc (.cells #[.int .i64 0, .int .i64 0] 35)).setRow w6.heap.size #[.int .i64 G0.attr, .int .i64 G0.pos]).setRow (w6.heap.size + 1) #[.int .i64 G1, .int .i64 H1]).cell? ⟨w.heap.size, 1, none⟩ = some (.slice o02 a0.classes.length c02) := KA0.cell 1
  have kKA10 : ((((w6.alloc (.cells #[.int .i64 0, .int .i64 0] 33)).alloc (.cells #[.int .i64 0, .int .i64 0] 35)).setRow w6.heap.size #[.int .i64 G0.attr, .int .i64 G0.pos]).setRow (w6.heap.size + 1) #[.int .i64 G1, .int .i64 H1]).cell? ⟨w.heap.size + 1, 0, none⟩ = some (.slice o11 a1.totals.length c11) := KA1.cell 0
  have kKA11 : ((((w6.alloc (.cells #[.int .i64 0, .int .i64 0] 33)).alloc (.cells #[.int .i64 0, .int .i64 0] 35)).setRow w6.heap.size #[.int .i64 G0.attr, .int .i64 G0.pos]).setRow (w6.heap.size + 1) #[.int .i64 G1, .int .i64 H1]).cell? ⟨w.heap.size + 1, 1, none⟩ = some (.slice o12 a1.cells.length c12) := KA1.cell 1
  have kKAf10 : ((((w6.alloc (.cells #[.int .i64 0, .int .i64 0] 33)).alloc (.cells #[.int .i64 0, .int .i64 0] 35)).setRow w6.heap.size #[.int .i64 G0.attr, .int .i64 G0.pos]).setRow (w6.heap.size + 1) #[.int .i64 G1, .int .i64 H1]).cell? ⟨q1f1, 0, none⟩ = some (.int .i64 G0.attr) := KAf1.cell 0
  have kKAf11 : ((((w6.alloc (.cells #[.int .i64 0, .int .i64 0] 33)).alloc (.cells #[.int .i64 0, .int .i64 0] 35)).setRow w6.heap.size #[.int .i64 G0.attr, .int .i64 G0.pos]).setRow (w6.heap.size + 1) #[.int .i64 G1, .int .i64 H1]).cell? ⟨q1f1, 1, none⟩ = some (.int .i64 G0.pos) := KAf1.cell 1
  have kKBf10 : ((((w6.alloc (.cells #[.int .i64 0, .int .i64 0] 33)).alloc (.cells #[.int .i64 0, .int .i64 0] 35)).setRow w6.heap.size #[.int .i64 G0.attr, .int .i64 G0.pos]).setRow (w6.heap.size + 1) #[.int .i64 G1, .int .i64 H1]).cell? ⟨q2f1, 0, none⟩ = some (.int .i64 G1) := KBf1.cell 0
  have kKBf11 : ((((w6.alloc (.cells #[.int .i64 0, .int .i64 0] 33)).alloc (.cells #[.int .i64 0, .int .i64 0] 35)).setRow w6.heap.size #[.int .i64 G0.attr, .int .i64 G0.pos]).setRow (w6.heap.size + 1) #[.int .i64 G1, .int .i64 H1]).cell? ⟨q2f1, 1, none⟩ = some (.int .i64 H1) := KBf1.cell 1
  have kKX00 : ((((w6.alloc (.cells #[.int .i64 0, .int .i64 0] 33)).alloc (.cells #[.int .i64 0, .int .i64 0] 35)).setRow w6.heap.size #[.int .i64 G0.attr, .int .i64 G0.pos]).setRow (w6.heap.size + 1) #[.int .i64 G1, .int .i64 H1]).cell? ⟨w4.heap.size, 0, none⟩ = some (.slice p01 a0.attrs.length d01) := KX0.cell 0
  have kKX01 : ((((w6.alloc (.cells #[.int .i64 0, .int .i64 0] 33)).alloc (.cells #[.int .i64 0, .int .i64 0] 35)).setRow w6.heap.size #[.int .i64 G0.attr, .int .i64 G0.pos]).setRow (w6.heap.size + 1) #[.int .i64 G1, .int .i64 H1]).cell? ⟨w4.heap.size, 1, none⟩ = some (.slice p02 a0.classes.length d02) := KX0.cell 1
  have kKX10 : ((((w6.alloc (.cells #[.int .i64 0, .int .i64 0] 33)).alloc (.cells #[.int .i64 0, .int .i64 0] 35)).setRow w6.heap.size #[.int .i64 G0.attr, .int .i64 G0.pos]).setRow (w6.heap.size + 1) #[.int .i64 G1, .int .i64 H1]).cell? ⟨w5.heap.size, 0, none⟩ = some (.slice p11 a1.totals.length d11) := KX1.cell 0
  have kKX11 : ((((w6.alloc (.cells #[.int .i64 0, .int .i64 0] 33)).alloc (.cells #[.int .i64 0, .int .i64 0] 35)).setRow w6.heap.size #[.int .i64 G0.attr, .int .i64 G0.pos]).setRow (w6.heap.size + 1) #[.int .i64 G1, .int .i64 H1]).cell? ⟨w5.heap.size, 1, none⟩ = some (.slice p12 a1.cells.length d12) := KX1.cell 1
  have kKC10 : ((((w6.alloc (.cells #[.int .i64 0, .int .i64 0] 33)).alloc (.cells #[.int .i64 0, .int .i64 0] 35)).setRow w6.heap.size #[.int .i64 G0.attr, .int .i64 G0.pos]).setRow (w6.heap.size + 1) #[.int .i64 G1, .int .i64 H1]).cell? ⟨w6.heap.size, 0, none⟩ = some (.int .i64 G0.attr) := KC1.cell 0
  have kKC11 : ((((w6.alloc (.cells #[.int .i64 0, .int .i64 0] 33)).alloc (.cells #[.int .i64 0, .int .i64 0] 35)).setRow w6.heap.size #[.int .i64 G0.attr, .int .i64 G0.pos]).setRow (w6.heap.size + 1) #[.int .i64 G1, .int .i64 H1]).cell? ⟨w6.heap.size, 1, none⟩ = some (.int .i64 G0.pos) := KC1.cell 1
  have kKC20 : ((((w6.alloc (.cells #[.int .i64 0, .int .i64 0] 33)).alloc (.cells #[.int .i64 0, .int .i64 0] 35)).setRow w6.heap.size #[.int .i64 G0.attr, .int .i64 G0.pos]).setRow (w6.heap.size + 1) #[.int .i64 G1, .int .i64 H1]).cell? ⟨w6.heap.size + 1, 0, none⟩ = some (.int .i64 G1) := KC2.cell 0
  have kKC21 : ((((w6.alloc (.cells #[.int .i64 0, .int .i64 0] 33)).alloc (.cells #[.int .i64 0, .int .i64 0] 35)).setRow w6.heap.size #[.int .i64 G0.attr, .int .i64 G0.pos]).setRow (w6.heap.size + 1) #[.int .i64 G1, .int .i64 H1]).cell? ⟨w6.heap.size + 1, 1, none⟩ = some (.int .i64 H1) := KC2.cell 1
  go_wp2_with (first | (with_reducible refine wp_fk_store rfl _ _ rfl ?_; refine ⟨_, rfl, _, _, rfl, _, _, Z1, ?_⟩) | (refine wp_fr_store rfl _ _ rfl ?_; refine ⟨_, rfl, _, _, rfl, _, _, Z2, ?_⟩))
  refine cc.mono ?_
  clear cc Z1 Z2
  clear kKA00 kKA01 kKA10 kKA11 kKAf10 kKAf11 kKBf10 kKBf11 kKX00 kKX01 kKX10 kKX11 kKC10 kKC11 kKC20 kKC21
  rintro e w7 ⟨rfl, hb⟩
  replace B := B.trans (hb.mono B.size)
  replace hx0 := hx0.later hb
  replace hx1 := hx1.later hb
  replace KA0 := KA0.below hb
  replace KA1 := KA1.below hb
  replace KAf1 := KAf1.below hb
  replace KBf1 := KBf1.below hb
  replace KX0 := KX0.below hb
  replace KX1 := KX1.below hb
  replace KC1 := KC1.below hb
  replace KC2 := KC2.below hb
  clear hb
  have cc := eqFrac_same G1 H1 w7
  have kKA00 : w7.cell? ⟨w.heap.size, 0, none⟩ = some (.slice o01 a0.attrs.length c01) := KA0.cell 0
  have kKA01 : w7.cell? ⟨w.heap.size, 1, none⟩ = some (.slice o02 a0.classes.length c02) := KA0.cell 1
  have kKA10 : w7.cell? ⟨w.heap.size + 1, 0, none⟩ = some (.slice o11 a1.totals.length c11) := KA1.cell 0
  have kKA11 : w7.cell? ⟨w.heap.size + 1, 1, none⟩ = some (.slice o12 a1.cells.length c12) := KA1.cell 1
  have kKAf10 : w7.cell? ⟨q1f1, 0, none⟩ = some (.int .i64 G0.attr) := KAf1.cell 0
  have kKAf11 : w7.cell? ⟨q1f1, 1, none⟩ = some (.int .i64 G0.pos) := KAf1.cell 1
  have kKBf10 : w7.cell? ⟨q2f1, 0, none⟩ = some (.int .i64 G1) := KBf1.cell 0
  have kKBf11 : w7.cell? ⟨q2f1, 1, none⟩ = some (.int .i64 H1) := KBf1.cell 1
  have kKX00 : w7.cell? ⟨w4.heap.size, 0, none⟩ = some (.slice p01 a0.attrs.length d01) := KX0.cell 0
  have kKX01 : w7.cell? ⟨w4.heap.size, 1, none⟩ = some (.slice p02 a0.classes.length d02) := KX0.cell 1
  have kKX10 : w7.cell? ⟨w5.heap.size, 0, none⟩ = some (.slice p11 a1.totals.length d11) := KX1.cell 0
  have kKX11 : w7.cell? ⟨w5.heap.size, 1, none⟩ = some (.slice p12 a1.cells.length d12) := KX1.cell 1
  have kKC10 : w7.cell? ⟨w6.heap.size, 0, none⟩ = some (.int .i64 G0.attr) := KC1.cell 0
  have kKC11 : w7.cell? ⟨w6.heap.size, 1, none⟩ = some (.int .i64 G0.pos) := KC1.cell 1
  have kKC20 : w7.cell? ⟨w6.heap.size + 1, 0, none⟩ = some (.int .i64 G1) := KC2.cell 0
  have kKC21 : w7.cell? ⟨w6.heap.size + 1, 1, none⟩ = some (.int .i64 H1) := KC2.cell 1
  go_wp2_with fail
  refine cc.mono ?_
  clear cc
  clear kKA00 kKA01 kKA10 kKA11 kKAf10 kKAf11 kKBf10 kKBf11 kKX00 kKX01 kKX10 kKX11 kKC10 kKC11 kKC20 kKC21
  rintro e w8 ⟨rfl, hb⟩
  replace B := B.trans (hb.mono B.size)
  replace hx0 := hx0.later hb
  replace hx1 := hx1.later hb
  replace KA0 := KA0.below hb
  replace KA1 := KA1.below hb
  replace KAf1 := KAf1.below hb
  replace KBf1 := KBf1.below hb
  replace KX0 := KX0.below hb
  replace KX1 := KX1.below hb
  replace KC1 := KC1.below hb
  replace KC2 := KC2.below hb
  clear hb
  have kKA00 : w8.cell? ⟨w.heap.size, 0, none⟩ = some (.slice o01 a0.attrs.length c01) := KA0.cell 0
  have kKA01 : w8.cell? ⟨w.heap.size, 1, none⟩ = some (.slice o02 a0.classes.length c02) := KA0.cell 1
  have kKA10 : w8.cell? ⟨w.heap.size + 1, 0, none⟩ = some (.slice o11 a1.totals.length c11) := KA1.cell 0
  have kKA11 : w8.cell? ⟨w.heap.size + 1, 1, none⟩ = some (.slice o12 a1.cells.length c12) := KA1.cell 1
  have kKAf10 : w8.cell? ⟨q1f1, 0, none⟩ = some (.int .i64 G0.attr) := KAf1.cell 0
  have kKAf11 : w8.cell? ⟨q1f1, 1, none⟩ = some (.int .i64 G0.pos) := KAf1.cell 1
  have kKBf10 : w8.cell? ⟨q2f1, 0, none⟩ = some (.int .i64 G1) := KBf1.cell 0
  have kKBf11 : w8.cell? ⟨q2f1, 1, none⟩ = some (.int .i64 H1) := KBf1.cell 1
  have kKX00 : w8.cell? ⟨w4.heap.size, 0, none⟩ = some (.slice p01 a0.attrs.length d01) := KX0.cell 0
  have kKX01 : w8.cell? ⟨w4.heap.size, 1, none⟩ = some (.slice p02 a0.classes.length d02) := KX0.cell 1
  have kKX10 : w8.cell? ⟨w5.heap.size, 0, none⟩ = some (.slice p11 a1.totals.length d11) := KX1.cell 0
  have kKX11 : w8.cell? ⟨w5.heap.size, 1, none⟩ = some (.slice p12 a1.cells.length d12) := KX1.cell 1
  have kKC10 : w8.cell? ⟨w6.heap.size, 0, none⟩ = some (.int .i64 G0.attr) := KC1.cell 0
  have kKC11 : w8.cell? ⟨w6.heap.size, 1, none⟩ = some (.int .i64 G0.pos) := KC1.cell 1
  have kKC20 : w8.cell? ⟨w6.heap.size + 1, 0, none⟩ = some (.int .i64 G1) := KC2.cell 0
  have kKC21 : w8.cell? ⟨w6.heap.size + 1, 1, none⟩ = some (.int .i64 H1) := KC2.cell 1
  go_wp2_with fail
  clear kKA00 kKA01 kKA10 kKA11 kKAf10 kKAf11 kKBf10 kKBf11 kKX00 kKX01 kKX10 kKX11 kKC10 kKC11 kKC20 kKC21
  refine wp_region_held_drew (S := fun w' => Blk 25 w' (w.heap.size) #[.slice o01 a0.attrs.length c01, .slice o02 a0.classes.length c02] ∧ Blk 29 w' (w.heap.size + 1) #[.slice o11 a1.totals.length c11, .slice o12 a1.cells.length c12] ∧ Blk 33 w' (q1f1) #[.int .i64 G0.attr, .int .i64 G0.pos] ∧ Blk 35 w' (q2f1) #[.int .i64 G1, .int .i64 H1] ∧ Blk 40 w' (w4.heap.size) #[.slice p01 a0.attrs.length d01, .slice p02 a0.classes.length d02] ∧ Blk 42 w' (w5.heap.size) #[.slice p11 a1.totals.length d11, .slice p12 a1.cells.length d12] ∧ Blk 33 w' (w6.heap.size) #[.int .i64 G0.attr, .int .i64 G0.pos] ∧ Blk 35 w' (w6.heap.size + 1) #[.int .i64 G1, .int .i64 H1]) (by kernel_rfl) ⟨KA0, KA1, KAf1, KBf1, KX0, KX1, KC1, KC2⟩ ?_
  intro hS
  have bd : Below w8.heap.size w8 w8.drew := below_drewN (Below.refl _ _) 1
  replace B := B.trans (bd.mono B.size)
  replace hx0 := hx0.later bd
  replace hx1 := hx1.later bd
  clear bd KA0 KA1 KAf1 KBf1 KX0 KX1 KC1 KC2
  generalize w8.drew = w9 at hS B hx0 hx1 ⊢
  refine takeL 0 (.agg #[.slice p01 a0.attrs.length d01, .slice p02 a0.classes.length d02]) rfl (by kernel_rfl) (by kernel_rfl) (by kernel_rfl) (fun _ _ _ h => h) (yields_row Tryz.underlying40 (by kernel_rfl) (by rfl) _ rfl _ rfl (fun _ h => h.2.2.2.2.1)) hS ?_
  try simp only [Act.put, List.setIfInBounds_toArray, List.set_cons_zero, List.set_cons_succ]
  refine takeL 1 (.agg #[.slice o01 a0.attrs.length c01, .slice o02 a0.classes.length c02]) rfl (by kernel_rfl) (by kernel_rfl) (by kernel_rfl) (fun _ _ _ h => h) (yields_row Tryz.underlying25 (by kernel_rfl) (by rfl) _ rfl _ rfl (fun _ h => h.1)) hS ?_
  try simp only [Act.put, List.setIfInBounds_toArray, List.set_cons_zero, List.set_cons_succ]
  refine nextL 2 rfl (by kernel_rfl) (by rfl) fun K hK => ?_
  have dd := HTL0.out w9 B
  go_simp
  refine dd.mono ?_
  clear dd
  rintro e w10 ⟨u5, rfl, hu5, hb⟩
  refine hK _ _ ⟨hS.1.below hb, hS.2.1.below hb, hS.2.2.1.below hb, hS.2.2.2.1.below hb, hS.2.2.2.2.1.below hb, hS.2.2.2.2.2.1.below hb, hS.2.2.2.2.2.2.1.below hb, hS.2.2.2.2.2.2.2.below hb⟩ ?_
  clear hK K hS
  intro hS
  replace B := B.trans (hb.mono B.size)
  replace hx0 := hx0.later hb
  replace hx1 := hx1.later hb
  clear hb
  refine nextL 3 rfl (by kernel_rfl) (by rfl) fun K hK => ?_
  have dd := eqSchema_row _ _ a0 w10 hx0 hu5 HF0.out.ok
  go_simp
  refine dd.mono ?_
  clear dd
  rintro e w11 ⟨rfl, hb⟩
  refine hK _ _ ⟨hS.1.below hb, hS.2.1.below hb, hS.2.2.1.below hb, hS.2.2.2.1.below hb, hS.2.2.2.2.1.below hb, hS.2.2.2.2.2.1.below hb, hS.2.2.2.2.2.2.1.below hb, hS.2.2.2.2.2.2.2.below hb⟩ ?_
  clear hK K hS
  intro hS
  replace B := B.trans (hb.mono B.size)
  replace hx0 := hx0.later hb
  replace hx1 := hx1.later hb
  replace hu5 := hu5.later hb
  clear hb
  refine takeL 4 (.bool false) rfl (by kernel_rfl) (by kernel_rfl) (by kernel_rfl) (fun _ _ _ h => h) (.inl ⟨by rfl, fun w hw => by (unfold execOp; go_simp)⟩) hS ?_
  try simp only [Act.put, List.setIfInBounds_toArray, List.set_cons_zero, List.set_cons_succ]
  refine wpAnyH_done (by kernel_rfl) ?_ _
  obtain ⟨KA0, KA1, KAf1, KBf1, KX0, KX1, KC1, KC2⟩ := hS
  have kKA00 : w11.cell? ⟨w.heap.size, 0, none⟩ = some (.slice o01 a0.attrs.length c01) := KA0.cell 0
  have kKA01 : w11.cell? ⟨w.heap.size, 1, none⟩ = some (.slice o02 a0.classes.length c02) := KA0.cell 1
  have kKA10 : w11.cell? ⟨w.heap.size + 1, 0, none⟩ = some (.slice o11 a1.totals.length c11) := KA1.cell 0
  have kKA11 : w11.cell? ⟨w.heap.size + 1, 1, none⟩ = some (.slice o12 a1.cells.length c12) := KA1.cell 1
  have kKAf10 : w11.cell? ⟨q1f1, 0, none⟩ = some (.int .i64 G0.attr) := KAf1.cell 0
  have kKAf11 : w11.cell? ⟨q1f1, 1, none⟩ = some (.int .i64 G0.pos) := KAf1.cell 1
  have kKBf10 : w11.cell? ⟨q2f1, 0, none⟩ = some (.int .i64 G1) := KBf1.cell 0
  have kKBf11 : w11.cell? ⟨q2f1, 1, none⟩ = some (.int .i64 H1) := KBf1.cell 1
  have kKX00 : w11.cell? ⟨w4.heap.size, 0, none⟩ = some (.slice p01 a0.attrs.length d01) := KX0.cell 0
  have kKX01 : w11.cell? ⟨w4.heap.size, 1, none⟩ = some (.slice p02 a0.classes.length d02) := KX0.cell 1
  have kKX10 : w11.cell? ⟨w5.heap.size, 0, none⟩ = some (.slice p11 a1.totals.length d11) := KX1.cell 0
  have kKX11 : w11.cell? ⟨w5.heap.size, 1, none⟩ = some (.slice p12 a1.cells.length d12) := KX1.cell 1
  have kKC10 : w11.cell? ⟨w6.heap.size, 0, none⟩ = some (.int .i64 G0.attr) := KC1.cell 0
  have kKC11 : w11.cell? ⟨w6.heap.size, 1, none⟩ = some (.int .i64 G0.pos) := KC1.cell 1
  have kKC20 : w11.cell? ⟨w6.heap.size + 1, 0, none⟩ = some (.int .i64 G1) := KC2.cell 0
  have kKC21 : w11.cell? ⟨w6.heap.size + 1, 1, none⟩ = some (.int .i64 H1) := KC2.cell 1
  go_wp2_with fail
  clear kKA00 kKA01 kKA10 kKA11 kKAf10 kKAf11 kKBf10 kKBf11 kKX00 kKX01 kKX10 kKX11 kKC10 kKC11 kKC20 kKC21
  refine wp_region_held_drew (S := fun w' => Blk 25 w' (w.heap.size) #[.slice o01 a0.attrs.length c01, .slice o02 a0.classes.length c02] ∧ Blk 29 w' (w.heap.size + 1) #[.slice o11 a1.totals.length c11, .slice o12 a1.cells.length c12] ∧ Blk 33 w' (q1f1) #[.int .i64 G0.attr, .int .i64 G0.pos] ∧ Blk 35 w' (q2f1) #[.int .i64 G1, .int .i64 H1] ∧ Blk 40 w' (w4.heap.size) #[.slice p01 a0.attrs.length d01, .slice p02 a0.classes.length d02] ∧ Blk 42 w' (w5.heap.size) #[.slice p11 a1.totals.length d11, .slice p12 a1.cells.length d12] ∧ Blk 33 w' (w6.heap.size) #[.int .i64 G0.attr, .int .i64 G0.pos] ∧ Blk 35 w' (w6.heap.size + 1) #[.int .i64 G1, .int .i64 H1]) (by kernel_rfl) ⟨KA0, KA1, KAf1, KBf1, KX0, KX1, KC1, KC2⟩ ?_
  intro hS
  have bd : Below w11.heap.size w11 w11.drew := below_drewN (Below.refl _ _) 1
  replace B := B.trans (bd.mono B.size)
  replace hx0 := hx0.later bd
  replace hx1 := hx1.later bd
  replace hu5 := hu5.later bd
  clear bd KA0 KA1 KAf1 KBf1 KX0 KX1 KC1 KC2
  generalize w11.drew = w12 at hS B hx0 hx1 hu5 ⊢
  refine takeL 0 (.agg #[.slice p11 a1.totals.length d11, .slice p12 a1.cells.length d12]) rfl (by kernel_rfl) (by kernel_rfl) (by kernel_rfl) (fun _ _ _ h => h) (yields_row Tryz.underlying42 (by kernel_rfl) (by rfl) _ rfl _ rfl (fun _ h => h.2.2.2.2.2.1)) hS ?_
  try simp only [Act.put, List.setIfInBounds_toArray, List.set_cons_zero, List.set_cons_succ]
  refine takeL 1 (.agg #[.slice o11 a1.totals.length c11, .slice o12 a1.cells.length c12]) rfl (by kernel_rfl) (by kernel_rfl) (by kernel_rfl) (fun _ _ _ h => h) (yields_row Tryz.underlying29 (by kernel_rfl) (by rfl) _ rfl _ rfl (fun _ h => h.2.1)) hS ?_
  try simp only [Act.put, List.setIfInBounds_toArray, List.set_cons_zero, List.set_cons_succ]
  refine nextL 2 rfl (by kernel_rfl) (by rfl) fun K hK => ?_
  have dd := HTL1.out w12 B
  go_simp
  refine dd.mono ?_
  clear dd
  rintro e w13 ⟨u6, rfl, hu6, hb⟩
  refine hK _ _ ⟨hS.1.below hb, hS.2.1.below hb, hS.2.2.1.below hb, hS.2.2.2.1.below hb, hS.2.2.2.2.1.below hb, hS.2.2.2.2.2.1.below hb, hS.2.2.2.2.2.2.1.below hb, hS.2.2.2.2.2.2.2.below hb⟩ ?_
  clear hK K hS
  intro hS
  replace B := B.trans (hb.mono B.size)
  replace hx0 := hx0.later hb
  replace hx1 := hx1.later hb
  replace hu5 := hu5.later hb
  clear hb
  refine nextL 3 rfl (by kernel_rfl) (by rfl) fun K hK => ?_
  have dd := eqStats_row _ _ a1 w13 hx1 hu6 HF1.out.ok
  go_simp
  refine dd.mono ?_
  clear dd
  rintro e w14 ⟨rfl, hb⟩
  refine hK _ _ ⟨hS.1.below hb, hS.2.1.below hb, hS.2.2.1.below hb, hS.2.2.2.1.below hb, hS.2.2.2.2.1.below hb, hS.2.2.2.2.2.1.below hb, hS.2.2.2.2.2.2.1.below hb, hS.2.2.2.2.2.2.2.below hb⟩ ?_
  clear hK K hS
  intro hS
  replace B := B.trans (hb.mono B.size)
  replace hx0 := hx0.later hb
  replace hx1 := hx1.later hb
  replace hu5 := hu5.later hb
  replace hu6 := hu6.later hb
  clear hb
  refine takeL 4 (.bool false) rfl (by kernel_rfl) (by kernel_rfl) (by kernel_rfl) (fun _ _ _ h => h) (.inl ⟨by rfl, fun w hw => by (unfold execOp; go_simp)⟩) hS ?_
  try simp only [Act.put, List.setIfInBounds_toArray, List.set_cons_zero, List.set_cons_succ]
  refine wpAnyH_done (by kernel_rfl) ?_ _
  obtain ⟨KA0, KA1, KAf1, KBf1, KX0, KX1, KC1, KC2⟩ := hS
  go_wp2
  go_ret
  exact ⟨rfl, B⟩

/-! ### THE ROW's STEP -/
set_option maxRecDepth 100000 in
theorem lifted (os : Os) (started : os.Started) (H : Type) (enc : TypeId × Value → H) :
    ReturnsInHanded {} Tryz.checked os 3 .any (Rows.fnExactBestOfSpec.pre6 enc Tryz.prog Tryz.f3 Rows.fnExactBestOfRow.domain false) (Rows.fnExactBestOfSpec.post enc Tryz.prog Tryz.f3 false true false false) := by
  refine returnsInHanded_of_change (C := Tryz.checked) own started (by kernel_rfl) Tryz.func3
    (ChangeSpec.witness6 (enc := enc) (C := Tryz.checked) false ⟨#[], #[.agg #[.slice none 0 0, .slice none 0 0], .agg #[.slice none 0 0, .slice none 0 0], .int .i64 0, .bool false], []⟩ 8 (by kernel_rfl) (by kernel_rfl) (by kernel_rfl) (by kernel_rfl)) ?_
  intro W base args ds gs before hval0 hW hcnd _
  have hval : ∀ (j : Nat) t v, Tryz.f3.params[j]? = some t → args[j]? = some v → Value.okWide Tryz.prog W .any base t v := hval0
  have hW' := hW
  obtain ⟨p, q, hA0, hV, rfl, hfz, hnd⟩ := hW
  have hA : DataW.TrodAll enc Tryz.prog W 0 (fun _ => true) true Tryz.f3.params.toList args.toList ds p := hA0
  rw [Tryz.params3] at hA hval
  obtain ⟨v0, vs0, d0, ds0, p0, q0, hargs, rfl, rfl, h0, r0⟩ := trodAll_cons hA
  obtain ⟨v1, vs1, d1, ds1, p1, q1, rfl, rfl, rfl, h1, r1⟩ := trodAll_cons r0
  obtain ⟨v2, vs2, d2, ds2, p2, q2, rfl, rfl, rfl, h2, r2⟩ := trodAll_cons r1
  obtain ⟨v3, vs3, d3, ds3, p3, q3, rfl, rfl, rfl, h3, r3⟩ := trodAll_cons r2
  obtain ⟨rfl, rfl, rfl⟩ := trodAll_nil r3
  obtain rfl : args = #[v0, v1, v2, v3] := by cases args; simp_all
  obtain ⟨rfl, rfl⟩ := trodVars_none hV
  have k0 := h0
  have lt0 : ∀ x ∈ p0, x.block < W.heap.size := by obtain ⟨m, hm⟩ := k0; exact DataW.trod_lt m _ _ _ hm
  obtain ⟨a0, R0, I0⟩ := open_schema (hval 0 25 v0 rfl rfl) h0
  have k1 := h1
  have lt1 : ∀ x ∈ p1, x.block < W.heap.size := by obtain ⟨m, hm⟩ := k1; exact DataW.trod_lt m _ _ _ hm
  obtain ⟨a1, R1, I1⟩ := open_stats (hval 1 29 v1 rfl rfl) h1
  obtain ⟨a2, rfl, rfl, rfl, w2⟩ := open_int Tryz.underlying3 (hval 2 3 v2 rfl rfl) h2
  obtain ⟨a3, rfl, rfl, rfl⟩ := open_bool Tryz.underlying4 (hval 3 4 v3 rfl rfl) h3
  clear hA0 hval0
  refine (walk v0 a0 v1 a1 a2 a3 W R0 I0 R1 I1 (bounds_i64 w2).1 (bounds_i64 w2).2).mono fun e W' ⟨he, bel⟩ => ?_
  subst he
  exact ⟨_, rfl, _, _, _, [], _, [], hW', trodAll_mk1 (shut_bool Tryz.underlying4 _), (trodAll_cons_mk (Below.trod laidOut (by kernel_rfl) (of_decide_eq_true (by kernel_rfl)) k0 bel lt0) (trodAll_cons_mk (Below.trod laidOut (by kernel_rfl) (of_decide_eq_true (by kernel_rfl)) k1 bel lt1) (trodAll_cons_mk (shut_int Tryz.underlying3 w2) (trodAll_cons_mk (shut_bool Tryz.underlying4 _) trodAll_mk0)))), rfl, bel.frame _, fun h => by cases h⟩

theorem over : Rows.fnExactBestOfRow.holds Tryz.pinned (OpenSpec.ofChange Rows.fnExactBestOfSpec) :=
  OpenClaim.holds_of_wide 3 Tryz.f3 rfl rfl rfl rfl rfl rfl rfl ⟨rfl, rfl, rfl, rfl, rfl⟩ rfl rfl rfl rfl rfl (by kernel_rfl) Tryz.func3 (by kernel_rfl)
    (of_decide_eq_true (by kernel_rfl)) (by unfold Func.isWrapper; first | (rw [if_pos (by decide +kernel)]; kernel_rfl) | (rw [if_neg (by decide +kernel)]; exact ⟨rfl, rfl⟩))
    (fun os started H enc _ => lifted os started H enc)

theorem proved : Rows.FnExactBestOfSaid :=
  over
end Go.Proofs.YteadkdllmeeocabGreat.fnExactBestOf
namespace Go.Proofs.YteadkdllmeeocabGreat
theorem bestOf_holds : Rows.FnExactBestOfSaid := fnExactBestOf.proved
#print axioms bestOf_holds
end Go.Proofs.YteadkdllmeeocabGreat
